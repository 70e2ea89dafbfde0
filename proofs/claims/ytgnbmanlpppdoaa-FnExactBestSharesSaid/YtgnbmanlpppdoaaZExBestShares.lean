/- The law FnExactBestShares holds: for every table (and every [][]int that is none) the program's BestShares answers as the model's, leaves the argument as it was, and its two answers own their memory. No condition. -/
import Derived.Test.YtgnbmanlpppdoaaQ8
namespace Go.Proofs.Ytgnbmanlpppdoaa
open Go.ChangeShapes Go.WideShapes Go.ChangeAt Go.RowKit Go.Deep

set_option maxRecDepth 100000 in
set_option maxHeartbeats 3200000 in
theorem exBestShares_calls (A0 : Option Addr) (n0 c0 : Nat) (a0 : List (List Int)) (w : World) (hx0 : IntRows w A0 n0 c0 a0) :
    Calls Try.prog 12 #[.slice A0 n0 c0] w fun e w' => e = .returned (.bool true) ∧ Below w.heap.size w w' := by
  have hm0 := hx0.max
  have HL0 := Lib.hid hx0.len
  have X0_0 := Lib.hid hx0
  clear hx0
  by_cases hs0 : szRR 1048576 a0 < 0
  · go_enter Try.func12, Try.ntmps12
    go_wp2_with fail
    refine (szIntSS_any _ _ _ _ _ _ X0_0.out (by omega) (by omega)).mono ?_
    rintro e w1 ⟨rfl, hq⟩
    go_wp2
    go_ret
    exact ⟨rfl, hq.below⟩
  have HOF := Lib.hid (show offs a0 n0 ≤ 1048576 by rw [← HL0.out]; exact szRR_offs hs0)
  have HE1 := Lib.hid (eqI_same (bX a0))
  have HE2 := Lib.hid (eqI_same (bY a0))
  have HER := Lib.hid (show eqRR a0 a0 = true by simp [eqRR])
  have hl1 := (bX_le a0).1
  have hl2 := (bX_le a0).2
  go_enter Try.func12, Try.ntmps12
  go_wp2_with fail
  refine (szIntSS_any _ _ _ _ _ _ X0_0.out (by omega) (by omega)).mono ?_
  rintro e w1 ⟨rfl, hb⟩
  have B1 := Lib.hid (show Below w.heap.size w w1 from hb.below)
  have X1 := Lib.hid (X0_0.out.keep (Keep.quiet hb))
  clear hb X0_0
  go_wp2_with fail
  refine (toIntSS_any _ _ _ _ _ X1.out).mono ?_
  rintro e w2 ⟨rfl, hown, hb, -⟩
  have B2 := Lib.hid (below_up B1.out hb)
  have X2 := Lib.hid (X1.out.keep (Keep.below hb))
  have HC := Lib.hid (BestShares_spec _ _ _ _ _ hown.rows)
  clear hown hb B1 X1
  go_wp2_with fail
  refine HC.out.mono ?_
  rintro e w3 ⟨A3, n3, c3, A4, n4, c4, rfl, s1, s2, hb⟩
  have B3 := Lib.hid (below_up B2.out hb)
  have XS := Lib.hid (X2.out.keep (Keep.below hb))
  have S1 := Lib.hid (show Ints w3 A3 n3 c3 (bX a0) from s1)
  have S2 := Lib.hid (show Ints w3 A4 n4 c4 (bY a0) from s2)
  have Z := Lib.hid (Below.refl w3.heap.size w3)
  clear hb B2 X2 HC s1 s2
  have HC := Lib.hid (toIntSS_any _ _ _ _ w3 (XS.out.keep (Keep.below Z.out)))
  go_wp2_with fail
  refine HC.out.mono ?_
  rintro e w4 ⟨rfl, hown, hb, -⟩
  have Z_4 := Lib.hid (below_up Z.out hb)
  have G := Lib.hid hown
  clear hown
  clear hb HC Z
  have HC := Lib.hid (BestShares_impl _ _ _ _ w4 G.out.rows)
  go_wp2_with fail
  refine HC.out.mono ?_
  rintro e w5 hbs
  obtain ⟨A1, c1, g1, A2, c2, g2, rfl, o1, o2, hne, hg1, hg2, hb⟩ := hbs.two
  have hz := Z_4.out.size
  have G_5 := Lib.hid (G.out.below hb)
  have Z_5 := Lib.hid (below_up Z_4.out hb)
  have P := Lib.hid o1
  have Q := Lib.hid o2
  clear hbs o1 o2 hb HC G Z_4
  have HC := Lib.hid (HE1.out ▸ eqIntS_any _ _ _ _ _ _ (bX a0) (bX a0) w5 P.out.ints (S1.out.keep (Keep.below Z_5.out)))
  go_wp2_with fail
  refine HC.out.mono ?_
  rintro e w6 ⟨rfl, hq⟩
  have hb := hq.below (B := w5.heap.size)
  have G_6 := Lib.hid (G_5.out.below hb)
  have P_6 := Lib.hid (P.out.below hb)
  have Q_6 := Lib.hid (Q.out.below hb)
  have Z_6 := Lib.hid (below_up Z_5.out hb)
  clear hb HC hq G_5 P Q Z_5
  have HC := Lib.hid (HE2.out ▸ eqIntS_any _ _ _ _ _ _ (bY a0) (bY a0) w6 Q_6.out.ints (S2.out.keep (Keep.below Z_6.out)))
  go_wp2_with fail
  refine HC.out.mono ?_
  rintro e w7 ⟨rfl, hq⟩
  have hb := hq.below (B := w6.heap.size)
  have G_7 := Lib.hid (G_6.out.below hb)
  have P_7 := Lib.hid (P_6.out.below hb)
  have Q_7 := Lib.hid (Q_6.out.below hb)
  have Z_7 := Lib.hid (below_up Z_6.out hb)
  clear hb HC hq G_6 P_6 Q_6 Z_6
  have HC := Lib.hid (toIntSS_any _ _ _ _ w7 (XS.out.keep (Keep.below Z_7.out)))
  go_wp2_with fail
  refine HC.out.mono ?_
  rintro e w8 ⟨rfl, hown, hb, -⟩
  have G_8 := Lib.hid (G_7.out.below hb)
  have P_8 := Lib.hid (P_7.out.below hb)
  have Q_8 := Lib.hid (Q_7.out.below hb)
  have Z_8 := Lib.hid (below_up Z_7.out hb)
  have C := Lib.hid hown.rows
  clear hown
  clear hb HC G_7 P_7 Q_7 Z_7
  have HC := Lib.hid (HER.out ▸ eqIntSS_any _ _ _ _ _ _ a0 a0 w8 G_8.out.rows C.out)
  go_wp2_with fail
  refine HC.out.mono ?_
  rintro e w9 ⟨rfl, hq⟩
  have hb := hq.below (B := w8.heap.size)
  have G_9 := Lib.hid (G_8.out.below hb)
  have P_9 := Lib.hid (P_8.out.below hb)
  have Q_9 := Lib.hid (Q_8.out.below hb)
  have C_9 := Lib.hid (C.out.keep (Keep.below hb))
  have Z_9 := Lib.hid (below_up Z_8.out hb)
  clear hb HC hq G_8 P_8 Q_8 C Z_8
  clear C_9
  have HC := Lib.hid (markIntSS_any _ _ _ _ _ _ a0 1 w9 G_9.out (by omega) (by have := HOF.out; omega))
  go_wp2_with fail
  refine HC.out.mono ?_
  rintro e w10 ⟨rfl, ho, hm⟩
  have P_10 := Lib.hid (P_9.out.touch hm (.inr (Nat.le_refl _)))
  have Q_10 := Lib.hid (Q_9.out.touch hm (.inr (Nat.le_refl _)))
  have Z_10 := Lib.hid (Touch.below Z_9.out hm (Nat.le_refl _))
  clear HC ho hm P_9 Q_9 Z_9 G_9
  have hof : ¬ (1 + offs a0 n0 < 0) := by have := offs_ge a0 n0; omega
  have HC := Lib.hid (HE1.out ▸ eqIntS_any _ _ _ _ _ _ (bX a0) (bX a0) w10 P_10.out.ints (S1.out.keep (Keep.below Z_10.out)))
  go_wp2_with fail
  refine HC.out.mono ?_
  rintro e w11 ⟨rfl, hq⟩
  have hb := hq.below (B := w10.heap.size)
  have P_11 := Lib.hid (P_10.out.below hb)
  have Q_11 := Lib.hid (Q_10.out.below hb)
  have Z_11 := Lib.hid (below_up Z_10.out hb)
  clear hb HC hq P_10 Q_10 Z_10
  have HC := Lib.hid (HE2.out ▸ eqIntS_any _ _ _ _ _ _ (bY a0) (bY a0) w11 Q_11.out.ints (S2.out.keep (Keep.below Z_11.out)))
  go_wp2_with fail
  refine HC.out.mono ?_
  rintro e w12 ⟨rfl, hq⟩
  have hb := hq.below (B := w11.heap.size)
  have P_12 := Lib.hid (P_11.out.below hb)
  have Q_12 := Lib.hid (Q_11.out.below hb)
  have Z_12 := Lib.hid (below_up Z_11.out hb)
  clear hb HC hq P_11 Q_11 Z_11
  have HC := Lib.hid (markIntS_any _ _ _ _ _ _ (bX a0) 1 w12 P_12.out (by omega) (by omega))
  go_wp2_with fail
  refine HC.out.mono ?_
  rintro e w13 ⟨rfl, ho, -, hm⟩
  have P_13 := Lib.hid (ho)
  have Q_13 := Lib.hid (Q_12.out.one hm (Ne.symm hne))
  have Z_13 := Lib.hid (hm.below Z_12.out (by omega))
  clear HC ho hm P_12 Q_12 Z_12
  have HC := Lib.hid (markIntS_any _ _ _ _ _ _ (bY a0) (1 + (bX a0).length) w13 Q_13.out (by omega) (by omega))
  go_wp2_with fail
  refine HC.out.mono ?_
  rintro e w14 ⟨rfl, ho, -, hm⟩
  have P_14 := Lib.hid (P_13.out.one hm hne)
  have Q_14 := Lib.hid (ho)
  have Z_14 := Lib.hid (hm.below Z_13.out (by omega))
  clear HC ho hm P_13 Q_13 Z_13
  have HC := Lib.hid (heldIntS_any _ _ _ 1 w14 P_14.out.ints (by omega) (by omega))
  go_wp2_with fail
  refine HC.out.mono ?_
  rintro e w15 ⟨rfl, hq⟩
  have hb := hq.below (B := w14.heap.size)
  have P_15 := Lib.hid (P_14.out.below hb)
  have Q_15 := Lib.hid (Q_14.out.below hb)
  have Z_15 := Lib.hid (below_up Z_14.out hb)
  clear hb HC hq P_14 Q_14 Z_14
  have hp : ¬ (1 + ((bX a0).length : Int) < 0) := by omega
  have HC := Lib.hid (heldIntS_any _ _ _ (1 + (bX a0).length) w15 Q_15.out.ints (by omega) (by omega))
  go_wp2_with fail
  refine HC.out.mono ?_
  rintro e w16 ⟨rfl, hq⟩
  have hb := hq.below (B := w15.heap.size)
  have P_16 := Lib.hid (P_15.out.below hb)
  have Q_16 := Lib.hid (Q_15.out.below hb)
  have Z_16 := Lib.hid (below_up Z_15.out hb)
  clear hb HC hq P_15 Q_15 Z_15
  clear hp
  have hp : ¬ (1 + ((bX a0).length : Int) + ((bY a0).length : Int) < 0) := by omega
  have HC := Lib.hid (toIntSS_any _ _ _ _ w16 (XS.out.keep (Keep.below Z_16.out)))
  go_wp2_with fail
  refine HC.out.mono ?_
  rintro e w17 ⟨rfl, hown, hb, -⟩
  have P_17 := Lib.hid (P_16.out.below hb)
  have Q_17 := Lib.hid (Q_16.out.below hb)
  have Z_17 := Lib.hid (below_up Z_16.out hb)
  have H := Lib.hid hown.rows
  clear hown
  clear hb HC P_16 Q_16 Z_16
  clear hp
  have HC := Lib.hid (BestShares_impl _ _ _ _ w17 H.out)
  go_wp2_with fail
  refine HC.out.mono ?_
  rintro e w18 hbs
  obtain ⟨A5, c5, g5, A6, c6, g6, rfl, o5, o6, -, -, -, hb⟩ := hbs.two
  have P_18 := Lib.hid (P_17.out.below hb)
  have Q_18 := Lib.hid (Q_17.out.below hb)
  have Z_18 := Lib.hid (below_up Z_17.out hb)
  have P2 := Lib.hid o5
  have Q2 := Lib.hid o6
  clear hbs o5 o6 hb HC H P_17 Q_17 Z_17
  have HC := Lib.hid (HE1.out ▸ eqIntS_any _ _ _ _ _ _ (bX a0) (bX a0) w18 P2.out.ints (S1.out.keep (Keep.below Z_18.out)))
  go_wp2_with fail
  refine HC.out.mono ?_
  rintro e w19 ⟨rfl, hq⟩
  have hb := hq.below (B := w18.heap.size)
  have P_19 := Lib.hid (P_18.out.below hb)
  have Q_19 := Lib.hid (Q_18.out.below hb)
  have P2_19 := Lib.hid (P2.out.below hb)
  have Q2_19 := Lib.hid (Q2.out.below hb)
  have Z_19 := Lib.hid (below_up Z_18.out hb)
  clear hb HC hq P_18 Q_18 P2 Q2 Z_18
  have HC := Lib.hid (HE2.out ▸ eqIntS_any _ _ _ _ _ _ (bY a0) (bY a0) w19 Q2_19.out.ints (S2.out.keep (Keep.below Z_19.out)))
  go_wp2_with fail
  refine HC.out.mono ?_
  rintro e w20 ⟨rfl, hq⟩
  have hb := hq.below (B := w19.heap.size)
  have P_20 := Lib.hid (P_19.out.below hb)
  have Q_20 := Lib.hid (Q_19.out.below hb)
  have P2_20 := Lib.hid (P2_19.out.below hb)
  have Q2_20 := Lib.hid (Q2_19.out.below hb)
  have Z_20 := Lib.hid (below_up Z_19.out hb)
  clear hb HC hq P_19 Q_19 P2_19 Q2_19 Z_19
  clear P2_20
  clear Q2_20
  have HC := Lib.hid (heldIntS_any _ _ _ 1 w20 P_20.out.ints (by omega) (by omega))
  go_wp2_with fail
  refine HC.out.mono ?_
  rintro e w21 ⟨rfl, hq⟩
  have hb := hq.below (B := w20.heap.size)
  have P_21 := Lib.hid (P_20.out.below hb)
  have Q_21 := Lib.hid (Q_20.out.below hb)
  have Z_21 := Lib.hid (below_up Z_20.out hb)
  clear hb HC hq P_20 Q_20 Z_20
  have hp : ¬ (1 + ((bX a0).length : Int) < 0) := by omega
  have HC := Lib.hid (heldIntS_any _ _ _ (1 + (bX a0).length) w21 Q_21.out.ints (by omega) (by omega))
  go_wp2_with fail
  refine HC.out.mono ?_
  rintro e w22 ⟨rfl, hq⟩
  have hb := hq.below (B := w21.heap.size)
  have P_22 := Lib.hid (P_21.out.below hb)
  have Q_22 := Lib.hid (Q_21.out.below hb)
  have Z_22 := Lib.hid (below_up Z_21.out hb)
  clear hb HC hq P_21 Q_21 Z_21
  clear hp
  have hp : ¬ (1 + ((bX a0).length : Int) + ((bY a0).length : Int) < 0) := by omega
  go_wp2
  go_ret
  exact ⟨rfl, below_up B3.out Z_22.out⟩

theorem hFnExactBestShares_lifted (os : Os) (started : os.Started) (H : Type) (enc : TypeId × Value → H) :
    ReturnsInHanded {} Try.checked os 12 .any (Rows.fnExactBestSharesSpec.pre6 enc Try.prog Try.f12 Rows.fnExactBestSharesRow.domain false) (Rows.fnExactBestSharesSpec.post enc Try.prog Try.f12 false true false false) := by
  refine returnsInHanded_of_change_sized (C := Try.checked) Try.own started (by kernel_rfl) Try.func12
    (ChangeSpec.witness6 (enc := enc) (C := Try.checked) false ⟨#[], #[.slice none 0 0], []⟩ 8 (by kernel_rfl) (by kernel_rfl) (by kernel_rfl) (by kernel_rfl)) ?_
  intro W base args ds gs before hval0 hW _ hwt _
  have hval : ∀ (j : Nat) t v, Try.f12.params[j]? = some t → args[j]? = some v → Value.okWide Try.prog W .any base t v := hval0
  have hA : ∃ p, DataW.TrodAll enc Try.prog W 0 (fun _ => true) true Try.f12.params.toList args.toList ds p := by obtain ⟨p, q, hA0, _⟩ := hW; exact ⟨p, hA0⟩
  obtain ⟨p, hA⟩ := hA
  have hwt0 := weights_arg hwt (j := 0) (t := 23) (by rw [Try.params12]; rfl) (d := ds.getD 0 .nil)
  rw [Try.params12] at hA hval
  obtain ⟨v0, d0, rfl, rfl, h0⟩ := trodAll_one hA
  obtain ⟨A0, n0, c0, a0, rfl, hx0⟩ := open_rows (hval 0 23 v0 rfl rfl) h0 (hwt0 rfl)
  refine (exBestShares_calls A0 n0 c0 a0 W hx0).mono fun e W' ⟨he, hb⟩ => ?_
  subst he
  exact ⟨_, rfl, law_post (F := Try.f12) rfl rfl (by rw [Try.params12]; intro t ht; simp only [List.mem_cons, List.not_mem_nil, or_false] at ht; rcases ht with rfl <;> exact ⟨by kernel_rfl, of_decide_eq_true (by kernel_rfl)⟩) hW (fun h => by subst h; rfl) hb⟩

theorem hFnExactBestShares_holds : Rows.FnExactBestSharesSaid :=
  OpenClaim.holds_of_wide 12 Try.f12 rfl rfl rfl rfl rfl rfl rfl ⟨rfl, rfl, rfl, rfl, rfl⟩ rfl rfl rfl rfl rfl (by kernel_rfl) Try.func12
    (by unfold joinedFacts; simp only [Bool.and_eq_true]; (repeat' apply And.intro) <;> (first | (with_reducible exact prog_enters) | ((with_reducible refine prog_lifts ?_); rfl) | ((with_reducible refine prog_make ?_); rfl) | kernel_rfl))
    (of_decide_eq_true (by kernel_rfl)) (by unfold Func.isWrapper; first | (rw [if_pos (by decide +kernel)]; kernel_rfl) | (rw [if_neg (by decide +kernel)]; exact ⟨rfl, rfl⟩))
    (fun os started H enc _ => hFnExactBestShares_lifted os started H enc)

end Go.Proofs.Ytgnbmanlpppdoaa
