/- The law FnExactCopyRing holds: for every square and every []int (and all that are none) the program's CopyRing answers as the model's, leaves the arguments as they were, and its answer owns its memory. No condition. -/
import Derived.Test.YtjkmgpiiamffgaaQ13
namespace Go.Proofs.Ytjkmgpiiamffgaa
open Go.ChangeShapes Go.WideShapes Go.ChangeAt Go.RowKit Go.Deep

set_option maxRecDepth 100000 in
set_option maxHeartbeats 3200000 in
theorem exCopyRing_calls (A0 : Option Addr) (n0 c0 : Nat) (a0 : List (List Int)) (A1 : Option Addr) (n1 c1 : Nat) (a1 : List Int) (w : World) (hx0 : IntRows w A0 n0 c0 a0) (hx1 : Ints w A1 n1 c1 a1) :
    Calls Try.prog 8 #[.slice A0 n0 c0, .slice A1 n1 c1] w fun e w' => e = .returned (.bool true) ∧ Below w.heap.size w w' := by
  have hm0 := hx0.max
  have HL0 := Lib.hid hx0.len
  have X0 := Lib.hid hx0
  clear hx0
  have hm1 := hx1.max
  have HL1 := Lib.hid hx1.len
  have X1 := Lib.hid hx1
  clear hx1
  by_cases hs1 : 1048576 < n1
  · go_enter Try.func8, Try.ntmps8
    go_wp2
    go_ret
    exact ⟨rfl, Below.refl _ _⟩
  by_cases hs0 : szRR 1048576 a0 < 0
  · go_enter Try.func8, Try.ntmps8
    go_wp2_with fail
    refine (szIntSS_any _ _ _ _ _ _ X0.out (by omega) (by omega)).mono ?_
    rintro e w1 ⟨rfl, hq⟩
    go_wp2
    go_ret
    exact ⟨rfl, hq.below⟩
  have HOF0 := Lib.hid (show offs a0 n0 ≤ 1048576 by rw [← HL0.out]; exact szRR_offs hs0)
  have HER0 := Lib.hid (show eqRR a0 a0 = true by simp [eqRR])
  have HER1 := Lib.hid (eqI_same a1)
  have Z0 := Lib.hid (Below.refl w.heap.size w)
  have HE := Lib.hid (eqI_same (cpF a0 a1))
  have hl := cpF_le a0 a1
  go_enter Try.func8, Try.ntmps8
  have HC := Lib.hid (szIntSS_any _ _ _ _ 1048576 w (X0.out.keep (Keep.below Z0.out)) (by omega) (by omega))
  go_wp2_with fail
  refine HC.out.mono ?_
  rintro e w1 ⟨rfl, hq⟩
  have hb := hq.below (B := w.heap.size)
  have Z_1 := Lib.hid (below_up Z0.out hb)
  clear hb HC hq Z0
  have HC := Lib.hid (toIntSS_any _ _ _ _ w1 (X0.out.keep (Keep.below Z_1.out)))
  go_wp2_with fail
  refine HC.out.mono ?_
  rintro e w2 ⟨rfl, hown, hb, hsz⟩
  have Z_2 := Lib.hid (below_up Z_1.out hb)
  have S0 := Lib.hid hown.rows
  clear hown
  clear hsz
  clear hb HC Z_1
  have HC := Lib.hid (toIntS_any _ _ _ _ w2 (X1.out.keep (Keep.below Z_2.out)))
  go_wp2_with fail
  refine HC.out.mono ?_
  rintro e w3 ⟨rfl, hown, hb, hsz⟩
  have S0_3 := Lib.hid (S0.out.keep (Keep.below hb))
  have Z_3 := Lib.hid (below_up Z_2.out hb)
  have S1 := Lib.hid hown.ints
  clear hown
  clear hsz
  clear hb HC S0 Z_2
  have HC := Lib.hid (CopyRing_spec _ _ _ _ _ _ _ _ w3 S0_3.out S1.out)
  go_wp2_with fail
  refine HC.out.mono ?_
  rintro e w4 ⟨As, ns, cs, gs, rfl, hns, hos, hb⟩
  have S0_4 := Lib.hid (S0_3.out.keep (Keep.below hb))
  have S1_4 := Lib.hid (S1.out.keep (Keep.below hb))
  have Z_4 := Lib.hid (below_up Z_3.out hb)
  subst hns
  have T := Lib.hid hos.ints
  clear hos
  clear hb HC S0_3 S1 Z_3
  clear S0_4
  clear S1_4
  have Y0 := Lib.hid (X0.out.keep (Keep.below Z_4.out))
  have Y1 := Lib.hid (X1.out.keep (Keep.below Z_4.out))
  have BB := Lib.hid Z_4.out
  have ZB := Lib.hid (Below.refl w4.heap.size w4)
  clear Z_4 X0 X1
  have HC := Lib.hid (toIntSS_any _ _ _ _ w4 (Y0.out.keep (Keep.below ZB.out)))
  go_wp2_with fail
  refine HC.out.mono ?_
  rintro e w5 ⟨rfl, hown, hb, hsz⟩
  have Z_5 := Lib.hid (below_up ZB.out hb)
  have G0 := Lib.hid hown
  clear hown
  clear hb HC ZB
  have HSZ0 := Lib.hid hsz
  clear hsz
  have HC := Lib.hid (toIntS_any _ _ _ _ w5 (Y1.out.keep (Keep.below Z_5.out)))
  go_wp2_with fail
  refine HC.out.mono ?_
  rintro e w6 ⟨rfl, hown, hb, hsz⟩
  have G0_6 := Lib.hid (G0.out.below hb)
  have Z_6 := Lib.hid (below_up Z_5.out hb)
  have G1 := Lib.hid hown
  clear hown
  clear hb HC G0 Z_5
  have HSZ1 := Lib.hid hsz
  clear hsz
  have HC := Lib.hid (CopyRing_impl _ _ _ _ _ _ _ _ w6 G0_6.out.rows G1.out.ints)
  go_wp2_with fail
  refine HC.out.mono ?_
  intro e w7 hnew
  obtain ⟨Ag, cg, gg, rfl, hog, hgg, hb⟩ := NewI.ge hnew
  clear hnew
  have HGG := Lib.hid hgg
  clear hgg
  have G0_7 := Lib.hid (G0_6.out.below hb)
  have G1_7 := Lib.hid (G1.out.below hb)
  have Z_7 := Lib.hid (below_up Z_6.out hb)
  have P := Lib.hid hog
  clear hog hb HC G0_6 G1 Z_6
  have HC := Lib.hid (HE.out ▸ eqIntS_any _ _ _ _ _ _ (cpF a0 a1) (cpF a0 a1) w7 P.out.ints (T.out.keep (Keep.below Z_7.out)))
  go_wp2_with fail
  refine HC.out.mono ?_
  rintro e w8 ⟨rfl, hq⟩
  have hb := hq.below (B := w7.heap.size)
  have G0_8 := Lib.hid (G0_7.out.below hb)
  have G1_8 := Lib.hid (G1_7.out.below hb)
  have P_8 := Lib.hid (P.out.below hb)
  have Z_8 := Lib.hid (below_up Z_7.out hb)
  clear hb HC hq G0_7 G1_7 P Z_7
  have HC := Lib.hid (toIntSS_any _ _ _ _ w8 (Y0.out.keep (Keep.below Z_8.out)))
  go_wp2_with fail
  refine HC.out.mono ?_
  rintro e w9 ⟨rfl, hown, hb, hsz⟩
  have G0_9 := Lib.hid (G0_8.out.below hb)
  have G1_9 := Lib.hid (G1_8.out.below hb)
  have P_9 := Lib.hid (P_8.out.below hb)
  have Z_9 := Lib.hid (below_up Z_8.out hb)
  have C0 := Lib.hid hown.rows
  clear hown hsz
  clear hb HC G0_8 G1_8 P_8 Z_8
  have HC := Lib.hid (HER0.out ▸ eqIntSS_any _ _ _ _ _ _ a0 a0 w9 G0_9.out.rows C0.out)
  go_wp2_with fail
  refine HC.out.mono ?_
  rintro e w10 ⟨rfl, hq⟩
  have hb := hq.below (B := w9.heap.size)
  have G0_10 := Lib.hid (G0_9.out.below hb)
  have G1_10 := Lib.hid (G1_9.out.below hb)
  have P_10 := Lib.hid (P_9.out.below hb)
  have C0_10 := Lib.hid (C0.out.keep (Keep.below hb))
  have Z_10 := Lib.hid (below_up Z_9.out hb)
  clear hb HC hq G0_9 G1_9 P_9 C0 Z_9
  clear C0_10
  have HC := Lib.hid (toIntS_any _ _ _ _ w10 (Y1.out.keep (Keep.below Z_10.out)))
  go_wp2_with fail
  refine HC.out.mono ?_
  rintro e w11 ⟨rfl, hown, hb, hsz⟩
  have G0_11 := Lib.hid (G0_10.out.below hb)
  have G1_11 := Lib.hid (G1_10.out.below hb)
  have P_11 := Lib.hid (P_10.out.below hb)
  have Z_11 := Lib.hid (below_up Z_10.out hb)
  have C1 := Lib.hid hown.ints
  clear hown hsz
  clear hb HC G0_10 G1_10 P_10 Z_10
  have HC := Lib.hid (HER1.out ▸ eqIntS_any _ _ _ _ _ _ a1 a1 w11 G1_11.out.ints C1.out)
  go_wp2_with fail
  refine HC.out.mono ?_
  rintro e w12 ⟨rfl, hq⟩
  have hb := hq.below (B := w11.heap.size)
  have G0_12 := Lib.hid (G0_11.out.below hb)
  have G1_12 := Lib.hid (G1_11.out.below hb)
  have P_12 := Lib.hid (P_11.out.below hb)
  have C1_12 := Lib.hid (C1.out.keep (Keep.below hb))
  have Z_12 := Lib.hid (below_up Z_11.out hb)
  clear hb HC hq G0_11 G1_11 P_11 C1 Z_11
  clear C1_12
  have HC := Lib.hid (markIntSS_any _ _ _ _ _ _ a0 (1) w12 G0_12.out (by omega) (by have := HOF0.out;  omega))
  go_wp2_with fail
  refine HC.out.mono ?_
  rintro e w13 ⟨rfl, ho, hm⟩
  have P_13 := Lib.hid (P_12.out.touch hm (.inr (by have := HSZ0.out; have := HSZ1.out;  omega)))
  have G1_13 := Lib.hid (G1_12.out.touch hm (.inr (by have := HSZ0.out; have := HSZ1.out;  omega)))
  have Z_13 := Lib.hid (Touch.below Z_12.out hm (by have := HSZ0.out; have := HSZ1.out;  omega))
  clear HC ho hm P_12 G1_12 Z_12 G0_12
  have hof0 : 0 ≤ offs a0 n0 := offs_ge _ _
  have hoh0 := HOF0.out
  have HC := Lib.hid (markIntS_any _ _ _ _ _ _ a1 (1 + offs a0 n0) w13 G1_13.out (by omega) (by omega))
  go_wp2_with fail
  refine HC.out.mono ?_
  rintro e w14 ⟨rfl, ho, -, hm⟩
  have P_14 := Lib.hid (P_13.out.one hm (by have := HGG.out; have := HSZ0.out; have := HSZ1.out; omega))
  have Z_14 := Lib.hid (hm.below Z_13.out (by have := HSZ0.out; have := HSZ1.out;  omega))
  clear HC ho hm P_13 Z_13 G1_13
  have hkk : ¬ (1 + offs a0 n0 + n1 < 0) := by omega
  have HC := Lib.hid (HE.out ▸ eqIntS_any _ _ _ _ _ _ (cpF a0 a1) (cpF a0 a1) w14 P_14.out.ints (T.out.keep (Keep.below Z_14.out)))
  go_wp2_with fail
  refine HC.out.mono ?_
  rintro e w15 ⟨rfl, hq⟩
  have hb := hq.below (B := w14.heap.size)
  have P_15 := Lib.hid (P_14.out.below hb)
  have Z_15 := Lib.hid (below_up Z_14.out hb)
  clear hb HC hq P_14 Z_14
  have HC := Lib.hid (markIntS_any _ _ _ _ _ _ (cpF a0 a1) 1 w15 P_15.out (by omega) (by omega))
  go_wp2_with fail
  refine HC.out.mono ?_
  rintro e w16 ⟨rfl, ho, -, hm⟩
  have P_16 := Lib.hid (ho)
  have Z_16 := Lib.hid (hm.below Z_15.out (by have := HGG.out; have := HSZ0.out; have := HSZ1.out; omega))
  clear HC ho hm P_15 Z_15
  have HC := Lib.hid (heldIntS_any _ _ _ 1 w16 P_16.out.ints (by omega) (by omega))
  go_wp2_with fail
  refine HC.out.mono ?_
  rintro e w17 ⟨rfl, hq⟩
  have hb := hq.below (B := w16.heap.size)
  have P_17 := Lib.hid (P_16.out.below hb)
  have Z_17 := Lib.hid (below_up Z_16.out hb)
  clear hb HC hq P_16 Z_16
  have hp : ¬ (1 + ((cpF a0 a1).length : Int) < 0) := by omega
  have HC := Lib.hid (toIntSS_any _ _ _ _ w17 (Y0.out.keep (Keep.below Z_17.out)))
  go_wp2_with fail
  refine HC.out.mono ?_
  rintro e w18 ⟨rfl, hown, hb, hsz⟩
  have P_18 := Lib.hid (P_17.out.below hb)
  have Z_18 := Lib.hid (below_up Z_17.out hb)
  have H0 := Lib.hid hown.rows
  clear hown
  clear hsz
  clear hb HC P_17 Z_17
  have HC := Lib.hid (toIntS_any _ _ _ _ w18 (Y1.out.keep (Keep.below Z_18.out)))
  go_wp2_with fail
  refine HC.out.mono ?_
  rintro e w19 ⟨rfl, hown, hb, hsz⟩
  have P_19 := Lib.hid (P_18.out.below hb)
  have H0_19 := Lib.hid (H0.out.keep (Keep.below hb))
  have Z_19 := Lib.hid (below_up Z_18.out hb)
  have H1 := Lib.hid hown.ints
  clear hown
  clear hsz
  clear hb HC P_18 H0 Z_18
  clear hp
  have HC := Lib.hid (CopyRing_impl _ _ _ _ _ _ _ _ w19 H0_19.out H1.out)
  go_wp2_with fail
  refine HC.out.mono ?_
  rintro e w20 ⟨Ah, nh, ch, gh, rfl, hnh, hoh, hb⟩
  have P_20 := Lib.hid (P_19.out.below hb)
  have H0_20 := Lib.hid (H0_19.out.keep (Keep.below hb))
  have H1_20 := Lib.hid (H1.out.keep (Keep.below hb))
  have Z_20 := Lib.hid (below_up Z_19.out hb)
  subst hnh
  have Q := Lib.hid hoh.ints
  clear hoh
  clear hb HC P_19 H0_19 H1 Z_19
  clear H0_20
  clear H1_20
  have HC := Lib.hid (HE.out ▸ eqIntS_any _ _ _ _ _ _ (cpF a0 a1) (cpF a0 a1) w20 Q.out (T.out.keep (Keep.below Z_20.out)))
  go_wp2_with fail
  refine HC.out.mono ?_
  rintro e w21 ⟨rfl, hq⟩
  have hb := hq.below (B := w20.heap.size)
  have P_21 := Lib.hid (P_20.out.below hb)
  have Q_21 := Lib.hid (Q.out.keep (Keep.below hb))
  have Z_21 := Lib.hid (below_up Z_20.out hb)
  clear hb HC hq P_20 Q Z_20
  clear Q_21
  have HC := Lib.hid (heldIntS_any _ _ _ 1 w21 P_21.out.ints (by omega) (by omega))
  go_wp2_with fail
  refine HC.out.mono ?_
  rintro e w22 ⟨rfl, hq⟩
  have hb := hq.below (B := w21.heap.size)
  have P_22 := Lib.hid (P_21.out.below hb)
  have Z_22 := Lib.hid (below_up Z_21.out hb)
  clear hb HC hq P_21 Z_21
  have hp : ¬ (1 + ((cpF a0 a1).length : Int) < 0) := by omega
  go_wp2
  go_ret
  exact ⟨rfl, below_up BB.out Z_22.out⟩


set_option maxRecDepth 100000 in
theorem hFnExactCopyRing_lifted (os : Os) (started : os.Started) (H : Type) (enc : TypeId × Value → H) :
    ReturnsInHanded {} Try.checked os 8 .any (Rows.fnExactCopyRingSpec.pre6 enc Try.prog Try.f8 Rows.fnExactCopyRingRow.domain false) (Rows.fnExactCopyRingSpec.post enc Try.prog Try.f8 false true false false) := by
  refine returnsInHanded_of_change_sized (C := Try.checked) Try.own started (by kernel_rfl) Try.func8
    (ChangeSpec.witness6 (enc := enc) (C := Try.checked) false ⟨#[], #[.slice none 0 0, .slice none 0 0], []⟩ 8 (by kernel_rfl) (by kernel_rfl) (by kernel_rfl) (by kernel_rfl)) ?_
  intro W base args ds gs before hval0 hW _ hwt _
  have hval : ∀ (j : Nat) t v, Try.f8.params[j]? = some t → args[j]? = some v → Value.okWide Try.prog W .any base t v := hval0
  have hA : ∃ p, DataW.TrodAll enc Try.prog W 0 (fun _ => true) true Try.f8.params.toList args.toList ds p := by obtain ⟨p, q, hA0, _⟩ := hW; exact ⟨p, hA0⟩
  obtain ⟨p, hA⟩ := hA
  have hwt0 := weights_arg hwt (j := 0) (t := 23) (by rw [Try.params8]; rfl) (d := ds.getD 0 .nil)
  have hwt1 := weights_arg hwt (j := 1) (t := 30) (by rw [Try.params8]; rfl) (d := ds.getD 1 .nil)
  rw [Try.params8] at hA hval
  obtain ⟨v0, v1, d0, d1, p0, p1, rfl, rfl, rfl, h0, h1⟩ := trodAll_two hA
  obtain ⟨A0, n0, c0, a0, rfl, hx0⟩ := open_rows (hval 0 23 v0 rfl rfl) h0 (hwt0 rfl)
  obtain ⟨A1, n1, c1, a1, rfl, hx1⟩ := open_intS (hval 1 30 v1 rfl rfl) h1 (hwt1 rfl)
  refine (exCopyRing_calls A0 n0 c0 a0 A1 n1 c1 a1 W hx0 hx1).mono fun e W' ⟨he, hb⟩ => ?_
  subst he
  exact ⟨_, rfl, law_post (F := Try.f8) rfl rfl (by rw [Try.params8]; intro t ht; simp only [List.mem_cons, List.not_mem_nil, or_false] at ht; rcases ht with rfl | rfl <;> exact ⟨by kernel_rfl, of_decide_eq_true (by kernel_rfl)⟩) hW (fun h => by subst h; rfl) hb⟩

theorem hFnExactCopyRing_holds : Rows.FnExactCopyRingSaid :=
  OpenClaim.holds_of_wide 8 Try.f8 rfl rfl rfl rfl rfl rfl rfl ⟨rfl, rfl, rfl, rfl, rfl⟩ rfl rfl rfl rfl rfl (by kernel_rfl) Try.func8
    (by unfold joinedFacts; simp only [Bool.and_eq_true]; (repeat' apply And.intro) <;> (first | (with_reducible exact prog_enters) | ((with_reducible refine prog_lifts ?_); rfl) | ((with_reducible refine prog_make ?_); rfl) | kernel_rfl))
    (of_decide_eq_true (by kernel_rfl)) (by unfold Func.isWrapper; first | (rw [if_pos (by decide +kernel)]; kernel_rfl) | (rw [if_neg (by decide +kernel)]; exact ⟨rfl, rfl⟩))
    (fun os started H enc _ => hFnExactCopyRing_lifted os started H enc)

end Go.Proofs.Ytjkmgpiiamffgaa
