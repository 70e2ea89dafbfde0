/- The law FnExactRestsOn holds: for every square (and every [][]int that is none) the program's RestsOn answers as the model's, leaves the argument as it was, and its answer owns its memory. No condition. -/
import Derived.Test.YtgmcmblcljfofaaQ9
namespace Go.Proofs.Ytgmcmblcljfofaa
open Go.ChangeShapes Go.WideShapes Go.ChangeAt Go.RowKit Go.Deep

set_option maxRecDepth 100000 in
set_option maxHeartbeats 3200000 in
theorem exRestsOn_calls (A0 : Option Addr) (n0 c0 : Nat) (a0 : List (List Int)) (w : World) (hx0 : IntRows w A0 n0 c0 a0) :
    Calls Try.prog 7 #[.slice A0 n0 c0] w fun e w' => e = .returned (.bool true) ∧ Below w.heap.size w w' := by
  have hm0 := hx0.max
  have HL0 := Lib.hid hx0.len
  have X0 := Lib.hid hx0
  clear hx0
  by_cases hs0 : szRR 1048576 a0 < 0
  · go_enter Try.func7, Try.ntmps7
    go_wp2_with fail
    refine (szIntSS_any _ _ _ _ _ _ X0.out (by omega) (by omega)).mono ?_
    rintro e w1 ⟨rfl, hq⟩
    go_wp2
    go_ret
    exact ⟨rfl, hq.below⟩
  have HOF0 := Lib.hid (show offs a0 n0 ≤ 1048576 by rw [← HL0.out]; exact szRR_offs hs0)
  have HER0 := Lib.hid (show eqRR a0 a0 = true by simp [eqRR])
  have Z0 := Lib.hid (Below.refl w.heap.size w)
  have HE := Lib.hid (show eqRR (resF a0) (resF a0) = true by simp [eqRR])
  have hof : offs (resF a0) (resF a0).length ≤ 1000000 := resF_offs a0
  have hof0 : 0 ≤ offs (resF a0) (resF a0).length := offs_ge _ _
  go_enter Try.func7, Try.ntmps7
  have HC := Lib.hid (szIntSS_any _ _ _ _ 1048576 w (X0.out.keep (Keep.below Z0.out)) (by omega) (by omega))
  go_wp2_with fail
  refine HC.out.mono ?_
  rintro e w1 ⟨rfl, hq⟩
  have hb := hq.below (B := w.heap.size)
  have Z_1 := Lib.hid (below_up Z0.out hb)
  clear hb HC hq Z0
  have HC := Lib.hid (toIntSS_any _ _ _ _ w1 (X0.out.keep (Keep.below Z_1.out)))
  go_wp2_with fail
  refine HC.out.mono ?_
  rintro e w2 ⟨rfl, hown, hb, hsz⟩
  have Z_2 := Lib.hid (below_up Z_1.out hb)
  have S0 := Lib.hid hown.rows
  clear hown
  clear hsz
  clear hb HC Z_1
  have HC := Lib.hid (RestsOn_spec _ _ _ _ w2 S0.out)
  go_wp2_with fail
  refine HC.out.mono ?_
  rintro e w3 ⟨As, ns, cs, gs, rfl, hns, hos, hb⟩
  have S0_3 := Lib.hid (S0.out.keep (Keep.below hb))
  have Z_3 := Lib.hid (below_up Z_2.out hb)
  subst hns
  have T := Lib.hid hos.rows
  clear hos
  clear hb HC S0 Z_2
  clear S0_3
  have Y0 := Lib.hid (X0.out.keep (Keep.below Z_3.out))
  have BB := Lib.hid Z_3.out
  have ZB := Lib.hid (Below.refl w3.heap.size w3)
  clear Z_3 X0
  have HC := Lib.hid (toIntSS_any _ _ _ _ w3 (Y0.out.keep (Keep.below ZB.out)))
  go_wp2_with fail
  refine HC.out.mono ?_
  rintro e w4 ⟨rfl, hown, hb, hsz⟩
  have Z_4 := Lib.hid (below_up ZB.out hb)
  have G0 := Lib.hid hown
  clear hown
  clear hb HC ZB
  have HSZ0 := Lib.hid hsz
  clear hsz
  have HGG := Lib.hid Z_4.out.size
  have HC := Lib.hid (RestsOn_impl _ _ _ _ w4 G0.out.rows)
  go_wp2_with fail
  refine HC.out.mono ?_
  rintro e w5 ⟨Ag, ng, cg, gg, rfl, hng, hog, hb⟩
  subst hng
  have G0_5 := Lib.hid (G0.out.below hb)
  have Z_5 := Lib.hid (below_up Z_4.out hb)
  have P := Lib.hid hog
  clear hog hb HC G0 Z_4
  have HC := Lib.hid (HE.out ▸ eqIntSS_any _ _ _ _ _ _ (resF a0) (resF a0) w5 P.out.rows (T.out.keep (Keep.below Z_5.out)))
  go_wp2_with fail
  refine HC.out.mono ?_
  rintro e w6 ⟨rfl, hq⟩
  have hb := hq.below (B := w5.heap.size)
  have G0_6 := Lib.hid (G0_5.out.below hb)
  have P_6 := Lib.hid (P.out.below hb)
  have Z_6 := Lib.hid (below_up Z_5.out hb)
  clear hb HC hq G0_5 P Z_5
  have HC := Lib.hid (toIntSS_any _ _ _ _ w6 (Y0.out.keep (Keep.below Z_6.out)))
  go_wp2_with fail
  refine HC.out.mono ?_
  rintro e w7 ⟨rfl, hown, hb, hsz⟩
  have G0_7 := Lib.hid (G0_6.out.below hb)
  have P_7 := Lib.hid (P_6.out.below hb)
  have Z_7 := Lib.hid (below_up Z_6.out hb)
  have C0 := Lib.hid hown.rows
  clear hown hsz
  clear hb HC G0_6 P_6 Z_6
  have HC := Lib.hid (HER0.out ▸ eqIntSS_any _ _ _ _ _ _ a0 a0 w7 G0_7.out.rows C0.out)
  go_wp2_with fail
  refine HC.out.mono ?_
  rintro e w8 ⟨rfl, hq⟩
  have hb := hq.below (B := w7.heap.size)
  have G0_8 := Lib.hid (G0_7.out.below hb)
  have P_8 := Lib.hid (P_7.out.below hb)
  have C0_8 := Lib.hid (C0.out.keep (Keep.below hb))
  have Z_8 := Lib.hid (below_up Z_7.out hb)
  clear hb HC hq G0_7 P_7 C0 Z_7
  clear C0_8
  have HC := Lib.hid (markIntSS_any _ _ _ _ _ _ a0 (1) w8 G0_8.out (by omega) (by have := HOF0.out;  omega))
  go_wp2_with fail
  refine HC.out.mono ?_
  rintro e w9 ⟨rfl, ho, hm⟩
  have P_9 := Lib.hid (P_8.out.touch hm (.inr (by have := HSZ0.out;  omega)))
  have Z_9 := Lib.hid (Touch.below Z_8.out hm (by have := HSZ0.out;  omega))
  clear HC ho hm P_8 Z_8 G0_8
  have hof0 : 0 ≤ offs a0 n0 := offs_ge _ _
  have hoh0 := HOF0.out
  have hkk : ¬ (1 + offs a0 n0 < 0) := by omega
  have HC := Lib.hid (HE.out ▸ eqIntSS_any _ _ _ _ _ _ (resF a0) (resF a0) w9 P_9.out.rows (T.out.keep (Keep.below Z_9.out)))
  go_wp2_with fail
  refine HC.out.mono ?_
  rintro e w10 ⟨rfl, hq⟩
  have hb := hq.below (B := w9.heap.size)
  have P_10 := Lib.hid (P_9.out.below hb)
  have Z_10 := Lib.hid (below_up Z_9.out hb)
  clear hb HC hq P_9 Z_9
  have HC := Lib.hid (markIntSS_any _ _ _ _ _ _ (resF a0) 1 w10 P_10.out (by omega) (by omega))
  go_wp2_with fail
  refine HC.out.mono ?_
  rintro e w11 ⟨rfl, ho, hm⟩
  have P_11 := Lib.hid (ho)
  have Z_11 := Lib.hid (Touch.below Z_10.out hm (by have := HGG.out; omega))
  clear HC ho hm P_10 Z_10
  have HC := Lib.hid (heldIntSS_any _ _ _ (resF a0) 1 w11 P_11.out.rows (by omega) (by omega))
  go_wp2_with fail
  refine HC.out.mono ?_
  rintro e w12 ⟨rfl, hq⟩
  have hb := hq.below (B := w11.heap.size)
  have P_12 := Lib.hid (P_11.out.below hb)
  have Z_12 := Lib.hid (below_up Z_11.out hb)
  clear hb HC hq P_11 Z_11
  have hp : ¬ (1 + offs (resF a0) (resF a0).length < 0) := by omega
  have HC := Lib.hid (toIntSS_any _ _ _ _ w12 (Y0.out.keep (Keep.below Z_12.out)))
  go_wp2_with fail
  refine HC.out.mono ?_
  rintro e w13 ⟨rfl, hown, hb, hsz⟩
  have P_13 := Lib.hid (P_12.out.below hb)
  have Z_13 := Lib.hid (below_up Z_12.out hb)
  have H0 := Lib.hid hown.rows
  clear hown
  clear hsz
  clear hb HC P_12 Z_12
  clear hp
  have HC := Lib.hid (RestsOn_impl _ _ _ _ w13 H0.out)
  go_wp2_with fail
  refine HC.out.mono ?_
  rintro e w14 ⟨Ah, nh, ch, gh, rfl, hnh, hoh, hb⟩
  have P_14 := Lib.hid (P_13.out.below hb)
  have H0_14 := Lib.hid (H0.out.keep (Keep.below hb))
  have Z_14 := Lib.hid (below_up Z_13.out hb)
  subst hnh
  have Q := Lib.hid hoh.rows
  clear hoh
  clear hb HC P_13 H0 Z_13
  clear H0_14
  have HC := Lib.hid (HE.out ▸ eqIntSS_any _ _ _ _ _ _ (resF a0) (resF a0) w14 Q.out (T.out.keep (Keep.below Z_14.out)))
  go_wp2_with fail
  refine HC.out.mono ?_
  rintro e w15 ⟨rfl, hq⟩
  have hb := hq.below (B := w14.heap.size)
  have P_15 := Lib.hid (P_14.out.below hb)
  have Q_15 := Lib.hid (Q.out.keep (Keep.below hb))
  have Z_15 := Lib.hid (below_up Z_14.out hb)
  clear hb HC hq P_14 Q Z_14
  clear Q_15
  have HC := Lib.hid (heldIntSS_any _ _ _ (resF a0) 1 w15 P_15.out.rows (by omega) (by omega))
  go_wp2_with fail
  refine HC.out.mono ?_
  rintro e w16 ⟨rfl, hq⟩
  have hb := hq.below (B := w15.heap.size)
  have P_16 := Lib.hid (P_15.out.below hb)
  have Z_16 := Lib.hid (below_up Z_15.out hb)
  clear hb HC hq P_15 Z_15
  have hp : ¬ (1 + offs (resF a0) (resF a0).length < 0) := by omega
  go_wp2
  go_ret
  exact ⟨rfl, below_up BB.out Z_16.out⟩


set_option maxRecDepth 100000 in
theorem hFnExactRestsOn_lifted (os : Os) (started : os.Started) (H : Type) (enc : TypeId × Value → H) :
    ReturnsInHanded {} Try.checked os 7 .any (Rows.fnExactRestsOnSpec.pre6 enc Try.prog Try.f7 Rows.fnExactRestsOnRow.domain false) (Rows.fnExactRestsOnSpec.post enc Try.prog Try.f7 false true false false) := by
  refine returnsInHanded_of_change_sized (C := Try.checked) Try.own started (by kernel_rfl) Try.func7
    (ChangeSpec.witness6 (enc := enc) (C := Try.checked) false ⟨#[], #[.slice none 0 0], []⟩ 8 (by kernel_rfl) (by kernel_rfl) (by kernel_rfl) (by kernel_rfl)) ?_
  intro W base args ds gs before hval0 hW _ hwt _
  have hval : ∀ (j : Nat) t v, Try.f7.params[j]? = some t → args[j]? = some v → Value.okWide Try.prog W .any base t v := hval0
  have hA : ∃ p, DataW.TrodAll enc Try.prog W 0 (fun _ => true) true Try.f7.params.toList args.toList ds p := by obtain ⟨p, q, hA0, _⟩ := hW; exact ⟨p, hA0⟩
  obtain ⟨p, hA⟩ := hA
  have hwt0 := weights_arg hwt (j := 0) (t := 22) (by rw [Try.params7]; rfl) (d := ds.getD 0 .nil)
  rw [Try.params7] at hA hval
  obtain ⟨v0, d0, rfl, rfl, h0⟩ := trodAll_one hA
  obtain ⟨A0, n0, c0, a0, rfl, hx0⟩ := open_rows (hval 0 22 v0 rfl rfl) h0 (hwt0 rfl)
  refine (exRestsOn_calls A0 n0 c0 a0 W hx0).mono fun e W' ⟨he, hb⟩ => ?_
  subst he
  exact ⟨_, rfl, law_post (F := Try.f7) rfl rfl (by rw [Try.params7]; intro t ht; simp only [List.mem_cons, List.not_mem_nil, or_false] at ht; rcases ht with rfl <;> exact ⟨by kernel_rfl, of_decide_eq_true (by kernel_rfl)⟩) hW (fun h => by subst h; rfl) hb⟩

theorem hFnExactRestsOn_holds : Rows.FnExactRestsOnSaid :=
  OpenClaim.holds_of_wide 7 Try.f7 rfl rfl rfl rfl rfl rfl rfl ⟨rfl, rfl, rfl, rfl, rfl⟩ rfl rfl rfl rfl rfl (by kernel_rfl) Try.func7
    (by unfold joinedFacts; simp only [Bool.and_eq_true]; (repeat' apply And.intro) <;> (first | (with_reducible exact prog_enters) | ((with_reducible refine prog_lifts ?_); rfl) | ((with_reducible refine prog_make ?_); rfl) | kernel_rfl))
    (of_decide_eq_true (by kernel_rfl)) (by unfold Func.isWrapper; first | (rw [if_pos (by decide +kernel)]; kernel_rfl) | (rw [if_neg (by decide +kernel)]; exact ⟨rfl, rfl⟩))
    (fun os started H enc _ => hFnExactRestsOn_lifted os started H enc)

end Go.Proofs.Ytgmcmblcljfofaa
