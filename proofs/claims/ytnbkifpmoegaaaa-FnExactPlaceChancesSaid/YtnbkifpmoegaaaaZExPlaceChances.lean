/- The law FnExactPlaceChances holds: for every []int and every string the program's PlaceChances answers as the model's, leaves the argument as it was, and its answer owns its memory. No condition. -/
import Derived.Test.YtnbkifpmoegaaaaQ13
namespace Go.Proofs.Ytnbkifpmoegaaaa
open Go.ChangeShapes Go.WideShapes Go.ChangeAt Go.RowKit Go.Deep

set_option maxRecDepth 100000 in
set_option maxHeartbeats 3200000 in
theorem exPlaceChances_calls (A0 : Option Addr) (n0 c0 : Nat) (a0 : List Int) (s1 : ByteArray) (w : World) (hx0 : Ints w A0 n0 c0 a0) (hs1 : s1.size ≤ maxLen) :
    Calls Try.prog 9 #[.slice A0 n0 c0, .string s1] w fun e w' => e = .returned (.bool true) ∧ Below w.heap.size w w' := by
  have hm0 := hx0.max
  have HL0 := Lib.hid hx0.len
  have X0 := Lib.hid hx0
  clear hx0
  by_cases hs0 : 1048576 < n0
  · go_enter Try.func9, Try.ntmps9
    go_wp2
    go_ret
    exact ⟨rfl, Below.refl _ _⟩
  have hsm1 : s1.size ≤ 9223372036854775807 := by unfold maxLen at hs1; omega
  clear hs1
  by_cases hs1 : 1048576 < s1.size
  · go_enter Try.func9, Try.ntmps9
    go_wp2
    go_ret
    exact ⟨rfl, Below.refl _ _⟩
  have HER0 := Lib.hid (eqI_same a0)
  have Z0 := Lib.hid (Below.refl w.heap.size w)
  obtain ⟨N, hN, hl⟩ := pcF_two a0 s1
  have HN := Lib.hid hN
  clear hN
  go_enter Try.func9, Try.ntmps9
  have HC := Lib.hid (toIntS_any _ _ _ _ w (X0.out.keep (Keep.below Z0.out)))
  go_wp2_with fail
  refine HC.out.mono ?_
  rintro e w1 ⟨rfl, hown, hb, hsz⟩
  have Z_1 := Lib.hid (below_up Z0.out hb)
  have S0 := Lib.hid hown.ints
  clear hown
  clear hsz
  clear hb HC Z0
  have HC := Lib.hid (PlaceChances_spec _ _ _ _ s1 w1 S0.out)
  go_wp2_with fail
  refine HC.out.mono ?_
  rintro e w2 ⟨As, ns, cs, gs, rfl, hns, hos, hb⟩
  have S0_2 := Lib.hid (S0.out.keep (Keep.below hb))
  have Z_2 := Lib.hid (below_up Z_1.out hb)
  obtain rfl : N = ns := by have := HN.out; omega
  have T := Lib.hid hos.frs
  clear hos hns
  clear hb HC S0 Z_1
  clear S0_2
  have Y0 := Lib.hid (X0.out.keep (Keep.below Z_2.out))
  have BB := Lib.hid Z_2.out
  have ZB := Lib.hid (Below.refl w2.heap.size w2)
  clear Z_2 X0
  have HC := Lib.hid (toIntS_any _ _ _ _ w2 (Y0.out.keep (Keep.below ZB.out)))
  go_wp2_with fail
  refine HC.out.mono ?_
  rintro e w3 ⟨rfl, hown, hb, hsz⟩
  have Z_3 := Lib.hid (below_up ZB.out hb)
  have G0 := Lib.hid hown
  clear hown
  clear hb HC ZB
  have HSZ0 := Lib.hid hsz
  clear hsz
  have HC := Lib.hid (PlaceChances_impl _ _ _ _ s1 w3 G0.out.ints)
  go_wp2_with fail
  refine HC.out.mono ?_
  intro e w4 hnew
  obtain ⟨Ag, cg, gg, rfl, hog, hgg, hb⟩ := NewF.geN hnew HN.out
  clear hnew
  have HGG := Lib.hid hgg
  clear hgg
  have G0_4 := Lib.hid (G0.out.below hb)
  have Z_4 := Lib.hid (below_up Z_3.out hb)
  have P := Lib.hid hog
  clear hog hb HC G0 Z_3
  have HC := Lib.hid (eqFracS_any _ _ _ _ _ (pcF a0 s1) w4 P.out.frs (T.out.keep (Keep.below Z_4.out)))
  go_wp2_with fail
  refine HC.out.mono ?_
  rintro e w5 ⟨rfl, hb⟩
  have G0_5 := Lib.hid (G0_4.out.below hb)
  have P_5 := Lib.hid (P.out.below hb)
  have Z_5 := Lib.hid (below_up Z_4.out hb)
  clear hb HC G0_4 P Z_4
  have HC := Lib.hid (toIntS_any _ _ _ _ w5 (Y0.out.keep (Keep.below Z_5.out)))
  go_wp2_with fail
  refine HC.out.mono ?_
  rintro e w6 ⟨rfl, hown, hb, hsz⟩
  have G0_6 := Lib.hid (G0_5.out.below hb)
  have P_6 := Lib.hid (P_5.out.below hb)
  have Z_6 := Lib.hid (below_up Z_5.out hb)
  have C0 := Lib.hid hown.ints
  clear hown hsz
  clear hb HC G0_5 P_5 Z_5
  have HC := Lib.hid (HER0.out ▸ eqIntS_any _ _ _ _ _ _ a0 a0 w6 G0_6.out.ints C0.out)
  go_wp2_with fail
  refine HC.out.mono ?_
  rintro e w7 ⟨rfl, hq⟩
  have hb := hq.below (B := w6.heap.size)
  have G0_7 := Lib.hid (G0_6.out.below hb)
  have P_7 := Lib.hid (P_6.out.below hb)
  have C0_7 := Lib.hid (C0.out.keep (Keep.below hb))
  have Z_7 := Lib.hid (below_up Z_6.out hb)
  clear hb HC hq G0_6 P_6 C0 Z_6
  clear C0_7
  have HC := Lib.hid (markIntS_any _ _ _ _ _ _ a0 (1) w7 G0_7.out (by omega) (by omega))
  go_wp2_with fail
  refine HC.out.mono ?_
  rintro e w8 ⟨rfl, ho, -, hm⟩
  have P_8 := Lib.hid (P_7.out.one hm (by have := HGG.out; have := HSZ0.out; omega))
  have Z_8 := Lib.hid (hm.below Z_7.out (by have := HSZ0.out;  omega))
  clear HC ho hm P_7 Z_7 G0_7
  have hkk : ¬ (1 + n0 < 0) := by omega
  have HC := Lib.hid (eqFracS_any _ _ _ _ _ (pcF a0 s1) w8 P_8.out.frs (T.out.keep (Keep.below Z_8.out)))
  go_wp2_with fail
  refine HC.out.mono ?_
  rintro e w9 ⟨rfl, hb⟩
  have P_9 := Lib.hid (P_8.out.below hb)
  have Z_9 := Lib.hid (below_up Z_8.out hb)
  clear hb HC P_8 Z_8
  have HC := Lib.hid (markFracS_any _ _ _ _ _ _ (pcF a0 s1) 1 w9 P_9.out (by omega) (by omega))
  go_wp2_with fail
  refine HC.out.mono ?_
  rintro e w10 ⟨rfl, ho, -, hm⟩
  have P_10 := Lib.hid (ho)
  have Z_10 := Lib.hid (hm.below Z_9.out (by have := HGG.out; have := HSZ0.out; omega))
  clear HC ho hm P_9 Z_9
  have HC := Lib.hid (heldFracS_any _ _ _ 1 w10 P_10.out.frs (by omega) (by omega))
  go_wp2_with fail
  refine HC.out.mono ?_
  rintro e w11 ⟨rfl, hq⟩
  have hb := hq.below (B := w10.heap.size)
  have P_11 := Lib.hid (P_10.out.below hb)
  have Z_11 := Lib.hid (below_up Z_10.out hb)
  clear hb HC hq P_10 Z_10
  have hp : ¬ (1 + ((2 * N : Nat) : Int) < 0) := by omega
  have HC := Lib.hid (toIntS_any _ _ _ _ w11 (Y0.out.keep (Keep.below Z_11.out)))
  go_wp2_with fail
  refine HC.out.mono ?_
  rintro e w12 ⟨rfl, hown, hb, hsz⟩
  have P_12 := Lib.hid (P_11.out.below hb)
  have Z_12 := Lib.hid (below_up Z_11.out hb)
  have H0 := Lib.hid hown.ints
  clear hown
  clear hsz
  clear hb HC P_11 Z_11
  clear hp
  have HC := Lib.hid (PlaceChances_impl _ _ _ _ s1 w12 H0.out)
  go_wp2_with fail
  refine HC.out.mono ?_
  rintro e w13 ⟨Ah, nh, ch, gh, rfl, hnh, hoh, hb⟩
  have P_13 := Lib.hid (P_12.out.below hb)
  have H0_13 := Lib.hid (H0.out.keep (Keep.below hb))
  have Z_13 := Lib.hid (below_up Z_12.out hb)
  obtain rfl : N = nh := by have := HN.out; omega
  have Q := Lib.hid hoh.frs
  clear hoh hnh
  clear hb HC P_12 H0 Z_12
  clear H0_13
  have HC := Lib.hid (eqFracS_any _ _ _ _ _ (pcF a0 s1) w13 Q.out (T.out.keep (Keep.below Z_13.out)))
  go_wp2_with fail
  refine HC.out.mono ?_
  rintro e w14 ⟨rfl, hb⟩
  have P_14 := Lib.hid (P_13.out.below hb)
  have Q_14 := Lib.hid (Q.out.keep (Keep.below hb))
  have Z_14 := Lib.hid (below_up Z_13.out hb)
  clear hb HC P_13 Q Z_13
  clear Q_14
  have HC := Lib.hid (heldFracS_any _ _ _ 1 w14 P_14.out.frs (by omega) (by omega))
  go_wp2_with fail
  refine HC.out.mono ?_
  rintro e w15 ⟨rfl, hq⟩
  have hb := hq.below (B := w14.heap.size)
  have P_15 := Lib.hid (P_14.out.below hb)
  have Z_15 := Lib.hid (below_up Z_14.out hb)
  clear hb HC hq P_14 Z_14
  have hp : ¬ (1 + ((2 * N : Nat) : Int) < 0) := by omega
  go_wp2
  go_ret
  exact ⟨rfl, below_up BB.out Z_15.out⟩


set_option maxRecDepth 100000 in
theorem hFnExactPlaceChances_lifted (os : Os) (started : os.Started) (H : Type) (enc : TypeId × Value → H) :
    ReturnsInHanded {} Try.checked os 9 .any (Rows.fnExactPlaceChancesSpec.pre6 enc Try.prog Try.f9 Rows.fnExactPlaceChancesRow.domain false) (Rows.fnExactPlaceChancesSpec.post enc Try.prog Try.f9 false true false false) := by
  refine returnsInHanded_of_change_sized (C := Try.checked) Try.own started (by kernel_rfl) Try.func9
    (ChangeSpec.witness6 (enc := enc) (C := Try.checked) false ⟨#[], #[.slice none 0 0, .string ⟨#[]⟩], []⟩ 8 (by kernel_rfl) (by kernel_rfl) (by kernel_rfl) (by kernel_rfl)) ?_
  intro W base args ds gs before hval0 hW _ hwt _
  have hval : ∀ (j : Nat) t v, Try.f9.params[j]? = some t → args[j]? = some v → Value.okWide Try.prog W .any base t v := hval0
  have hA : ∃ p, DataW.TrodAll enc Try.prog W 0 (fun _ => true) true Try.f9.params.toList args.toList ds p := by obtain ⟨p, q, hA0, _⟩ := hW; exact ⟨p, hA0⟩
  obtain ⟨p, hA⟩ := hA
  have hwt0 := weights_arg hwt (j := 0) (t := 23) (by rw [Try.params9]; rfl) (d := ds.getD 0 .nil)
  rw [Try.params9] at hA hval
  obtain ⟨v0, v1, d0, d1, p0, p1, rfl, rfl, rfl, h0, h1⟩ := trodAll_two hA
  obtain ⟨A0, n0, c0, a0, rfl, hx0⟩ := open_intS (hval 0 23 v0 rfl rfl) h0 (hwt0 rfl)
  obtain ⟨s1, rfl, hs1⟩ := open_text (hval 1 9 v1 rfl rfl) h1
  refine (exPlaceChances_calls A0 n0 c0 a0 s1 W hx0 hs1).mono fun e W' ⟨he, hb⟩ => ?_
  subst he
  exact ⟨_, rfl, law_post (F := Try.f9) rfl rfl (by rw [Try.params9]; intro t ht; simp only [List.mem_cons, List.not_mem_nil, or_false] at ht; rcases ht with rfl | rfl <;> exact ⟨by kernel_rfl, of_decide_eq_true (by kernel_rfl)⟩) hW (fun h => by subst h; rfl) hb⟩

theorem hFnExactPlaceChances_holds : Rows.FnExactPlaceChancesSaid :=
  OpenClaim.holds_of_wide 9 Try.f9 rfl rfl rfl rfl rfl rfl rfl ⟨rfl, rfl, rfl, rfl, rfl⟩ rfl rfl rfl rfl rfl (by kernel_rfl) Try.func9
    (by unfold joinedFacts; simp only [Bool.and_eq_true]; (repeat' apply And.intro) <;> (first | (with_reducible exact prog_enters) | ((with_reducible refine prog_lifts ?_); rfl) | ((with_reducible refine prog_make ?_); rfl) | kernel_rfl))
    (of_decide_eq_true (by kernel_rfl)) (by unfold Func.isWrapper; first | (rw [if_pos (by decide +kernel)]; kernel_rfl) | (rw [if_neg (by decide +kernel)]; exact ⟨rfl, rfl⟩))
    (fun os started H enc _ => hFnExactPlaceChances_lifted os started H enc)

end Go.Proofs.Ytnbkifpmoegaaaa
