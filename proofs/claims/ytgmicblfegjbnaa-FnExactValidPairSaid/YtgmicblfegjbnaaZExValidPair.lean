/- The law FnExactValidPair holds: for every table (and every [][]int that is none) the program's ValidPair answers as the model's, and leaves the table as it was. No condition. -/
import Derived.Test.YtgmicblfegjbnaaQ8
namespace Go.Proofs.Ytgmicblfegjbnaa
open Go.ChangeShapes Go.WideShapes Go.ChangeAt Go.RowKit Go.Deep

set_option maxRecDepth 100000 in
set_option maxHeartbeats 2000000 in
theorem exValidPair_calls (A0 : Option Addr) (n0 c0 : Nat) (a0 : List (List Int)) (w : World) (hx0 : IntRows w A0 n0 c0 a0) :
    Calls Try.prog 3 #[.slice A0 n0 c0] w fun e w' => e = .returned (.bool true) ∧ Below w.heap.size w w' := by
  have hm0 := hx0.max
  have X0_0 := Lib.hid hx0
  clear hx0
  by_cases hs0 : szRR 1048576 a0 < 0
  · go_enter Try.func3, Try.ntmps3
    go_wp2_with fail
    refine (szIntSS_any _ _ _ _ _ _ X0_0.out (by omega) (by omega)).mono ?_
    rintro e w1 ⟨rfl, hq⟩
    go_wp2
    go_ret
    exact ⟨rfl, hq.below⟩
  go_enter Try.func3, Try.ntmps3
  go_wp2_with fail
  refine (szIntSS_any _ _ _ _ _ _ X0_0.out (by omega) (by omega)).mono ?_
  rintro e w1 ⟨rfl, hb⟩
  have B1 := Lib.hid (show Below w.heap.size w w1 from hb.below)
  have X0_1 := Lib.hid (X0_0.out.keep (Keep.quiet hb))
  clear hb 
  go_wp2_with fail
  refine (toIntSS_any _ _ _ _ _ X0_1.out).mono ?_
  rintro e w2 ⟨rfl, hown, hb, -⟩
  have B2 := Lib.hid (below_up B1.out hb)
  have X0_2 := Lib.hid (X0_1.out.keep (Keep.below hb))
  have S0_2 := Lib.hid hown.rows
  clear hown
  clear hb B1 X0_1
  go_wp2_with fail
  refine (ValidPair_spec _ _ _ _ _ S0_2.out).mono ?_
  rintro e w3 ⟨rfl, hb⟩
  have B3 := Lib.hid (below_up B2.out hb)
  have X0_3 := Lib.hid (X0_2.out.keep (Keep.below hb))
  have S0_3 := Lib.hid (S0_2.out.keep (Keep.below hb))
  clear hb B2 X0_2 S0_2
  go_wp2_with fail
  refine (toIntSS_any _ _ _ _ _ X0_3.out).mono ?_
  rintro e w4 ⟨rfl, hown, hb, -⟩
  have B4 := Lib.hid (below_up B3.out hb)
  have X0_4 := Lib.hid (X0_3.out.keep (Keep.below hb))
  have G0_4 := Lib.hid hown.rows
  clear hown
  clear hb B3 X0_3
  go_wp2_with fail
  refine (ValidPair_impl _ _ _ _ _ G0_4.out).mono ?_
  rintro e w5 ⟨rfl, hb⟩
  have B5 := Lib.hid (below_up B4.out hb)
  have X0_5 := Lib.hid (X0_4.out.keep (Keep.below hb))
  have G0_5 := Lib.hid (G0_4.out.keep (Keep.below hb))
  clear hb B4 X0_4 G0_4
  go_wp2_with fail
  refine (toIntSS_any _ _ _ _ _ X0_5.out).mono ?_
  rintro e w6 ⟨rfl, hown, hb, -⟩
  have B6 := Lib.hid (below_up B5.out hb)
  have X0_6 := Lib.hid (X0_5.out.keep (Keep.below hb))
  have G0_6 := Lib.hid (G0_5.out.keep (Keep.below hb))
  have C0_6 := Lib.hid hown.rows
  clear hown
  clear hb B5 X0_5 G0_5
  have heq := Lib.hid (show eqRR a0 a0 = true by simp [eqRR])
  go_wp2_with fail
  refine (heq.out ▸ eqIntSS_any _ _ _ _ _ _ _ _ _ G0_6.out C0_6.out).mono ?_
  rintro e w7 ⟨rfl, hb⟩
  have B7 := Lib.hid (below_up B6.out hb.below)
  have X0_7 := Lib.hid (X0_6.out.keep (Keep.quiet hb))
  have G0_7 := Lib.hid (G0_6.out.keep (Keep.quiet hb))
  have C0_7 := Lib.hid (C0_6.out.keep (Keep.quiet hb))
  clear heq
  clear hb B6 X0_6 G0_6 C0_6
  go_wp2
  go_ret
  exact ⟨rfl, B7.out⟩

set_option maxRecDepth 100000 in
theorem hFnExactValidPair_lifted (os : Os) (started : os.Started) (H : Type) (enc : TypeId × Value → H) :
    ReturnsInHanded {} Try.checked os 3 .any (Rows.fnExactValidPairSpec.pre6 enc Try.prog Try.f3 Rows.fnExactValidPairRow.domain false) (Rows.fnExactValidPairSpec.post enc Try.prog Try.f3 false true false false) := by
  refine returnsInHanded_of_change_sized (C := Try.checked) Try.own started (by kernel_rfl) Try.func3
    (ChangeSpec.witness6 (enc := enc) (C := Try.checked) false ⟨#[], #[.slice none 0 0], []⟩ 8 (by kernel_rfl) (by kernel_rfl) (by kernel_rfl) (by kernel_rfl)) ?_
  intro W base args ds gs before hval0 hW _ hwt _
  have hval : ∀ (j : Nat) t v, Try.f3.params[j]? = some t → args[j]? = some v → Value.okWide Try.prog W .any base t v := hval0
  have hA : ∃ p, DataW.TrodAll enc Try.prog W 0 (fun _ => true) true Try.f3.params.toList args.toList ds p := by obtain ⟨p, q, hA0, _⟩ := hW; exact ⟨p, hA0⟩
  obtain ⟨p, hA⟩ := hA
  have hwt0 := weights_arg hwt (j := 0) (t := 22) (by rw [Try.params3]; rfl) (d := ds.getD 0 .nil)
  rw [Try.params3] at hA hval
  obtain ⟨v0, d0, rfl, rfl, h0⟩ := trodAll_one hA
  obtain ⟨A0, n0, c0, a0, rfl, hx0⟩ := open_rows (hval 0 22 v0 rfl rfl) h0 (hwt0 rfl)
  refine (exValidPair_calls A0 n0 c0 a0 W hx0).mono fun e W' ⟨he, hb⟩ => ?_
  subst he
  exact ⟨_, rfl, law_post (F := Try.f3) rfl rfl (by rw [Try.params3]; intro t ht; simp only [List.mem_cons, List.not_mem_nil, or_false] at ht; rcases ht with rfl <;> exact ⟨by kernel_rfl, of_decide_eq_true (by kernel_rfl)⟩) hW (fun h => by subst h; rfl) hb⟩

theorem hFnExactValidPair_holds : Rows.FnExactValidPairSaid :=
  OpenClaim.holds_of_wide 3 Try.f3 rfl rfl rfl rfl rfl rfl rfl ⟨rfl, rfl, rfl, rfl, rfl⟩ rfl rfl rfl rfl rfl (by kernel_rfl) Try.func3
    (by unfold joinedFacts; simp only [Bool.and_eq_true]; (repeat' apply And.intro) <;> (first | (with_reducible exact prog_enters) | ((with_reducible refine prog_lifts ?_); rfl) | ((with_reducible refine prog_make ?_); rfl) | kernel_rfl))
    (of_decide_eq_true (by kernel_rfl)) (by unfold Func.isWrapper; first | (rw [if_pos (by decide +kernel)]; kernel_rfl) | (rw [if_neg (by decide +kernel)]; exact ⟨rfl, rfl⟩))
    (fun os started H enc _ => hFnExactValidPair_lifted os started H enc)

end Go.Proofs.Ytgmicblfegjbnaa
