/- The law FnExactMeanKinds holds: for every two numbers the program's MeanKinds answers as the model's. No condition. -/
import Derived.Test.YtamjiinhogmifaaQ9
namespace Go.Proofs.Ytamjiinhogmifaa
open Go.ChangeShapes Go.WideShapes Go.ChangeAt Go.RowKit Go.Deep

set_option maxRecDepth 100000 in
set_option maxHeartbeats 2000000 in
theorem exMeanKinds_calls (k0 : Int) (k1 : Int) (w : World) (hk0 : Fit k0) (hk1 : Fit k1) :
    Calls Try.prog 11 #[.int .i64 k0, .int .i64 k1] w fun e w' => e = .returned (.bool true) ∧ Below w.heap.size w w' := by
  have K0 := Lib.hid hk0
  obtain ⟨k0l, k0h⟩ := hk0
  have K1 := Lib.hid hk1
  obtain ⟨k1l, k1h⟩ := hk1
  obtain ⟨U, D, hform⟩ := mk_form k0 k1
  have HFORM := Lib.hid hform
  clear hform
  go_enter Try.func11, Try.ntmps11
  go_wp2_with fail
  refine (HFORM.out ▸ MeanKinds_spec _ _ _ K0.out K1.out).mono ?_
  rintro e w1 ⟨rfl, hb⟩
  have B1 := Lib.hid (show Below w.heap.size w w1 from hb)
  clear hb 
  go_wp2_with fail
  have hb := below_alloc w1 (.cells #[.int .i64 U, .int .i64 D] 36)
  have B1a := Lib.hid (below_up B1.out hb)
  have FS_1a := Lib.hid (blk_new w1 36 #[.int .i64 U, .int .i64 D])
  clear hb B1
  generalize w1.alloc (.cells #[.int .i64 U, .int .i64 D] 36) = w1a at *
  refine (HFORM.out ▸ MeanKinds_impl _ _ _ K0.out K1.out).mono ?_
  rintro e w2 ⟨rfl, hb⟩
  have B2 := Lib.hid (below_up B1a.out hb)
  have FS_2 := Lib.hid (blk_below FS_1a.out hb)
  clear hb B1a FS_1a
  have q0 := blk_cell (blk_old FS_2.out (.cells #[.int .i64 U, .int .i64 D] 36)) (i := 0) (v := .int .i64 U) rfl
  have q1 := blk_cell (blk_old FS_2.out (.cells #[.int .i64 U, .int .i64 D] 36)) (i := 1) (v := .int .i64 D) rfl
  go_wp2_with fail
  have hb := below_alloc w2 (.cells #[.int .i64 U, .int .i64 D] 36)
  have B2a := Lib.hid (below_up B2.out hb)
  have FS_2a := Lib.hid (blk_below FS_2.out hb)
  have FG_2a := Lib.hid (blk_new w2 36 #[.int .i64 U, .int .i64 D])
  clear hb B2 FS_2
  generalize w2.alloc (.cells #[.int .i64 U, .int .i64 D] 36) = w2a at *
  refine (eqFrac_self (.agg #[.int .i64 U, .int .i64 D]) _ ⟨U, D, rfl⟩).mono ?_
  rintro e w3 ⟨rfl, hb⟩
  have B3 := Lib.hid (below_up B2a.out hb)
  have FS_3 := Lib.hid (blk_below FS_2a.out hb)
  have FG_3 := Lib.hid (blk_below FG_2a.out hb)
  clear q0 q1
  clear hb B2a FS_2a FG_2a
  go_wp2
  go_ret
  exact ⟨rfl, B3.out⟩

set_option maxRecDepth 100000 in
theorem hFnExactMeanKinds_lifted (os : Os) (started : os.Started) (H : Type) (enc : TypeId × Value → H) :
    ReturnsInHanded {} Try.checked os 11 .any (Rows.fnExactMeanKindsSpec.pre6 enc Try.prog Try.f11 Rows.fnExactMeanKindsRow.domain false) (Rows.fnExactMeanKindsSpec.post enc Try.prog Try.f11 false true false false) := by
  refine returnsInHanded_of_change_sized (C := Try.checked) Try.own started (by kernel_rfl) Try.func11
    (ChangeSpec.witness6 (enc := enc) (C := Try.checked) false ⟨#[], #[.int .i64 0, .int .i64 0], []⟩ 8 (by kernel_rfl) (by kernel_rfl) (by kernel_rfl) (by kernel_rfl)) ?_
  intro W base args ds gs before hval0 hW _ hwt _
  have hval : ∀ (j : Nat) t v, Try.f11.params[j]? = some t → args[j]? = some v → Value.okWide Try.prog W .any base t v := hval0
  have hA : ∃ p, DataW.TrodAll enc Try.prog W 0 (fun _ => true) true Try.f11.params.toList args.toList ds p := by obtain ⟨p, q, hA0, _⟩ := hW; exact ⟨p, hA0⟩
  obtain ⟨p, hA⟩ := hA
  rw [Try.params11] at hA hval
  obtain ⟨v0, v1, d0, d1, p0, p1, rfl, rfl, rfl, h0, h1⟩ := trodAll_two hA
  obtain ⟨k0, rfl, hk0⟩ := open_num (hval 0 3 v0 rfl rfl) h0
  obtain ⟨k1, rfl, hk1⟩ := open_num (hval 1 3 v1 rfl rfl) h1
  refine (exMeanKinds_calls k0 k1 W hk0 hk1).mono fun e W' ⟨he, hb⟩ => ?_
  subst he
  exact ⟨_, rfl, law_post (F := Try.f11) rfl rfl (by rw [Try.params11]; intro t ht; simp only [List.mem_cons, List.not_mem_nil, or_false] at ht; rcases ht with rfl | rfl <;> exact ⟨by kernel_rfl, of_decide_eq_true (by kernel_rfl)⟩) hW (fun h => by subst h; rfl) hb⟩

theorem hFnExactMeanKinds_holds : Rows.FnExactMeanKindsSaid :=
  OpenClaim.holds_of_wide 11 Try.f11 rfl rfl rfl rfl rfl rfl rfl ⟨rfl, rfl, rfl, rfl, rfl⟩ rfl rfl rfl rfl rfl (by kernel_rfl) Try.func11
    (by unfold joinedFacts; simp only [Bool.and_eq_true]; (repeat' apply And.intro) <;> (first | (with_reducible exact prog_enters) | ((with_reducible refine prog_lifts ?_); rfl) | ((with_reducible refine prog_make ?_); rfl) | kernel_rfl))
    (of_decide_eq_true (by kernel_rfl)) (by unfold Func.isWrapper; first | (rw [if_pos (by decide +kernel)]; kernel_rfl) | (rw [if_neg (by decide +kernel)]; exact ⟨rfl, rfl⟩))
    (fun os started H enc _ => hFnExactMeanKinds_lifted os started H enc)

end Go.Proofs.Ytamjiinhogmifaa
