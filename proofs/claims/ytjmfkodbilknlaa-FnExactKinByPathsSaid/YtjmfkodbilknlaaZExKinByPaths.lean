/- The law FnExactKinByPaths holds: for every [][]int and two numbers the program's KinByPaths answers as the model's, and leaves the rows as they were. No condition. -/
import Derived.Test.YtjmfkodbilknlaaQ15
namespace Go.Proofs.Ytjmfkodbilknlaa
open Go.ChangeShapes Go.WideShapes Go.ChangeAt Go.RowKit Go.Deep

set_option maxRecDepth 100000 in
set_option maxHeartbeats 2000000 in
theorem exKinByPaths_calls (A0 : Option Addr) (n0 c0 : Nat) (a0 : List (List Int)) (k1 : Int) (k2 : Int) (w : World) (hx0 : IntRows w A0 n0 c0 a0) (hk1 : Fit k1) (hk2 : Fit k2) :
    Calls Try.prog 3 #[.slice A0 n0 c0, .int .i64 k1, .int .i64 k2] w fun e w' => e = .returned (.bool true) ∧ Below w.heap.size w w' := by
  have hm0 := hx0.max
  have X0_0 := Lib.hid hx0
  clear hx0
  have K1 := Lib.hid hk1
  obtain ⟨k1l, k1h⟩ := hk1
  have K2 := Lib.hid hk2
  obtain ⟨k2l, k2h⟩ := hk2
  by_cases hs0 : szRR 1048576 a0 < 0
  · go_enter Try.func3, Try.ntmps3
    go_wp2_with fail
    refine (szIntSS_any _ _ _ _ _ _ X0_0.out (by omega) (by omega)).mono ?_
    rintro e w1 ⟨rfl, hq⟩
    go_wp2
    go_ret
    exact ⟨rfl, hq.below⟩
  obtain ⟨U, D, hform⟩ := kinF_form a0 k1 k2
  have HFORM := Lib.hid hform
  clear hform
  go_enter Try.func3, Try.ntmps3
  go_wp2_with fail
  refine (szIntSS_any _ _ _ _ _ _ X0_0.out (by omega) (by omega)).mono ?_
  rintro e w1 ⟨rfl, hb⟩
  have B1 := Lib.hid (show Below w.heap.size w w1 from hb.below)
  have X0_1 := Lib.hid (X0_0.out.keep (Keep.quiet hb))
  clear hb 
  go_wp2_with fail
  refine (toIntSS_any _ _ _ _ _ X0_1.out).mono ?_
  rintro e w2 ⟨rfl, hown, hb, -⟩
  have B2 := Lib.hid (below_up B1.out hb)
  have X0_2 := Lib.hid (X0_1.out.keep (Keep.below hb))
  have S0_2 := Lib.hid hown.rows
  clear hown
  clear hb B1 X0_1
  go_wp2_with fail
  refine (HFORM.out ▸ KinByPaths_spec _ _ _ _ _ _ _ S0_2.out K1.out K2.out).mono ?_
  rintro e w3 ⟨rfl, hb⟩
  have B3 := Lib.hid (below_up B2.out hb)
  have X0_3 := Lib.hid (X0_2.out.keep (Keep.below hb))
  have S0_3 := Lib.hid (S0_2.out.keep (Keep.below hb))
  clear hb B2 X0_2 S0_2
  go_wp2_with fail
  have hb := below_alloc w3 (.cells #[.int .i64 U, .int .i64 D] 25)
  have B3a := Lib.hid (below_up B3.out hb)
  have X0_3a := Lib.hid (X0_3.out.keep (Keep.below hb))
  have FS_3a := Lib.hid (blk_new w3 25 #[.int .i64 U, .int .i64 D])
  clear hb B3 X0_3
  generalize w3.alloc (.cells #[.int .i64 U, .int .i64 D] 25) = w3a at *
  refine (toIntSS_any _ _ _ _ _ X0_3a.out).mono ?_
  rintro e w4 ⟨rfl, hown, hb, -⟩
  have B4 := Lib.hid (below_up B3a.out hb)
  have X0_4 := Lib.hid (X0_3a.out.keep (Keep.below hb))
  have FS_4 := Lib.hid (blk_below FS_3a.out hb)
  have G0_4 := Lib.hid hown.rows
  clear hown
  clear hb B3a X0_3a FS_3a
  go_wp2_with fail
  refine (HFORM.out ▸ KinByPaths_impl _ _ _ _ _ _ _ G0_4.out K1.out K2.out).mono ?_
  rintro e w5 ⟨rfl, hb⟩
  have B5 := Lib.hid (below_up B4.out hb)
  have X0_5 := Lib.hid (X0_4.out.keep (Keep.below hb))
  have FS_5 := Lib.hid (blk_below FS_4.out hb)
  have G0_5 := Lib.hid (G0_4.out.keep (Keep.below hb))
  clear hb B4 X0_4 FS_4 G0_4
  have q0 := blk_cell (blk_old FS_5.out (.cells #[.int .i64 U, .int .i64 D] 25)) (i := 0) (v := .int .i64 U) rfl
  have q1 := blk_cell (blk_old FS_5.out (.cells #[.int .i64 U, .int .i64 D] 25)) (i := 1) (v := .int .i64 D) rfl
  go_wp2_with fail
  have hb := below_alloc w5 (.cells #[.int .i64 U, .int .i64 D] 25)
  have B5a := Lib.hid (below_up B5.out hb)
  have X0_5a := Lib.hid (X0_5.out.keep (Keep.below hb))
  have FS_5a := Lib.hid (blk_below FS_5.out hb)
  have G0_5a := Lib.hid (G0_5.out.keep (Keep.below hb))
  have FG_5a := Lib.hid (blk_new w5 25 #[.int .i64 U, .int .i64 D])
  clear hb B5 X0_5 FS_5 G0_5
  generalize w5.alloc (.cells #[.int .i64 U, .int .i64 D] 25) = w5a at *
  refine (eqFrac_self (.agg #[.int .i64 U, .int .i64 D]) _ ⟨U, D, rfl⟩).mono ?_
  rintro e w6 ⟨rfl, hb⟩
  have B6 := Lib.hid (below_up B5a.out hb)
  have X0_6 := Lib.hid (X0_5a.out.keep (Keep.below hb))
  have FS_6 := Lib.hid (blk_below FS_5a.out hb)
  have G0_6 := Lib.hid (G0_5a.out.keep (Keep.below hb))
  have FG_6 := Lib.hid (blk_below FG_5a.out hb)
  clear q0 q1
  clear hb B5a X0_5a FS_5a G0_5a FG_5a
  go_wp2_with fail
  refine (toIntSS_any _ _ _ _ _ X0_6.out).mono ?_
  rintro e w7 ⟨rfl, hown, hb, -⟩
  have B7 := Lib.hid (below_up B6.out hb)
  have X0_7 := Lib.hid (X0_6.out.keep (Keep.below hb))
  have G0_7 := Lib.hid (G0_6.out.keep (Keep.below hb))
  have C0_7 := Lib.hid hown.rows
  clear hown
  clear hb B6 X0_6 G0_6
  have heq := Lib.hid (show eqRR a0 a0 = true by simp [eqRR])
  go_wp2_with fail
  refine (heq.out ▸ eqIntSS_any _ _ _ _ _ _ _ _ _ G0_7.out C0_7.out).mono ?_
  rintro e w8 ⟨rfl, hb⟩
  have B8 := Lib.hid (below_up B7.out hb.below)
  have X0_8 := Lib.hid (X0_7.out.keep (Keep.quiet hb))
  have G0_8 := Lib.hid (G0_7.out.keep (Keep.quiet hb))
  have C0_8 := Lib.hid (C0_7.out.keep (Keep.quiet hb))
  clear heq
  clear hb B7 X0_7 G0_7 C0_7
  go_wp2
  go_ret
  exact ⟨rfl, B8.out⟩

set_option maxRecDepth 100000 in
theorem hFnExactKinByPaths_lifted (os : Os) (started : os.Started) (H : Type) (enc : TypeId × Value → H) :
    ReturnsInHanded {} Try.checked os 3 .any (Rows.fnExactKinByPathsSpec.pre6 enc Try.prog Try.f3 Rows.fnExactKinByPathsRow.domain false) (Rows.fnExactKinByPathsSpec.post enc Try.prog Try.f3 false true false false) := by
  refine returnsInHanded_of_change_sized (C := Try.checked) Try.own started (by kernel_rfl) Try.func3
    (ChangeSpec.witness6 (enc := enc) (C := Try.checked) false ⟨#[], #[.slice none 0 0, .int .i64 0, .int .i64 0], []⟩ 8 (by kernel_rfl) (by kernel_rfl) (by kernel_rfl) (by kernel_rfl)) ?_
  intro W base args ds gs before hval0 hW _ hwt _
  have hval : ∀ (j : Nat) t v, Try.f3.params[j]? = some t → args[j]? = some v → Value.okWide Try.prog W .any base t v := hval0
  have hA : ∃ p, DataW.TrodAll enc Try.prog W 0 (fun _ => true) true Try.f3.params.toList args.toList ds p := by obtain ⟨p, q, hA0, _⟩ := hW; exact ⟨p, hA0⟩
  obtain ⟨p, hA⟩ := hA
  have hwt0 := weights_arg hwt (j := 0) (t := 22) (by rw [Try.params3]; rfl) (d := ds.getD 0 .nil)
  rw [Try.params3] at hA hval
  obtain ⟨v0, v1, v2, d0, d1, d2, p0, p1, p2, rfl, rfl, rfl, h0, h1, h2⟩ := trodAll_three hA
  obtain ⟨A0, n0, c0, a0, rfl, hx0⟩ := open_rows (hval 0 22 v0 rfl rfl) h0 (hwt0 rfl)
  obtain ⟨k1, rfl, hk1⟩ := open_num (hval 1 3 v1 rfl rfl) h1
  obtain ⟨k2, rfl, hk2⟩ := open_num (hval 2 3 v2 rfl rfl) h2
  refine (exKinByPaths_calls A0 n0 c0 a0 k1 k2 W hx0 hk1 hk2).mono fun e W' ⟨he, hb⟩ => ?_
  subst he
  exact ⟨_, rfl, law_post (F := Try.f3) rfl rfl (by rw [Try.params3]; intro t ht; simp only [List.mem_cons, List.not_mem_nil, or_false] at ht; rcases ht with rfl | rfl | rfl <;> exact ⟨by kernel_rfl, of_decide_eq_true (by kernel_rfl)⟩) hW (fun h => by subst h; rfl) hb⟩

theorem hFnExactKinByPaths_holds : Rows.FnExactKinByPathsSaid :=
  OpenClaim.holds_of_wide 3 Try.f3 rfl rfl rfl rfl rfl rfl rfl ⟨rfl, rfl, rfl, rfl, rfl⟩ rfl rfl rfl rfl rfl (by kernel_rfl) Try.func3
    (by unfold joinedFacts; simp only [Bool.and_eq_true]; (repeat' apply And.intro) <;> (first | (with_reducible exact prog_enters) | ((with_reducible refine prog_lifts ?_); rfl) | ((with_reducible refine prog_make ?_); rfl) | kernel_rfl))
    (of_decide_eq_true (by kernel_rfl)) (by unfold Func.isWrapper; first | (rw [if_pos (by decide +kernel)]; kernel_rfl) | (rw [if_neg (by decide +kernel)]; exact ⟨rfl, rfl⟩))
    (fun os started H enc _ => hFnExactKinByPaths_lifted os started H enc)

end Go.Proofs.Ytjmfkodbilknlaa
