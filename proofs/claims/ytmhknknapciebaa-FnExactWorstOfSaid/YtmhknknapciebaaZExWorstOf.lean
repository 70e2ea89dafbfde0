/- The law FnExactWorstOf holds: for every table and every []int the program's WorstOf answers as the model's, and leaves the arguments as they were. No condition. -/
import Derived.Test.YtmhknknapciebaaQ4
namespace Go.Proofs.Ytmhknknapciebaa
open Go.ChangeShapes Go.WideShapes Go.ChangeAt Go.RowKit Go.Deep

set_option maxRecDepth 100000 in
set_option maxHeartbeats 2000000 in
theorem exWorstOf_calls (A0 : Option Addr) (n0 c0 : Nat) (a0 : List (List Int)) (A1 : Option Addr) (n1 c1 : Nat) (a1 : List Int) (w : World) (hx0 : IntRows w A0 n0 c0 a0) (hx1 : Ints w A1 n1 c1 a1) :
    Calls Try.prog 4 #[.slice A0 n0 c0, .slice A1 n1 c1] w fun e w' => e = .returned (.bool true) ∧ Below w.heap.size w w' := by
  have hm0 := hx0.max
  have X0_0 := Lib.hid hx0
  clear hx0
  have hm1 := hx1.max
  have X1_0 := Lib.hid hx1
  clear hx1
  by_cases hs1 : 1048576 < n1
  · go_enter Try.func4, Try.ntmps4
    go_wp2
    go_ret
    exact ⟨rfl, Below.refl _ _⟩
  by_cases hs0 : szRR 1048576 a0 < 0
  · go_enter Try.func4, Try.ntmps4
    go_wp2_with fail
    refine (szIntSS_any _ _ _ _ _ _ X0_0.out (by omega) (by omega)).mono ?_
    rintro e w1 ⟨rfl, hq⟩
    go_wp2
    go_ret
    exact ⟨rfl, hq.below⟩
  obtain ⟨U, D, hform⟩ := wstV_form (worF a0 a1)
  have HFORM := Lib.hid hform
  clear hform
  go_enter Try.func4, Try.ntmps4
  go_wp2_with fail
  refine (szIntSS_any _ _ _ _ _ _ X0_0.out (by omega) (by omega)).mono ?_
  rintro e w1 ⟨rfl, hb⟩
  have B1 := Lib.hid (show Below w.heap.size w w1 from hb.below)
  have X0_1 := Lib.hid (X0_0.out.keep (Keep.quiet hb))
  have X1_1 := Lib.hid (X1_0.out.keep (Keep.quiet hb))
  clear hb 
  go_wp2_with fail
  refine (toIntSS_any _ _ _ _ _ X0_1.out).mono ?_
  rintro e w2 ⟨rfl, hown, hb, -⟩
  have B2 := Lib.hid (below_up B1.out hb)
  have X0_2 := Lib.hid (X0_1.out.keep (Keep.below hb))
  have X1_2 := Lib.hid (X1_1.out.keep (Keep.below hb))
  have S0_2 := Lib.hid hown.rows
  clear hown
  clear hb B1 X0_1 X1_1
  go_wp2_with fail
  refine (toIntS_any _ _ _ _ _ X1_2.out).mono ?_
  rintro e w3 ⟨rfl, hown, hb, -⟩
  have B3 := Lib.hid (below_up B2.out hb)
  have X0_3 := Lib.hid (X0_2.out.keep (Keep.below hb))
  have X1_3 := Lib.hid (X1_2.out.keep (Keep.below hb))
  have S0_3 := Lib.hid (S0_2.out.keep (Keep.below hb))
  have S1_3 := Lib.hid hown.ints
  clear hown
  clear hb B2 X0_2 X1_2 S0_2
  go_wp2_with fail
  refine (HFORM.out ▸ WorstOf_spec _ _ _ _ _ _ _ _ _ S0_3.out S1_3.out).mono ?_
  rintro e w4 ⟨rfl, hb⟩
  have B4 := Lib.hid (below_up B3.out hb)
  have X0_4 := Lib.hid (X0_3.out.keep (Keep.below hb))
  have X1_4 := Lib.hid (X1_3.out.keep (Keep.below hb))
  have S0_4 := Lib.hid (S0_3.out.keep (Keep.below hb))
  have S1_4 := Lib.hid (S1_3.out.keep (Keep.below hb))
  clear hb B3 X0_3 X1_3 S0_3 S1_3
  go_wp2_with fail
  have hb := below_alloc w4 (.cells #[.int .i64 U, .int .i64 D] 26)
  have B4a := Lib.hid (below_up B4.out hb)
  have X0_4a := Lib.hid (X0_4.out.keep (Keep.below hb))
  have X1_4a := Lib.hid (X1_4.out.keep (Keep.below hb))
  have FS_4a := Lib.hid (blk_new w4 26 #[.int .i64 U, .int .i64 D])
  clear hb B4 X0_4 X1_4
  generalize w4.alloc (.cells #[.int .i64 U, .int .i64 D] 26) = w4a at *
  refine (toIntSS_any _ _ _ _ _ X0_4a.out).mono ?_
  rintro e w5 ⟨rfl, hown, hb, -⟩
  have B5 := Lib.hid (below_up B4a.out hb)
  have X0_5 := Lib.hid (X0_4a.out.keep (Keep.below hb))
  have X1_5 := Lib.hid (X1_4a.out.keep (Keep.below hb))
  have FS_5 := Lib.hid (blk_below FS_4a.out hb)
  have G0_5 := Lib.hid hown.rows
  clear hown
  clear hb B4a X0_4a X1_4a FS_4a
  go_wp2_with fail
  refine (toIntS_any _ _ _ _ _ X1_5.out).mono ?_
  rintro e w6 ⟨rfl, hown, hb, -⟩
  have B6 := Lib.hid (below_up B5.out hb)
  have X0_6 := Lib.hid (X0_5.out.keep (Keep.below hb))
  have X1_6 := Lib.hid (X1_5.out.keep (Keep.below hb))
  have FS_6 := Lib.hid (blk_below FS_5.out hb)
  have G0_6 := Lib.hid (G0_5.out.keep (Keep.below hb))
  have G1_6 := Lib.hid hown.ints
  clear hown
  clear hb B5 X0_5 X1_5 FS_5 G0_5
  go_wp2_with fail
  refine (HFORM.out ▸ WorstOf_impl _ _ _ _ _ _ _ _ _ G0_6.out G1_6.out).mono ?_
  rintro e w7 ⟨rfl, hb⟩
  have B7 := Lib.hid (below_up B6.out hb)
  have X0_7 := Lib.hid (X0_6.out.keep (Keep.below hb))
  have X1_7 := Lib.hid (X1_6.out.keep (Keep.below hb))
  have FS_7 := Lib.hid (blk_below FS_6.out hb)
  have G0_7 := Lib.hid (G0_6.out.keep (Keep.below hb))
  have G1_7 := Lib.hid (G1_6.out.keep (Keep.below hb))
  clear hb B6 X0_6 X1_6 FS_6 G0_6 G1_6
  have q0 := blk_cell (blk_old FS_7.out (.cells #[.int .i64 U, .int .i64 D] 26)) (i := 0) (v := .int .i64 U) rfl
  have q1 := blk_cell (blk_old FS_7.out (.cells #[.int .i64 U, .int .i64 D] 26)) (i := 1) (v := .int .i64 D) rfl
  go_wp2_with fail
  have hb := below_alloc w7 (.cells #[.int .i64 U, .int .i64 D] 26)
  have B7a := Lib.hid (below_up B7.out hb)
  have X0_7a := Lib.hid (X0_7.out.keep (Keep.below hb))
  have X1_7a := Lib.hid (X1_7.out.keep (Keep.below hb))
  have FS_7a := Lib.hid (blk_below FS_7.out hb)
  have G0_7a := Lib.hid (G0_7.out.keep (Keep.below hb))
  have G1_7a := Lib.hid (G1_7.out.keep (Keep.below hb))
  have FG_7a := Lib.hid (blk_new w7 26 #[.int .i64 U, .int .i64 D])
  clear hb B7 X0_7 X1_7 FS_7 G0_7 G1_7
  generalize w7.alloc (.cells #[.int .i64 U, .int .i64 D] 26) = w7a at *
  refine (eqFrac_self (.agg #[.int .i64 U, .int .i64 D]) _ ⟨U, D, rfl⟩).mono ?_
  rintro e w8 ⟨rfl, hb⟩
  have B8 := Lib.hid (below_up B7a.out hb)
  have X0_8 := Lib.hid (X0_7a.out.keep (Keep.below hb))
  have X1_8 := Lib.hid (X1_7a.out.keep (Keep.below hb))
  have FS_8 := Lib.hid (blk_below FS_7a.out hb)
  have G0_8 := Lib.hid (G0_7a.out.keep (Keep.below hb))
  have G1_8 := Lib.hid (G1_7a.out.keep (Keep.below hb))
  have FG_8 := Lib.hid (blk_below FG_7a.out hb)
  clear q0 q1
  clear hb B7a X0_7a X1_7a FS_7a G0_7a G1_7a FG_7a
  go_wp2_with fail
  refine (toIntSS_any _ _ _ _ _ X0_8.out).mono ?_
  rintro e w9 ⟨rfl, hown, hb, -⟩
  have B9 := Lib.hid (below_up B8.out hb)
  have X0_9 := Lib.hid (X0_8.out.keep (Keep.below hb))
  have X1_9 := Lib.hid (X1_8.out.keep (Keep.below hb))
  have G0_9 := Lib.hid (G0_8.out.keep (Keep.below hb))
  have G1_9 := Lib.hid (G1_8.out.keep (Keep.below hb))
  have C0_9 := Lib.hid hown.rows
  clear hown
  clear hb B8 X0_8 X1_8 G0_8 G1_8
  have heq := Lib.hid (show eqRR a0 a0 = true by simp [eqRR])
  go_wp2_with fail
  refine (heq.out ▸ eqIntSS_any _ _ _ _ _ _ _ _ _ G0_9.out C0_9.out).mono ?_
  rintro e w10 ⟨rfl, hb⟩
  have B10 := Lib.hid (below_up B9.out hb.below)
  have X0_10 := Lib.hid (X0_9.out.keep (Keep.quiet hb))
  have X1_10 := Lib.hid (X1_9.out.keep (Keep.quiet hb))
  have G0_10 := Lib.hid (G0_9.out.keep (Keep.quiet hb))
  have G1_10 := Lib.hid (G1_9.out.keep (Keep.quiet hb))
  have C0_10 := Lib.hid (C0_9.out.keep (Keep.quiet hb))
  clear heq
  clear hb B9 X0_9 X1_9 G0_9 G1_9 C0_9
  go_wp2_with fail
  refine (toIntS_any _ _ _ _ _ X1_10.out).mono ?_
  rintro e w11 ⟨rfl, hown, hb, -⟩
  have B11 := Lib.hid (below_up B10.out hb)
  have X0_11 := Lib.hid (X0_10.out.keep (Keep.below hb))
  have X1_11 := Lib.hid (X1_10.out.keep (Keep.below hb))
  have G1_11 := Lib.hid (G1_10.out.keep (Keep.below hb))
  have C1_11 := Lib.hid hown.ints
  clear hown
  clear hb B10 X0_10 X1_10 G1_10
  have heq := Lib.hid (show eqI a1 a1 = true by simp [eqI])
  go_wp2_with fail
  refine (heq.out ▸ eqIntS_any _ _ _ _ _ _ _ _ _ G1_11.out C1_11.out).mono ?_
  rintro e w12 ⟨rfl, hb⟩
  have B12 := Lib.hid (below_up B11.out hb.below)
  have X0_12 := Lib.hid (X0_11.out.keep (Keep.quiet hb))
  have X1_12 := Lib.hid (X1_11.out.keep (Keep.quiet hb))
  have G1_12 := Lib.hid (G1_11.out.keep (Keep.quiet hb))
  have C1_12 := Lib.hid (C1_11.out.keep (Keep.quiet hb))
  clear heq
  clear hb B11 X0_11 X1_11 G1_11 C1_11
  go_wp2
  go_ret
  exact ⟨rfl, B12.out⟩

set_option maxRecDepth 100000 in
theorem hFnExactWorstOf_lifted (os : Os) (started : os.Started) (H : Type) (enc : TypeId × Value → H) :
    ReturnsInHanded {} Try.checked os 4 .any (Rows.fnExactWorstOfSpec.pre6 enc Try.prog Try.f4 Rows.fnExactWorstOfRow.domain false) (Rows.fnExactWorstOfSpec.post enc Try.prog Try.f4 false true false false) := by
  refine returnsInHanded_of_change_sized (C := Try.checked) Try.own started (by kernel_rfl) Try.func4
    (ChangeSpec.witness6 (enc := enc) (C := Try.checked) false ⟨#[], #[.slice none 0 0, .slice none 0 0], []⟩ 8 (by kernel_rfl) (by kernel_rfl) (by kernel_rfl) (by kernel_rfl)) ?_
  intro W base args ds gs before hval0 hW _ hwt _
  have hval : ∀ (j : Nat) t v, Try.f4.params[j]? = some t → args[j]? = some v → Value.okWide Try.prog W .any base t v := hval0
  have hA : ∃ p, DataW.TrodAll enc Try.prog W 0 (fun _ => true) true Try.f4.params.toList args.toList ds p := by obtain ⟨p, q, hA0, _⟩ := hW; exact ⟨p, hA0⟩
  obtain ⟨p, hA⟩ := hA
  have hwt0 := weights_arg hwt (j := 0) (t := 22) (by rw [Try.params4]; rfl) (d := ds.getD 0 .nil)
  have hwt1 := weights_arg hwt (j := 1) (t := 23) (by rw [Try.params4]; rfl) (d := ds.getD 1 .nil)
  rw [Try.params4] at hA hval
  obtain ⟨v0, v1, d0, d1, p0, p1, rfl, rfl, rfl, h0, h1⟩ := trodAll_two hA
  obtain ⟨A0, n0, c0, a0, rfl, hx0⟩ := open_rows (hval 0 22 v0 rfl rfl) h0 (hwt0 rfl)
  obtain ⟨A1, n1, c1, a1, rfl, hx1⟩ := open_intS (hval 1 23 v1 rfl rfl) h1 (hwt1 rfl)
  refine (exWorstOf_calls A0 n0 c0 a0 A1 n1 c1 a1 W hx0 hx1).mono fun e W' ⟨he, hb⟩ => ?_
  subst he
  exact ⟨_, rfl, law_post (F := Try.f4) rfl rfl (by rw [Try.params4]; intro t ht; simp only [List.mem_cons, List.not_mem_nil, or_false] at ht; rcases ht with rfl | rfl <;> exact ⟨by kernel_rfl, of_decide_eq_true (by kernel_rfl)⟩) hW (fun h => by subst h; rfl) hb⟩

theorem hFnExactWorstOf_holds : Rows.FnExactWorstOfSaid :=
  OpenClaim.holds_of_wide 4 Try.f4 rfl rfl rfl rfl rfl rfl rfl ⟨rfl, rfl, rfl, rfl, rfl⟩ rfl rfl rfl rfl rfl (by kernel_rfl) Try.func4
    (by unfold joinedFacts; simp only [Bool.and_eq_true]; (repeat' apply And.intro) <;> (first | (with_reducible exact prog_enters) | ((with_reducible refine prog_lifts ?_); rfl) | ((with_reducible refine prog_make ?_); rfl) | kernel_rfl))
    (of_decide_eq_true (by kernel_rfl)) (by unfold Func.isWrapper; first | (rw [if_pos (by decide +kernel)]; kernel_rfl) | (rw [if_neg (by decide +kernel)]; exact ⟨rfl, rfl⟩))
    (fun os started H enc _ => hFnExactWorstOf_lifted os started H enc)

end Go.Proofs.Ytmhknknapciebaa
