/- The law FnExactFixedOnes holds: for every table and every number the program's FixedOnes answers as the model's, and leaves the table as it was. No condition. -/
import Derived.Test.YtgmicblfegjbnaaQ10
namespace Go.Proofs.Ytgmicblfegjbnaa
open Go.ChangeShapes Go.WideShapes Go.ChangeAt Go.RowKit Go.Deep

theorem fo_form (a : List (List Int)) (n : Int) : ∃ U D V E, foP a n = .agg #[.int .i64 U, .int .i64 D] ∧ foQ a n = .agg #[.int .i64 V, .int .i64 E] := by
  unfold foP foQ
  split
  · exact ⟨_, _, _, _, rfl, rfl⟩
  · exact ⟨_, _, _, _, rfl, rfl⟩
set_option maxRecDepth 100000 in
set_option maxHeartbeats 2000000 in
theorem exFixedOnes_calls (A0 : Option Addr) (n0 c0 : Nat) (a0 : List (List Int)) (k1 : Int) (w : World) (hx0 : IntRows w A0 n0 c0 a0) (hk1 : Fit k1) :
    Calls Try.prog 6 #[.slice A0 n0 c0, .int .i64 k1] w fun e w' => e = .returned (.bool true) ∧ Below w.heap.size w w' := by
  have hm0 := hx0.max
  have X_0 := Lib.hid hx0
  clear hx0
  have K1 := Lib.hid hk1
  obtain ⟨k1l, k1h⟩ := hk1
  by_cases hs0 : szRR 1048576 a0 < 0
  · go_enter Try.func6, Try.ntmps6
    go_wp2_with fail
    refine (szIntSS_any _ _ _ _ _ _ X_0.out (by omega) (by omega)).mono ?_
    rintro e w1 ⟨rfl, hq⟩
    go_wp2
    go_ret
    exact ⟨rfl, hq.below⟩
  obtain ⟨U, D, V, E, hf1, hf2⟩ := fo_form a0 k1
  have HFORM := Lib.hid (And.intro hf1 hf2)
  clear hf1 hf2
  have HCS := Lib.hid (fun A n c w h => FixedOnes_spec A n c a0 k1 w h K1.out)
  have HCI := Lib.hid (fun A n c w h => FixedOnes_impl A n c a0 k1 w h K1.out)
  rw [HFORM.out.1, HFORM.out.2] at HCS HCI
  go_enter Try.func6, Try.ntmps6
  go_wp2_with fail
  refine (szIntSS_any _ _ _ _ _ _ X_0.out (by omega) (by omega)).mono ?_
  rintro e w1 ⟨rfl, hb⟩
  replace hb := hb.below (B := w.heap.size)
  have X_1 := Lib.hid (X_0.out.keep (Keep.below hb))
  have B_1 := Lib.hid (show Below w.heap.size w w1 from hb)
  clear hb 
  go_wp2_with fail
  refine (toIntSS_any _ _ _ _ _ X_1.out).mono ?_
  rintro e w2 ⟨rfl, hown, hb, -⟩
  have X_2 := Lib.hid (X_1.out.keep (Keep.below hb))
  have B_2 := Lib.hid (below_up B_1.out hb)
  have S_2 := Lib.hid hown.rows
  clear hown
  clear hb X_1 B_1
  go_wp2_with fail
  refine (HCS.out _ _ _ _ S_2.out).mono ?_
  rintro e w3 ⟨rfl, hb⟩
  have X_3 := Lib.hid (X_2.out.keep (Keep.below hb))
  have S_3 := Lib.hid (S_2.out.keep (Keep.below hb))
  have B_3 := Lib.hid (below_up B_2.out hb)
  clear hb X_2 S_2 B_2
  clear S_3 HCS
  go_wp2_with fail
  have hb := below_up (below_alloc w3 (.cells #[.int .i64 U, .int .i64 D] 31)) (below_alloc (w3.alloc (.cells #[.int .i64 U, .int .i64 D] 31)) (.cells #[.int .i64 V, .int .i64 E] 31))
  have X_3a := Lib.hid (X_3.out.keep (Keep.below hb))
  have B_3a := Lib.hid (below_up B_3.out hb)
  have P_3a := Lib.hid (blk_old (blk_new w3 31 #[.int .i64 U, .int .i64 D]) (.cells #[.int .i64 V, .int .i64 E] 31))
  have Q_3a := Lib.hid (show Blk ((w3.alloc (.cells #[.int .i64 U, .int .i64 D] 31)).alloc (.cells #[.int .i64 V, .int .i64 E] 31)) (w3.heap.size + 1) 31 #[.int .i64 V, .int .i64 E] from by have h := blk_new (w3.alloc (.cells #[.int .i64 U, .int .i64 D] 31)) 31 #[.int .i64 V, .int .i64 E]; rw [World.size_alloc] at h; exact h)
  clear hb X_3 B_3
  generalize (w3.alloc (.cells #[.int .i64 U, .int .i64 D] 31)).alloc (.cells #[.int .i64 V, .int .i64 E] 31) = w3a at *
  refine (toIntSS_any _ _ _ _ _ X_3a.out).mono ?_
  rintro e w4 ⟨rfl, hown, hb, -⟩
  have X_4 := Lib.hid (X_3a.out.keep (Keep.below hb))
  have P_4 := Lib.hid (blk_below P_3a.out hb)
  have Q_4 := Lib.hid (blk_below Q_3a.out hb)
  have B_4 := Lib.hid (below_up B_3a.out hb)
  have G_4 := Lib.hid hown.rows
  clear hown
  clear hb X_3a P_3a Q_3a B_3a
  go_wp2_with fail
  refine (HCI.out _ _ _ _ G_4.out).mono ?_
  rintro e w5 ⟨rfl, hb⟩
  have X_5 := Lib.hid (X_4.out.keep (Keep.below hb))
  have P_5 := Lib.hid (blk_below P_4.out hb)
  have Q_5 := Lib.hid (blk_below Q_4.out hb)
  have G_5 := Lib.hid (G_4.out.keep (Keep.below hb))
  have B_5 := Lib.hid (below_up B_4.out hb)
  clear hb X_4 P_4 Q_4 G_4 B_4
  have q0 := blk_cell (blk_old (blk_old P_5.out (.cells #[.int .i64 U, .int .i64 D] 31)) (.cells #[.int .i64 V, .int .i64 E] 31)) (i := 0) (v := .int .i64 U) rfl
  have q1 := blk_cell (blk_old (blk_old P_5.out (.cells #[.int .i64 U, .int .i64 D] 31)) (.cells #[.int .i64 V, .int .i64 E] 31)) (i := 1) (v := .int .i64 D) rfl
  go_wp2_with fail
  have hb := below_up (below_alloc w5 (.cells #[.int .i64 U, .int .i64 D] 31)) (below_alloc (w5.alloc (.cells #[.int .i64 U, .int .i64 D] 31)) (.cells #[.int .i64 V, .int .i64 E] 31))
  have X_5a := Lib.hid (X_5.out.keep (Keep.below hb))
  have P_5a := Lib.hid (blk_below P_5.out hb)
  have Q_5a := Lib.hid (blk_below Q_5.out hb)
  have G_5a := Lib.hid (G_5.out.keep (Keep.below hb))
  have B_5a := Lib.hid (below_up B_5.out hb)
  have H_5a := Lib.hid (blk_old (blk_new w5 31 #[.int .i64 U, .int .i64 D]) (.cells #[.int .i64 V, .int .i64 E] 31))
  have I_5a := Lib.hid (show Blk ((w5.alloc (.cells #[.int .i64 U, .int .i64 D] 31)).alloc (.cells #[.int .i64 V, .int .i64 E] 31)) (w5.heap.size + 1) 31 #[.int .i64 V, .int .i64 E] from by have h := blk_new (w5.alloc (.cells #[.int .i64 U, .int .i64 D] 31)) 31 #[.int .i64 V, .int .i64 E]; rw [World.size_alloc] at h; exact h)
  clear hb X_5 P_5 Q_5 G_5 B_5
  generalize (w5.alloc (.cells #[.int .i64 U, .int .i64 D] 31)).alloc (.cells #[.int .i64 V, .int .i64 E] 31) = w5a at *
  refine (eqFrac_self (.agg #[.int .i64 U, .int .i64 D]) _ ⟨U, D, rfl⟩).mono ?_
  rintro e w6 ⟨rfl, hb⟩
  have X_6 := Lib.hid (X_5a.out.keep (Keep.below hb))
  have P_6 := Lib.hid (blk_below P_5a.out hb)
  have Q_6 := Lib.hid (blk_below Q_5a.out hb)
  have G_6 := Lib.hid (G_5a.out.keep (Keep.below hb))
  have H_6 := Lib.hid (blk_below H_5a.out hb)
  have I_6 := Lib.hid (blk_below I_5a.out hb)
  have B_6 := Lib.hid (below_up B_5a.out hb)
  clear hb X_5a P_5a Q_5a G_5a H_5a I_5a B_5a q0 q1
  have q0 := blk_cell Q_6.out (i := 0) (v := .int .i64 V) rfl
  have q1 := blk_cell Q_6.out (i := 1) (v := .int .i64 E) rfl
  have q2 := blk_cell I_6.out (i := 0) (v := .int .i64 V) rfl
  have q3 := blk_cell I_6.out (i := 1) (v := .int .i64 E) rfl
  go_wp2_with fail
  refine (eqFrac_self (.agg #[.int .i64 V, .int .i64 E]) _ ⟨V, E, rfl⟩).mono ?_
  rintro e w7 ⟨rfl, hb⟩
  have X_7 := Lib.hid (X_6.out.keep (Keep.below hb))
  have P_7 := Lib.hid (blk_below P_6.out hb)
  have Q_7 := Lib.hid (blk_below Q_6.out hb)
  have G_7 := Lib.hid (G_6.out.keep (Keep.below hb))
  have H_7 := Lib.hid (blk_below H_6.out hb)
  have I_7 := Lib.hid (blk_below I_6.out hb)
  have B_7 := Lib.hid (below_up B_6.out hb)
  clear hb X_6 P_6 Q_6 G_6 H_6 I_6 B_6 q0 q1 q2 q3
  clear P_7
  clear Q_7
  clear H_7
  clear I_7
  go_wp2_with fail
  refine (toIntSS_any _ _ _ _ _ X_7.out).mono ?_
  rintro e w8 ⟨rfl, hown, hb, -⟩
  have X_8 := Lib.hid (X_7.out.keep (Keep.below hb))
  have G_8 := Lib.hid (G_7.out.keep (Keep.below hb))
  have B_8 := Lib.hid (below_up B_7.out hb)
  have C_8 := Lib.hid hown.rows
  clear hown
  clear hb X_7 G_7 B_7
  have heq := Lib.hid (show eqRR a0 a0 = true by simp [eqRR])
  go_wp2_with fail
  refine (heq.out ▸ eqIntSS_any _ _ _ _ _ _ _ _ _ G_8.out C_8.out).mono ?_
  rintro e w9 ⟨rfl, hb⟩
  replace hb := hb.below (B := w8.heap.size)
  have X_9 := Lib.hid (X_8.out.keep (Keep.below hb))
  have G_9 := Lib.hid (G_8.out.keep (Keep.below hb))
  have C_9 := Lib.hid (C_8.out.keep (Keep.below hb))
  have B_9 := Lib.hid (below_up B_8.out hb)
  clear hb X_8 G_8 C_8 B_8
  go_wp2
  go_ret
  exact ⟨rfl, B_9.out⟩

set_option maxRecDepth 100000 in
theorem hFnExactFixedOnes_lifted (os : Os) (started : os.Started) (H : Type) (enc : TypeId × Value → H) :
    ReturnsInHanded {} Try.checked os 6 .any (Rows.fnExactFixedOnesSpec.pre6 enc Try.prog Try.f6 Rows.fnExactFixedOnesRow.domain false) (Rows.fnExactFixedOnesSpec.post enc Try.prog Try.f6 false true false false) := by
  refine returnsInHanded_of_change_sized (C := Try.checked) Try.own started (by kernel_rfl) Try.func6
    (ChangeSpec.witness6 (enc := enc) (C := Try.checked) false ⟨#[], #[.slice none 0 0, .int .i64 0], []⟩ 8 (by kernel_rfl) (by kernel_rfl) (by kernel_rfl) (by kernel_rfl)) ?_
  intro W base args ds gs before hval0 hW _ hwt _
  have hval : ∀ (j : Nat) t v, Try.f6.params[j]? = some t → args[j]? = some v → Value.okWide Try.prog W .any base t v := hval0
  have hA : ∃ p, DataW.TrodAll enc Try.prog W 0 (fun _ => true) true Try.f6.params.toList args.toList ds p := by obtain ⟨p, q, hA0, _⟩ := hW; exact ⟨p, hA0⟩
  obtain ⟨p, hA⟩ := hA
  have hwt0 := weights_arg hwt (j := 0) (t := 22) (by rw [Try.params6]; rfl) (d := ds.getD 0 .nil)
  rw [Try.params6] at hA hval
  obtain ⟨v0, v1, d0, d1, p0, p1, rfl, rfl, rfl, h0, h1⟩ := trodAll_two hA
  obtain ⟨A0, n0, c0, a0, rfl, hx0⟩ := open_rows (hval 0 22 v0 rfl rfl) h0 (hwt0 rfl)
  obtain ⟨k1, rfl, hk1⟩ := open_num (hval 1 3 v1 rfl rfl) h1
  refine (exFixedOnes_calls A0 n0 c0 a0 k1 W hx0 hk1).mono fun e W' ⟨he, hb⟩ => ?_
  subst he
  exact ⟨_, rfl, law_post (F := Try.f6) rfl rfl (by rw [Try.params6]; intro t ht; simp only [List.mem_cons, List.not_mem_nil, or_false] at ht; rcases ht with rfl | rfl <;> exact ⟨by kernel_rfl, of_decide_eq_true (by kernel_rfl)⟩) hW (fun h => by subst h; rfl) hb⟩

theorem hFnExactFixedOnes_holds : Rows.FnExactFixedOnesSaid :=
  OpenClaim.holds_of_wide 6 Try.f6 rfl rfl rfl rfl rfl rfl rfl ⟨rfl, rfl, rfl, rfl, rfl⟩ rfl rfl rfl rfl rfl (by kernel_rfl) Try.func6
    (by unfold joinedFacts; simp only [Bool.and_eq_true]; (repeat' apply And.intro) <;> (first | (with_reducible exact prog_enters) | ((with_reducible refine prog_lifts ?_); rfl) | ((with_reducible refine prog_make ?_); rfl) | kernel_rfl))
    (of_decide_eq_true (by kernel_rfl)) (by unfold Func.isWrapper; first | (rw [if_pos (by decide +kernel)]; kernel_rfl) | (rw [if_neg (by decide +kernel)]; exact ⟨rfl, rfl⟩))
    (fun os started H enc _ => hFnExactFixedOnes_lifted os started H enc)

end Go.Proofs.Ytgmicblfegjbnaa
