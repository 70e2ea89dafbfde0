/- The law FnExactAreBest holds: for every table and two []int the program's AreBest answers as the model's, and leaves the arguments as they were. No condition. -/
import Derived.Test.YtmhknknapciebaaQ5
namespace Go.Proofs.Ytmhknknapciebaa
open Go.ChangeShapes Go.WideShapes Go.ChangeAt Go.RowKit Go.Deep

set_option maxRecDepth 100000 in
set_option maxHeartbeats 2000000 in
theorem exAreBest_calls (A0 : Option Addr) (n0 c0 : Nat) (a0 : List (List Int)) (A1 : Option Addr) (n1 c1 : Nat) (a1 : List Int) (A2 : Option Addr) (n2 c2 : Nat) (a2 : List Int) (w : World) (hx0 : IntRows w A0 n0 c0 a0) (hx1 : Ints w A1 n1 c1 a1) (hx2 : Ints w A2 n2 c2 a2) :
    Calls Try.prog 5 #[.slice A0 n0 c0, .slice A1 n1 c1, .slice A2 n2 c2] w fun e w' => e = .returned (.bool true) ∧ Below w.heap.size w w' := by
  have hm0 := hx0.max
  have X0_0 := Lib.hid hx0
  clear hx0
  have hm1 := hx1.max
  have X1_0 := Lib.hid hx1
  clear hx1
  have hm2 := hx2.max
  have X2_0 := Lib.hid hx2
  clear hx2
  by_cases hs1 : 1048576 < n1
  · go_enter Try.func5, Try.ntmps5
    go_wp2
    go_ret
    exact ⟨rfl, Below.refl _ _⟩
  by_cases hs2 : 1048576 < n2
  · go_enter Try.func5, Try.ntmps5
    go_wp2
    go_ret
    exact ⟨rfl, Below.refl _ _⟩
  by_cases hs0 : szRR 1048576 a0 < 0
  · go_enter Try.func5, Try.ntmps5
    go_wp2_with fail
    refine (szIntSS_any _ _ _ _ _ _ X0_0.out (by omega) (by omega)).mono ?_
    rintro e w1 ⟨rfl, hq⟩
    go_wp2
    go_ret
    exact ⟨rfl, hq.below⟩
  go_enter Try.func5, Try.ntmps5
  go_wp2_with fail
  refine (szIntSS_any _ _ _ _ _ _ X0_0.out (by omega) (by omega)).mono ?_
  rintro e w1 ⟨rfl, hb⟩
  have B1 := Lib.hid (show Below w.heap.size w w1 from hb.below)
  have X0_1 := Lib.hid (X0_0.out.keep (Keep.quiet hb))
  have X1_1 := Lib.hid (X1_0.out.keep (Keep.quiet hb))
  have X2_1 := Lib.hid (X2_0.out.keep (Keep.quiet hb))
  clear hb 
  go_wp2_with fail
  refine (toIntSS_any _ _ _ _ _ X0_1.out).mono ?_
  rintro e w2 ⟨rfl, hown, hb, -⟩
  have B2 := Lib.hid (below_up B1.out hb)
  have X0_2 := Lib.hid (X0_1.out.keep (Keep.below hb))
  have X1_2 := Lib.hid (X1_1.out.keep (Keep.below hb))
  have X2_2 := Lib.hid (X2_1.out.keep (Keep.below hb))
  have S0_2 := Lib.hid hown.rows
  clear hown
  clear hb B1 X0_1 X1_1 X2_1
  go_wp2_with fail
  refine (toIntS_any _ _ _ _ _ X1_2.out).mono ?_
  rintro e w3 ⟨rfl, hown, hb, -⟩
  have B3 := Lib.hid (below_up B2.out hb)
  have X0_3 := Lib.hid (X0_2.out.keep (Keep.below hb))
  have X1_3 := Lib.hid (X1_2.out.keep (Keep.below hb))
  have X2_3 := Lib.hid (X2_2.out.keep (Keep.below hb))
  have S0_3 := Lib.hid (S0_2.out.keep (Keep.below hb))
  have S1_3 := Lib.hid hown.ints
  clear hown
  clear hb B2 X0_2 X1_2 X2_2 S0_2
  go_wp2_with fail
  refine (toIntS_any _ _ _ _ _ X2_3.out).mono ?_
  rintro e w4 ⟨rfl, hown, hb, -⟩
  have B4 := Lib.hid (below_up B3.out hb)
  have X0_4 := Lib.hid (X0_3.out.keep (Keep.below hb))
  have X1_4 := Lib.hid (X1_3.out.keep (Keep.below hb))
  have X2_4 := Lib.hid (X2_3.out.keep (Keep.below hb))
  have S0_4 := Lib.hid (S0_3.out.keep (Keep.below hb))
  have S1_4 := Lib.hid (S1_3.out.keep (Keep.below hb))
  have S2_4 := Lib.hid hown.ints
  clear hown
  clear hb B3 X0_3 X1_3 X2_3 S0_3 S1_3
  go_wp2_with fail
  refine (AreBest_spec _ _ _ _ _ _ _ _ _ _ _ _ _ S0_4.out S1_4.out S2_4.out).mono ?_
  rintro e w5 ⟨rfl, hb⟩
  have B5 := Lib.hid (below_up B4.out hb)
  have X0_5 := Lib.hid (X0_4.out.keep (Keep.below hb))
  have X1_5 := Lib.hid (X1_4.out.keep (Keep.below hb))
  have X2_5 := Lib.hid (X2_4.out.keep (Keep.below hb))
  have S0_5 := Lib.hid (S0_4.out.keep (Keep.below hb))
  have S1_5 := Lib.hid (S1_4.out.keep (Keep.below hb))
  have S2_5 := Lib.hid (S2_4.out.keep (Keep.below hb))
  clear hb B4 X0_4 X1_4 X2_4 S0_4 S1_4 S2_4
  go_wp2_with fail
  refine (toIntSS_any _ _ _ _ _ X0_5.out).mono ?_
  rintro e w6 ⟨rfl, hown, hb, -⟩
  have B6 := Lib.hid (below_up B5.out hb)
  have X0_6 := Lib.hid (X0_5.out.keep (Keep.below hb))
  have X1_6 := Lib.hid (X1_5.out.keep (Keep.below hb))
  have X2_6 := Lib.hid (X2_5.out.keep (Keep.below hb))
  have G0_6 := Lib.hid hown.rows
  clear hown
  clear hb B5 X0_5 X1_5 X2_5
  go_wp2_with fail
  refine (toIntS_any _ _ _ _ _ X1_6.out).mono ?_
  rintro e w7 ⟨rfl, hown, hb, -⟩
  have B7 := Lib.hid (below_up B6.out hb)
  have X0_7 := Lib.hid (X0_6.out.keep (Keep.below hb))
  have X1_7 := Lib.hid (X1_6.out.keep (Keep.below hb))
  have X2_7 := Lib.hid (X2_6.out.keep (Keep.below hb))
  have G0_7 := Lib.hid (G0_6.out.keep (Keep.below hb))
  have G1_7 := Lib.hid hown.ints
  clear hown
  clear hb B6 X0_6 X1_6 X2_6 G0_6
  go_wp2_with fail
  refine (toIntS_any _ _ _ _ _ X2_7.out).mono ?_
  rintro e w8 ⟨rfl, hown, hb, -⟩
  have B8 := Lib.hid (below_up B7.out hb)
  have X0_8 := Lib.hid (X0_7.out.keep (Keep.below hb))
  have X1_8 := Lib.hid (X1_7.out.keep (Keep.below hb))
  have X2_8 := Lib.hid (X2_7.out.keep (Keep.below hb))
  have G0_8 := Lib.hid (G0_7.out.keep (Keep.below hb))
  have G1_8 := Lib.hid (G1_7.out.keep (Keep.below hb))
  have G2_8 := Lib.hid hown.ints
  clear hown
  clear hb B7 X0_7 X1_7 X2_7 G0_7 G1_7
  go_wp2_with fail
  refine (AreBest_impl _ _ _ _ _ _ _ _ _ _ _ _ _ G0_8.out G1_8.out G2_8.out).mono ?_
  rintro e w9 ⟨rfl, hb⟩
  have B9 := Lib.hid (below_up B8.out hb)
  have X0_9 := Lib.hid (X0_8.out.keep (Keep.below hb))
  have X1_9 := Lib.hid (X1_8.out.keep (Keep.below hb))
  have X2_9 := Lib.hid (X2_8.out.keep (Keep.below hb))
  have G0_9 := Lib.hid (G0_8.out.keep (Keep.below hb))
  have G1_9 := Lib.hid (G1_8.out.keep (Keep.below hb))
  have G2_9 := Lib.hid (G2_8.out.keep (Keep.below hb))
  clear hb B8 X0_8 X1_8 X2_8 G0_8 G1_8 G2_8
  go_wp2_with fail
  refine (toIntSS_any _ _ _ _ _ X0_9.out).mono ?_
  rintro e w10 ⟨rfl, hown, hb, -⟩
  have B10 := Lib.hid (below_up B9.out hb)
  have X0_10 := Lib.hid (X0_9.out.keep (Keep.below hb))
  have X1_10 := Lib.hid (X1_9.out.keep (Keep.below hb))
  have X2_10 := Lib.hid (X2_9.out.keep (Keep.below hb))
  have G0_10 := Lib.hid (G0_9.out.keep (Keep.below hb))
  have G1_10 := Lib.hid (G1_9.out.keep (Keep.below hb))
  have G2_10 := Lib.hid (G2_9.out.keep (Keep.below hb))
  have C0_10 := Lib.hid hown.rows
  clear hown
  clear hb B9 X0_9 X1_9 X2_9 G0_9 G1_9 G2_9
  have heq := Lib.hid (show eqRR a0 a0 = true by simp [eqRR])
  go_wp2_with fail
  refine (heq.out ▸ eqIntSS_any _ _ _ _ _ _ _ _ _ G0_10.out C0_10.out).mono ?_
  rintro e w11 ⟨rfl, hb⟩
  have B11 := Lib.hid (below_up B10.out hb.below)
  have X0_11 := Lib.hid (X0_10.out.keep (Keep.quiet hb))
  have X1_11 := Lib.hid (X1_10.out.keep (Keep.quiet hb))
  have X2_11 := Lib.hid (X2_10.out.keep (Keep.quiet hb))
  have G0_11 := Lib.hid (G0_10.out.keep (Keep.quiet hb))
  have G1_11 := Lib.hid (G1_10.out.keep (Keep.quiet hb))
  have G2_11 := Lib.hid (G2_10.out.keep (Keep.quiet hb))
  have C0_11 := Lib.hid (C0_10.out.keep (Keep.quiet hb))
  clear heq
  clear hb B10 X0_10 X1_10 X2_10 G0_10 G1_10 G2_10 C0_10
  go_wp2_with fail
  refine (toIntS_any _ _ _ _ _ X1_11.out).mono ?_
  rintro e w12 ⟨rfl, hown, hb, -⟩
  have B12 := Lib.hid (below_up B11.out hb)
  have X0_12 := Lib.hid (X0_11.out.keep (Keep.below hb))
  have X1_12 := Lib.hid (X1_11.out.keep (Keep.below hb))
  have X2_12 := Lib.hid (X2_11.out.keep (Keep.below hb))
  have G1_12 := Lib.hid (G1_11.out.keep (Keep.below hb))
  have G2_12 := Lib.hid (G2_11.out.keep (Keep.below hb))
  have C1_12 := Lib.hid hown.ints
  clear hown
  clear hb B11 X0_11 X1_11 X2_11 G1_11 G2_11
  have heq := Lib.hid (show eqI a1 a1 = true by simp [eqI])
  go_wp2_with fail
  refine (heq.out ▸ eqIntS_any _ _ _ _ _ _ _ _ _ G1_12.out C1_12.out).mono ?_
  rintro e w13 ⟨rfl, hb⟩
  have B13 := Lib.hid (below_up B12.out hb.below)
  have X0_13 := Lib.hid (X0_12.out.keep (Keep.quiet hb))
  have X1_13 := Lib.hid (X1_12.out.keep (Keep.quiet hb))
  have X2_13 := Lib.hid (X2_12.out.keep (Keep.quiet hb))
  have G1_13 := Lib.hid (G1_12.out.keep (Keep.quiet hb))
  have G2_13 := Lib.hid (G2_12.out.keep (Keep.quiet hb))
  have C1_13 := Lib.hid (C1_12.out.keep (Keep.quiet hb))
  clear heq
  clear hb B12 X0_12 X1_12 X2_12 G1_12 G2_12 C1_12
  go_wp2_with fail
  refine (toIntS_any _ _ _ _ _ X2_13.out).mono ?_
  rintro e w14 ⟨rfl, hown, hb, -⟩
  have B14 := Lib.hid (below_up B13.out hb)
  have X0_14 := Lib.hid (X0_13.out.keep (Keep.below hb))
  have X1_14 := Lib.hid (X1_13.out.keep (Keep.below hb))
  have X2_14 := Lib.hid (X2_13.out.keep (Keep.below hb))
  have G2_14 := Lib.hid (G2_13.out.keep (Keep.below hb))
  have C2_14 := Lib.hid hown.ints
  clear hown
  clear hb B13 X0_13 X1_13 X2_13 G2_13
  have heq := Lib.hid (show eqI a2 a2 = true by simp [eqI])
  go_wp2_with fail
  refine (heq.out ▸ eqIntS_any _ _ _ _ _ _ _ _ _ G2_14.out C2_14.out).mono ?_
  rintro e w15 ⟨rfl, hb⟩
  have B15 := Lib.hid (below_up B14.out hb.below)
  have X0_15 := Lib.hid (X0_14.out.keep (Keep.quiet hb))
  have X1_15 := Lib.hid (X1_14.out.keep (Keep.quiet hb))
  have X2_15 := Lib.hid (X2_14.out.keep (Keep.quiet hb))
  have G2_15 := Lib.hid (G2_14.out.keep (Keep.quiet hb))
  have C2_15 := Lib.hid (C2_14.out.keep (Keep.quiet hb))
  clear heq
  clear hb B14 X0_14 X1_14 X2_14 G2_14 C2_14
  go_wp2
  go_ret
  exact ⟨rfl, B15.out⟩

set_option maxRecDepth 100000 in
theorem hFnExactAreBest_lifted (os : Os) (started : os.Started) (H : Type) (enc : TypeId × Value → H) :
    ReturnsInHanded {} Try.checked os 5 .any (Rows.fnExactAreBestSpec.pre6 enc Try.prog Try.f5 Rows.fnExactAreBestRow.domain false) (Rows.fnExactAreBestSpec.post enc Try.prog Try.f5 false true false false) := by
  refine returnsInHanded_of_change_sized (C := Try.checked) Try.own started (by kernel_rfl) Try.func5
    (ChangeSpec.witness6 (enc := enc) (C := Try.checked) false ⟨#[], #[.slice none 0 0, .slice none 0 0, .slice none 0 0], []⟩ 8 (by kernel_rfl) (by kernel_rfl) (by kernel_rfl) (by kernel_rfl)) ?_
  intro W base args ds gs before hval0 hW _ hwt _
  have hval : ∀ (j : Nat) t v, Try.f5.params[j]? = some t → args[j]? = some v → Value.okWide Try.prog W .any base t v := hval0
  have hA : ∃ p, DataW.TrodAll enc Try.prog W 0 (fun _ => true) true Try.f5.params.toList args.toList ds p := by obtain ⟨p, q, hA0, _⟩ := hW; exact ⟨p, hA0⟩
  obtain ⟨p, hA⟩ := hA
  have hwt0 := weights_arg hwt (j := 0) (t := 22) (by rw [Try.params5]; rfl) (d := ds.getD 0 .nil)
  have hwt1 := weights_arg hwt (j := 1) (t := 23) (by rw [Try.params5]; rfl) (d := ds.getD 1 .nil)
  have hwt2 := weights_arg hwt (j := 2) (t := 23) (by rw [Try.params5]; rfl) (d := ds.getD 2 .nil)
  rw [Try.params5] at hA hval
  obtain ⟨v0, v1, v2, d0, d1, d2, p0, p1, p2, rfl, rfl, rfl, h0, h1, h2⟩ := trodAll_three hA
  obtain ⟨A0, n0, c0, a0, rfl, hx0⟩ := open_rows (hval 0 22 v0 rfl rfl) h0 (hwt0 rfl)
  obtain ⟨A1, n1, c1, a1, rfl, hx1⟩ := open_intS (hval 1 23 v1 rfl rfl) h1 (hwt1 rfl)
  obtain ⟨A2, n2, c2, a2, rfl, hx2⟩ := open_intS (hval 2 23 v2 rfl rfl) h2 (hwt2 rfl)
  refine (exAreBest_calls A0 n0 c0 a0 A1 n1 c1 a1 A2 n2 c2 a2 W hx0 hx1 hx2).mono fun e W' ⟨he, hb⟩ => ?_
  subst he
  exact ⟨_, rfl, law_post (F := Try.f5) rfl rfl (by rw [Try.params5]; intro t ht; simp only [List.mem_cons, List.not_mem_nil, or_false] at ht; rcases ht with rfl | rfl | rfl <;> exact ⟨by kernel_rfl, of_decide_eq_true (by kernel_rfl)⟩) hW (fun h => by subst h; rfl) hb⟩

theorem hFnExactAreBest_holds : Rows.FnExactAreBestSaid :=
  OpenClaim.holds_of_wide 5 Try.f5 rfl rfl rfl rfl rfl rfl rfl ⟨rfl, rfl, rfl, rfl, rfl⟩ rfl rfl rfl rfl rfl (by kernel_rfl) Try.func5
    (by unfold joinedFacts; simp only [Bool.and_eq_true]; (repeat' apply And.intro) <;> (first | (with_reducible exact prog_enters) | ((with_reducible refine prog_lifts ?_); rfl) | ((with_reducible refine prog_make ?_); rfl) | kernel_rfl))
    (of_decide_eq_true (by kernel_rfl)) (by unfold Func.isWrapper; first | (rw [if_pos (by decide +kernel)]; kernel_rfl) | (rw [if_neg (by decide +kernel)]; exact ⟨rfl, rfl⟩))
    (fun os started H enc _ => hFnExactAreBest_lifted os started H enc)

end Go.Proofs.Ytmhknknapciebaa
