/- The law FnKindsByProduct holds: for every code, of what it draws, the program tells the chance of sizes of kinds by the product as the model does; it is that by the urn, more than 0 and no more than 1. No condition. -/
import Derived.Test.YtpchnoalamdhkaaQ13
namespace Go.Proofs.Ytpchnoalamdhkaa
open Go.ChangeShapes Go.WideShapes Go.ChangeAt Go.RowKit Go.Deep

set_option maxRecDepth 100000 in
set_option maxHeartbeats 3200000 in
theorem fnKindsByProduct_calls (A : Option Addr) (n c : Nat) (w : World) (hx : Bytes w A n c) :
    Calls Try.prog 6 #[.slice A n c] w fun e w' => e = .returned (.bool true) ∧ Below w.heap.size w w' := by
  have hmx := hx.max
  have H0 := Lib.hid (DrawKindsByProduct_any A n c w hx)
  clear hx
  by_cases hs : 1048576 < n
  · go_enter Try.func6, Try.ntmps6
    go_wp2
    go_ret
    exact ⟨rfl, Below.refl _ _⟩
  · go_enter Try.func6, Try.ntmps6
    go_wp2_with fail
    refine H0.out.mono ?_
    rintro e w1 ⟨Av, cv, gg, xs, f, rfl, ⟨f0, f7⟩, hd, hl8, hown, hb⟩
    have X := Lib.hid hown.ints
    have B1 := Lib.hid hb
    have HCI := Lib.hid (fun W h => KindsByProduct_impl Av xs.length cv xs f W h (by unfold Fit; omega))
    have HCS := Lib.hid (fun W h => KindsByProduct_spec Av xs.length cv xs f W h (by unfold Fit; omega))
    have HCU := Lib.hid (fun W h => KindsByUrn_impl Av xs.length cv xs f W h (by unfold Fit; omega))
    clear hown hb H0 hd hl8
    by_cases hq : KQ xs f
    · rw [kp_yes hq, pb_true hq] at HCI HCS
      rw [ku_yes hq, pb_true hq, (kp_ku hq).1, (kp_ku hq).2] at HCU
      obtain ⟨u1, u2, u3⟩ := kp_less hq
      have HF1 := Lib.hid (fun W => fracOfH_any 1 1 W (by unfold Hug; omega) (by unfold Hug; omega) (by omega))
      have HZ : Hid (frV 1 1 = .agg #[.int .i64 1, .int .i64 1]) := Lib.hid (by rw [frV, (fr_one 1).1, (fr_one 1).2])
      rw [HZ.out] at HF1
      have HLE := Lib.hid (fun W => lessOfH_any 1 1 (frU (kpU xs f) (kpD xs f)) (frD (kpU xs f) (kpD xs f)) W (by omega) (by omega) (by omega) (by omega))
      clear hq HZ
      generalize frU (kpU xs f) (kpD xs f) = U at *
      generalize frD (kpU xs f) (kpD xs f) = D at *
      have HLF : Hid (∀ W, Calls Try.prog 33 #[.agg #[.int .i64 1, .int .i64 1], .agg #[.int .i64 U, .int .i64 D]] W (Ret (.bool false) W)) := Lib.hid (fun W => by
        have h := HLE.out W
        have e : lessB 1 1 U D = false := by unfold lessB; exact decide_eq_false (by omega)
        rw [e] at h; exact h)
      have hu0 : decide (0 < U) = true := decide_eq_true (by omega)
      have hu0' : 0 < U := by omega
      clear HLE
      generalize hN : xs.length = N at *
      clear hN
      have HC := Lib.hid (HCI.out w1 X.out)
      go_wp2_with fail
      refine HC.out.mono ?_
      rintro e w2 ⟨rfl, hb⟩
      have X_2 := Lib.hid (X.out.keep (Keep.below hb))
      have B_2 := Lib.hid (below_up B1.out hb)
      clear hb HC X B1
      have hal := below_alloc w2 (.cells #[.int .i64 U, .int .i64 D] 39)
      have X_2b := Lib.hid (X_2.out.keep (Keep.below hal))
      have B_2b := Lib.hid (below_up B_2.out hal)
      have P0 := Lib.hid (blk_cell (blk_new w2 39 #[.int .i64 U, .int .i64 D]) (i := 0) (v := .int .i64 U) rfl)
      have P1 := Lib.hid (blk_cell (blk_new w2 39 #[.int .i64 U, .int .i64 D]) (i := 1) (v := .int .i64 D) rfl)
      clear hal X_2 B_2
      have HC := Lib.hid (HCS.out (w2.alloc (.cells #[.int .i64 U, .int .i64 D] 39)) X_2b.out)
      go_wp2_with fail
      generalize w2.alloc (.cells #[.int .i64 U, .int .i64 D] 39) = w2a at *
      generalize w2.heap.size = h2a at *
      refine HC.out.mono ?_
      rintro e w3 ⟨rfl, hb⟩
      have X_3 := Lib.hid (X_2b.out.keep (Keep.below hb))
      have P0_3 := Lib.hid (Keep.below hb _ _ P0.out)
      have P1_3 := Lib.hid (Keep.below hb _ _ P1.out)
      have B_3 := Lib.hid (below_up B_2b.out hb)
      clear hb HC X_2b P0 P1 B_2b
      have hal := below_alloc w3 (.cells #[.int .i64 U, .int .i64 D] 39)
      have X_3b := Lib.hid (X_3.out.keep (Keep.below hal))
      have P0_3b := Lib.hid (Keep.below hal _ _ P0_3.out)
      have P1_3b := Lib.hid (Keep.below hal _ _ P1_3.out)
      have B_3b := Lib.hid (below_up B_3.out hal)
      have E0 := Lib.hid (blk_cell (blk_new w3 39 #[.int .i64 U, .int .i64 D]) (i := 0) (v := .int .i64 U) rfl)
      have E1 := Lib.hid (blk_cell (blk_new w3 39 #[.int .i64 U, .int .i64 D]) (i := 1) (v := .int .i64 D) rfl)
      clear hal X_3 P0_3 P1_3 B_3
      have HC := Lib.hid (HCU.out (w3.alloc (.cells #[.int .i64 U, .int .i64 D] 39)) X_3b.out)
      have q_P0 := P0_3b.out
      have q_P1 := P1_3b.out
      have q_E0 := E0.out
      have q_E1 := E1.out
      go_wp2_with fail
      generalize w3.alloc (.cells #[.int .i64 U, .int .i64 D] 39) = w3a at *
      generalize w3.heap.size = h3a at *
      refine HC.out.mono ?_
      rintro e w4 ⟨rfl, hb⟩
      have X_4 := Lib.hid (X_3b.out.keep (Keep.below hb))
      have P0_4 := Lib.hid (Keep.below hb _ _ P0_3b.out)
      have P1_4 := Lib.hid (Keep.below hb _ _ P1_3b.out)
      have E0_4 := Lib.hid (Keep.below hb _ _ E0.out)
      have E1_4 := Lib.hid (Keep.below hb _ _ E1.out)
      have B_4 := Lib.hid (below_up B_3b.out hb)
      clear hb HC X_3b P0_3b P1_3b E0 E1 B_3b q_P0 q_P1 q_E0 q_E1
      have hal := below_alloc w4 (.cells #[.int .i64 U, .int .i64 D] 39)
      have X_4b := Lib.hid (X_4.out.keep (Keep.below hal))
      have P0_4b := Lib.hid (Keep.below hal _ _ P0_4.out)
      have P1_4b := Lib.hid (Keep.below hal _ _ P1_4.out)
      have E0_4b := Lib.hid (Keep.below hal _ _ E0_4.out)
      have E1_4b := Lib.hid (Keep.below hal _ _ E1_4.out)
      have B_4b := Lib.hid (below_up B_4.out hal)
      have L0 := Lib.hid (blk_cell (blk_new w4 39 #[.int .i64 U, .int .i64 D]) (i := 0) (v := .int .i64 U) rfl)
      have L1 := Lib.hid (blk_cell (blk_new w4 39 #[.int .i64 U, .int .i64 D]) (i := 1) (v := .int .i64 D) rfl)
      clear hal X_4 P0_4 P1_4 E0_4 E1_4 B_4
      have q_P0 := P0_4b.out
      have q_P1 := P1_4b.out
      have q_L0 := L0.out
      have q_L1 := L1.out
      have SX := Lib.hid (And.intro q_P0 (And.intro q_P1 (And.intro q_L0 q_L1)))
      have DX := B_4b
      go_wp2
      generalize w4.alloc (.cells #[.int .i64 U, .int .i64 D] 39) = w4a at *
      generalize w4.heap.size = h4a at *
      go_region_held3 (fun W => W.cell? ⟨h2a, 0, none⟩ = some (.int .i64 U) ∧ W.cell? ⟨h2a, 1, none⟩ = some (.int .i64 D) ∧ W.cell? ⟨h4a, 0, none⟩ = some (.int .i64 U) ∧ W.cell? ⟨h4a, 1, none⟩ = some (.int .i64 D))
        (first | exact SX.out | go_keep)
        (first
        | (go_at_call 28; (with_reducible refine (HF1.out _).mono ?_); rintro e v1 ⟨rfl, hb⟩; have SX := Lib.hid (And.intro (Keep.below hb _ _ SX.out.1) (And.intro (Keep.below hb _ _ SX.out.2.1) (And.intro (Keep.below hb _ _ SX.out.2.2.1) (Keep.below hb _ _ SX.out.2.2.2)))); have DX := Lib.hid (show Below w.heap.size w v1 from by first | exact below_up DX.out hb | exact below_up DX.out.drew hb); clear hb)
        | (go_at_call 33; (with_reducible refine (HLF.out _).mono ?_); rintro e v1 ⟨rfl, hb⟩; have SX := Lib.hid (And.intro (Keep.below hb _ _ SX.out.1) (And.intro (Keep.below hb _ _ SX.out.2.1) (And.intro (Keep.below hb _ _ SX.out.2.2.1) (Keep.below hb _ _ SX.out.2.2.2)))); have DX := Lib.hid (show Below w.heap.size w v1 from by first | exact below_up DX.out hb | exact below_up DX.out.drew hb); clear hb))
      all_goals
        clear q_P0 q_P1 q_L0 q_L1
        go_wp2
        go_ret
        exact ⟨rfl, DX.out⟩
    · rw [kp_no hq, pb_false hq] at HCI HCS
      clear hq HCU
      generalize hN : xs.length = N at *
      clear hN
      have HC := Lib.hid (HCI.out w1 X.out)
      go_wp2_with fail
      refine HC.out.mono ?_
      rintro e w2 ⟨rfl, hb⟩
      have X_2 := Lib.hid (X.out.keep (Keep.below hb))
      have B_2 := Lib.hid (below_up B1.out hb)
      clear hb HC X B1
      have hal := below_alloc w2 (.cells #[.int .i64 0, .int .i64 0] 39)
      have X_2b := Lib.hid (X_2.out.keep (Keep.below hal))
      have B_2b := Lib.hid (below_up B_2.out hal)
      have P0 := Lib.hid (blk_cell (blk_new w2 39 #[.int .i64 0, .int .i64 0]) (i := 0) (v := .int .i64 0) rfl)
      have P1 := Lib.hid (blk_cell (blk_new w2 39 #[.int .i64 0, .int .i64 0]) (i := 1) (v := .int .i64 0) rfl)
      clear hal X_2 B_2
      have HC := Lib.hid (HCS.out (w2.alloc (.cells #[.int .i64 0, .int .i64 0] 39)) X_2b.out)
      go_wp2_with fail
      generalize w2.alloc (.cells #[.int .i64 0, .int .i64 0] 39) = w2a at *
      generalize w2.heap.size = h2a at *
      refine HC.out.mono ?_
      rintro e w3 ⟨rfl, hb⟩
      have X_3 := Lib.hid (X_2b.out.keep (Keep.below hb))
      have P0_3 := Lib.hid (Keep.below hb _ _ P0.out)
      have P1_3 := Lib.hid (Keep.below hb _ _ P1.out)
      have B_3 := Lib.hid (below_up B_2b.out hb)
      clear hb HC X_2b P0 P1 B_2b
      have hal := below_alloc w3 (.cells #[.int .i64 0, .int .i64 0] 39)
      have X_3b := Lib.hid (X_3.out.keep (Keep.below hal))
      have P0_3b := Lib.hid (Keep.below hal _ _ P0_3.out)
      have P1_3b := Lib.hid (Keep.below hal _ _ P1_3.out)
      have B_3b := Lib.hid (below_up B_3.out hal)
      have E0 := Lib.hid (blk_cell (blk_new w3 39 #[.int .i64 0, .int .i64 0]) (i := 0) (v := .int .i64 0) rfl)
      have E1 := Lib.hid (blk_cell (blk_new w3 39 #[.int .i64 0, .int .i64 0]) (i := 1) (v := .int .i64 0) rfl)
      clear hal X_3 P0_3 P1_3 B_3
      have q_P0 := P0_3b.out
      have q_P1 := P1_3b.out
      have q_E0 := E0.out
      have q_E1 := E1.out
      go_wp2
      go_ret
      exact ⟨rfl, B_3b.out⟩

set_option maxRecDepth 100000 in
theorem hFnKindsByProduct_lifted (os : Os) (started : os.Started) (H : Type) (enc : TypeId × Value → H) :
    ReturnsInHanded {} Try.checked os 6 .any (Rows.fnKindsByProductSpec.pre6 enc Try.prog Try.f6 Rows.fnKindsByProductRow.domain false) (Rows.fnKindsByProductSpec.post enc Try.prog Try.f6 false true false false) := by
  refine returnsInHanded_of_change_sized (C := Try.checked) Try.own started (by kernel_rfl) Try.func6
    (ChangeSpec.witness6 (enc := enc) (C := Try.checked) false ⟨#[], #[.slice none 0 0], []⟩ 8 (by kernel_rfl) (by kernel_rfl) (by kernel_rfl) (by kernel_rfl)) ?_
  intro W base args ds gs before hval0 hW _ hwt _
  have hval : ∀ (j : Nat) t v, Try.f6.params[j]? = some t → args[j]? = some v → Value.okWide Try.prog W .any base t v := hval0
  have hA : ∃ p, DataW.TrodAll enc Try.prog W 0 (fun _ => true) true Try.f6.params.toList args.toList ds p := by obtain ⟨p, q, hA0, _⟩ := hW; exact ⟨p, hA0⟩
  obtain ⟨p, hA⟩ := hA
  have hwt' := weights_arg hwt (j := 0) (t := 22) (by rw [Try.params6]; rfl) (d := ds.getD 0 .nil)
  rw [Try.params6] at hA hval
  obtain ⟨v0, d0, rfl, rfl, h0⟩ := trodAll_one hA
  obtain ⟨A, n, c, rfl, hx⟩ := open_bytes (hval 0 22 v0 rfl rfl) h0 (hwt' rfl)
  refine (fnKindsByProduct_calls A n c W hx).mono fun e W' ⟨he, hb⟩ => ?_
  subst he
  exact ⟨_, rfl, law_post (F := Try.f6) rfl rfl (by rw [Try.params6]; simp only [List.mem_cons, List.not_mem_nil, or_false, forall_eq]; exact ⟨by kernel_rfl, of_decide_eq_true (by kernel_rfl)⟩) hW (fun h => by subst h; rfl) hb⟩

theorem hFnKindsByProduct_holds : Rows.FnKindsByProductSaid :=
  OpenClaim.holds_of_wide 6 Try.f6 rfl rfl rfl rfl rfl rfl rfl ⟨rfl, rfl, rfl, rfl, rfl⟩ rfl rfl rfl rfl rfl (by kernel_rfl) Try.func6
    (by unfold joinedFacts; simp only [Bool.and_eq_true]; (repeat' apply And.intro) <;> (first | (with_reducible exact prog_enters) | ((with_reducible refine prog_lifts ?_); rfl) | ((with_reducible refine prog_make ?_); rfl) | kernel_rfl))
    (of_decide_eq_true (by kernel_rfl)) (by unfold Func.isWrapper; first | (rw [if_pos (by decide +kernel)]; kernel_rfl) | (rw [if_neg (by decide +kernel)]; exact ⟨rfl, rfl⟩))
    (fun os started H enc _ => hFnKindsByProduct_lifted os started H enc)

end Go.Proofs.Ytpchnoalamdhkaa
