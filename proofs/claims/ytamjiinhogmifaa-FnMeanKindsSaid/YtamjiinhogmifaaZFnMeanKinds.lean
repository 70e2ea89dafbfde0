/- The law FnMeanKinds holds: for every code, of the numbers that it draws, the program tells how many kinds there are in the mean as the model does, of one thing 1, and of one thing more it is more by the chance of a new kind. No condition. -/
import Derived.Test.YtamjiinhogmifaaQ10
namespace Go.Proofs.Ytamjiinhogmifaa
open Go.ChangeShapes Go.WideShapes Go.ChangeAt Go.RowKit Go.Deep
theorem mk_one {f : Int} (h1 : 1 ≤ f) : frU (mkU f 1) (mkD f 1) = 1 ∧ frD (mkU f 1) (mkD f 1) = 1 := by
  have e : mkU f 1 = f ∧ mkD f 1 = f := by
    unfold mkU mkD mkU mkD; simp
  rw [e.1, e.2]
  exact fr_whole (by omega)

set_option maxRecDepth 100000 in
set_option maxHeartbeats 3200000 in
theorem fnMeanKinds_calls (A : Option Addr) (n c : Nat) (w : World) (hx : Bytes w A n c) :
    Calls Try.prog 5 #[.slice A n c] w fun e w' => e = .returned (.bool true) ∧ Below w.heap.size w w' := by
  have hmx := hx.max
  have H0 := Lib.hid (DrawMeanKinds_any A n c w hx)
  clear hx
  by_cases hs : 1048576 < n
  · go_enter Try.func5, Try.ntmps5
    go_wp2
    go_ret
    exact ⟨rfl, Below.refl _ _⟩
  · go_enter Try.func5, Try.ntmps5
    go_wp2_with fail
    refine H0.out.mono ?_
    rintro e w1 ⟨n, f, rfl, ⟨n1, n2⟩, ⟨f1, f2⟩, hb⟩
    have B1 := Lib.hid hb
    clear hb H0
    have HCI := Lib.hid (fun W => MeanKinds_impl n f W (by unfold Fit; omega) (by unfold Fit; omega))
    have HCS := Lib.hid (fun W => MeanKinds_spec n f W (by unfold Fit; omega) (by unfold Fit; omega))
    by_cases hq : MQ n f
    · obtain ⟨n, rfl⟩ : ∃ k : Nat, n = ((k + 1 : Nat) : Int) := ⟨(n - 1).toNat, by have := hq.1; unfold InR at this; omega⟩
      have hn7 : n + 1 ≤ 7 := by have := hq.1; unfold InR at this; omega
      have hf1 : 1 ≤ f := hq.2.1
      have hf6 : f ≤ 6 := hq.2.2
      rw [mk_yes hq, pb_true hq] at HCI HCS
      by_cases hn : n = 0
      · subst hn
        rw [(mk_one hf1).1, (mk_one hf1).2] at HCI HCS
        have HZ : Hid (frV 1 1 = .agg #[.int .i64 1, .int .i64 1]) := Lib.hid (by rw [frV, (fr_one 1).1, (fr_one 1).2])
        have HF1 := Lib.hid (fun W => HZ.out ▸ fracOfH_any 1 1 W (by unfold Hug; omega) (by unfold Hug; omega) (by omega))
        clear hq HZ
        have HC := Lib.hid (HCI.out w1)
        go_wp2_with fail
        refine HC.out.mono ?_
        rintro e w2 ⟨rfl, hb⟩
        have B_2 := Lib.hid (below_up B1.out hb)
        clear hb HC B1
        have hal := below_alloc w2 (.cells #[.int .i64 1, .int .i64 1] 36)
        have B_2b := Lib.hid (below_up B_2.out hal)
        have X0 := Lib.hid (blk_cell (blk_new w2 36 #[.int .i64 1, .int .i64 1]) (i := 0) (v := .int .i64 1) rfl)
        have X1 := Lib.hid (blk_cell (blk_new w2 36 #[.int .i64 1, .int .i64 1]) (i := 1) (v := .int .i64 1) rfl)
        clear hal B_2
        have HC := Lib.hid (HCS.out (w2.alloc (.cells #[.int .i64 1, .int .i64 1] 36)))
        go_wp2_with fail
        generalize w2.alloc (.cells #[.int .i64 1, .int .i64 1] 36) = w2a at *
        generalize w2.heap.size = h2a at *
        refine HC.out.mono ?_
        rintro e w3 ⟨rfl, hb⟩
        have X0_3 := Lib.hid (Keep.below hb _ _ X0.out)
        have X1_3 := Lib.hid (Keep.below hb _ _ X1.out)
        have B_3 := Lib.hid (below_up B_2b.out hb)
        clear hb HC X0 X1 B_2b
        have hal := below_alloc w3 (.cells #[.int .i64 1, .int .i64 1] 36)
        have X0_3b := Lib.hid (Keep.below hal _ _ X0_3.out)
        have X1_3b := Lib.hid (Keep.below hal _ _ X1_3.out)
        have B_3b := Lib.hid (below_up B_3.out hal)
        have E0 := Lib.hid (blk_cell (blk_new w3 36 #[.int .i64 1, .int .i64 1]) (i := 0) (v := .int .i64 1) rfl)
        have E1 := Lib.hid (blk_cell (blk_new w3 36 #[.int .i64 1, .int .i64 1]) (i := 1) (v := .int .i64 1) rfl)
        clear hal X0_3 X1_3 B_3
        have q_X0 := X0_3b.out
        have q_X1 := X1_3b.out
        have q_E0 := E0.out
        have q_E1 := E1.out
        have SX := Lib.hid (And.intro q_X0 q_X1)
        have DX := B_3b
        go_wp2
        generalize w3.alloc (.cells #[.int .i64 1, .int .i64 1] 36) = w3a at *
        generalize w3.heap.size = h3a at *
        go_region_held3 (fun W => W.cell? ⟨h2a, 0, none⟩ = some (.int .i64 1) ∧ W.cell? ⟨h2a, 1, none⟩ = some (.int .i64 1))
          (first | exact SX.out | go_keep)
          (first
          | (go_at_call 25; (with_reducible refine (HF1.out _).mono ?_); rintro e v1 ⟨rfl, hb⟩; have SX := Lib.hid (And.intro (Keep.below hb _ _ SX.out.1) (Keep.below hb _ _ SX.out.2)); have DX := Lib.hid (show Below w.heap.size w v1 from by first | exact below_up DX.out hb | exact below_up DX.out.drew hb); clear hb))
        all_goals
          clear q_X0 q_X1 q_E0 q_E1
          go_wp2
          go_ret
          exact ⟨rfl, DX.out⟩
      · have HBD := mk_bd hf1 hf6 (k := n) (by omega)
        have PU := Lib.hid (frU_bd (u := mkU f n) (d := mkD f n) (B := 20000000) (by omega) (by omega))
        have PD := Lib.hid (frD_bd (u := mkU f n) (d := mkD f n) (B := 20000000) (by omega) (by omega))
        have GU := Lib.hid (frU_bd (u := f) (d := f + n) (B := 20000000) (by omega) (by omega))
        have GD := Lib.hid (frD_bd (u := f) (d := f + n) (B := 20000000) (by omega) (by omega))
        have HST := Lib.hid (mk_step hf1 hf6 (k := n) (by omega))
        have hq2 : MQ n f := ⟨by unfold InR; omega, hq.2⟩
        have HCL := Lib.hid (fun W => MeanKinds_impl n f W (by unfold Fit; omega) (by unfold Fit; omega))
        rw [mk_yes hq2, pb_true hq2] at HCL
        have HFV : Hid (frV f (f + n) = .agg #[.int .i64 (frU f (f + n)), .int .i64 (frD f (f + n))]) := Lib.hid rfl
        have HF1 := Lib.hid (fun W => HFV.out ▸ fracOfH_any f (f + n) W (by unfold Hug; omega) (by unfold Hug; omega) (by omega))
        have HF2 := Lib.hid (fun W => plusOfH_any (frU (mkU f n) (mkD f n)) (frD (mkU f n) (mkD f n)) (frU f (f + n)) (frD f (f + n)) W (by have := PU.out; omega) (by have := GU.out; omega) (by have := PD.out; omega) (by have := GD.out; omega))
        have HSV : Hid (∀ u d : Int, frV u d = .agg #[.int .i64 (frU u d), .int .i64 (frD u d)]) := Lib.hid (fun _ _ => rfl)
        rw [HSV.out, HST.out.1, HST.out.2] at HF2
        clear HST HSV HFV PU PD GU GD HBD hq hq2
        generalize frU f (f + n) = GU at *
        generalize frD f (f + n) = GD at *
        generalize frU (mkU f (n + 1)) (mkD f (n + 1)) = U at *
        generalize frD (mkU f (n + 1)) (mkD f (n + 1)) = D at *
        generalize frU (mkU f n) (mkD f n) = V at *
        generalize frD (mkU f n) (mkD f n) = E at *
        have en : ((n + 1 : Nat) : Int) - 1 = (n : Int) := by omega
        have HEN : Hid (∀ W, Calls Try.prog 23 #[.int .i64 (((n + 1 : Nat) : Int) - 1), .int .i64 f] W (Ret (.tuple #[.agg #[.int .i64 V, .int .i64 E], .bool true]) W)) := Lib.hid (by rw [en]; exact HCL.out)
        have HF1' : Hid (∀ W, Calls Try.prog 25 #[.int .i64 f, .int .i64 (f + ((n + 1 : Nat) : Int) - 1)] W (Ret (.agg #[.int .i64 GU, .int .i64 GD]) W)) := Lib.hid (by rw [show f + ((n + 1 : Nat) : Int) - 1 = f + n by omega]; exact HF1.out)
        have hm : ((n + 1 : Nat) : Int) ≠ 1 := by omega
        have hm2 : (((n + 1 : Nat) : Int) == 1) = false := by simp; omega
        have hm3 : 2 ≤ ((n + 1 : Nat) : Int) ∧ ((n + 1 : Nat) : Int) ≤ 7 := by omega
        obtain ⟨hm3, hm4⟩ := hm3
        clear HCL HF1 en
        generalize ((n + 1 : Nat) : Int) = m at *
        have hws : IntKind.i64.wrap (f + m) = f + m := wrap_in64 (by omega)
        have hws2 : IntKind.i64.wrap (f + m - 1) = f + m - 1 := wrap_in64 (by omega)
        have HC := Lib.hid (HCI.out w1)
        go_wp2_with fail
        refine HC.out.mono ?_
        rintro e w2 ⟨rfl, hb⟩
        have B_2 := Lib.hid (below_up B1.out hb)
        clear hb HC B1
        have hal := below_alloc w2 (.cells #[.int .i64 U, .int .i64 D] 36)
        have B_2b := Lib.hid (below_up B_2.out hal)
        have X0 := Lib.hid (blk_cell (blk_new w2 36 #[.int .i64 U, .int .i64 D]) (i := 0) (v := .int .i64 U) rfl)
        have X1 := Lib.hid (blk_cell (blk_new w2 36 #[.int .i64 U, .int .i64 D]) (i := 1) (v := .int .i64 D) rfl)
        clear hal B_2
        have HC := Lib.hid (HCS.out (w2.alloc (.cells #[.int .i64 U, .int .i64 D] 36)))
        go_wp2_with fail
        generalize w2.alloc (.cells #[.int .i64 U, .int .i64 D] 36) = w2a at *
        generalize w2.heap.size = h2a at *
        refine HC.out.mono ?_
        rintro e w3 ⟨rfl, hb⟩
        have X0_3 := Lib.hid (Keep.below hb _ _ X0.out)
        have X1_3 := Lib.hid (Keep.below hb _ _ X1.out)
        have B_3 := Lib.hid (below_up B_2b.out hb)
        clear hb HC X0 X1 B_2b
        have hal := below_alloc w3 (.cells #[.int .i64 U, .int .i64 D] 36)
        have X0_3b := Lib.hid (Keep.below hal _ _ X0_3.out)
        have X1_3b := Lib.hid (Keep.below hal _ _ X1_3.out)
        have B_3b := Lib.hid (below_up B_3.out hal)
        have E0 := Lib.hid (blk_cell (blk_new w3 36 #[.int .i64 U, .int .i64 D]) (i := 0) (v := .int .i64 U) rfl)
        have E1 := Lib.hid (blk_cell (blk_new w3 36 #[.int .i64 U, .int .i64 D]) (i := 1) (v := .int .i64 D) rfl)
        clear hal X0_3 X1_3 B_3
        have HC := Lib.hid (HEN.out (w3.alloc (.cells #[.int .i64 U, .int .i64 D] 36)))
        have q_X0 := X0_3b.out
        have q_X1 := X1_3b.out
        have q_E0 := E0.out
        have q_E1 := E1.out
        go_wp2_with fail
        generalize w3.alloc (.cells #[.int .i64 U, .int .i64 D] 36) = w3a at *
        generalize w3.heap.size = h3a at *
        refine HC.out.mono ?_
        rintro e w4 ⟨rfl, hb⟩
        have X0_4 := Lib.hid (Keep.below hb _ _ X0_3b.out)
        have X1_4 := Lib.hid (Keep.below hb _ _ X1_3b.out)
        have E0_4 := Lib.hid (Keep.below hb _ _ E0.out)
        have E1_4 := Lib.hid (Keep.below hb _ _ E1.out)
        have B_4 := Lib.hid (below_up B_3b.out hb)
        clear hb HC X0_3b X1_3b E0 E1 B_3b q_X0 q_X1 q_E0 q_E1
        have hal := below_alloc w4 (.cells #[.int .i64 V, .int .i64 E] 36)
        have X0_4b := Lib.hid (Keep.below hal _ _ X0_4.out)
        have X1_4b := Lib.hid (Keep.below hal _ _ X1_4.out)
        have E0_4b := Lib.hid (Keep.below hal _ _ E0_4.out)
        have E1_4b := Lib.hid (Keep.below hal _ _ E1_4.out)
        have B_4b := Lib.hid (below_up B_4.out hal)
        have L0 := Lib.hid (blk_cell (blk_new w4 36 #[.int .i64 V, .int .i64 E]) (i := 0) (v := .int .i64 V) rfl)
        have L1 := Lib.hid (blk_cell (blk_new w4 36 #[.int .i64 V, .int .i64 E]) (i := 1) (v := .int .i64 E) rfl)
        clear hal X0_4 X1_4 E0_4 E1_4 B_4
        have q_X0 := X0_4b.out
        have q_X1 := X1_4b.out
        have q_L0 := L0.out
        have q_L1 := L1.out
        have SX := Lib.hid (And.intro q_X0 (And.intro q_X1 (And.intro q_L0 q_L1)))
        have DX := B_4b
        go_wp2
        generalize w4.alloc (.cells #[.int .i64 V, .int .i64 E] 36) = w4a at *
        generalize w4.heap.size = h4a at *
        go_region_held3 (fun W => W.cell? ⟨h2a, 0, none⟩ = some (.int .i64 U) ∧ W.cell? ⟨h2a, 1, none⟩ = some (.int .i64 D) ∧ W.cell? ⟨h4a, 0, none⟩ = some (.int .i64 V) ∧ W.cell? ⟨h4a, 1, none⟩ = some (.int .i64 E))
          (first | exact SX.out | go_keep)
          (first
          | (go_at_call 25; (with_reducible refine (HF1'.out _).mono ?_); rintro e v1 ⟨rfl, hb⟩; have SX := Lib.hid (And.intro (Keep.below hb _ _ SX.out.1) (And.intro (Keep.below hb _ _ SX.out.2.1) (And.intro (Keep.below hb _ _ SX.out.2.2.1) (Keep.below hb _ _ SX.out.2.2.2)))); have DX := Lib.hid (show Below w.heap.size w v1 from by first | exact below_up DX.out hb | exact below_up DX.out.drew hb); clear hb)
          | (go_at_call 26; (with_reducible refine (HF2.out _).mono ?_); rintro e v1 ⟨rfl, hb⟩; have SX := Lib.hid (And.intro (Keep.below hb _ _ SX.out.1) (And.intro (Keep.below hb _ _ SX.out.2.1) (And.intro (Keep.below hb _ _ SX.out.2.2.1) (Keep.below hb _ _ SX.out.2.2.2)))); have DX := Lib.hid (show Below w.heap.size w v1 from by first | exact below_up DX.out hb | exact below_up DX.out.drew hb); clear hb))
        all_goals
          clear q_X0 q_X1 q_L0 q_L1
          go_wp2
          go_ret
          exact ⟨rfl, DX.out⟩
    · rw [mk_no hq, pb_false hq] at HCI HCS
      clear hq
      have HC := Lib.hid (HCI.out w1)
      go_wp2_with fail
      refine HC.out.mono ?_
      rintro e w2 ⟨rfl, hb⟩
      have B_2 := Lib.hid (below_up B1.out hb)
      clear hb HC B1
      have hal := below_alloc w2 (.cells #[.int .i64 0, .int .i64 0] 36)
      have B_2b := Lib.hid (below_up B_2.out hal)
      have X0 := Lib.hid (blk_cell (blk_new w2 36 #[.int .i64 0, .int .i64 0]) (i := 0) (v := .int .i64 0) rfl)
      have X1 := Lib.hid (blk_cell (blk_new w2 36 #[.int .i64 0, .int .i64 0]) (i := 1) (v := .int .i64 0) rfl)
      clear hal B_2
      have HC := Lib.hid (HCS.out (w2.alloc (.cells #[.int .i64 0, .int .i64 0] 36)))
      go_wp2_with fail
      generalize w2.alloc (.cells #[.int .i64 0, .int .i64 0] 36) = w2a at *
      generalize w2.heap.size = h2a at *
      refine HC.out.mono ?_
      rintro e w3 ⟨rfl, hb⟩
      have X0_3 := Lib.hid (Keep.below hb _ _ X0.out)
      have X1_3 := Lib.hid (Keep.below hb _ _ X1.out)
      have B_3 := Lib.hid (below_up B_2b.out hb)
      clear hb HC X0 X1 B_2b
      have hal := below_alloc w3 (.cells #[.int .i64 0, .int .i64 0] 36)
      have X0_3b := Lib.hid (Keep.below hal _ _ X0_3.out)
      have X1_3b := Lib.hid (Keep.below hal _ _ X1_3.out)
      have B_3b := Lib.hid (below_up B_3.out hal)
      have E0 := Lib.hid (blk_cell (blk_new w3 36 #[.int .i64 0, .int .i64 0]) (i := 0) (v := .int .i64 0) rfl)
      have E1 := Lib.hid (blk_cell (blk_new w3 36 #[.int .i64 0, .int .i64 0]) (i := 1) (v := .int .i64 0) rfl)
      clear hal X0_3 X1_3 B_3
      have q_X0 := X0_3b.out
      have q_X1 := X1_3b.out
      have q_E0 := E0.out
      have q_E1 := E1.out
      go_wp2
      go_ret
      exact ⟨rfl, B_3b.out⟩

set_option maxRecDepth 100000 in
theorem hFnMeanKinds_lifted (os : Os) (started : os.Started) (H : Type) (enc : TypeId × Value → H) :
    ReturnsInHanded {} Try.checked os 5 .any (Rows.fnMeanKindsSpec.pre6 enc Try.prog Try.f5 Rows.fnMeanKindsRow.domain false) (Rows.fnMeanKindsSpec.post enc Try.prog Try.f5 false true false false) := by
  refine returnsInHanded_of_change_sized (C := Try.checked) Try.own started (by kernel_rfl) Try.func5
    (ChangeSpec.witness6 (enc := enc) (C := Try.checked) false ⟨#[], #[.slice none 0 0], []⟩ 8 (by kernel_rfl) (by kernel_rfl) (by kernel_rfl) (by kernel_rfl)) ?_
  intro W base args ds gs before hval0 hW _ hwt _
  have hval : ∀ (j : Nat) t v, Try.f5.params[j]? = some t → args[j]? = some v → Value.okWide Try.prog W .any base t v := hval0
  have hA : ∃ p, DataW.TrodAll enc Try.prog W 0 (fun _ => true) true Try.f5.params.toList args.toList ds p := by obtain ⟨p, q, hA0, _⟩ := hW; exact ⟨p, hA0⟩
  obtain ⟨p, hA⟩ := hA
  have hwt' := weights_arg hwt (j := 0) (t := 22) (by rw [Try.params5]; rfl) (d := ds.getD 0 .nil)
  rw [Try.params5] at hA hval
  obtain ⟨v0, d0, rfl, rfl, h0⟩ := trodAll_one hA
  obtain ⟨A, n, c, rfl, hx⟩ := open_bytes (hval 0 22 v0 rfl rfl) h0 (hwt' rfl)
  refine (fnMeanKinds_calls A n c W hx).mono fun e W' ⟨he, hb⟩ => ?_
  subst he
  exact ⟨_, rfl, law_post (F := Try.f5) rfl rfl (by rw [Try.params5]; simp only [List.mem_cons, List.not_mem_nil, or_false, forall_eq]; exact ⟨by kernel_rfl, of_decide_eq_true (by kernel_rfl)⟩) hW (fun h => by subst h; rfl) hb⟩

theorem hFnMeanKinds_holds : Rows.FnMeanKindsSaid :=
  OpenClaim.holds_of_wide 5 Try.f5 rfl rfl rfl rfl rfl rfl rfl ⟨rfl, rfl, rfl, rfl, rfl⟩ rfl rfl rfl rfl rfl (by kernel_rfl) Try.func5
    (by unfold joinedFacts; simp only [Bool.and_eq_true]; (repeat' apply And.intro) <;> (first | (with_reducible exact prog_enters) | ((with_reducible refine prog_lifts ?_); rfl) | ((with_reducible refine prog_make ?_); rfl) | kernel_rfl))
    (of_decide_eq_true (by kernel_rfl)) (by unfold Func.isWrapper; first | (rw [if_pos (by decide +kernel)]; kernel_rfl) | (rw [if_neg (by decide +kernel)]; exact ⟨rfl, rfl⟩))
    (fun os started H enc _ => hFnMeanKinds_lifted os started H enc)

end Go.Proofs.Ytamjiinhogmifaa
