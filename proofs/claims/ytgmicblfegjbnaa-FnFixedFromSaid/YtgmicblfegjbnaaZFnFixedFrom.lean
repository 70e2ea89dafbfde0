/- The law FnFixedFrom holds: for every code, of what it draws, the program tells chances as the model does, they are 0 for none and 1 for all, and at each number a fair bet, and more with one more. No condition. -/
import Derived.Test.YtgmicblfegjbnaaQ10
namespace Go.Proofs.Ytgmicblfegjbnaa
open Go.ChangeShapes Go.WideShapes Go.ChangeAt Go.RowKit Go.Deep
theorem fr_sub {a b T : Int} (hT : 0 < T) : frV (frU a T * frD b T + -(frU b T) * frD a T) (frD a T * frD b T) = frV (a - b) T := by
  have h1 := frD_pos (u := a) hT
  have h2 := frD_pos (u := b) hT
  have r1 := fr_ratio a T
  have r2 := fr_ratio b T
  have e := fr_eq (u := frU a T * frD b T + -(frU b T) * frD a T) (d := frD a T * frD b T) (v := a - b) (e := T) (Int.mul_pos h1 h2) hT (by grind)
  unfold frV; rw [e.1, e.2]
theorem fr_scale {f a T : Int} (hT : 0 < T) : frV (f * frU a T) (1 * frD a T) = frV (f * a) T := by
  have h1 := frD_pos (u := a) hT
  have r1 := fr_ratio a T
  have e := fr_eq (u := f * frU a T) (d := 1 * frD a T) (v := f * a) (e := T) (by omega) hT (by grind)
  unfold frV; rw [e.1, e.2]
theorem fr_nought {T : Int} (hT : 0 < T) : frU 0 T = 0 ∧ frD 0 T = 1 := by
  have e := fr_eq (u := 0) (d := T) (v := 0) (e := 1) hT (by omega) (by omega)
  rw [e.1, e.2]; exact fr_one 0

set_option maxRecDepth 100000 in
set_option maxHeartbeats 3200000 in
theorem fnFixedFrom_calls (A : Option Addr) (n c : Nat) (w : World) (hx : Bytes w A n c) :
    Calls Try.prog 11 #[.slice A n c] w fun e w' => e = .returned (.bool true) ∧ Below w.heap.size w w' := by
  have hmx := hx.max
  have H0 := Lib.hid (DrawFixedFrom_any A n c w hx)
  clear hx
  by_cases hs : 1048576 < n
  · go_enter Try.func11, Try.ntmps11
    go_wp2
    go_ret
    exact ⟨rfl, Below.refl _ _⟩
  · go_enter Try.func11, Try.ntmps11
    go_wp2_with fail
    refine H0.out.mono ?_
    rintro e w1 ⟨Av, l, cv, gg, xss, n, i, rfl, ⟨n1, n2⟩, ⟨i1, i2⟩, hsm, hown, hb⟩
    have HR := Lib.hid hown.rows
    have B1 := Lib.hid hb
    clear hsm hown hb H0
    by_cases hv : FQ xss n i
    · obtain ⟨n, rfl, hcr⟩ := hv.1.nat
      obtain ⟨i, rfl⟩ : ∃ j : Nat, i = j := ⟨i.toNat, by have := hv.2; unfold InR at this; omega⟩
      have hin : i ≤ n := by have := hv.2; unfold InR at this; omega
      have hn6 := hcr.n6
      have hn2 := hcr.n2
      have HV0 := ff_yes hcr hin
      have hT := (hcr.fx hin).2
      by_cases h0 : i = 0
      · subst h0
        have HV := Lib.hid (show ffV xss n ((0 : Nat) : Int) = .agg #[.int .i64 0, .int .i64 1] ∧ pb (FQ xss n ((0 : Nat) : Int)) = true from ⟨by rw [HV0.1]; show frV 0 (fxT xss n) = _; unfold frV; rw [(fr_nought (by omega)).1, (fr_nought (by omega)).2], HV0.2⟩)
        clear hv HV0 hT hcr
        have HC := Lib.hid (FixedFrom_impl _ _ _ xss n ((0 : Nat) : Int) w1 HR.out ⟨by omega, by omega⟩ ⟨by omega, by omega⟩)
        rw [HV.out.1, HV.out.2] at HC
        go_wp2_with fail
        refine HC.out.mono ?_
        rintro e w2 ⟨rfl, hb⟩
        have HR_2 := Lib.hid (HR.out.keep (Keep.below hb))
        have B_2 := Lib.hid (below_up B1.out hb)
        clear hb HC HR B1
        have hal := below_alloc w2 (.cells #[.int .i64 0, .int .i64 1] 31)
        have HR_2b := Lib.hid (HR_2.out.keep (Keep.below hal))
        have B_2b := Lib.hid (below_up B_2.out hal)
        have X0 := Lib.hid (blk_cell (blk_new w2 31 #[.int .i64 0, .int .i64 1]) (i := 0) (v := .int .i64 0) rfl)
        have X1 := Lib.hid (blk_cell (blk_new w2 31 #[.int .i64 0, .int .i64 1]) (i := 1) (v := .int .i64 1) rfl)
        clear hal HR_2 B_2
        have HC := Lib.hid (FixedFrom_spec _ _ _ xss n ((0 : Nat) : Int) (w2.alloc (.cells #[.int .i64 0, .int .i64 1] 31)) HR_2b.out ⟨by omega, by omega⟩ ⟨by omega, by omega⟩)
        rw [HV.out.1, HV.out.2] at HC
        go_wp2_with fail
        generalize w2.alloc (.cells #[.int .i64 0, .int .i64 1] 31) = w2a at *
        generalize w2.heap.size = h2a at *
        refine HC.out.mono ?_
        rintro e w3 ⟨rfl, hb⟩
        have HR_3 := Lib.hid (HR_2b.out.keep (Keep.below hb))
        have X0_3 := Lib.hid (Keep.below hb _ _ X0.out)
        have X1_3 := Lib.hid (Keep.below hb _ _ X1.out)
        have B_3 := Lib.hid (below_up B_2b.out hb)
        clear hb HC HR_2b X0 X1 B_2b
        have hal := below_alloc w3 (.cells #[.int .i64 0, .int .i64 1] 31)
        have HR_3b := Lib.hid (HR_3.out.keep (Keep.below hal))
        have X0_3b := Lib.hid (Keep.below hal _ _ X0_3.out)
        have X1_3b := Lib.hid (Keep.below hal _ _ X1_3.out)
        have B_3b := Lib.hid (below_up B_3.out hal)
        have E0 := Lib.hid (blk_cell (blk_new w3 31 #[.int .i64 0, .int .i64 1]) (i := 0) (v := .int .i64 0) rfl)
        have E1 := Lib.hid (blk_cell (blk_new w3 31 #[.int .i64 0, .int .i64 1]) (i := 1) (v := .int .i64 1) rfl)
        clear hal HR_3 X0_3 X1_3 B_3
        have HFR := Lib.hid (fun W => show Calls Try.prog 33 #[.int .i64 0, .int .i64 1] W (Ret (.agg #[.int .i64 0, .int .i64 1]) W) from frV_one 0 ▸ fracOfH_any 0 1 W (by unfold Hug; omega) (by unfold Hug; omega) (by omega))
        have q_X0 := X0_3b.out
        have q_X1 := X1_3b.out
        have q_E0 := E0.out
        have q_E1 := E1.out
        have SX := Lib.hid (And.intro q_X0 q_X1)
        have DX := B_3b
        go_wp2
        generalize w3.alloc (.cells #[.int .i64 0, .int .i64 1] 31) = w3a at *
        generalize w3.heap.size = h3a at *
        go_region_held3 (fun W => W.cell? ⟨h2a, 0, none⟩ = some (.int .i64 0) ∧ W.cell? ⟨h2a, 1, none⟩ = some (.int .i64 1))
          (first | exact SX.out | go_keep)
          (first
          | (go_at_call 33; (with_reducible refine (HFR.out _).mono ?_); rintro e v1 ⟨rfl, hb⟩; have SX := Lib.hid (And.intro (Keep.below hb _ _ SX.out.1) (Keep.below hb _ _ SX.out.2)); have DX := Lib.hid (show Below w.heap.size w v1 from by first | exact below_up DX.out hb | exact below_up DX.out.drew hb); clear hb))
        all_goals
          clear q_X0 q_X1 q_E0 q_E1
          go_wp2
          go_ret
          exact ⟨rfl, DX.out⟩
      · by_cases hN : i = n
        · subst hN
          have HV := Lib.hid (show ffV xss i i = .agg #[.int .i64 1, .int .i64 1] ∧ pb (FQ xss i i) = true from ⟨by rw [HV0.1, hcr.fxU_all]; unfold frV; rw [(fr_whole (by omega)).1, (fr_whole (by omega)).2], HV0.2⟩)
          clear hv HV0 hT hcr
          have HC := Lib.hid (FixedFrom_impl _ _ _ xss i i w1 HR.out ⟨by omega, by omega⟩ ⟨by omega, by omega⟩)
          rw [HV.out.1, HV.out.2] at HC
          go_wp2_with fail
          refine HC.out.mono ?_
          rintro e w2 ⟨rfl, hb⟩
          have HR_2 := Lib.hid (HR.out.keep (Keep.below hb))
          have B_2 := Lib.hid (below_up B1.out hb)
          clear hb HC HR B1
          have hal := below_alloc w2 (.cells #[.int .i64 1, .int .i64 1] 31)
          have HR_2b := Lib.hid (HR_2.out.keep (Keep.below hal))
          have B_2b := Lib.hid (below_up B_2.out hal)
          have X0 := Lib.hid (blk_cell (blk_new w2 31 #[.int .i64 1, .int .i64 1]) (i := 0) (v := .int .i64 1) rfl)
          have X1 := Lib.hid (blk_cell (blk_new w2 31 #[.int .i64 1, .int .i64 1]) (i := 1) (v := .int .i64 1) rfl)
          clear hal HR_2 B_2
          have HC := Lib.hid (FixedFrom_spec _ _ _ xss i i (w2.alloc (.cells #[.int .i64 1, .int .i64 1] 31)) HR_2b.out ⟨by omega, by omega⟩ ⟨by omega, by omega⟩)
          rw [HV.out.1, HV.out.2] at HC
          go_wp2_with fail
          generalize w2.alloc (.cells #[.int .i64 1, .int .i64 1] 31) = w2a at *
          generalize w2.heap.size = h2a at *
          refine HC.out.mono ?_
          rintro e w3 ⟨rfl, hb⟩
          have HR_3 := Lib.hid (HR_2b.out.keep (Keep.below hb))
          have X0_3 := Lib.hid (Keep.below hb _ _ X0.out)
          have X1_3 := Lib.hid (Keep.below hb _ _ X1.out)
          have B_3 := Lib.hid (below_up B_2b.out hb)
          clear hb HC HR_2b X0 X1 B_2b
          have hal := below_alloc w3 (.cells #[.int .i64 1, .int .i64 1] 31)
          have HR_3b := Lib.hid (HR_3.out.keep (Keep.below hal))
          have X0_3b := Lib.hid (Keep.below hal _ _ X0_3.out)
          have X1_3b := Lib.hid (Keep.below hal _ _ X1_3.out)
          have B_3b := Lib.hid (below_up B_3.out hal)
          have E0 := Lib.hid (blk_cell (blk_new w3 31 #[.int .i64 1, .int .i64 1]) (i := 0) (v := .int .i64 1) rfl)
          have E1 := Lib.hid (blk_cell (blk_new w3 31 #[.int .i64 1, .int .i64 1]) (i := 1) (v := .int .i64 1) rfl)
          clear hal HR_3 X0_3 X1_3 B_3
          have HFR := Lib.hid (fun W => show Calls Try.prog 33 #[.int .i64 1, .int .i64 1] W (Ret (.agg #[.int .i64 1, .int .i64 1]) W) from frV_one 1 ▸ fracOfH_any 1 1 W (by unfold Hug; omega) (by unfold Hug; omega) (by omega))
          have q_X0 := X0_3b.out
          have q_X1 := X1_3b.out
          have q_E0 := E0.out
          have q_E1 := E1.out
          have SX := Lib.hid (And.intro q_X0 q_X1)
          have DX := B_3b
          have hz : ((i : Int) == 0) = false := by rw [beq_eq_false_iff_ne]; omega
          go_wp2
          generalize w3.alloc (.cells #[.int .i64 1, .int .i64 1] 31) = w3a at *
          generalize w3.heap.size = h3a at *
          go_region_held3 (fun W => W.cell? ⟨h2a, 0, none⟩ = some (.int .i64 1) ∧ W.cell? ⟨h2a, 1, none⟩ = some (.int .i64 1))
            (first | exact SX.out | go_keep)
            (first
            | (go_at_call 33; (with_reducible refine (HFR.out _).mono ?_); rintro e v1 ⟨rfl, hb⟩; have SX := Lib.hid (And.intro (Keep.below hb _ _ SX.out.1) (Keep.below hb _ _ SX.out.2)); have DX := Lib.hid (show Below w.heap.size w v1 from by first | exact below_up DX.out hb | exact below_up DX.out.drew hb); clear hb))
          all_goals
            clear q_X0 q_X1 q_E0 q_E1
            go_wp2
            go_ret
            exact ⟨rfl, DX.out⟩
        · have h1 : 1 ≤ i := by omega
          have h2 : i < n := by omega
          have hz : ((i : Int) == 0) = false := by rw [beq_eq_false_iff_ne]; omega
          have hz2 : ((i : Int) == (n : Int)) = false := by rw [beq_eq_false_iff_ne]; omega
          have ci1 : ((i - 1 : Nat) : Int) = (i : Int) - 1 := by omega
          have ci2 : ((i + 1 : Nat) : Int) = (i : Int) + 1 := by omega
          have V1 := ff_yes hcr (i := i - 1) (by omega)
          have V2 := ff_yes hcr (i := i + 1) (by omega)
          rw [ci1] at V1
          rw [ci2] at V2
          have VP1 := pa_yes hcr h1 h2
          have bp := hcr.pf h1 h2
          have bq := hcr.pg h1 h2
          have bX := hcr.fr (i := i) (by omega)
          have bU := hcr.fr (i := i + 1) (by omega)
          have bD := hcr.fr (i := i - 1) (by omega)
          have s1 : fxU xss n (i + 1) - fxU xss n i = numP (pfA xss n) (pgA xss n) (n - 1) i := by rw [fxU_succ xss n i (by omega)]; omega
          have s2 : fxU xss n i - fxU xss n (i - 1) = numP (pfA xss n) (pgA xss n) (n - 1) (i - 1) := by
            have e := fxU_succ xss n (i - 1) (by omega)
            rw [show i - 1 + 1 = i by omega] at e; omega
          have nb1 := numP_bd hcr.fg (k := i) (by omega)
          have nb2 := numP_bd hcr.fg (k := i - 1) (by omega)
          have e1 := fr_sub (a := fxU xss n (i + 1)) (b := fxU xss n i) (T := fxT xss n) (by omega)
          have e2 := fr_sub (a := fxU xss n i) (b := fxU xss n (i - 1)) (T := fxT xss n) (by omega)
          rw [s1] at e1
          rw [s2] at e2
          have hfair := num_fair (f := pfA xss n) (g := pgA xss n) (m := n - 1) (i := i) h1 (by omega)
          have L1 : lessB (frU (fxU xss n (i - 1)) (fxT xss n)) (frD (fxU xss n (i - 1)) (fxT xss n)) (frU (fxU xss n i) (fxT xss n)) (frD (fxU xss n i) (fxT xss n)) = true := by
            unfold lessB; rw [decide_eq_true_iff, fr_lt (by omega) (by omega)]; exact Int.mul_lt_mul_of_pos_right (by omega) (by omega)
          have L2 : lessB (frU (fxU xss n i) (fxT xss n)) (frD (fxU xss n i) (fxT xss n)) (frU (fxU xss n (i + 1)) (fxT xss n)) (frD (fxU xss n (i + 1)) (fxT xss n)) = true := by
            unfold lessB; rw [decide_eq_true_iff, fr_lt (by omega) (by omega)]; exact Int.mul_lt_mul_of_pos_right (by omega) (by omega)
          have HN1 := Lib.hid (frU_le (u := numP (pfA xss n) (pgA xss n) (n - 1) i) (d := fxT xss n) (B := 1200000000) (by omega) (by omega) (by omega))
          have HN2 := Lib.hid (frU_le (u := numP (pfA xss n) (pgA xss n) (n - 1) (i - 1)) (d := fxT xss n) (B := 1200000000) (by omega) (by omega) (by omega))
          have HM1 := Lib.hid (frD_bd (u := numP (pfA xss n) (pgA xss n) (n - 1) i) (d := fxT xss n) (B := 1200000000) (by omega) (by omega))
          have HM2 := Lib.hid (frD_bd (u := numP (pfA xss n) (pgA xss n) (n - 1) (i - 1)) (d := fxT xss n) (B := 1200000000) (by omega) (by omega))
          have t1 := fr_scale (f := pfA xss n i) (a := numP (pfA xss n) (pgA xss n) (n - 1) i) (T := fxT xss n) (by omega)
          have t2 := fr_scale (f := pgA xss n i) (a := numP (pfA xss n) (pgA xss n) (n - 1) (i - 1)) (T := fxT xss n) (by omega)
          rw [← hfair] at t2
          have HPL1 := Lib.hid (fun W => e1 ▸ plusOfH_any (frU (fxU xss n (i + 1)) (fxT xss n)) (frD (fxU xss n (i + 1)) (fxT xss n)) (-(frU (fxU xss n i) (fxT xss n))) (frD (fxU xss n i) (fxT xss n)) W (by omega) (by omega) (by omega) (by omega))
          have HPL2 := Lib.hid (fun W => e2 ▸ plusOfH_any (frU (fxU xss n i) (fxT xss n)) (frD (fxU xss n i) (fxT xss n)) (-(frU (fxU xss n (i - 1)) (fxT xss n))) (frD (fxU xss n (i - 1)) (fxT xss n)) W (by omega) (by omega) (by omega) (by omega))
          have HTM1 := Lib.hid (fun W => t1 ▸ timesOfH_any (pfA xss n i) 1 (frU (numP (pfA xss n) (pgA xss n) (n - 1) i) (fxT xss n)) (frD (numP (pfA xss n) (pgA xss n) (n - 1) i) (fxT xss n)) W (by omega) (by have := HN1.out; omega) (by omega) (by have := HM1.out; omega))
          have HTM2 := Lib.hid (fun W => t2 ▸ timesOfH_any (pgA xss n i) 1 (frU (numP (pfA xss n) (pgA xss n) (n - 1) (i - 1)) (fxT xss n)) (frD (numP (pfA xss n) (pgA xss n) (n - 1) (i - 1)) (fxT xss n)) W (by omega) (by have := HN2.out; omega) (by omega) (by have := HM2.out; omega))
          have HLS1 := Lib.hid (fun W => L1 ▸ lessOfH_any _ _ _ _ W (bd12 bD.1 (by omega)) (bd12 bX.1 (by omega)) (by omega) (by omega))
          have HLS2 := Lib.hid (fun W => L2 ▸ lessOfH_any _ _ _ _ W (bd12 bX.1 (by omega)) (bd12 bU.1 (by omega)) (by omega) (by omega))
          have HF1 := Lib.hid (fun W => frV_one (pfA xss n i) ▸ fracOfH_any (pfA xss n i) 1 W (by unfold Hug; omega) (by unfold Hug; omega) (by omega))
          have HF2 := Lib.hid (fun W => frV_one (pgA xss n i) ▸ fracOfH_any (pgA xss n i) 1 W (by unfold Hug; omega) (by unfold Hug; omega) (by omega))
          unfold frV at V1 V2 HV0 HPL1 HPL2 HTM1 HTM2
          have HV := Lib.hid HV0
          have HV1 := Lib.hid V1
          have HV2 := Lib.hid V2
          have HPA := Lib.hid VP1
          obtain ⟨bx1, bx2⟩ := bX.1
          obtain ⟨bu1, bu2⟩ := bU.1
          obtain ⟨bd1, bd2⟩ := bD.1
          clear e1 e2 t1 t2 L1 L2 V1 V2 VP1 HV0 hfair s1 s2 nb1 nb2 HN1 HN2 HM1 HM2 hv h0 hN ci1 ci2 bX bU bD
          generalize frU (pfA xss n i * numP (pfA xss n) (pgA xss n) (n - 1) i) (fxT xss n) = R1 at *
          generalize frD (pfA xss n i * numP (pfA xss n) (pgA xss n) (n - 1) i) (fxT xss n) = R2 at *
          generalize frU (numP (pfA xss n) (pgA xss n) (n - 1) i) (fxT xss n) = A1 at *
          generalize frD (numP (pfA xss n) (pgA xss n) (n - 1) i) (fxT xss n) = A2 at *
          generalize frU (numP (pfA xss n) (pgA xss n) (n - 1) (i - 1)) (fxT xss n) = C1 at *
          generalize frD (numP (pfA xss n) (pgA xss n) (n - 1) (i - 1)) (fxT xss n) = C2 at *
          generalize frU (fxU xss n (i + 1)) (fxT xss n) = U2 at *
          generalize frD (fxU xss n (i + 1)) (fxT xss n) = D2 at *
          generalize frU (fxU xss n (i - 1)) (fxT xss n) = U1 at *
          generalize frD (fxU xss n (i - 1)) (fxT xss n) = D1 at *
          generalize frU (fxU xss n i) (fxT xss n) = X at *
          generalize frD (fxU xss n i) (fxT xss n) = D at *
          generalize pfA xss n i = P at *
          generalize pgA xss n i = Q at *
          clear hcr hT
          have HC := Lib.hid (FixedFrom_impl _ _ _ xss n i w1 HR.out ⟨by omega, by omega⟩ ⟨by omega, by omega⟩)
          rw [HV.out.1, HV.out.2] at HC
          go_wp2_with fail
          refine HC.out.mono ?_
          rintro e w2 ⟨rfl, hb⟩
          have HR_2 := Lib.hid (HR.out.keep (Keep.below hb))
          have B_2 := Lib.hid (below_up B1.out hb)
          clear hb HC HR B1
          have hal := below_alloc w2 (.cells #[.int .i64 X, .int .i64 D] 31)
          have HR_2b := Lib.hid (HR_2.out.keep (Keep.below hal))
          have B_2b := Lib.hid (below_up B_2.out hal)
          have X0 := Lib.hid (blk_cell (blk_new w2 31 #[.int .i64 X, .int .i64 D]) (i := 0) (v := .int .i64 X) rfl)
          have X1 := Lib.hid (blk_cell (blk_new w2 31 #[.int .i64 X, .int .i64 D]) (i := 1) (v := .int .i64 D) rfl)
          clear hal HR_2 B_2
          have HC := Lib.hid (FixedFrom_spec _ _ _ xss n i (w2.alloc (.cells #[.int .i64 X, .int .i64 D] 31)) HR_2b.out ⟨by omega, by omega⟩ ⟨by omega, by omega⟩)
          rw [HV.out.1, HV.out.2] at HC
          go_wp2_with fail
          generalize w2.alloc (.cells #[.int .i64 X, .int .i64 D] 31) = w2a at *
          generalize w2.heap.size = h2a at *
          refine HC.out.mono ?_
          rintro e w3 ⟨rfl, hb⟩
          have HR_3 := Lib.hid (HR_2b.out.keep (Keep.below hb))
          have X0_3 := Lib.hid (Keep.below hb _ _ X0.out)
          have X1_3 := Lib.hid (Keep.below hb _ _ X1.out)
          have B_3 := Lib.hid (below_up B_2b.out hb)
          clear hb HC HR_2b X0 X1 B_2b
          have hal := below_alloc w3 (.cells #[.int .i64 X, .int .i64 D] 31)
          have HR_3b := Lib.hid (HR_3.out.keep (Keep.below hal))
          have X0_3b := Lib.hid (Keep.below hal _ _ X0_3.out)
          have X1_3b := Lib.hid (Keep.below hal _ _ X1_3.out)
          have B_3b := Lib.hid (below_up B_3.out hal)
          have E0 := Lib.hid (blk_cell (blk_new w3 31 #[.int .i64 X, .int .i64 D]) (i := 0) (v := .int .i64 X) rfl)
          have E1 := Lib.hid (blk_cell (blk_new w3 31 #[.int .i64 X, .int .i64 D]) (i := 1) (v := .int .i64 D) rfl)
          clear hal HR_3 X0_3 X1_3 B_3
          have HC := Lib.hid (FixedFrom_impl _ _ _ xss n ((i : Int) - 1) (w3.alloc (.cells #[.int .i64 X, .int .i64 D] 31)) HR_3b.out ⟨by omega, by omega⟩ ⟨by omega, by omega⟩)
          rw [HV1.out.1, HV1.out.2] at HC
          have q_X0 := X0_3b.out
          have q_X1 := X1_3b.out
          have q_E0 := E0.out
          have q_E1 := E1.out
          go_wp2_with fail
          generalize w3.alloc (.cells #[.int .i64 X, .int .i64 D] 31) = w3a at *
          generalize w3.heap.size = h3a at *
          refine HC.out.mono ?_
          rintro e w4 ⟨rfl, hb⟩
          have HR_4 := Lib.hid (HR_3b.out.keep (Keep.below hb))
          have X0_4 := Lib.hid (Keep.below hb _ _ X0_3b.out)
          have X1_4 := Lib.hid (Keep.below hb _ _ X1_3b.out)
          have E0_4 := Lib.hid (Keep.below hb _ _ E0.out)
          have E1_4 := Lib.hid (Keep.below hb _ _ E1.out)
          have B_4 := Lib.hid (below_up B_3b.out hb)
          clear hb HC HR_3b X0_3b X1_3b E0 E1 B_3b q_X0 q_X1 q_E0 q_E1
          clear E0_4
          clear E1_4
          have hal := below_alloc w4 (.cells #[.int .i64 U1, .int .i64 D1] 31)
          have HR_4b := Lib.hid (HR_4.out.keep (Keep.below hal))
          have X0_4b := Lib.hid (Keep.below hal _ _ X0_4.out)
          have X1_4b := Lib.hid (Keep.below hal _ _ X1_4.out)
          have B_4b := Lib.hid (below_up B_4.out hal)
          have N0 := Lib.hid (blk_cell (blk_new w4 31 #[.int .i64 U1, .int .i64 D1]) (i := 0) (v := .int .i64 U1) rfl)
          have N1 := Lib.hid (blk_cell (blk_new w4 31 #[.int .i64 U1, .int .i64 D1]) (i := 1) (v := .int .i64 D1) rfl)
          clear hal HR_4 X0_4 X1_4 B_4
          have HC := Lib.hid (FixedFrom_impl _ _ _ xss n ((i : Int) + 1) (w4.alloc (.cells #[.int .i64 U1, .int .i64 D1] 31)) HR_4b.out ⟨by omega, by omega⟩ ⟨by omega, by omega⟩)
          rw [HV2.out.1, HV2.out.2] at HC
          go_wp2_with fail
          generalize w4.alloc (.cells #[.int .i64 U1, .int .i64 D1] 31) = w4a at *
          generalize w4.heap.size = h4a at *
          refine HC.out.mono ?_
          rintro e w5 ⟨rfl, hb⟩
          have HR_5 := Lib.hid (HR_4b.out.keep (Keep.below hb))
          have X0_5 := Lib.hid (Keep.below hb _ _ X0_4b.out)
          have X1_5 := Lib.hid (Keep.below hb _ _ X1_4b.out)
          have N0_5 := Lib.hid (Keep.below hb _ _ N0.out)
          have N1_5 := Lib.hid (Keep.below hb _ _ N1.out)
          have B_5 := Lib.hid (below_up B_4b.out hb)
          clear hb HC HR_4b X0_4b X1_4b N0 N1 B_4b
          have hal := below_alloc w5 (.cells #[.int .i64 U2, .int .i64 D2] 31)
          have HR_5b := Lib.hid (HR_5.out.keep (Keep.below hal))
          have X0_5b := Lib.hid (Keep.below hal _ _ X0_5.out)
          have X1_5b := Lib.hid (Keep.below hal _ _ X1_5.out)
          have N0_5b := Lib.hid (Keep.below hal _ _ N0_5.out)
          have N1_5b := Lib.hid (Keep.below hal _ _ N1_5.out)
          have B_5b := Lib.hid (below_up B_5.out hal)
          have M0 := Lib.hid (blk_cell (blk_new w5 31 #[.int .i64 U2, .int .i64 D2]) (i := 0) (v := .int .i64 U2) rfl)
          have M1 := Lib.hid (blk_cell (blk_new w5 31 #[.int .i64 U2, .int .i64 D2]) (i := 1) (v := .int .i64 D2) rfl)
          clear hal HR_5 X0_5 X1_5 N0_5 N1_5 B_5
          have HC := Lib.hid (PaysAt_impl _ _ _ xss n i (w5.alloc (.cells #[.int .i64 U2, .int .i64 D2] 31)) HR_5b.out ⟨by omega, by omega⟩ ⟨by omega, by omega⟩)
          rw [HPA.out.1, HPA.out.2] at HC
          go_wp2_with fail
          generalize w5.alloc (.cells #[.int .i64 U2, .int .i64 D2] 31) = w5a at *
          generalize w5.heap.size = h5a at *
          refine HC.out.mono ?_
          rintro e w6 ⟨rfl, hb⟩
          have HR_6 := Lib.hid (HR_5b.out.keep (Keep.below hb))
          have X0_6 := Lib.hid (Keep.below hb _ _ X0_5b.out)
          have X1_6 := Lib.hid (Keep.below hb _ _ X1_5b.out)
          have N0_6 := Lib.hid (Keep.below hb _ _ N0_5b.out)
          have N1_6 := Lib.hid (Keep.below hb _ _ N1_5b.out)
          have M0_6 := Lib.hid (Keep.below hb _ _ M0.out)
          have M1_6 := Lib.hid (Keep.below hb _ _ M1.out)
          have B_6 := Lib.hid (below_up B_5b.out hb)
          clear hb HC HR_5b X0_5b X1_5b N0_5b N1_5b M0 M1 B_5b
          have HC := Lib.hid (HPL1.out w6)
          have q_X0 := X0_6.out
          have q_X1 := X1_6.out
          have q_M0 := M0_6.out
          have q_M1 := M1_6.out
          go_wp2_with fail
          refine HC.out.mono ?_
          rintro e w7 ⟨rfl, hb⟩
          have HR_7 := Lib.hid (HR_6.out.keep (Keep.below hb))
          have X0_7 := Lib.hid (Keep.below hb _ _ X0_6.out)
          have X1_7 := Lib.hid (Keep.below hb _ _ X1_6.out)
          have N0_7 := Lib.hid (Keep.below hb _ _ N0_6.out)
          have N1_7 := Lib.hid (Keep.below hb _ _ N1_6.out)
          have M0_7 := Lib.hid (Keep.below hb _ _ M0_6.out)
          have M1_7 := Lib.hid (Keep.below hb _ _ M1_6.out)
          have B_7 := Lib.hid (below_up B_6.out hb)
          clear hb HC HR_6 X0_6 X1_6 N0_6 N1_6 M0_6 M1_6 B_6 q_X0 q_X1 q_M0 q_M1
          have hal := below_alloc w7 (.cells #[.int .i64 A1, .int .i64 A2] 31)
          have HR_7b := Lib.hid (HR_7.out.keep (Keep.below hal))
          have X0_7b := Lib.hid (Keep.below hal _ _ X0_7.out)
          have X1_7b := Lib.hid (Keep.below hal _ _ X1_7.out)
          have N0_7b := Lib.hid (Keep.below hal _ _ N0_7.out)
          have N1_7b := Lib.hid (Keep.below hal _ _ N1_7.out)
          have M0_7b := Lib.hid (Keep.below hal _ _ M0_7.out)
          have M1_7b := Lib.hid (Keep.below hal _ _ M1_7.out)
          have B_7b := Lib.hid (below_up B_7.out hal)
          have G0 := Lib.hid (blk_cell (blk_new w7 31 #[.int .i64 A1, .int .i64 A2]) (i := 0) (v := .int .i64 A1) rfl)
          have G1 := Lib.hid (blk_cell (blk_new w7 31 #[.int .i64 A1, .int .i64 A2]) (i := 1) (v := .int .i64 A2) rfl)
          clear hal HR_7 X0_7 X1_7 N0_7 N1_7 M0_7 M1_7 B_7
          have HC := Lib.hid (HPL2.out (w7.alloc (.cells #[.int .i64 A1, .int .i64 A2] 31)))
          have q_X0 := X0_7b.out
          have q_X1 := X1_7b.out
          have q_N0 := N0_7b.out
          have q_N1 := N1_7b.out
          go_wp2_with fail
          generalize w7.alloc (.cells #[.int .i64 A1, .int .i64 A2] 31) = w7a at *
          generalize w7.heap.size = h7a at *
          refine HC.out.mono ?_
          rintro e w8 ⟨rfl, hb⟩
          have HR_8 := Lib.hid (HR_7b.out.keep (Keep.below hb))
          have X0_8 := Lib.hid (Keep.below hb _ _ X0_7b.out)
          have X1_8 := Lib.hid (Keep.below hb _ _ X1_7b.out)
          have N0_8 := Lib.hid (Keep.below hb _ _ N0_7b.out)
          have N1_8 := Lib.hid (Keep.below hb _ _ N1_7b.out)
          have M0_8 := Lib.hid (Keep.below hb _ _ M0_7b.out)
          have M1_8 := Lib.hid (Keep.below hb _ _ M1_7b.out)
          have G0_8 := Lib.hid (Keep.below hb _ _ G0.out)
          have G1_8 := Lib.hid (Keep.below hb _ _ G1.out)
          have B_8 := Lib.hid (below_up B_7b.out hb)
          clear hb HC HR_7b X0_7b X1_7b N0_7b N1_7b M0_7b M1_7b G0 G1 B_7b q_X0 q_X1 q_N0 q_N1
          have hal := below_alloc w8 (.cells #[.int .i64 C1, .int .i64 C2] 31)
          have HR_8b := Lib.hid (HR_8.out.keep (Keep.below hal))
          have X0_8b := Lib.hid (Keep.below hal _ _ X0_8.out)
          have X1_8b := Lib.hid (Keep.below hal _ _ X1_8.out)
          have N0_8b := Lib.hid (Keep.below hal _ _ N0_8.out)
          have N1_8b := Lib.hid (Keep.below hal _ _ N1_8.out)
          have M0_8b := Lib.hid (Keep.below hal _ _ M0_8.out)
          have M1_8b := Lib.hid (Keep.below hal _ _ M1_8.out)
          have G0_8b := Lib.hid (Keep.below hal _ _ G0_8.out)
          have G1_8b := Lib.hid (Keep.below hal _ _ G1_8.out)
          have B_8b := Lib.hid (below_up B_8.out hal)
          have J0 := Lib.hid (blk_cell (blk_new w8 31 #[.int .i64 C1, .int .i64 C2]) (i := 0) (v := .int .i64 C1) rfl)
          have J1 := Lib.hid (blk_cell (blk_new w8 31 #[.int .i64 C1, .int .i64 C2]) (i := 1) (v := .int .i64 C2) rfl)
          clear hal HR_8 X0_8 X1_8 N0_8 N1_8 M0_8 M1_8 G0_8 G1_8 B_8
          have q_X0 := X0_8b.out
          have q_X1 := X1_8b.out
          have q_N0 := N0_8b.out
          have q_N1 := N1_8b.out
          have q_M0 := M0_8b.out
          have q_M1 := M1_8b.out
          have q_G0 := G0_8b.out
          have q_G1 := G1_8b.out
          have q_J0 := J0.out
          have q_J1 := J1.out
          have SX := Lib.hid (And.intro q_X0 (And.intro q_X1 (And.intro q_N0 (And.intro q_N1 (And.intro q_M0 (And.intro q_M1 (And.intro q_G0 (And.intro q_G1 (And.intro q_J0 q_J1)))))))))
          have DX := B_8b
          go_wp2
          generalize w8.alloc (.cells #[.int .i64 C1, .int .i64 C2] 31) = w8a at *
          generalize w8.heap.size = h8a at *
          go_region_held3 (fun W => W.cell? ⟨h2a, 0, none⟩ = some (.int .i64 X) ∧ W.cell? ⟨h2a, 1, none⟩ = some (.int .i64 D) ∧ W.cell? ⟨h4a, 0, none⟩ = some (.int .i64 U1) ∧ W.cell? ⟨h4a, 1, none⟩ = some (.int .i64 D1) ∧ W.cell? ⟨h5a, 0, none⟩ = some (.int .i64 U2) ∧ W.cell? ⟨h5a, 1, none⟩ = some (.int .i64 D2) ∧ W.cell? ⟨h7a, 0, none⟩ = some (.int .i64 A1) ∧ W.cell? ⟨h7a, 1, none⟩ = some (.int .i64 A2) ∧ W.cell? ⟨h8a, 0, none⟩ = some (.int .i64 C1) ∧ W.cell? ⟨h8a, 1, none⟩ = some (.int .i64 C2))
            (first | exact SX.out | go_keep)
            (first
            | (go_at_call 33; (with_reducible refine (HF1.out _).mono ?_); rintro e v1 ⟨rfl, hb⟩; have SX := Lib.hid (And.intro (Keep.below hb _ _ SX.out.1) (And.intro (Keep.below hb _ _ SX.out.2.1) (And.intro (Keep.below hb _ _ SX.out.2.2.1) (And.intro (Keep.below hb _ _ SX.out.2.2.2.1) (And.intro (Keep.below hb _ _ SX.out.2.2.2.2.1) (And.intro (Keep.below hb _ _ SX.out.2.2.2.2.2.1) (And.intro (Keep.below hb _ _ SX.out.2.2.2.2.2.2.1) (And.intro (Keep.below hb _ _ SX.out.2.2.2.2.2.2.2.1) (And.intro (Keep.below hb _ _ SX.out.2.2.2.2.2.2.2.2.1) (Keep.below hb _ _ SX.out.2.2.2.2.2.2.2.2.2)))))))))); have DX := Lib.hid (show Below w.heap.size w v1 from by first | exact below_up DX.out hb | exact below_up DX.out.drew hb); clear hb)
            | (go_at_call 33; (with_reducible refine (HF2.out _).mono ?_); rintro e v1 ⟨rfl, hb⟩; have SX := Lib.hid (And.intro (Keep.below hb _ _ SX.out.1) (And.intro (Keep.below hb _ _ SX.out.2.1) (And.intro (Keep.below hb _ _ SX.out.2.2.1) (And.intro (Keep.below hb _ _ SX.out.2.2.2.1) (And.intro (Keep.below hb _ _ SX.out.2.2.2.2.1) (And.intro (Keep.below hb _ _ SX.out.2.2.2.2.2.1) (And.intro (Keep.below hb _ _ SX.out.2.2.2.2.2.2.1) (And.intro (Keep.below hb _ _ SX.out.2.2.2.2.2.2.2.1) (And.intro (Keep.below hb _ _ SX.out.2.2.2.2.2.2.2.2.1) (Keep.below hb _ _ SX.out.2.2.2.2.2.2.2.2.2)))))))))); have DX := Lib.hid (show Below w.heap.size w v1 from by first | exact below_up DX.out hb | exact below_up DX.out.drew hb); clear hb)
            | (go_at_call 35; (with_reducible refine (HTM1.out _).mono ?_); rintro e v1 ⟨rfl, hb⟩; have SX := Lib.hid (And.intro (Keep.below hb _ _ SX.out.1) (And.intro (Keep.below hb _ _ SX.out.2.1) (And.intro (Keep.below hb _ _ SX.out.2.2.1) (And.intro (Keep.below hb _ _ SX.out.2.2.2.1) (And.intro (Keep.below hb _ _ SX.out.2.2.2.2.1) (And.intro (Keep.below hb _ _ SX.out.2.2.2.2.2.1) (And.intro (Keep.below hb _ _ SX.out.2.2.2.2.2.2.1) (And.intro (Keep.below hb _ _ SX.out.2.2.2.2.2.2.2.1) (And.intro (Keep.below hb _ _ SX.out.2.2.2.2.2.2.2.2.1) (Keep.below hb _ _ SX.out.2.2.2.2.2.2.2.2.2)))))))))); have DX := Lib.hid (show Below w.heap.size w v1 from by first | exact below_up DX.out hb | exact below_up DX.out.drew hb); clear hb)
            | (go_at_call 35; (with_reducible refine (HTM2.out _).mono ?_); rintro e v1 ⟨rfl, hb⟩; have SX := Lib.hid (And.intro (Keep.below hb _ _ SX.out.1) (And.intro (Keep.below hb _ _ SX.out.2.1) (And.intro (Keep.below hb _ _ SX.out.2.2.1) (And.intro (Keep.below hb _ _ SX.out.2.2.2.1) (And.intro (Keep.below hb _ _ SX.out.2.2.2.2.1) (And.intro (Keep.below hb _ _ SX.out.2.2.2.2.2.1) (And.intro (Keep.below hb _ _ SX.out.2.2.2.2.2.2.1) (And.intro (Keep.below hb _ _ SX.out.2.2.2.2.2.2.2.1) (And.intro (Keep.below hb _ _ SX.out.2.2.2.2.2.2.2.2.1) (Keep.below hb _ _ SX.out.2.2.2.2.2.2.2.2.2)))))))))); have DX := Lib.hid (show Below w.heap.size w v1 from by first | exact below_up DX.out hb | exact below_up DX.out.drew hb); clear hb)
            | (go_at_call 36; (with_reducible refine (HLS1.out _).mono ?_); rintro e v1 ⟨rfl, hb⟩; have SX := Lib.hid (And.intro (Keep.below hb _ _ SX.out.1) (And.intro (Keep.below hb _ _ SX.out.2.1) (And.intro (Keep.below hb _ _ SX.out.2.2.1) (And.intro (Keep.below hb _ _ SX.out.2.2.2.1) (And.intro (Keep.below hb _ _ SX.out.2.2.2.2.1) (And.intro (Keep.below hb _ _ SX.out.2.2.2.2.2.1) (And.intro (Keep.below hb _ _ SX.out.2.2.2.2.2.2.1) (And.intro (Keep.below hb _ _ SX.out.2.2.2.2.2.2.2.1) (And.intro (Keep.below hb _ _ SX.out.2.2.2.2.2.2.2.2.1) (Keep.below hb _ _ SX.out.2.2.2.2.2.2.2.2.2)))))))))); have DX := Lib.hid (show Below w.heap.size w v1 from by first | exact below_up DX.out hb | exact below_up DX.out.drew hb); clear hb)
            | (go_at_call 36; (with_reducible refine (HLS2.out _).mono ?_); rintro e v1 ⟨rfl, hb⟩; have SX := Lib.hid (And.intro (Keep.below hb _ _ SX.out.1) (And.intro (Keep.below hb _ _ SX.out.2.1) (And.intro (Keep.below hb _ _ SX.out.2.2.1) (And.intro (Keep.below hb _ _ SX.out.2.2.2.1) (And.intro (Keep.below hb _ _ SX.out.2.2.2.2.1) (And.intro (Keep.below hb _ _ SX.out.2.2.2.2.2.1) (And.intro (Keep.below hb _ _ SX.out.2.2.2.2.2.2.1) (And.intro (Keep.below hb _ _ SX.out.2.2.2.2.2.2.2.1) (And.intro (Keep.below hb _ _ SX.out.2.2.2.2.2.2.2.2.1) (Keep.below hb _ _ SX.out.2.2.2.2.2.2.2.2.2)))))))))); have DX := Lib.hid (show Below w.heap.size w v1 from by first | exact below_up DX.out hb | exact below_up DX.out.drew hb); clear hb))
          all_goals
            clear q_X0 q_X1 q_N0 q_N1 q_M0 q_M1 q_G0 q_G1 q_J0 q_J1
            go_wp2
            go_ret
            exact ⟨rfl, DX.out⟩
    · have HV := Lib.hid (show ffV xss n i = .agg #[.int .i64 0, .int .i64 0] ∧ pb (FQ xss n i) = false from ⟨ff_no hv, pb_false hv⟩)
      clear hv
      have HC := Lib.hid (FixedFrom_impl _ _ _ xss n i w1 HR.out ⟨by omega, by omega⟩ ⟨by omega, by omega⟩)
      rw [HV.out.1, HV.out.2] at HC
      go_wp2_with fail
      refine HC.out.mono ?_
      rintro e w2 ⟨rfl, hb⟩
      have HR_2 := Lib.hid (HR.out.keep (Keep.below hb))
      have B_2 := Lib.hid (below_up B1.out hb)
      clear hb HC HR B1
      have hal := below_alloc w2 (.cells #[.int .i64 0, .int .i64 0] 31)
      have HR_2b := Lib.hid (HR_2.out.keep (Keep.below hal))
      have B_2b := Lib.hid (below_up B_2.out hal)
      have X0 := Lib.hid (blk_cell (blk_new w2 31 #[.int .i64 0, .int .i64 0]) (i := 0) (v := .int .i64 0) rfl)
      have X1 := Lib.hid (blk_cell (blk_new w2 31 #[.int .i64 0, .int .i64 0]) (i := 1) (v := .int .i64 0) rfl)
      clear hal HR_2 B_2
      have HC := Lib.hid (FixedFrom_spec _ _ _ xss n i (w2.alloc (.cells #[.int .i64 0, .int .i64 0] 31)) HR_2b.out ⟨by omega, by omega⟩ ⟨by omega, by omega⟩)
      rw [HV.out.1, HV.out.2] at HC
      go_wp2_with fail
      generalize w2.alloc (.cells #[.int .i64 0, .int .i64 0] 31) = w2a at *
      generalize w2.heap.size = h2a at *
      refine HC.out.mono ?_
      rintro e w3 ⟨rfl, hb⟩
      have HR_3 := Lib.hid (HR_2b.out.keep (Keep.below hb))
      have X0_3 := Lib.hid (Keep.below hb _ _ X0.out)
      have X1_3 := Lib.hid (Keep.below hb _ _ X1.out)
      have B_3 := Lib.hid (below_up B_2b.out hb)
      clear hb HC HR_2b X0 X1 B_2b
      have hal := below_alloc w3 (.cells #[.int .i64 0, .int .i64 0] 31)
      have HR_3b := Lib.hid (HR_3.out.keep (Keep.below hal))
      have X0_3b := Lib.hid (Keep.below hal _ _ X0_3.out)
      have X1_3b := Lib.hid (Keep.below hal _ _ X1_3.out)
      have B_3b := Lib.hid (below_up B_3.out hal)
      have E0 := Lib.hid (blk_cell (blk_new w3 31 #[.int .i64 0, .int .i64 0]) (i := 0) (v := .int .i64 0) rfl)
      have E1 := Lib.hid (blk_cell (blk_new w3 31 #[.int .i64 0, .int .i64 0]) (i := 1) (v := .int .i64 0) rfl)
      clear hal HR_3 X0_3 X1_3 B_3
      have q_X0 := X0_3b.out
      have q_X1 := X1_3b.out
      have q_E0 := E0.out
      have q_E1 := E1.out
      go_wp2
      go_ret
      exact ⟨rfl, B_3b.out⟩

set_option maxRecDepth 100000 in
theorem hFnFixedFrom_lifted (os : Os) (started : os.Started) (H : Type) (enc : TypeId × Value → H) :
    ReturnsInHanded {} Try.checked os 11 .any (Rows.fnFixedFromSpec.pre6 enc Try.prog Try.f11 Rows.fnFixedFromRow.domain false) (Rows.fnFixedFromSpec.post enc Try.prog Try.f11 false true false false) := by
  refine returnsInHanded_of_change_sized (C := Try.checked) Try.own started (by kernel_rfl) Try.func11
    (ChangeSpec.witness6 (enc := enc) (C := Try.checked) false ⟨#[], #[.slice none 0 0], []⟩ 8 (by kernel_rfl) (by kernel_rfl) (by kernel_rfl) (by kernel_rfl)) ?_
  intro W base args ds gs before hval0 hW _ hwt _
  have hval : ∀ (j : Nat) t v, Try.f11.params[j]? = some t → args[j]? = some v → Value.okWide Try.prog W .any base t v := hval0
  have hA : ∃ p, DataW.TrodAll enc Try.prog W 0 (fun _ => true) true Try.f11.params.toList args.toList ds p := by obtain ⟨p, q, hA0, _⟩ := hW; exact ⟨p, hA0⟩
  obtain ⟨p, hA⟩ := hA
  have hwt' := weights_arg hwt (j := 0) (t := 41) (by rw [Try.params11]; rfl) (d := ds.getD 0 .nil)
  rw [Try.params11] at hA hval
  obtain ⟨v0, d0, rfl, rfl, h0⟩ := trodAll_one hA
  obtain ⟨A, n, c, rfl, hx⟩ := open_bytes (hval 0 41 v0 rfl rfl) h0 (hwt' rfl)
  refine (fnFixedFrom_calls A n c W hx).mono fun e W' ⟨he, hb⟩ => ?_
  subst he
  exact ⟨_, rfl, law_post (F := Try.f11) rfl rfl (by rw [Try.params11]; simp only [List.mem_cons, List.not_mem_nil, or_false, forall_eq]; exact ⟨by kernel_rfl, of_decide_eq_true (by kernel_rfl)⟩) hW (fun h => by subst h; rfl) hb⟩

theorem hFnFixedFrom_holds : Rows.FnFixedFromSaid :=
  OpenClaim.holds_of_wide 11 Try.f11 rfl rfl rfl rfl rfl rfl rfl ⟨rfl, rfl, rfl, rfl, rfl⟩ rfl rfl rfl rfl rfl (by kernel_rfl) Try.func11
    (by unfold joinedFacts; simp only [Bool.and_eq_true]; (repeat' apply And.intro) <;> (first | (with_reducible exact prog_enters) | ((with_reducible refine prog_lifts ?_); rfl) | ((with_reducible refine prog_make ?_); rfl) | kernel_rfl))
    (of_decide_eq_true (by kernel_rfl)) (by unfold Func.isWrapper; first | (rw [if_pos (by decide +kernel)]; kernel_rfl) | (rw [if_neg (by decide +kernel)]; exact ⟨rfl, rfl⟩))
    (fun os started H enc _ => hFnFixedFrom_lifted os started H enc)

end Go.Proofs.Ytgmicblfegjbnaa
