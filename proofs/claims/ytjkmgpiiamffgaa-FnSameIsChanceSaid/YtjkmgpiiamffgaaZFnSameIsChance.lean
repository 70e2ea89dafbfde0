/- The law FnSameIsChance holds: for every code, of what it draws, the program tells chances as the model does, for a table of one number they are the number of players of the strategy divided by all, and for two players as both have against each other. No condition. -/
import Derived.Test.YtjkmgpiiamffgaaQ10
namespace Go.Proofs.Ytjkmgpiiamffgaa
open Go.ChangeShapes Go.WideShapes Go.ChangeAt Go.RowKit Go.Deep
theorem same_num {f : Nat → Int} {m k : Nat} (hk : k ≤ m) : numP f f m k = upP f m := by
  unfold numP
  rw [up_dn f m (m - k) (by omega), show m - (m - k) = k by omega]
theorem same_sm {f : Nat → Int} {m : Nat} : ∀ {k : Nat}, k ≤ m + 1 → sm (numL f f m) k = (k : Int) * upP f m
  | 0, _ => by simp [sm]
  | k + 1, h => by
    rw [sm, same_sm (by omega), gi_numL (by omega), same_num (by omega), show ((k + 1 : Nat) : Int) = (k : Int) + 1 by omega, Int.add_mul, Int.one_mul]
theorem same_fx {n i : Nat} (hn : 2 ≤ n) (h6 : n ≤ 6) (hi : i ≤ n) : ffV [[3, 3], [3, 3]] n i = frV i n ∧ pb (FQ [[3, 3], [3, 3]] n i) = true := by
  have hcr : CR [[3, 3], [3, 3]] n := ⟨VP.mk2 (by omega) (by omega) (by omega) (by omega), hn, h6⟩
  refine ⟨?_, (ff_yes hcr hi).2⟩
  rw [(ff_yes hcr hi).1]
  have e : pgA [[3, 3], [3, 3]] n = pfA [[3, 3], [3, 3]] n := by
    funext j
    unfold pfA pgA
    simp only [g2, gr, gi, List.getD_cons_zero, List.getD_cons_succ]
    omega
  have hT := (hcr.fx hi).2
  have e1 : fxU [[3, 3], [3, 3]] n i = (i : Int) * upP (pfA [[3, 3], [3, 3]] n) (n - 1) := by unfold fxU; rw [e, same_sm (by omega)]
  have e2 : fxT [[3, 3], [3, 3]] n = (n : Int) * upP (pfA [[3, 3], [3, 3]] n) (n - 1) := by
    unfold fxT tot; rw [e, numL_len, same_sm (Nat.le_refl _), show n - 1 + 1 = n by omega]
  have h := fr_eq (u := fxU [[3, 3], [3, 3]] n i) (d := fxT [[3, 3], [3, 3]] n) (v := (i : Int)) (e := (n : Int)) (by omega) (by omega) (by rw [e1, e2]; grind)
  unfold frV; rw [h.1, h.2]
theorem two_fx {a : List (List Int)} (h : VP a) : ffV a 2 1 = frV (g2 a 0 1) (g2 a 0 1 + g2 a 1 0) ∧ pb (FQ a 2 1) = true := by
  have hcr : CR a 2 := ⟨h, by omega, by omega⟩
  have e := ff_yes hcr (i := 1) (by omega)
  refine ⟨e.1.trans ?_, e.2⟩
  have e1 : fxU a 2 1 = g2 a 0 1 := by
    rw [fxU_one, numP, upP, dnP, dnP, pfA]; simp
  have e2 : fxT a 2 = g2 a 0 1 + g2 a 1 0 := by
    have h2 := hcr.fx_last
    have h3 : numP (pfA a 2) (pgA a 2) 1 1 = g2 a 1 0 := by rw [numP, upP, upP, dnP, pgA]; simp
    have h4 : fxU a 2 (2 - 1) = g2 a 0 1 := e1
    have h5 : numP (pfA a 2) (pgA a 2) (2 - 1) (2 - 1) = g2 a 1 0 := h3
    omega
  rw [e1, e2]

set_option maxRecDepth 100000 in
set_option maxHeartbeats 3200000 in
theorem fnSameIsChance_calls (A : Option Addr) (n c : Nat) (w : World) (hx : Bytes w A n c) :
    Calls Try.prog 4 #[.slice A n c] w fun e w' => e = .returned (.bool true) ∧ Below w.heap.size w w' := by
  have hmx := hx.max
  have H0 := Lib.hid (DrawFixedFrom_any A n c w hx)
  clear hx
  by_cases hs : 1048576 < n
  · go_enter Try.func4, Try.ntmps4
    go_wp2
    go_ret
    exact ⟨rfl, Below.refl _ _⟩
  · go_enter Try.func4, Try.ntmps4
    go_wp2_with fail
    refine H0.out.mono ?_
    rintro e w1 ⟨Av, l, cv, gg, xss, n, i, rfl, ⟨n1, n2⟩, ⟨i1, i2⟩, hsm, hown, hb⟩
    have HR := Lib.hid hown.rows
    have B1 := Lib.hid hb
    clear hsm hown hb H0
    by_cases hv : FQ xss n i
    · obtain ⟨n, rfl, hcr⟩ := hv.1.nat
      obtain ⟨i, rfl⟩ : ∃ j : Nat, i = j := ⟨i.toNat, by have := hv.2; unfold InR at this; omega⟩
      have hin : i ≤ n := by have := hv.2; unfold InR at this; omega
      have hn6 := hcr.n6
      have hn2 := hcr.n2
      have V0 := ff_yes hcr hin
      have V1 := same_fx hn2 hn6 hin
      have V2 := two_fx hcr.p
      have b01 := hcr.p.bd (i := 0) (j := 1) (by omega) (by omega)
      have b10 := hcr.p.bd (i := 1) (j := 0) (by omega) (by omega)
      obtain ⟨b, o, rb, ro, cc, rfl, rfl, tab⟩ := hcr.tab HR.out
      have HT := Lib.hid tab
      have HC2 := Lib.hid (fun A l c W h => FixedFrom_impl A l c [[3, 3], [3, 3]] n i W h ⟨by omega, by omega⟩ ⟨by omega, by omega⟩)
      rw [V1.1, V1.2] at HC2
      have HC3 := Lib.hid (fun A l c W h => FixedFrom_impl A l c xss 2 1 W h ⟨by omega, by omega⟩ ⟨by omega, by omega⟩)
      rw [V2.1, V2.2] at HC3
      have HF1 := Lib.hid (fun W => fracOfH_any (i : Int) (n : Int) W (by unfold Hug; omega) (by unfold Hug; omega) (by omega))
      have HF2 := Lib.hid (fun W => fracOfH_any (g2 xss 0 1) (g2 xss 0 1 + g2 xss 1 0) W (by unfold Hug; omega) (by unfold Hug; omega) (by omega))
      unfold frV at V0 HC2 HC3 HF1 HF2
      have HV := Lib.hid V0
      clear V0 V1 V2 tab hv hcr
      generalize frU (fxU xss n i) (fxT xss n) = X at *
      generalize frD (fxU xss n i) (fxT xss n) = D at *
      generalize frU (i : Int) (n : Int) = U1 at *
      generalize frD (i : Int) (n : Int) = D1 at *
      generalize frU (g2 xss 0 1) (g2 xss 0 1 + g2 xss 1 0) = U2 at *
      generalize frD (g2 xss 0 1) (g2 xss 0 1 + g2 xss 1 0) = D2 at *
      generalize hgy : g2 xss 0 1 = y at *
      generalize hgz : g2 xss 1 0 = z at *
      have HXY := Lib.hid (And.intro hgy hgz)
      clear hgy hgz
      have HC := Lib.hid (FixedFrom_impl _ _ _ xss n i w1 HR.out ⟨by omega, by omega⟩ ⟨by omega, by omega⟩)
      rw [HV.out.1, HV.out.2] at HC
      go_wp2_with fail
      refine HC.out.mono ?_
      rintro e w2 ⟨rfl, hb⟩
      have HR_2 := Lib.hid (HR.out.keep (Keep.below hb))
      have HT_2 := Lib.hid (HT.out.keep (Keep.below hb))
      have B_2 := Lib.hid (below_up B1.out hb)
      clear hb HC HR HT B1
      have hal := below_alloc w2 (.cells #[.int .i64 X, .int .i64 D] 27)
      have HR_2b := Lib.hid (HR_2.out.keep (Keep.below hal))
      have HT_2b := Lib.hid (HT_2.out.keep (Keep.below hal))
      have B_2b := Lib.hid (below_up B_2.out hal)
      have X0 := Lib.hid (blk_cell (blk_new w2 27 #[.int .i64 X, .int .i64 D]) (i := 0) (v := .int .i64 X) rfl)
      have X1 := Lib.hid (blk_cell (blk_new w2 27 #[.int .i64 X, .int .i64 D]) (i := 1) (v := .int .i64 D) rfl)
      clear hal HR_2 HT_2 B_2
      have HC := Lib.hid (FixedFrom_spec _ _ _ xss n i (w2.alloc (.cells #[.int .i64 X, .int .i64 D] 27)) HR_2b.out ⟨by omega, by omega⟩ ⟨by omega, by omega⟩)
      rw [HV.out.1, HV.out.2] at HC
      go_wp2_with fail
      generalize w2.alloc (.cells #[.int .i64 X, .int .i64 D] 27) = w2a at *
      generalize w2.heap.size = h2a at *
      refine HC.out.mono ?_
      rintro e w3 ⟨rfl, hb⟩
      have HR_3 := Lib.hid (HR_2b.out.keep (Keep.below hb))
      have HT_3 := Lib.hid (HT_2b.out.keep (Keep.below hb))
      have X0_3 := Lib.hid (Keep.below hb _ _ X0.out)
      have X1_3 := Lib.hid (Keep.below hb _ _ X1.out)
      have B_3 := Lib.hid (below_up B_2b.out hb)
      clear hb HC HR_2b HT_2b X0 X1 B_2b
      have hal := below_alloc w3 (.cells #[.int .i64 X, .int .i64 D] 27)
      have HR_3b := Lib.hid (HR_3.out.keep (Keep.below hal))
      have HT_3b := Lib.hid (HT_3.out.keep (Keep.below hal))
      have X0_3b := Lib.hid (Keep.below hal _ _ X0_3.out)
      have X1_3b := Lib.hid (Keep.below hal _ _ X1_3.out)
      have B_3b := Lib.hid (below_up B_3.out hal)
      have E0 := Lib.hid (blk_cell (blk_new w3 27 #[.int .i64 X, .int .i64 D]) (i := 0) (v := .int .i64 X) rfl)
      have E1 := Lib.hid (blk_cell (blk_new w3 27 #[.int .i64 X, .int .i64 D]) (i := 1) (v := .int .i64 D) rfl)
      clear hal HR_3 HT_3 X0_3 X1_3 B_3
      have HC := Lib.hid (FixedFrom_impl _ _ _ xss n i (w3.alloc (.cells #[.int .i64 X, .int .i64 D] 27)) HR_3b.out ⟨by omega, by omega⟩ ⟨by omega, by omega⟩)
      rw [HV.out.1, HV.out.2] at HC
      have q_X0 := X0_3b.out
      have q_X1 := X1_3b.out
      have q_E0 := E0.out
      have q_E1 := E1.out
      go_wp2_with fail
      generalize w3.alloc (.cells #[.int .i64 X, .int .i64 D] 27) = w3a at *
      generalize w3.heap.size = h3a at *
      refine HC.out.mono ?_
      rintro e w4 ⟨rfl, hb⟩
      have HR_4 := Lib.hid (HR_3b.out.keep (Keep.below hb))
      have HT_4 := Lib.hid (HT_3b.out.keep (Keep.below hb))
      have X0_4 := Lib.hid (Keep.below hb _ _ X0_3b.out)
      have X1_4 := Lib.hid (Keep.below hb _ _ X1_3b.out)
      have E0_4 := Lib.hid (Keep.below hb _ _ E0.out)
      have E1_4 := Lib.hid (Keep.below hb _ _ E1.out)
      have B_4 := Lib.hid (below_up B_3b.out hb)
      clear hb HC HR_3b HT_3b X0_3b X1_3b E0 E1 B_3b q_X0 q_X1 q_E0 q_E1
      clear E0_4
      clear E1_4
      clear X0_4
      clear X1_4
      have hal := below_alloc w4 (.cells #[.int .i64 X, .int .i64 D] 27)
      have HR_4b := Lib.hid (HR_4.out.keep (Keep.below hal))
      have HT_4b := Lib.hid (HT_4.out.keep (Keep.below hal))
      have B_4b := Lib.hid (below_up B_4.out hal)
      have Y0 := Lib.hid (blk_cell (blk_new w4 27 #[.int .i64 X, .int .i64 D]) (i := 0) (v := .int .i64 X) rfl)
      have Y1 := Lib.hid (blk_cell (blk_new w4 27 #[.int .i64 X, .int .i64 D]) (i := 1) (v := .int .i64 D) rfl)
      clear hal HR_4 HT_4 B_4
      have hal := lit2_up (w4.alloc (.cells #[.int .i64 X, .int .i64 D] 27)) (.cells #[.int .i64 3, .int .i64 3] 3) (.cells #[.int .i64 3, .int .i64 3] 3) (.cells #[.slice (some ⟨w4.heap.size + 1, 0, none⟩) 2 2, .slice (some ⟨w4.heap.size + 1 + 1, 0, none⟩) 2 2] 30)
      have hl := lit2_rows (w4.alloc (.cells #[.int .i64 X, .int .i64 D] 27)) (x := 3) (y := 3) (z := 3) (t := 3) (by omega) (by omega) (by omega) (by omega)
      have HC := Lib.hid (by have h := HC2.out _ _ _ _ hl; simp only [World.size_alloc] at h; exact h)
      clear hl
      have q_Y0 := Y0.out
      have q_Y1 := Y1.out
      go_wp2_with fail
      clear q_Y0 q_Y1
      have HR_L := Lib.hid (HR_4b.out.keep (Keep.below hal))
      have HT_L := Lib.hid (HT_4b.out.keep (Keep.below hal))
      have Y0_L := Lib.hid (Keep.below hal _ _ Y0.out)
      have Y1_L := Lib.hid (Keep.below hal _ _ Y1.out)
      have B_L := Lib.hid (below_up B_4b.out hal)
      clear hal HR_4b HT_4b Y0 Y1 B_4b
      refine HC.out.mono ?_
      rintro e w5 ⟨rfl, hb⟩
      have HR_5 := Lib.hid (HR_L.out.keep (Keep.below hb))
      have HT_5 := Lib.hid (HT_L.out.keep (Keep.below hb))
      have Y0_5 := Lib.hid (Keep.below hb _ _ Y0_L.out)
      have Y1_5 := Lib.hid (Keep.below hb _ _ Y1_L.out)
      have B_5 := Lib.hid (below_up B_L.out hb)
      clear hb HC HR_L HT_L Y0_L Y1_L B_L
      have hal := below_alloc w5 (.cells #[.int .i64 U1, .int .i64 D1] 27)
      have HR_5b := Lib.hid (HR_5.out.keep (Keep.below hal))
      have HT_5b := Lib.hid (HT_5.out.keep (Keep.below hal))
      have Y0_5b := Lib.hid (Keep.below hal _ _ Y0_5.out)
      have Y1_5b := Lib.hid (Keep.below hal _ _ Y1_5.out)
      have B_5b := Lib.hid (below_up B_5.out hal)
      have G0 := Lib.hid (blk_cell (blk_new w5 27 #[.int .i64 U1, .int .i64 D1]) (i := 0) (v := .int .i64 U1) rfl)
      have G1 := Lib.hid (blk_cell (blk_new w5 27 #[.int .i64 U1, .int .i64 D1]) (i := 1) (v := .int .i64 D1) rfl)
      clear hal HR_5 HT_5 Y0_5 Y1_5 B_5
      have HC := Lib.hid (HC3.out _ _ _ (w5.alloc (.cells #[.int .i64 U1, .int .i64 D1] 27)) HR_5b.out)
      go_wp2_with fail
      generalize w5.alloc (.cells #[.int .i64 U1, .int .i64 D1] 27) = w5a at *
      generalize w5.heap.size = h5a at *
      refine HC.out.mono ?_
      rintro e w6 ⟨rfl, hb⟩
      have HR_6 := Lib.hid (HR_5b.out.keep (Keep.below hb))
      have HT_6 := Lib.hid (HT_5b.out.keep (Keep.below hb))
      have Y0_6 := Lib.hid (Keep.below hb _ _ Y0_5b.out)
      have Y1_6 := Lib.hid (Keep.below hb _ _ Y1_5b.out)
      have G0_6 := Lib.hid (Keep.below hb _ _ G0.out)
      have G1_6 := Lib.hid (Keep.below hb _ _ G1.out)
      have B_6 := Lib.hid (below_up B_5b.out hb)
      clear hb HC HR_5b HT_5b Y0_5b Y1_5b G0 G1 B_5b
      have hal := below_alloc w6 (.cells #[.int .i64 U2, .int .i64 D2] 27)
      have HR_6b := Lib.hid (HR_6.out.keep (Keep.below hal))
      have HT_6b := Lib.hid (HT_6.out.keep (Keep.below hal))
      have Y0_6b := Lib.hid (Keep.below hal _ _ Y0_6.out)
      have Y1_6b := Lib.hid (Keep.below hal _ _ Y1_6.out)
      have G0_6b := Lib.hid (Keep.below hal _ _ G0_6.out)
      have G1_6b := Lib.hid (Keep.below hal _ _ G1_6.out)
      have B_6b := Lib.hid (below_up B_6.out hal)
      have J0 := Lib.hid (blk_cell (blk_new w6 27 #[.int .i64 U2, .int .i64 D2]) (i := 0) (v := .int .i64 U2) rfl)
      have J1 := Lib.hid (blk_cell (blk_new w6 27 #[.int .i64 U2, .int .i64 D2]) (i := 1) (v := .int .i64 D2) rfl)
      clear hal HR_6 HT_6 Y0_6 Y1_6 G0_6 G1_6 B_6
      have q_G0 := G0_6b.out
      have q_G1 := G1_6b.out
      have q_J0 := J0.out
      have q_J1 := J1.out
      have q_Y0 := Y0_6b.out
      have q_Y1 := Y1_6b.out
      have r0 := HT_6b.out.row 0 (by omega)
      have r1 := HT_6b.out.row 1 (by omega)
      have c1 := HT_6b.out.cell 0 1 (by omega) (by omega)
      have c2 := HT_6b.out.cell 1 0 (by omega) (by omega)
      simp only [Nat.add_zero, HXY.out.1, HXY.out.2] at r0 c2 c1
      have SX := Lib.hid (And.intro q_G0 (And.intro q_G1 (And.intro q_J0 (And.intro q_J1 (And.intro r0 (And.intro r1 (And.intro c1 c2)))))))
      have DX := B_6b
      have hws : IntKind.i64.wrap (y + z) = y + z := wrap_in64 (by omega)
      go_wp2
      generalize w6.alloc (.cells #[.int .i64 U2, .int .i64 D2] 27) = w6a at *
      generalize w6.heap.size = h6a at *
      go_region_held3 (fun W => W.cell? ⟨h5a, 0, none⟩ = some (.int .i64 U1) ∧ W.cell? ⟨h5a, 1, none⟩ = some (.int .i64 D1) ∧ W.cell? ⟨h6a, 0, none⟩ = some (.int .i64 U2) ∧ W.cell? ⟨h6a, 1, none⟩ = some (.int .i64 D2) ∧ W.cell? ⟨b, o, none⟩ = some (.slice (some ⟨rb 0, ro 0, none⟩) 2 (cc 0)) ∧ W.cell? ⟨b, o + 1, none⟩ = some (.slice (some ⟨rb 1, ro 1, none⟩) 2 (cc 1)) ∧ W.cell? ⟨rb 0, ro 0 + 1, none⟩ = some (.int .i64 y) ∧ W.cell? ⟨rb 1, ro 1, none⟩ = some (.int .i64 z))
        (first | exact SX.out | go_keep)
        (first
        | (go_at_call 17; (with_reducible refine (HF1.out _).mono ?_); rintro e v1 ⟨rfl, hb⟩; have SX := Lib.hid (And.intro (Keep.below hb _ _ SX.out.1) (And.intro (Keep.below hb _ _ SX.out.2.1) (And.intro (Keep.below hb _ _ SX.out.2.2.1) (And.intro (Keep.below hb _ _ SX.out.2.2.2.1) (And.intro (Keep.below hb _ _ SX.out.2.2.2.2.1) (And.intro (Keep.below hb _ _ SX.out.2.2.2.2.2.1) (And.intro (Keep.below hb _ _ SX.out.2.2.2.2.2.2.1) (Keep.below hb _ _ SX.out.2.2.2.2.2.2.2)))))))); have DX := Lib.hid (show Below w.heap.size w v1 from by first | exact below_up DX.out hb | exact below_up DX.out.drew hb); clear hb)
        | (go_at_call 17; (with_reducible refine (HF2.out _).mono ?_); rintro e v1 ⟨rfl, hb⟩; have SX := Lib.hid (And.intro (Keep.below hb _ _ SX.out.1) (And.intro (Keep.below hb _ _ SX.out.2.1) (And.intro (Keep.below hb _ _ SX.out.2.2.1) (And.intro (Keep.below hb _ _ SX.out.2.2.2.1) (And.intro (Keep.below hb _ _ SX.out.2.2.2.2.1) (And.intro (Keep.below hb _ _ SX.out.2.2.2.2.2.1) (And.intro (Keep.below hb _ _ SX.out.2.2.2.2.2.2.1) (Keep.below hb _ _ SX.out.2.2.2.2.2.2.2)))))))); have DX := Lib.hid (show Below w.heap.size w v1 from by first | exact below_up DX.out hb | exact below_up DX.out.drew hb); clear hb))
      all_goals
        clear q_G0 q_G1 q_J0 q_J1 q_Y0 q_Y1 r0 r1 c1 c2 hws
        go_wp2
        go_ret
        exact ⟨rfl, DX.out⟩
    · have HV := Lib.hid (show ffV xss n i = .agg #[.int .i64 0, .int .i64 0] ∧ pb (FQ xss n i) = false from ⟨ff_no hv, pb_false hv⟩)
      clear hv
      have HC := Lib.hid (FixedFrom_impl _ _ _ xss n i w1 HR.out ⟨by omega, by omega⟩ ⟨by omega, by omega⟩)
      rw [HV.out.1, HV.out.2] at HC
      go_wp2_with fail
      refine HC.out.mono ?_
      rintro e w2 ⟨rfl, hb⟩
      have HR_2 := Lib.hid (HR.out.keep (Keep.below hb))
      have B_2 := Lib.hid (below_up B1.out hb)
      clear hb HC HR B1
      have hal := below_alloc w2 (.cells #[.int .i64 0, .int .i64 0] 27)
      have HR_2b := Lib.hid (HR_2.out.keep (Keep.below hal))
      have B_2b := Lib.hid (below_up B_2.out hal)
      have X0 := Lib.hid (blk_cell (blk_new w2 27 #[.int .i64 0, .int .i64 0]) (i := 0) (v := .int .i64 0) rfl)
      have X1 := Lib.hid (blk_cell (blk_new w2 27 #[.int .i64 0, .int .i64 0]) (i := 1) (v := .int .i64 0) rfl)
      clear hal HR_2 B_2
      have HC := Lib.hid (FixedFrom_spec _ _ _ xss n i (w2.alloc (.cells #[.int .i64 0, .int .i64 0] 27)) HR_2b.out ⟨by omega, by omega⟩ ⟨by omega, by omega⟩)
      rw [HV.out.1, HV.out.2] at HC
      go_wp2_with fail
      generalize w2.alloc (.cells #[.int .i64 0, .int .i64 0] 27) = w2a at *
      generalize w2.heap.size = h2a at *
      refine HC.out.mono ?_
      rintro e w3 ⟨rfl, hb⟩
      have HR_3 := Lib.hid (HR_2b.out.keep (Keep.below hb))
      have X0_3 := Lib.hid (Keep.below hb _ _ X0.out)
      have X1_3 := Lib.hid (Keep.below hb _ _ X1.out)
      have B_3 := Lib.hid (below_up B_2b.out hb)
      clear hb HC HR_2b X0 X1 B_2b
      have hal := below_alloc w3 (.cells #[.int .i64 0, .int .i64 0] 27)
      have HR_3b := Lib.hid (HR_3.out.keep (Keep.below hal))
      have X0_3b := Lib.hid (Keep.below hal _ _ X0_3.out)
      have X1_3b := Lib.hid (Keep.below hal _ _ X1_3.out)
      have B_3b := Lib.hid (below_up B_3.out hal)
      have E0 := Lib.hid (blk_cell (blk_new w3 27 #[.int .i64 0, .int .i64 0]) (i := 0) (v := .int .i64 0) rfl)
      have E1 := Lib.hid (blk_cell (blk_new w3 27 #[.int .i64 0, .int .i64 0]) (i := 1) (v := .int .i64 0) rfl)
      clear hal HR_3 X0_3 X1_3 B_3
      have HC := Lib.hid (FixedFrom_impl _ _ _ xss n i (w3.alloc (.cells #[.int .i64 0, .int .i64 0] 27)) HR_3b.out ⟨by omega, by omega⟩ ⟨by omega, by omega⟩)
      rw [HV.out.1, HV.out.2] at HC
      have q_X0 := X0_3b.out
      have q_X1 := X1_3b.out
      have q_E0 := E0.out
      have q_E1 := E1.out
      go_wp2_with fail
      generalize w3.alloc (.cells #[.int .i64 0, .int .i64 0] 27) = w3a at *
      generalize w3.heap.size = h3a at *
      refine HC.out.mono ?_
      rintro e w4 ⟨rfl, hb⟩
      have HR_4 := Lib.hid (HR_3b.out.keep (Keep.below hb))
      have X0_4 := Lib.hid (Keep.below hb _ _ X0_3b.out)
      have X1_4 := Lib.hid (Keep.below hb _ _ X1_3b.out)
      have E0_4 := Lib.hid (Keep.below hb _ _ E0.out)
      have E1_4 := Lib.hid (Keep.below hb _ _ E1.out)
      have B_4 := Lib.hid (below_up B_3b.out hb)
      clear hb HC HR_3b X0_3b X1_3b E0 E1 B_3b q_X0 q_X1 q_E0 q_E1
      clear E0_4
      clear E1_4
      clear X0_4
      clear X1_4
      have hal := below_alloc w4 (.cells #[.int .i64 0, .int .i64 0] 27)
      have HR_4b := Lib.hid (HR_4.out.keep (Keep.below hal))
      have B_4b := Lib.hid (below_up B_4.out hal)
      have Y0 := Lib.hid (blk_cell (blk_new w4 27 #[.int .i64 0, .int .i64 0]) (i := 0) (v := .int .i64 0) rfl)
      have Y1 := Lib.hid (blk_cell (blk_new w4 27 #[.int .i64 0, .int .i64 0]) (i := 1) (v := .int .i64 0) rfl)
      clear hal HR_4 B_4
      have q_Y0 := Y0.out
      have q_Y1 := Y1.out
      go_wp2
      go_ret
      exact ⟨rfl, B_4b.out⟩

set_option maxRecDepth 100000 in
theorem hFnSameIsChance_lifted (os : Os) (started : os.Started) (H : Type) (enc : TypeId × Value → H) :
    ReturnsInHanded {} Try.checked os 4 .any (Rows.fnSameIsChanceSpec.pre6 enc Try.prog Try.f4 Rows.fnSameIsChanceRow.domain false) (Rows.fnSameIsChanceSpec.post enc Try.prog Try.f4 false true false false) := by
  refine returnsInHanded_of_change_sized (C := Try.checked) Try.own started (by kernel_rfl) Try.func4
    (ChangeSpec.witness6 (enc := enc) (C := Try.checked) false ⟨#[], #[.slice none 0 0], []⟩ 8 (by kernel_rfl) (by kernel_rfl) (by kernel_rfl) (by kernel_rfl)) ?_
  intro W base args ds gs before hval0 hW _ hwt _
  have hval : ∀ (j : Nat) t v, Try.f4.params[j]? = some t → args[j]? = some v → Value.okWide Try.prog W .any base t v := hval0
  have hA : ∃ p, DataW.TrodAll enc Try.prog W 0 (fun _ => true) true Try.f4.params.toList args.toList ds p := by obtain ⟨p, q, hA0, _⟩ := hW; exact ⟨p, hA0⟩
  obtain ⟨p, hA⟩ := hA
  have hwt' := weights_arg hwt (j := 0) (t := 22) (by rw [Try.params4]; rfl) (d := ds.getD 0 .nil)
  rw [Try.params4] at hA hval
  obtain ⟨v0, d0, rfl, rfl, h0⟩ := trodAll_one hA
  obtain ⟨A, n, c, rfl, hx⟩ := open_bytes (hval 0 22 v0 rfl rfl) h0 (hwt' rfl)
  refine (fnSameIsChance_calls A n c W hx).mono fun e W' ⟨he, hb⟩ => ?_
  subst he
  exact ⟨_, rfl, law_post (F := Try.f4) rfl rfl (by rw [Try.params4]; simp only [List.mem_cons, List.not_mem_nil, or_false, forall_eq]; exact ⟨by kernel_rfl, of_decide_eq_true (by kernel_rfl)⟩) hW (fun h => by subst h; rfl) hb⟩

theorem hFnSameIsChance_holds : Rows.FnSameIsChanceSaid :=
  OpenClaim.holds_of_wide 4 Try.f4 rfl rfl rfl rfl rfl rfl rfl ⟨rfl, rfl, rfl, rfl, rfl⟩ rfl rfl rfl rfl rfl (by kernel_rfl) Try.func4
    (by unfold joinedFacts; simp only [Bool.and_eq_true]; (repeat' apply And.intro) <;> (first | (with_reducible exact prog_enters) | ((with_reducible refine prog_lifts ?_); rfl) | ((with_reducible refine prog_make ?_); rfl) | kernel_rfl))
    (of_decide_eq_true (by kernel_rfl)) (by unfold Func.isWrapper; first | (rw [if_pos (by decide +kernel)]; kernel_rfl) | (rw [if_neg (by decide +kernel)]; exact ⟨rfl, rfl⟩))
    (fun os started H enc _ => hFnSameIsChance_lifted os started H enc)

end Go.Proofs.Ytjkmgpiiamffgaa
