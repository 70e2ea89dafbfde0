/- The law FnBirthDrift holds: for every code, of what it draws, the program tells how much more weight a set has as the model does; by fair weights it is 0, and the set of all others has it with the other sign. No condition. -/
import Derived.Test.YtolnbkplgnpfjaaQ12
import Derived.Deep.RegionHeld3
namespace Go.Proofs.Ytolnbkplgnpfjaa
open Go.ChangeShapes Go.WideShapes Go.ChangeAt Go.RowKit Go.Deep

set_option maxRecDepth 100000 in
set_option maxHeartbeats 3200000 in
theorem fnBirthDrift_calls (A : Option Addr) (n c : Nat) (w : World) (hx : Bytes w A n c) :
    Calls Try.prog 5 #[.slice A n c] w fun e w' => e = .returned (.bool true) ∧ Below w.heap.size w w' := by
  have hmx := hx.max
  have H0 := Lib.hid (DrawBirthDrift_any A n c w hx)
  clear hx
  by_cases hs : 1048576 < n
  · go_enter Try.func5, Try.ntmps5
    go_wp2
    go_ret
    exact ⟨rfl, Below.refl _ _⟩
  · go_enter Try.func5, Try.ntmps5
    go_wp2_with fail
    refine H0.out.mono ?_
    rintro e w1 ⟨Av, k, cv, ys, Bv, m, cb, cs, s, rfl, hk5, hb32, hm6, hcs, hs0, hs1, hx, hc, hb⟩
    have HX := Lib.hid hx
    have HCW := Lib.hid hc
    have B1 := Lib.hid hb
    have HL := Lib.hid hx.len
    have HFS := Lib.hid (show Fit s from by unfold Fit; omega)
    have HC := Lib.hid (BirthDrift_impl Av k cv ys Bv m cb cs s w1 HX.out HCW.out HFS.out)
    have HC2 := Lib.hid (fun W (q : Keep w1 W) => BirthDrift_spec Av k cv ys Bv m cb cs s W (HX.out.keep q) (HCW.out.keep q) HFS.out)
    clear hb32 hm6 hcs hx hc hb H0
    by_cases hw : WQ ys cs s
    · have hk2 : 2 ≤ k := by rw [← HL.out]; exact hw.gr.b.n2
      have hset := hw.set
      unfold InR at hset
      rw [HL.out] at hset
      have hkp : (2 : Int) ^ k = pwF k := (pw5 k (by omega)).symm
      obtain ⟨hp1, hp2⟩ : 1 ≤ pwF k ∧ pwF k ≤ 32 := by rw [pw5 k (by omega)]; exact pow_bd5 k (by omega)
      have HVC := Lib.hid (pb_true hw.compl)
      have HDC := Lib.hid (df_yes (b := true) hw.compl)
      have HFV := Lib.hid (pb_true (hw.fair true))
      have HFD := Lib.hid (df_fair hw true)
      have HDA := Lib.hid (dA_bd (b := true) hw (Nat.le_refl _))
      have HSM := Lib.hid (df_sum (u := dAll ys cs s true) (d := 12 * (k : Int)) (by omega))
      rw [df_yes hw, pb_true hw] at HC HC2
      rw [dAll_compl hw] at HDC
      rw [show dA ys cs s true ys.length = dAll ys cs s true from rfl] at HDA
      rw [HL.out, hkp] at HVC HDC
      rw [hkp] at hset
      rw [HL.out] at HC HC2 HFV HFD
      have HWB := Lib.hid (fun v (hv : v < k) => wI_bd hw.gr true (v := v) (by rw [HL.out]; exact hv))
      have HDE := Lib.hid (fun v (hv : v < k) => show 1 ≤ dgI ys v ∧ dgI ys v ≤ 4 from by have h := hw.gr.deg (v := v) (by rw [HL.out]; exact hv); unfold dgI; omega)
      have HNAT := Lib.hid (fun v (hv : v < k) => hw.gr.b.nat (v := v) (by rw [HL.out]; exact hv))
      have HDG := Lib.hid (fun v (hv : v < k) => show dgI ys v = (((memL (gi ys v).toNat k).length : Nat) : Int) by rw [← HL.out, nb_n hw.gr.b.inn hw.gr.b.n5 (by rw [HL.out]; exact hv)]; rfl)
      have HWD := Lib.hid (fun v (hv : v < k) => show (12 : Int) / dgI ys v = wI ys true v ∧ Int.tdiv 12 (dgI ys v) = wI ys true v ∧ wrap64 (wI ys true v) = wI ys true v from by
        have h := HDE.out v hv
        unfold wI dgI at *
        generalize dg ys v = x at *
        rcases (show x = 1 ∨ x = 2 ∨ x = 3 ∨ x = 4 by omega) with rfl | rfl | rfl | rfl <;> decide +kernel)
      have HML := Lib.hid memL_step
      have HPW := Lib.hid (fun W => lpower_any k W (by omega))
      obtain ⟨i0, hi0, hz0, hz1, hz2⟩ := info_parts Try.info_int
      obtain ⟨u1, u2⟩ := HDA.out
      have q1 := frU_bd (u := dAll ys cs s true) (d := 12 * (k : Int)) (B := 300000) (by omega) HDA.out
      have q2 := frD_bd (u := dAll ys cs s true) (d := 12 * (k : Int)) (B := 60) (by omega) (by omega)
      have q3 := frU_bd (u := -dAll ys cs s true) (d := 12 * (k : Int)) (B := 300000) (by omega) (by omega)
      have q4 := frD_bd (u := -dAll ys cs s true) (d := 12 * (k : Int)) (B := 60) (by omega) (by omega)
      clear hw hkp u1 u2 HDA
      unfold frV at HC HC2 HDC
      generalize frU (dAll ys cs s true) (12 * (k : Int)) = U at *
      generalize frD (dAll ys cs s true) (12 * (k : Int)) = D at *
      generalize frU (-dAll ys cs s true) (12 * (k : Int)) = U2 at *
      generalize frD (-dAll ys cs s true) (12 * (k : Int)) = D2 at *
      have HPL := Lib.hid (fun W => plusOfH_any U D U2 D2 W (by omega) (by omega) (by omega) (by omega))
      have HF1E : Hid (frV 0 1 = .agg #[.int .i64 0, .int .i64 1]) := Lib.hid (by have e := fr_zero (D := 1) (by omega); rw [frV, e.1, e.2])
      have HF1 := Lib.hid (fun W => HF1E.out ▸ fracOfH_any 0 1 W (by unfold Hug; omega) (by unfold Hug; omega) (by omega))
      unfold frV at HPL
      rw [HSM.out.1, HSM.out.2] at HPL
      have HBO := Lib.hid (And.intro q1 (And.intro q2 (And.intro q3 q4)))
      clear q1 q2 q3 q4 HSM HF1E
      go_wp2_with fail
      refine HC.out.mono ?_
      rintro e w2 ⟨rfl, hb⟩
      have HK2 := Lib.hid (Keep.below hb)
      have B2 := Lib.hid (below_up B1.out hb)
      clear hb HC B1
      have hal := below_alloc w2 (.cells #[.int .i64 U, .int .i64 D] 39)
      have F1 := Lib.hid (blk_new w2 39 #[.int .i64 U, .int .i64 D])
      have B3 := Lib.hid (below_up B2.out hal)
      have HK3 := Lib.hid (Keep.trans HK2.out (Keep.below hal))
      clear hal B2 HK2
      have q0 := blk_cell F1.out (i := 0) (v := .int .i64 U) rfl
      have q1 := blk_cell F1.out (i := 1) (v := .int .i64 D) rfl
      go_wp2_with fail
      generalize w2.alloc (.cells #[.int .i64 U, .int .i64 D] 39) = w3 at *
      generalize w2.heap.size = h1 at *
      refine (HC2.out _ HK3.out).mono ?_
      rintro e w4 ⟨rfl, hb⟩
      have HK4 := Lib.hid (Keep.trans HK3.out (Keep.below hb))
      have B4 := Lib.hid (below_up B3.out hb)
      have F2 := Lib.hid (blk_below F1.out hb)
      clear hb HC2 B3 HK3 q0 q1 F1
      have hal := below_alloc w4 (.cells #[.int .i64 U, .int .i64 D] 39)
      have G1 := Lib.hid (blk_new w4 39 #[.int .i64 U, .int .i64 D])
      have F3 := Lib.hid (blk_below F2.out hal)
      have B5 := Lib.hid (below_up B4.out hal)
      have HK5 := Lib.hid (Keep.trans HK4.out (Keep.below hal))
      clear hal B4 HK4 F2
      have q0 := blk_cell F3.out (i := 0) (v := .int .i64 U) rfl
      have q1 := blk_cell F3.out (i := 1) (v := .int .i64 D) rfl
      have q2 := blk_cell G1.out (i := 0) (v := .int .i64 U) rfl
      have q3 := blk_cell G1.out (i := 1) (v := .int .i64 D) rfl
      have HX5 := Lib.hid (HX.out.keep HK5.out)
      have HC5 := Lib.hid (HCW.out.keep HK5.out)
      obtain ⟨b1, o1, rfl, hc1⟩ := HX5.out.at_ (by omega)
      obtain ⟨w5, hw5⟩ : ∃ w5, w5 = w4.alloc (.cells #[.int .i64 U, .int .i64 D] 39) := ⟨_, rfl⟩
      rw [← hw5] at F3 B5 HX5 HC5 hc1 q0 q1 q2 q3
      have HC1 := Lib.hid (fun v (hv : v < k) => hc1 v hv)
      have hsz : w5.heap.size = w4.heap.size + 1 := by rw [hw5]; exact World.size_alloc _ _
      have HU0 := Lib.hid (show IU w5 (.slice (some ⟨w4.heap.size + 1, 0, none⟩) 0 0) ((List.range 0).map (wI ys true)) (w5.alloc (.cells #[] 3)) from hsz ▸ IU.start w5)
      rw [hw5] at q0 q1 q2 q3
      clear hc1 HX HCW HK5 G1
      go_wp2
      rw [← hw5] at *
      clear q0 q1 q2 q3 hw5 hsz
      generalize w4.heap.size = h2 at *
      go_loopw [10, 11] (fun v i wr => ∃ j : Nat, j ≤ k ∧ i = .int .i64 j ∧ Hid (IU w5 v ((List.range j).map (wI ys true)) wr)) (fun _ i _ => k - (intOf i).toNat)
      case atStart => exact ⟨0, Nat.zero_le _, rfl, HU0⟩
      case round =>
        clear HU0
        obtain ⟨j, hj, rfl, HU⟩ := hrel
        obtain ⟨Au, cu, rfl⟩ := HU.out.bi.form
        by_cases hlt : j < k
        · obtain ⟨hg1, hg2⟩ := HNAT.out j hlt
          have c1 := Keep.below HU.out.up _ _ (HC1.out j hlt)
          rw [hg1] at c1
          have HDJ := Lib.hid (HDG.out j hlt)
          clear hg1
          generalize (gi ys j).toNat = sj at *
          have HS0 : Hid ((memL sj 0).length = 0) := Lib.hid rfl
          have HNX := Lib.hid (show (List.range (j + 1)).map (wI ys true) = (List.range j).map (wI ys true) ++ [wI ys true j] by simp [List.range_succ])
          have HYL : Hid (((List.range j).map (wI ys true)).length = j) := Lib.hid (by simp)
          generalize (List.range j).map (wI ys true) = ys2 at *
          go_wp2
          go_loop [12, 13] (fun x i => ∃ m : Nat, m ≤ k ∧ i = .int .i64 m ∧ x = .int .i64 ((memL sj m).length : Nat)) (fun _ i => k - (intOf i).toNat)
          case atStart => exact ⟨0, Nat.zero_le _, rfl, by rw [HS0.out]; rfl⟩
          case round =>
            obtain ⟨m, hm, rfl, rfl⟩ := hrel
            have hml := memL_le sj m
            by_cases hlt2 : m < k
            · have HB := Lib.hid (fun W => lbit_any sj m W (by omega) (by omega))
              have HE := Lib.hid (HML.out sj m)
              have hbb : sj / 2 ^ m % 2 ≤ 1 := by omega
              generalize sj / 2 ^ m % 2 = bb at *
              generalize (memL sj m).length = q at *
              go_wp2_with (go_at_call 28; refine (HB.out _).mono ?_; rintro e w' ⟨rfl, rfl⟩)
              go_round
              case rel => exact ⟨m + 1, by omega, by go_num, by rw [HE.out]; go_num⟩
              case measure => simp [intOf]; omega
            · obtain rfl : k = m := by omega
              rw [← HDJ.out]
              have hwd := HWD.out j hlt
              obtain ⟨d1, d2⟩ := HDE.out j hlt
              clear HDJ hml
              have hb := below_alloc wr (.cells #[iv (wI ys true j)] 3)
              have HB4 := Lib.hid (HU.out.bi.below hb).own
              have HN := Lib.hid (cell_one_new wr (iv (wI ys true j)) 3)
              have hwz := HU.out.up.size
              clear hb
              generalize dgI ys j = DG_ at *
              generalize wI ys true j = DJ at *
              have hd0 : (DG_ == 0) = false := by rw [beq_eq_false_iff_ne]; omega
              have hd1 : ¬ DG_ = 0 := by omega
              obtain ⟨hq1, hq2, hq3⟩ := hwd
              go_wp2_with (first
                | (at_builtin; refine wpList_append_own_at _ rfl _ _ 27 rfl w5.heap.size 3 i0 (.int .i64 0) 1 8 Try.underlying27 hi0 hz0 hz1 hz2 rfl (by decide) _ ys2.length (ys2.map iv) rfl HB4.out ⟨wr.heap.size, 0, none⟩ 1 1 [iv DJ] rfl rfl ?c1 ?c2 ?c3 ?c4 ?c5 ?_))
              case c1 => first | exact HN.out | (intro j u hu; exact hu)
              case c2 => first | (intro u hu; simp at hu; subst hu; rfl) | rfl
              case c3 => have := HYL.out; unfold maxLen; omega
              case c4 => have := HYL.out; omega
              case c5 => have := HYL.out; first | omega | (simp; omega)
              intro v' w6 hown' hgrow _ hat
              have HU5 := Lib.hid (HU.out.push hown' hgrow (by simpa using hat))
              clear HB4 HN hown' hgrow hat HU
              go_wp2
              go_roundw
              case rel => exact ⟨j + 1, by omega, by go_num, Lib.hid (by rw [HNX.out]; exact HU5.out)⟩
              case measure => simp [intOf]; omega
        · obtain rfl : k = j := by omega
          have HLN : Hid (((List.range k).map (wI ys true)).length = k) := Lib.hid (by simp)
          have HK := Lib.hid (IU.ints HU.out (by rw [HLN.out]; omega) (fun t ht => by
            obtain ⟨i, hi, rfl⟩ := List.mem_map.1 ht
            have := HWB.out i (List.mem_range.1 hi); omega))
          have HW := Lib.hid HU.out.up
          rw [HLN.out] at HK ⊢
          have HC := Lib.hid (BirthDrift_impl (some ⟨b1, o1, none⟩) k cv ys Au k cu (wIL ys true k) s wr (HX5.out.keep (Keep.below HW.out)) HK.out HFS.out)
          rw [HFD.out, HFV.out] at HC
          have B6 := Lib.hid (below_up B5.out HW.out)
          have F6 := Lib.hid (blk_below F3.out HW.out)
          have HX6 := Lib.hid (HX5.out.keep (Keep.below HW.out))
          have HC6 := Lib.hid (HC5.out.keep (Keep.below HW.out))
          clear HK HU HC1 HLN HW HX5 HC5 B5 F3 HFD HFV
          go_wp2_with fail
          refine HC.out.mono ?_
          rintro e w7 ⟨rfl, hb⟩
          have hal := below_alloc w7 (.cells #[.int .i64 0, .int .i64 1] 39)
          have G8 := Lib.hid (blk_new w7 39 #[.int .i64 0, .int .i64 1])
          have B8 := Lib.hid (below_up (below_up B6.out hb) hal)
          have F8 := Lib.hid (blk_below (blk_below F6.out hb) hal)
          have HX8 := Lib.hid ((HX6.out.keep (Keep.below hb)).keep (Keep.below hal))
          have HC8 := Lib.hid ((HC6.out.keep (Keep.below hb)).keep (Keep.below hal))
          have HC := Lib.hid (BirthDrift_impl (some ⟨b1, o1, none⟩) k cv ys Bv m cb cs (pwF k - 1 - s) _ HX8.out HC8.out (by unfold Fit; omega))
          rw [HDC.out, HVC.out] at HC
          clear hal hb HX6 HC6 B6 F6 HDC HVC HX8 HC8
          generalize pwF k = P at *
          go_wp2_with (go_at_call 29; (with_reducible refine (HPW.out _).mono ?_); rintro e w' ⟨rfl, rfl⟩)
          refine HC.out.mono ?_
          rintro e w9 ⟨rfl, hb⟩
          have hal := below_alloc w9 (.cells #[.int .i64 U2, .int .i64 D2] 39)
          have Ga := Lib.hid (blk_new w9 39 #[.int .i64 U2, .int .i64 D2])
          have G9 := Lib.hid (blk_below (blk_below G8.out hb) hal)
          have F9 := Lib.hid (blk_below (blk_below F8.out hb) hal)
          have B9 := Lib.hid (below_up (below_up B8.out hb) hal)
          clear hal hb HC B8 F8 G8 HPW
          generalize w7.heap.size = h3 at *
          have DX0 := Lib.hid (Below.refl (w9.alloc (.cells #[.int .i64 U2, .int .i64 D2] 39)).heap.size (w9.alloc (.cells #[.int .i64 U2, .int .i64 D2] 39)))
          obtain ⟨wa, hwa⟩ : ∃ wa, wa = w9.alloc (.cells #[.int .i64 U2, .int .i64 D2] 39) := ⟨_, rfl⟩
          have HSW := Lib.hid (fun W (q : Below wa.heap.size wa W) => show (W.cell? ⟨h1, 0, none⟩ = some (.int .i64 U) ∧ W.cell? ⟨h1, 1, none⟩ = some (.int .i64 D)) ∧ (W.cell? ⟨h3, 0, none⟩ = some (.int .i64 0) ∧ W.cell? ⟨h3, 1, none⟩ = some (.int .i64 1)) ∧ (W.cell? ⟨w9.heap.size, 0, none⟩ = some (.int .i64 U2) ∧ W.cell? ⟨w9.heap.size, 1, none⟩ = some (.int .i64 D2)) from by
            subst hwa
            exact ⟨⟨Keep.below q _ _ (blk_cell F9.out (i := 0) rfl), Keep.below q _ _ (blk_cell F9.out (i := 1) rfl)⟩, ⟨Keep.below q _ _ (blk_cell G9.out (i := 0) rfl), Keep.below q _ _ (blk_cell G9.out (i := 1) rfl)⟩, Keep.below q _ _ (blk_cell Ga.out (i := 0) rfl), Keep.below q _ _ (blk_cell Ga.out (i := 1) rfl)⟩)
          rw [← hwa] at DX0 B9
          have DX := Lib.hid DX0.out
          have SX := Lib.hid (HSW.out _ DX.out)
          clear F9 G9 Ga DX0
          go_wp2
          rw [← hwa] at *
          clear hwa
          generalize w9.heap.size = h4 at *
          go_region_held3 (fun W => (W.cell? ⟨h1, 0, none⟩ = some (.int .i64 U) ∧ W.cell? ⟨h1, 1, none⟩ = some (.int .i64 D)) ∧ (W.cell? ⟨h3, 0, none⟩ = some (.int .i64 0) ∧ W.cell? ⟨h3, 1, none⟩ = some (.int .i64 1)) ∧ (W.cell? ⟨h4, 0, none⟩ = some (.int .i64 U2) ∧ W.cell? ⟨h4, 1, none⟩ = some (.int .i64 D2)))
            (first | exact SX.out | exact HSW.out _ DX.out | exact HSW.out _ DX.out.drew | go_keep)
            (first
            | (go_at_call 30; (with_reducible refine (HF1.out _).mono ?_); rintro e v1 ⟨rfl, hb⟩; have DX := Lib.hid (show Below wa.heap.size wa v1 from by first | exact below_up DX.out hb | exact below_up DX.out.drew hb); have SX := Lib.hid (HSW.out _ DX.out); clear hb)
            | (go_at_call 31; (with_reducible refine (HPL.out _).mono ?_); rintro e v1 ⟨rfl, hb⟩; have DX := Lib.hid (show Below wa.heap.size wa v1 from by first | exact below_up DX.out hb | exact below_up DX.out.drew hb); have SX := Lib.hid (HSW.out _ DX.out); clear hb)
            | fail)
          all_goals
            have HEE := Lib.hid (below_up B9.out DX.out)
            clear SX DX
            go_wp2
            go_ret
            exact ⟨rfl, HEE.out⟩
    · rw [df_no hw, pb_false hw] at HC HC2
      clear hw
      go_wp2_with fail
      refine HC.out.mono ?_
      rintro e w2 ⟨rfl, hb⟩
      have HK2 := Lib.hid (Keep.below hb)
      have B2 := Lib.hid (below_up B1.out hb)
      clear hb HC B1
      have hal := below_alloc w2 (.cells #[.int .i64 0, .int .i64 0] 39)
      have F1 := Lib.hid (blk_new w2 39 #[.int .i64 0, .int .i64 0])
      have B3 := Lib.hid (below_up B2.out hal)
      have HK3 := Lib.hid (Keep.trans HK2.out (Keep.below hal))
      clear hal B2 HK2
      have q0 := blk_cell F1.out (i := 0) (v := .int .i64 0) rfl
      have q1 := blk_cell F1.out (i := 1) (v := .int .i64 0) rfl
      go_wp2_with fail
      generalize w2.alloc (.cells #[.int .i64 0, .int .i64 0] 39) = w3 at *
      generalize w2.heap.size = h1 at *
      refine (HC2.out _ HK3.out).mono ?_
      rintro e w4 ⟨rfl, hb⟩
      have B4 := Lib.hid (below_up B3.out hb)
      have F2 := Lib.hid (blk_below F1.out hb)
      clear hb HC2 B3 HK3 q0 q1 F1
      have hal := below_alloc w4 (.cells #[.int .i64 0, .int .i64 0] 39)
      have G1 := Lib.hid (blk_new w4 39 #[.int .i64 0, .int .i64 0])
      have F3 := Lib.hid (blk_below F2.out hal)
      have B5 := Lib.hid (below_up B4.out hal)
      clear hal B4 F2
      have q0 := blk_cell F3.out (i := 0) (v := .int .i64 0) rfl
      have q1 := blk_cell F3.out (i := 1) (v := .int .i64 0) rfl
      have q2 := blk_cell G1.out (i := 0) (v := .int .i64 0) rfl
      have q3 := blk_cell G1.out (i := 1) (v := .int .i64 0) rfl
      go_wp2
      go_ret
      exact ⟨rfl, B5.out⟩

set_option maxRecDepth 100000 in
theorem hFnBirthDrift_lifted (os : Os) (started : os.Started) (H : Type) (enc : TypeId × Value → H) :
    ReturnsInHanded {} Try.checked os 5 .any (Rows.fnBirthDriftSpec.pre6 enc Try.prog Try.f5 Rows.fnBirthDriftRow.domain false) (Rows.fnBirthDriftSpec.post enc Try.prog Try.f5 false true false false) := by
  refine returnsInHanded_of_change_sized (C := Try.checked) Try.own started (by kernel_rfl) Try.func5
    (ChangeSpec.witness6 (enc := enc) (C := Try.checked) false ⟨#[], #[.slice none 0 0], []⟩ 8 (by kernel_rfl) (by kernel_rfl) (by kernel_rfl) (by kernel_rfl)) ?_
  intro W base args ds gs before hval0 hW _ hwt _
  have hval : ∀ (j : Nat) t v, Try.f5.params[j]? = some t → args[j]? = some v → Value.okWide Try.prog W .any base t v := hval0
  have hA : ∃ p, DataW.TrodAll enc Try.prog W 0 (fun _ => true) true Try.f5.params.toList args.toList ds p := by obtain ⟨p, q, hA0, _⟩ := hW; exact ⟨p, hA0⟩
  obtain ⟨p, hA⟩ := hA
  have hwt' := weights_arg hwt (j := 0) (t := 22) (by rw [Try.params5]; rfl) (d := ds.getD 0 .nil)
  rw [Try.params5] at hA hval
  obtain ⟨v0, d0, rfl, rfl, h0⟩ := trodAll_one hA
  obtain ⟨A, n, c, rfl, hx⟩ := open_bytes (hval 0 22 v0 rfl rfl) h0 (hwt' rfl)
  refine (fnBirthDrift_calls A n c W hx).mono fun e W' ⟨he, hb⟩ => ?_
  subst he
  exact ⟨_, rfl, law_post (F := Try.f5) rfl rfl (by rw [Try.params5]; simp only [List.mem_cons, List.not_mem_nil, or_false, forall_eq]; exact ⟨by kernel_rfl, of_decide_eq_true (by kernel_rfl)⟩) hW (fun h => by subst h; rfl) hb⟩

theorem hFnBirthDrift_holds : Rows.FnBirthDriftSaid :=
  OpenClaim.holds_of_wide 5 Try.f5 rfl rfl rfl rfl rfl rfl rfl ⟨rfl, rfl, rfl, rfl, rfl⟩ rfl rfl rfl rfl rfl (by kernel_rfl) Try.func5
    (by unfold joinedFacts; simp only [Bool.and_eq_true]; (repeat' apply And.intro) <;> (first | (with_reducible exact prog_enters) | ((with_reducible refine prog_lifts ?_); rfl) | ((with_reducible refine prog_make ?_); rfl) | kernel_rfl))
    (of_decide_eq_true (by kernel_rfl)) (by unfold Func.isWrapper; first | (rw [if_pos (by decide +kernel)]; kernel_rfl) | (rw [if_neg (by decide +kernel)]; exact ⟨rfl, rfl⟩))
    (fun os started H enc _ => hFnBirthDrift_lifted os started H enc)

end Go.Proofs.Ytolnbkplgnpfjaa
