/- The law FnEvenGraphsAreFair holds: for every code, of what it draws, the program tells the chances of places as the model does, and places are ordered by their chances as by their neighbours. No condition. -/
import Derived.Test.YtolnbkplgnpfjaaQ12
import Derived.Deep.RegionHeld3
namespace Go.Proofs.Ytolnbkplgnpfjaa
open Go.ChangeShapes Go.WideShapes Go.ChangeAt Go.RowKit Go.Deep

set_option maxRecDepth 100000 in
set_option maxHeartbeats 3200000 in
theorem fnEvenGraphsAreFair_calls (A : Option Addr) (n c : Nat) (w : World) (hx : Bytes w A n c) :
    Calls Try.prog 9 #[.slice A n c] w fun e w' => e = .returned (.bool true) ∧ Below w.heap.size w w' := by
  have hmx := hx.max
  have H0 := Lib.hid (DrawPlaceChances_any A n c w hx)
  clear hx
  by_cases hs : 1048576 < n
  · go_enter Try.func9, Try.ntmps9
    go_wp2
    go_ret
    exact ⟨rfl, Below.refl _ _⟩
  · go_enter Try.func9, Try.ntmps9
    go_wp2_with fail
    refine H0.out.mono ?_
    rintro e w1 ⟨Av, k, cv, ys, s, rfl, hk5, hb32, hxy, hb⟩
    have HX := Lib.hid hxy
    have B1 := Lib.hid hb
    have HL := Lib.hid hxy.len
    clear hb32 hxy hb H0
    by_cases hg : GR ys
    · have HEB := Lib.hid (pcF_yes (s := ⟨#[98, 105, 114, 116, 104]⟩) (b := true) hg (by unfold KindIs; decide +kernel))
      have HED := Lib.hid (pcF_yes (s := ⟨#[100, 101, 97, 116, 104]⟩) (b := false) hg (by unfold KindIs; decide +kernel))
      have hk2 : 2 ≤ k := by rw [← HL.out]; exact hg.b.n2
      rw [HL.out] at HEB HED
      have HPL := Lib.hid (fun b => pcL_len ys b k)
      have HGI := Lib.hid (fun b i (hi : i < k) => gi_pcL ys b (k := k) hi)
      have HTB := Lib.hid (fun b => tW_bd hg b)
      have HWB := Lib.hid (fun b v (hv : v < k) => wI_bd hg b (v := v) (by rw [HL.out]; exact hv))
      have HLB := Lib.hid (fun u v (hu : u < k) (hv : v < k) => less_birth hg (u := u) (v := v) (by rw [HL.out]; exact hu) (by rw [HL.out]; exact hv))
      have HLD := Lib.hid (fun u v => less_death hg u v)
      have HDB := Lib.hid (fun v (hv : v < k) => show 1 ≤ dgI ys v ∧ dgI ys v ≤ 4 from by have h := hg.deg (v := v) (by rw [HL.out]; exact hv); unfold dgI; omega)
      have HNAT := Lib.hid (fun v (hv : v < k) => hg.b.nat (v := v) (by rw [HL.out]; exact hv))
      have HDG := Lib.hid (fun v (hv : v < k) => show dgI ys v = (((memL (gi ys v).toNat k).length : Nat) : Int) by rw [← HL.out, nb_n hg.b.inn hg.b.n5 (by rw [HL.out]; exact hv)]; rfl)
      have HML := Lib.hid memL_step
      have hk0 : ((k : Int) == 0) = false := by rw [beq_eq_false_iff_ne]; omega
      obtain ⟨i0, hi0, hz0, hz1, hz2⟩ := info_parts Try.info_int
      clear hg
      have HC := Lib.hid (PlaceChances_impl Av k cv ys s w1 HX.out)
      go_wp2_with fail
      refine HC.out.mono ?_
      rintro e w2 ⟨A2, n2, c2, g2_, rfl, hl2, ho, hb⟩
      have HX_2 := Lib.hid (HX.out.keep (Keep.below hb))
      have B_2 := Lib.hid (below_up B1.out hb)
      have HA := Lib.hid ho.frs
      clear ho
      clear hb HC HX B1
      have HC := Lib.hid (PlaceChances_spec Av k cv ys s w2 HX_2.out)
      go_wp2_with fail
      refine HC.out.mono ?_
      rintro e w3 ⟨A3, n3, c3, g3_, rfl, hl3, ho, hb⟩
      have HX_3 := Lib.hid (HX_2.out.keep (Keep.below hb))
      have HA_3 := Lib.hid (HA.out.keep (Keep.below hb))
      have B_3 := Lib.hid (below_up B_2.out hb)
      have HB_ := Lib.hid ho.frs
      clear ho
      clear hb HC HX_2 HA B_2
      obtain rfl : n2 = n3 := by omega
      clear hl2 hl3
      have HC := Lib.hid (equalFracs_any _ _ _ _ _ _ w3 HA_3.out HB_.out)
      go_wp2_with fail
      refine HC.out.mono ?_
      rintro e w4 ⟨rfl, hb⟩
      have HX_4 := Lib.hid (HX_3.out.keep (Keep.below hb))
      have HA_4 := Lib.hid (HA_3.out.keep (Keep.below hb))
      have HB__4 := Lib.hid (HB_.out.keep (Keep.below hb))
      have B_4 := Lib.hid (below_up B_3.out hb)
      clear hb HC HX_3 HA_3 HB_ B_3
      clear HB__4
      clear HA_4
      have HC := Lib.hid (HEB.out ▸ PlaceChances_impl Av k cv ys ⟨#[98, 105, 114, 116, 104]⟩ w4 HX_4.out)
      go_wp2_with fail
      refine HC.out.mono ?_
      rintro e w5 ⟨A4, n4, c4, g4_, rfl, hl4, ho, hb⟩
      have HX_5 := Lib.hid (HX_4.out.keep (Keep.below hb))
      have B_5 := Lib.hid (below_up B_4.out hb)
      have HP_ := Lib.hid ho.frs
      clear ho
      clear hb HC HX_4 B_4
      obtain rfl : k = n4 := by have := HPL.out true; omega
      clear hl4
      have HC := Lib.hid (HED.out ▸ PlaceChances_impl Av k cv ys ⟨#[100, 101, 97, 116, 104]⟩ w5 HX_5.out)
      go_wp2_with fail
      refine HC.out.mono ?_
      rintro e w6 ⟨A5, n5, c5, g5_, rfl, hl5, ho, hb⟩
      have HX_6 := Lib.hid (HX_5.out.keep (Keep.below hb))
      have HP__6 := Lib.hid (HP_.out.keep (Keep.below hb))
      have B_6 := Lib.hid (below_up B_5.out hb)
      have HQ_ := Lib.hid ho.frs
      clear ho
      clear hb HC HX_5 HP_ B_5
      obtain rfl : k = n5 := by have := HPL.out false; omega
      clear hl5
      obtain ⟨b1, o1, rfl, hc1⟩ := HX_6.out.at_ (by omega)
      obtain ⟨b4, o4, rfl, hc4⟩ := HP__6.out.at_ (by omega)
      obtain ⟨b5, o5, rfl, hc5⟩ := HQ_.out.at_ (by omega)
      have HC1 := Lib.hid (fun v (hv : v < k) => hc1 v hv)
      have HC4 := Lib.hid (fun v (hv : v < k) => show w6.cell? ⟨b4, o4 + v * 2, none⟩ = some (.int .i64 (frU (wI ys true v) (tW ys true))) ∧ w6.cell? ⟨b4, o4 + v * 2 + 1, none⟩ = some (.int .i64 (frD (wI ys true v) (tW ys true))) from ⟨(HGI.out true v hv).1 ▸ hc4 (v * 2) (by omega), (HGI.out true v hv).2 ▸ hc4 (v * 2 + 1) (by omega)⟩)
      have HC5 := Lib.hid (fun v (hv : v < k) => show w6.cell? ⟨b5, o5 + v * 2, none⟩ = some (.int .i64 (frU (wI ys false v) (tW ys false))) ∧ w6.cell? ⟨b5, o5 + v * 2 + 1, none⟩ = some (.int .i64 (frD (wI ys false v) (tW ys false))) from ⟨(HGI.out false v hv).1 ▸ hc5 (v * 2) (by omega), (HGI.out false v hv).2 ▸ hc5 (v * 2 + 1) (by omega)⟩)
      have HBB := Lib.hid B_6.out
      have HU0 := Lib.hid (show IU w6 (.slice (some ⟨w6.heap.size, 0, none⟩) 0 0) ((List.range 0).map (dgI ys)) (w6.alloc (.cells #[] 3)) from IU.start w6)
      clear hc1 hc4 hc5 HGI HEB HED HPL
      go_wp2
      go_loopw [7, 8] (fun v i wr => ∃ j : Nat, j ≤ k ∧ i = .int .i64 j ∧ Hid (IU w6 v ((List.range j).map (dgI ys)) wr)) (fun _ i _ => k - (intOf i).toNat)
      case atStart => exact ⟨0, Nat.zero_le _, rfl, HU0⟩
      case round =>
        clear HU0
        obtain ⟨j, hj, rfl, HU⟩ := hrel
        obtain ⟨Au, cu, rfl⟩ := HU.out.bi.form
        by_cases hlt : j < k
        · obtain ⟨hg1, hg2⟩ := HNAT.out j hlt
          have c1 := Keep.below HU.out.up _ _ (HC1.out j hlt)
          rw [hg1] at c1
          have HDJ := Lib.hid (HDG.out j hlt)
          clear hg1
          generalize (gi ys j).toNat = sj at *
          have HS0 : Hid ((memL sj 0).length = 0) := Lib.hid rfl
          have HNX := Lib.hid (show (List.range (j + 1)).map (dgI ys) = (List.range j).map (dgI ys) ++ [dgI ys j] by simp [List.range_succ])
          have HYL : Hid (((List.range j).map (dgI ys)).length = j) := Lib.hid (by simp)
          generalize (List.range j).map (dgI ys) = ys2 at *
          go_wp2
          go_loop [9, 10] (fun x i => ∃ m : Nat, m ≤ k ∧ i = .int .i64 m ∧ x = .int .i64 ((memL sj m).length : Nat)) (fun _ i => k - (intOf i).toNat)
          case atStart => exact ⟨0, Nat.zero_le _, rfl, by rw [HS0.out]; rfl⟩
          case round =>
            obtain ⟨m, hm, rfl, rfl⟩ := hrel
            have hml := memL_le sj m
            by_cases hlt2 : m < k
            · have HB := Lib.hid (fun W => lbit_any sj m W (by omega) (by omega))
              have HE := Lib.hid (HML.out sj m)
              have hbb : sj / 2 ^ m % 2 ≤ 1 := by omega
              generalize sj / 2 ^ m % 2 = bb at *
              generalize (memL sj m).length = q at *
              go_wp2_with (go_at_call 28; refine (HB.out _).mono ?_; rintro e w' ⟨rfl, rfl⟩)
              go_round
              case rel => exact ⟨m + 1, by omega, by go_num, by rw [HE.out]; go_num⟩
              case measure => simp [intOf]; omega
            · obtain rfl : k = m := by omega
              rw [← HDJ.out]
              clear HDJ hml
              have hb := below_alloc wr (.cells #[iv (dgI ys j)] 3)
              have HB4 := Lib.hid (HU.out.bi.below hb).own
              have HN := Lib.hid (cell_one_new wr (iv (dgI ys j)) 3)
              have hwz := HU.out.up.size
              clear hb
              generalize dgI ys j = DJ at *
              go_wp2_with (first
                | (at_builtin; refine wpList_append_own_at _ rfl _ _ 27 rfl w6.heap.size 3 i0 (.int .i64 0) 1 8 Try.underlying27 hi0 hz0 hz1 hz2 rfl (by decide) _ ys2.length (ys2.map iv) rfl HB4.out ⟨wr.heap.size, 0, none⟩ 1 1 [iv DJ] rfl rfl ?c1 ?c2 ?c3 ?c4 ?c5 ?_))
              case c1 => intro j u hu; exact hu
              case c2 => rfl
              case c3 => have := HYL.out; unfold maxLen; omega
              case c4 => have := HYL.out; omega
              case c5 => have := HYL.out; omega
              intro v' w5 hown' hgrow _ hat
              have HU5 := Lib.hid (HU.out.push hown' hgrow (by simpa using hat))
              clear HB4 HN hown' hgrow hat HU
              go_wp2
              go_roundw
              case rel => exact ⟨j + 1, by omega, by go_num, Lib.hid (by rw [HNX.out]; exact HU5.out)⟩
              case measure => simp [intOf]; omega
        · obtain rfl : k = j := by omega
          obtain ⟨wA, hwA⟩ : ∃ wA, wA = wr := ⟨_, rfl⟩
          subst hwA
          have HLN : Hid (((List.range k).map (dgI ys)).length = k) := Lib.hid (by simp)
          have HK := Lib.hid (IU.ints HU.out (by rw [HLN.out]; omega) (fun t ht => by
            obtain ⟨i, hi, rfl⟩ := List.mem_map.1 ht
            have := HDB.out i (List.mem_range.1 hi); omega))
          have HW := Lib.hid HU.out.up
          rw [HLN.out] at HK ⊢
          obtain ⟨b7, o7, rfl, hc7⟩ := HK.out.at_ (by omega)
          have HC7 := Lib.hid (fun v (hv : v < k) => show wA.cell? ⟨b7, o7 + v, none⟩ = some (.int .i64 (dgI ys v)) from gi_range (f := dgI ys) hv ▸ hc7 v hv)
          have HS4 := Lib.hid (fun u v (hu : u < k) (hv : v < k) W (q : Below wA.heap.size wA W) => show (W.cell? ⟨b4, o4 + u * 2, none⟩ = some (.int .i64 (frU (wI ys true u) (tW ys true))) ∧ W.cell? ⟨b4, o4 + u * 2 + 1, none⟩ = some (.int .i64 (frD (wI ys true u) (tW ys true)))) ∧ (W.cell? ⟨b4, o4 + v * 2, none⟩ = some (.int .i64 (frU (wI ys true v) (tW ys true))) ∧ W.cell? ⟨b4, o4 + v * 2 + 1, none⟩ = some (.int .i64 (frD (wI ys true v) (tW ys true)))) ∧ (W.cell? ⟨b5, o5 + v * 2, none⟩ = some (.int .i64 (frU (wI ys false v) (tW ys false))) ∧ W.cell? ⟨b5, o5 + v * 2 + 1, none⟩ = some (.int .i64 (frD (wI ys false v) (tW ys false)))) ∧ (W.cell? ⟨b5, o5 + u * 2, none⟩ = some (.int .i64 (frU (wI ys false u) (tW ys false))) ∧ W.cell? ⟨b5, o5 + u * 2 + 1, none⟩ = some (.int .i64 (frD (wI ys false u) (tW ys false)))) ∧ W.cell? ⟨b7, o7 + v, none⟩ = some (.int .i64 (dgI ys v)) ∧ W.cell? ⟨b7, o7 + u, none⟩ = some (.int .i64 (dgI ys u)) from
            ⟨⟨Keep.below q _ _ (Keep.below HW.out _ _ (HC4.out u hu).1), Keep.below q _ _ (Keep.below HW.out _ _ (HC4.out u hu).2)⟩, ⟨Keep.below q _ _ (Keep.below HW.out _ _ (HC4.out v hv).1), Keep.below q _ _ (Keep.below HW.out _ _ (HC4.out v hv).2)⟩,
             ⟨Keep.below q _ _ (Keep.below HW.out _ _ (HC5.out v hv).1), Keep.below q _ _ (Keep.below HW.out _ _ (HC5.out v hv).2)⟩, ⟨Keep.below q _ _ (Keep.below HW.out _ _ (HC5.out u hu).1), Keep.below q _ _ (Keep.below HW.out _ _ (HC5.out u hu).2)⟩, Keep.below q _ _ (HC7.out v hv), Keep.below q _ _ (HC7.out u hu)⟩)
          have HB0 := Lib.hid (below_up HBB.out HW.out)
          have HR0 := Lib.hid (Below.refl wA.heap.size wA)
          clear hc7 HK HU HC1 HC4 HC5 HC7 HLN HW HBB
          go_wp2
          go_loopw [11] (fun i wr => ∃ v : Nat, v ≤ k ∧ i = .int .i64 v ∧ Hid (Below wA.heap.size wA wr)) (fun i _ => k - (intOf i).toNat)
          case atStart => exact ⟨0, Nat.zero_le _, rfl, HR0⟩
          case round =>
            clear HR0
            obtain ⟨v, hv, rfl, HBW⟩ := hrel
            by_cases hlv : v < k
            · go_wp2
              go_loopw [12] (fun i wr => ∃ u : Nat, u ≤ k ∧ i = .int .i64 u ∧ Hid (Below wA.heap.size wA wr)) (fun i _ => k - (intOf i).toNat)
              case atStart => exact ⟨0, Nat.zero_le _, rfl, HBW⟩
              case round =>
                clear HBW
                obtain ⟨u, hu, rfl, HBZ⟩ := hrel
                by_cases hlu : u < k
                · obtain ⟨t1, t2⟩ := HTB.out true
                  obtain ⟨t3, t4⟩ := HTB.out false
                  obtain ⟨x1, x2⟩ := HWB.out true v hlv
                  obtain ⟨x3, x4⟩ := HWB.out false v hlv
                  obtain ⟨x5, x6⟩ := HWB.out true u hlu
                  obtain ⟨x7, x8⟩ := HWB.out false u hlu
                  have HM1 := Lib.hid (fun W => HLB.out u v hlu hlv ▸ lessOfH_any (frU (wI ys true u) (tW ys true)) (frD (wI ys true u) (tW ys true)) (frU (wI ys true v) (tW ys true)) (frD (wI ys true v) (tW ys true)) W (by have := frU_bd (u := wI ys true u) (d := tW ys true) (B := 12) (by omega) (by omega); omega) (by have := frU_bd (u := wI ys true v) (d := tW ys true) (B := 12) (by omega) (by omega); omega) (by have := frD_bd (u := wI ys true u) (d := tW ys true) (B := 60) (by omega) (by omega); omega) (by have := frD_bd (u := wI ys true v) (d := tW ys true) (B := 60) (by omega) (by omega); omega))
                  have HM2 := Lib.hid (fun W => HLD.out u v ▸ lessOfH_any (frU (wI ys false v) (tW ys false)) (frD (wI ys false v) (tW ys false)) (frU (wI ys false u) (tW ys false)) (frD (wI ys false u) (tW ys false)) W (by have := frU_bd (u := wI ys false v) (d := tW ys false) (B := 12) (by omega) (by omega); omega) (by have := frU_bd (u := wI ys false u) (d := tW ys false) (B := 12) (by omega) (by omega); omega) (by have := frD_bd (u := wI ys false v) (d := tW ys false) (B := 60) (by omega) (by omega); omega) (by have := frD_bd (u := wI ys false u) (d := tW ys false) (B := 60) (by omega) (by omega); omega))
                  have HSW := Lib.hid (HS4.out u v hlu hlv)
                  generalize frU (wI ys true u) (tW ys true) = XU at *
                  generalize frD (wI ys true u) (tW ys true) = XD at *
                  generalize frU (wI ys true v) (tW ys true) = YU at *
                  generalize frD (wI ys true v) (tW ys true) = YD at *
                  generalize frU (wI ys false v) (tW ys false) = EU at *
                  generalize frD (wI ys false v) (tW ys false) = ED at *
                  generalize frU (wI ys false u) (tW ys false) = FU_ at *
                  generalize frD (wI ys false u) (tW ys false) = FD_ at *
                  generalize dgI ys v = CV at *
                  generalize dgI ys u = CU at *
                  by_cases hcc : CV < CU
                  · have hcd : decide (CV < CU) = true := by simp [hcc]
                    rw [hcd] at HM1 HM2
                    have SX := Lib.hid (HSW.out _ HBZ.out)
                    have DX := Lib.hid (Below.refl wr.heap.size wr)
                    go_wp2
                    go_region_held3 (fun W => (W.cell? ⟨b4, o4 + u * 2, none⟩ = some (.int .i64 (XU)) ∧ W.cell? ⟨b4, o4 + u * 2 + 1, none⟩ = some (.int .i64 (XD))) ∧ (W.cell? ⟨b4, o4 + v * 2, none⟩ = some (.int .i64 (YU)) ∧ W.cell? ⟨b4, o4 + v * 2 + 1, none⟩ = some (.int .i64 (YD))) ∧ (W.cell? ⟨b5, o5 + v * 2, none⟩ = some (.int .i64 (EU)) ∧ W.cell? ⟨b5, o5 + v * 2 + 1, none⟩ = some (.int .i64 (ED))) ∧ (W.cell? ⟨b5, o5 + u * 2, none⟩ = some (.int .i64 (FU_)) ∧ W.cell? ⟨b5, o5 + u * 2 + 1, none⟩ = some (.int .i64 (FD_))) ∧ W.cell? ⟨b7, o7 + v, none⟩ = some (.int .i64 (CV)) ∧ W.cell? ⟨b7, o7 + u, none⟩ = some (.int .i64 (CU)))
                      (first | exact SX.out | exact HSW.out _ (below_up HBZ.out DX.out) | exact HSW.out _ (below_up HBZ.out DX.out.drew) | go_keep)
                      (first
                      | (go_at_call 43; (with_reducible refine (HM1.out _).mono ?_); rintro e v1 ⟨rfl, hb⟩; have DX := Lib.hid (show Below wr.heap.size wr v1 from by first | exact below_up DX.out hb | exact below_up DX.out.drew hb); have SX := Lib.hid (HSW.out _ (below_up HBZ.out DX.out)); clear hb)
                      | (go_at_call 43; (with_reducible refine (HM2.out _).mono ?_); rintro e v2 ⟨rfl, hb⟩; have DX := Lib.hid (show Below wr.heap.size wr v2 from by first | exact below_up DX.out hb | exact below_up DX.out.drew hb); have SX := Lib.hid (HSW.out _ (below_up HBZ.out DX.out)); clear hb)
                      | fail)
                    all_goals
                      have HWE := Lib.hid (below_up HBZ.out DX.out)
                      clear SX DX HSW HM1 HM2
                      go_wp2
                      go_roundw
                      case rel => exact ⟨u + 1, by omega, by go_num, HWE⟩
                      case measure => simp [intOf]; omega
                  · have hcd : decide (CV < CU) = false := by simp [hcc]
                    rw [hcd] at HM1 HM2
                    have SX := Lib.hid (HSW.out _ HBZ.out)
                    have DX := Lib.hid (Below.refl wr.heap.size wr)
                    go_wp2
                    go_region_held3 (fun W => (W.cell? ⟨b4, o4 + u * 2, none⟩ = some (.int .i64 (XU)) ∧ W.cell? ⟨b4, o4 + u * 2 + 1, none⟩ = some (.int .i64 (XD))) ∧ (W.cell? ⟨b4, o4 + v * 2, none⟩ = some (.int .i64 (YU)) ∧ W.cell? ⟨b4, o4 + v * 2 + 1, none⟩ = some (.int .i64 (YD))) ∧ (W.cell? ⟨b5, o5 + v * 2, none⟩ = some (.int .i64 (EU)) ∧ W.cell? ⟨b5, o5 + v * 2 + 1, none⟩ = some (.int .i64 (ED))) ∧ (W.cell? ⟨b5, o5 + u * 2, none⟩ = some (.int .i64 (FU_)) ∧ W.cell? ⟨b5, o5 + u * 2 + 1, none⟩ = some (.int .i64 (FD_))) ∧ W.cell? ⟨b7, o7 + v, none⟩ = some (.int .i64 (CV)) ∧ W.cell? ⟨b7, o7 + u, none⟩ = some (.int .i64 (CU)))
                      (first | exact SX.out | exact HSW.out _ (below_up HBZ.out DX.out) | exact HSW.out _ (below_up HBZ.out DX.out.drew) | go_keep)
                      (first
                      | (go_at_call 43; (with_reducible refine (HM1.out _).mono ?_); rintro e v1 ⟨rfl, hb⟩; have DX := Lib.hid (show Below wr.heap.size wr v1 from by first | exact below_up DX.out hb | exact below_up DX.out.drew hb); have SX := Lib.hid (HSW.out _ (below_up HBZ.out DX.out)); clear hb)
                      | (go_at_call 43; (with_reducible refine (HM2.out _).mono ?_); rintro e v2 ⟨rfl, hb⟩; have DX := Lib.hid (show Below wr.heap.size wr v2 from by first | exact below_up DX.out hb | exact below_up DX.out.drew hb); have SX := Lib.hid (HSW.out _ (below_up HBZ.out DX.out)); clear hb)
                      | fail)
                    all_goals
                      have HWE := Lib.hid (below_up HBZ.out DX.out)
                      clear SX DX HSW HM1 HM2
                      go_wp2
                      go_roundw
                      case rel => exact ⟨u + 1, by omega, by go_num, HWE⟩
                      case measure => simp [intOf]; omega
                · obtain rfl : k = u := by omega
                  go_wp2
                  go_roundw
                  case rel => exact ⟨v + 1, by omega, by go_num, HBZ⟩
                  case measure => simp [intOf]; omega
            · obtain rfl : k = v := by omega
              have HE := Lib.hid (below_up HB0.out HBW.out)
              go_wp2
              go_ret
              exact ⟨rfl, HE.out⟩
    · have HE0 := Lib.hid (show pcF ys s = [] from pcF_no hg)
      have HE1 := Lib.hid (show pcF ys ⟨#[98, 105, 114, 116, 104]⟩ = [] from pcF_no hg)
      clear hg
      have HC := Lib.hid (HE0.out ▸ PlaceChances_impl Av k cv ys s w1 HX.out)
      go_wp2_with fail
      refine HC.out.mono ?_
      rintro e w2 ⟨A2, n2, c2, g2_, rfl, hl2, ho, hb⟩
      have HX_2 := Lib.hid (HX.out.keep (Keep.below hb))
      have B_2 := Lib.hid (below_up B1.out hb)
      have HA := Lib.hid ho.frs
      clear ho
      clear hb HC HX B1
      obtain rfl : n2 = 0 := by simp at hl2; omega
      clear hl2
      have HC := Lib.hid (HE0.out ▸ PlaceChances_spec Av k cv ys s w2 HX_2.out)
      go_wp2_with fail
      refine HC.out.mono ?_
      rintro e w3 ⟨A3, n3, c3, g3_, rfl, hl3, ho, hb⟩
      have HX_3 := Lib.hid (HX_2.out.keep (Keep.below hb))
      have HA_3 := Lib.hid (HA.out.keep (Keep.below hb))
      have B_3 := Lib.hid (below_up B_2.out hb)
      have HB_ := Lib.hid ho.frs
      clear ho
      clear hb HC HX_2 HA B_2
      obtain rfl : n3 = 0 := by simp at hl3; omega
      clear hl3
      have HC := Lib.hid (equalFracs_any _ _ _ _ _ _ w3 HA_3.out HB_.out)
      go_wp2_with fail
      refine HC.out.mono ?_
      rintro e w4 ⟨rfl, hb⟩
      have HX_4 := Lib.hid (HX_3.out.keep (Keep.below hb))
      have HA_4 := Lib.hid (HA_3.out.keep (Keep.below hb))
      have HB__4 := Lib.hid (HB_.out.keep (Keep.below hb))
      have B_4 := Lib.hid (below_up B_3.out hb)
      clear hb HC HX_3 HA_3 HB_ B_3
      clear HB__4
      clear HA_4
      have HC := Lib.hid (HE1.out ▸ PlaceChances_impl Av k cv ys ⟨#[98, 105, 114, 116, 104]⟩ w4 HX_4.out)
      go_wp2_with fail
      refine HC.out.mono ?_
      rintro e w5 ⟨A4, n4, c4, g4_, rfl, hl4, ho, hb⟩
      have HX_5 := Lib.hid (HX_4.out.keep (Keep.below hb))
      have B_5 := Lib.hid (below_up B_4.out hb)
      clear ho
      clear hb HC HX_4 B_4
      obtain rfl : n4 = 0 := by simp at hl4; omega
      clear hl4
      go_wp2
      go_ret
      exact ⟨rfl, B_5.out⟩

set_option maxRecDepth 100000 in
theorem hFnEvenGraphsAreFair_lifted (os : Os) (started : os.Started) (H : Type) (enc : TypeId × Value → H) :
    ReturnsInHanded {} Try.checked os 9 .any (Rows.fnEvenGraphsAreFairSpec.pre6 enc Try.prog Try.f9 Rows.fnEvenGraphsAreFairRow.domain false) (Rows.fnEvenGraphsAreFairSpec.post enc Try.prog Try.f9 false true false false) := by
  refine returnsInHanded_of_change_sized (C := Try.checked) Try.own started (by kernel_rfl) Try.func9
    (ChangeSpec.witness6 (enc := enc) (C := Try.checked) false ⟨#[], #[.slice none 0 0], []⟩ 8 (by kernel_rfl) (by kernel_rfl) (by kernel_rfl) (by kernel_rfl)) ?_
  intro W base args ds gs before hval0 hW _ hwt _
  have hval : ∀ (j : Nat) t v, Try.f9.params[j]? = some t → args[j]? = some v → Value.okWide Try.prog W .any base t v := hval0
  have hA : ∃ p, DataW.TrodAll enc Try.prog W 0 (fun _ => true) true Try.f9.params.toList args.toList ds p := by obtain ⟨p, q, hA0, _⟩ := hW; exact ⟨p, hA0⟩
  obtain ⟨p, hA⟩ := hA
  have hwt' := weights_arg hwt (j := 0) (t := 22) (by rw [Try.params9]; rfl) (d := ds.getD 0 .nil)
  rw [Try.params9] at hA hval
  obtain ⟨v0, d0, rfl, rfl, h0⟩ := trodAll_one hA
  obtain ⟨A, n, c, rfl, hx⟩ := open_bytes (hval 0 22 v0 rfl rfl) h0 (hwt' rfl)
  refine (fnEvenGraphsAreFair_calls A n c W hx).mono fun e W' ⟨he, hb⟩ => ?_
  subst he
  exact ⟨_, rfl, law_post (F := Try.f9) rfl rfl (by rw [Try.params9]; simp only [List.mem_cons, List.not_mem_nil, or_false, forall_eq]; exact ⟨by kernel_rfl, of_decide_eq_true (by kernel_rfl)⟩) hW (fun h => by subst h; rfl) hb⟩

theorem hFnEvenGraphsAreFair_holds : Rows.FnEvenGraphsAreFairSaid :=
  OpenClaim.holds_of_wide 9 Try.f9 rfl rfl rfl rfl rfl rfl rfl ⟨rfl, rfl, rfl, rfl, rfl⟩ rfl rfl rfl rfl rfl (by kernel_rfl) Try.func9
    (by unfold joinedFacts; simp only [Bool.and_eq_true]; (repeat' apply And.intro) <;> (first | (with_reducible exact prog_enters) | ((with_reducible refine prog_lifts ?_); rfl) | ((with_reducible refine prog_make ?_); rfl) | kernel_rfl))
    (of_decide_eq_true (by kernel_rfl)) (by unfold Func.isWrapper; first | (rw [if_pos (by decide +kernel)]; kernel_rfl) | (rw [if_neg (by decide +kernel)]; exact ⟨rfl, rfl⟩))
    (fun os started H enc _ => hFnEvenGraphsAreFair_lifted os started H enc)

end Go.Proofs.Ytolnbkplgnpfjaa
