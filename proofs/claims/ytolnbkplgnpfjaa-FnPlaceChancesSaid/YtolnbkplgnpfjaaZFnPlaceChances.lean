/- The law FnPlaceChances holds: for every code, of what it draws, the program tells the chances of places as the model does, they are one together, and those by births and by deaths have the same product at all places. No condition. -/
import Derived.Test.YtolnbkplgnpfjaaQ12
import Derived.Deep.RegionHeld3
import Derived.Deep.RegionLaw
namespace Go.Proofs.Ytolnbkplgnpfjaa
open Go.ChangeShapes Go.WideShapes Go.ChangeAt Go.RowKit Go.Deep

set_option maxRecDepth 100000 in
set_option maxHeartbeats 3200000 in
theorem fnPlaceChances_calls (A : Option Addr) (n c : Nat) (w : World) (hx : Bytes w A n c) :
    Calls Try.prog 7 #[.slice A n c] w fun e w' => e = .returned (.bool true) ∧ Below w.heap.size w w' := by
  have hmx := hx.max
  have H0 := Lib.hid (DrawPlaceChances_any A n c w hx)
  clear hx
  by_cases hs : 1048576 < n
  · go_enter Try.func7, Try.ntmps7
    go_wp2
    go_ret
    exact ⟨rfl, Below.refl _ _⟩
  · go_enter Try.func7, Try.ntmps7
    go_wp2_with fail
    refine H0.out.mono ?_
    rintro e w1 ⟨Av, k, cv, ys, s, rfl, hk5, hb32, hxy, hb⟩
    have HX := Lib.hid hxy
    have B1 := Lib.hid hb
    have HL := Lib.hid hxy.len
    clear hb32 hxy hb H0
    by_cases hg : GR ys
    · rcases kind_cases s with hk | hk | hk
      · have HE0 := Lib.hid (pcF_yes hg hk)
        have HEB := Lib.hid (pcF_yes (s := ⟨#[98, 105, 114, 116, 104]⟩) (b := true) hg (by unfold KindIs; decide +kernel))
        have HED := Lib.hid (pcF_yes (s := ⟨#[100, 101, 97, 116, 104]⟩) (b := false) hg (by unfold KindIs; decide +kernel))
        have hk2 : 2 ≤ k := by rw [← HL.out]; exact hg.b.n2
        rw [HL.out] at HE0 HEB HED
        have HPL := Lib.hid (fun b => pcL_len ys b k)
        have HGI := Lib.hid (fun b i (hi : i < k) => gi_pcL ys b (k := k) hi)
        have HTB := Lib.hid (fun b => tW_bd hg b)
        have HWB := Lib.hid (fun b v (hv : v < k) => wI_bd hg b (v := v) (by rw [HL.out]; exact hv))
        have HMU := Lib.hid (fun v (hv : v < k) => ch_mul hg (v := v) (by rw [HL.out]; exact hv))
        have HSS := Lib.hid (fun v => show sU (wI ys true) (v + 1) = sU (wI ys true) v + wI ys true v from rfl)
        have HSB := Lib.hid (fun v (hv : v ≤ k) => show (v : Int) ≤ sU (wI ys true) v ∧ sU (wI ys true) v ≤ 12 * (v : Int) from sU_ge fun j hj => wI_bd hg true (by rw [HL.out]; omega))
        have HTE := Lib.hid (show tW ys true = sU (wI ys true) k by rw [← HL.out]; rfl)
        have HS0 : Hid (sU (wI ys true) 0 = 0) := Lib.hid rfl
        have hk0 : ((k : Int) == 0) = false := by rw [beq_eq_false_iff_ne]; omega
        have HZ := Lib.hid (show frV 0 1 = .agg #[.int .i64 (frU (sU (wI ys true) 0) (tW ys true)), .int .i64 (frD (sU (wI ys true) 0) (tW ys true))] by
          have e := fr_zero (D := tW ys true) (by have := HTB.out true; omega)
          have e1 := fr_zero (D := 1) (by omega)
          rw [HS0.out, e.1, e.2, frV, e1.1, e1.2])
        clear hg hk
        have HC := Lib.hid (HE0.out ▸ PlaceChances_impl Av k cv ys s w1 HX.out)
        go_wp2_with fail
        refine HC.out.mono ?_
        rintro e w2 ⟨A2, n2, c2, g2_, rfl, hl2, ho, hb⟩
        have HX_2 := Lib.hid (HX.out.keep (Keep.below hb))
        have B_2 := Lib.hid (below_up B1.out hb)
        have HA := Lib.hid ho.frs
        clear ho
        clear hb HC HX B1
        obtain rfl : k = n2 := by have := HPL.out true; omega
        clear hl2
        have HC := Lib.hid (HE0.out ▸ PlaceChances_spec Av k cv ys s w2 HX_2.out)
        go_wp2_with fail
        refine HC.out.mono ?_
        rintro e w3 ⟨A3, n3, c3, g3_, rfl, hl3, ho, hb⟩
        have HX_3 := Lib.hid (HX_2.out.keep (Keep.below hb))
        have HA_3 := Lib.hid (HA.out.keep (Keep.below hb))
        have B_3 := Lib.hid (below_up B_2.out hb)
        have HB_ := Lib.hid ho.frs
        clear ho
        clear hb HC HX_2 HA B_2
        obtain rfl : k = n3 := by have := HPL.out true; omega
        clear hl3
        have HC := Lib.hid (equalFracs_any _ _ _ _ _ _ w3 HA_3.out HB_.out)
        go_wp2_with fail
        refine HC.out.mono ?_
        rintro e w4 ⟨rfl, hb⟩
        have HX_4 := Lib.hid (HX_3.out.keep (Keep.below hb))
        have HA_4 := Lib.hid (HA_3.out.keep (Keep.below hb))
        have HB__4 := Lib.hid (HB_.out.keep (Keep.below hb))
        have B_4 := Lib.hid (below_up B_3.out hb)
        clear hb HC HX_3 HA_3 HB_ B_3
        clear HB__4
        have HC := Lib.hid (HEB.out ▸ PlaceChances_impl Av k cv ys ⟨#[98, 105, 114, 116, 104]⟩ w4 HX_4.out)
        go_wp2_with fail
        refine HC.out.mono ?_
        rintro e w5 ⟨A4, n4, c4, g4_, rfl, hl4, ho, hb⟩
        have HX_5 := Lib.hid (HX_4.out.keep (Keep.below hb))
        have HA_5 := Lib.hid (HA_4.out.keep (Keep.below hb))
        have B_5 := Lib.hid (below_up B_4.out hb)
        have HP_ := Lib.hid ho.frs
        clear ho
        clear hb HC HX_4 HA_4 B_4
        obtain rfl : k = n4 := by have := HPL.out true; omega
        clear hl4
        have HC := Lib.hid (HED.out ▸ PlaceChances_impl Av k cv ys ⟨#[100, 101, 97, 116, 104]⟩ w5 HX_5.out)
        go_wp2_with fail
        refine HC.out.mono ?_
        rintro e w6 ⟨A5, n5, c5, g5_, rfl, hl5, ho, hb⟩
        have HX_6 := Lib.hid (HX_5.out.keep (Keep.below hb))
        have HA_6 := Lib.hid (HA_5.out.keep (Keep.below hb))
        have HP__6 := Lib.hid (HP_.out.keep (Keep.below hb))
        have B_6 := Lib.hid (below_up B_5.out hb)
        have HQ_ := Lib.hid ho.frs
        clear ho
        clear hb HC HX_5 HA_5 HP_ B_5
        obtain rfl : k = n5 := by have := HPL.out false; omega
        clear hl5
        have HC := Lib.hid (HZ.out ▸ fracOfH_any 0 1 w6 (by unfold Hug; omega) (by unfold Hug; omega) (by omega))
        go_wp2_with fail
        refine HC.out.mono ?_
        rintro e w7 ⟨rfl, hb⟩
        have HX_7 := Lib.hid (HX_6.out.keep (Keep.below hb))
        have HA_7 := Lib.hid (HA_6.out.keep (Keep.below hb))
        have HP__7 := Lib.hid (HP__6.out.keep (Keep.below hb))
        have HQ__7 := Lib.hid (HQ_.out.keep (Keep.below hb))
        have B_7 := Lib.hid (below_up B_6.out hb)
        clear hb HC HX_6 HA_6 HP__6 HQ_ B_6
        obtain ⟨b2, o2, rfl, hc2⟩ := HA_7.out.at_ (by omega)
        obtain ⟨b4, o4, rfl, hc4⟩ := HP__7.out.at_ (by omega)
        obtain ⟨b5, o5, rfl, hc5⟩ := HQ__7.out.at_ (by omega)
        have HC2 := Lib.hid (fun v (hv : v < k) => show w7.cell? ⟨b2, o2 + v * 2, none⟩ = some (.int .i64 (frU (wI ys true v) (tW ys true))) ∧ w7.cell? ⟨b2, o2 + v * 2 + 1, none⟩ = some (.int .i64 (frD (wI ys true v) (tW ys true))) from ⟨(HGI.out true v hv).1 ▸ hc2 (v * 2) (by omega), (HGI.out true v hv).2 ▸ hc2 (v * 2 + 1) (by omega)⟩)
        have HC4 := Lib.hid (fun v (hv : v < k) => show w7.cell? ⟨b4, o4 + v * 2, none⟩ = some (.int .i64 (frU (wI ys true v) (tW ys true))) ∧ w7.cell? ⟨b4, o4 + v * 2 + 1, none⟩ = some (.int .i64 (frD (wI ys true v) (tW ys true))) from ⟨(HGI.out true v hv).1 ▸ hc4 (v * 2) (by omega), (HGI.out true v hv).2 ▸ hc4 (v * 2 + 1) (by omega)⟩)
        have HC5 := Lib.hid (fun v (hv : v < k) => show w7.cell? ⟨b5, o5 + v * 2, none⟩ = some (.int .i64 (frU (wI ys false v) (tW ys false))) ∧ w7.cell? ⟨b5, o5 + v * 2 + 1, none⟩ = some (.int .i64 (frD (wI ys false v) (tW ys false))) from ⟨(HGI.out false v hv).1 ▸ hc5 (v * 2) (by omega), (HGI.out false v hv).2 ▸ hc5 (v * 2 + 1) (by omega)⟩)
        have HBB := Lib.hid B_7.out
        have HK0 := Lib.hid (blk_new w7 39 #[.int .i64 (frU (sU (wI ys true) 0) (tW ys true)), .int .i64 (frD (sU (wI ys true) 0) (tW ys true))])
        have HW0 := Lib.hid (below_alloc w7 (.cells #[.int .i64 (frU (sU (wI ys true) 0) (tW ys true)), .int .i64 (frD (sU (wI ys true) 0) (tW ys true))] 39))
        clear hc2 hc4 hc5 HGI HE0 HEB HED HPL HZ HS0
        go_wp2
        generalize w7.alloc (.cells #[.int .i64 (frU (sU (wI ys true) 0) (tW ys true)), .int .i64 (frD (sU (wI ys true) 0) (tW ys true))] 39) = WA at *
        go_loopw [9] (fun i wr => ∃ v : Nat, v ≤ k ∧ i = .int .i64 v ∧ Hid (Blk wr w7.heap.size 39 #[.int .i64 (frU (sU (wI ys true) v) (tW ys true)), .int .i64 (frD (sU (wI ys true) v) (tW ys true))]) ∧ Hid (Below w7.heap.size w7 wr)) (fun i _ => k - (intOf i).toNat)
        case atStart => exact ⟨0, Nat.zero_le _, rfl, HK0, HW0⟩
        case round =>
          clear HK0 HW0
          obtain ⟨v, hv, rfl, HB, HBW⟩ := hrel
          by_cases hlt : v < k
          · obtain ⟨t1, t2⟩ := HTB.out true
            obtain ⟨t3, t4⟩ := HTB.out false
            obtain ⟨tb1, tb2⟩ := HTB.out true
            obtain ⟨s1, s2⟩ := HSB.out v hv
            obtain ⟨x1, x2⟩ := HWB.out true v hlt
            obtain ⟨x3, x4⟩ := HWB.out false v hlt
            obtain ⟨x5, x6⟩ := HWB.out true 0 (by omega)
            obtain ⟨x7, x8⟩ := HWB.out false 0 (by omega)
            obtain ⟨xb1, xb2⟩ := HWB.out true v hlt
            have HAD := Lib.hid (ch_add (S := sU (wI ys true) v) (w := wI ys true v) (T := tW ys true) (by omega))
            rw [← HSS.out v] at HAD
            have HPLU := Lib.hid (fun W => plusOfH_any (frU (sU (wI ys true) v) (tW ys true)) (frD (sU (wI ys true) v) (tW ys true)) (frU (wI ys true v) (tW ys true)) (frD (wI ys true v) (tW ys true)) W (by have := frU_bd (u := sU (wI ys true) v) (d := tW ys true) (B := 60) (by omega) (by omega); omega) (by have := frU_bd (u := wI ys true v) (d := tW ys true) (B := 12) (by omega) (by omega); omega) (by have := frD_bd (u := sU (wI ys true) v) (d := tW ys true) (B := 60) (by omega) (by omega); omega) (by have := frD_bd (u := wI ys true v) (d := tW ys true) (B := 60) (by omega) (by omega); omega))
            rw [frV, HAD.out.1, HAD.out.2] at HPLU
            have HM1 := Lib.hid (fun W => timesOfH_any (frU (wI ys true v) (tW ys true)) (frD (wI ys true v) (tW ys true)) (frU (wI ys false v) (tW ys false)) (frD (wI ys false v) (tW ys false)) W (by have := frU_bd (u := wI ys true v) (d := tW ys true) (B := 12) (by omega) (by omega); omega) (by have := frU_bd (u := wI ys false v) (d := tW ys false) (B := 12) (by omega) (by omega); omega) (by have := frD_bd (u := wI ys true v) (d := tW ys true) (B := 60) (by omega) (by omega); omega) (by have := frD_bd (u := wI ys false v) (d := tW ys false) (B := 60) (by omega) (by omega); omega))
            have HM0 := Lib.hid (fun W => timesOfH_any (frU (wI ys true 0) (tW ys true)) (frD (wI ys true 0) (tW ys true)) (frU (wI ys false 0) (tW ys false)) (frD (wI ys false 0) (tW ys false)) W (by have := frU_bd (u := wI ys true 0) (d := tW ys true) (B := 12) (by omega) (by omega); omega) (by have := frU_bd (u := wI ys false 0) (d := tW ys false) (B := 12) (by omega) (by omega); omega) (by have := frD_bd (u := wI ys true 0) (d := tW ys true) (B := 60) (by omega) (by omega); omega) (by have := frD_bd (u := wI ys false 0) (d := tW ys false) (B := 60) (by omega) (by omega); omega))
            rw [frV, (HMU.out v hlt).1, (HMU.out v hlt).2] at HM1
            rw [frV, (HMU.out 0 (by omega)).1, (HMU.out 0 (by omega)).2] at HM0
            have l0 := Keep.below HBW.out _ _ (HC2.out v hlt).1
            have l1 := Keep.below HBW.out _ _ (HC2.out v hlt).2
            have z0 := (HC4.out 0 (by omega)).1
            have z1 := (HC4.out 0 (by omega)).2
            have z2 := (HC5.out 0 (by omega)).1
            have z3 := (HC5.out 0 (by omega)).2
            simp only [Nat.zero_mul, Nat.add_zero] at z0 z1 z2 z3
            have HSW := Lib.hid (fun W (q : Below w7.heap.size w7 W) => show (W.cell? ⟨b4, o4 + v * 2, none⟩ = some (.int .i64 (frU (wI ys true v) (tW ys true))) ∧ W.cell? ⟨b4, o4 + v * 2 + 1, none⟩ = some (.int .i64 (frD (wI ys true v) (tW ys true)))) ∧ (W.cell? ⟨b5, o5 + v * 2, none⟩ = some (.int .i64 (frU (wI ys false v) (tW ys false))) ∧ W.cell? ⟨b5, o5 + v * 2 + 1, none⟩ = some (.int .i64 (frD (wI ys false v) (tW ys false)))) ∧ (W.cell? ⟨b4, o4, none⟩ = some (.int .i64 (frU (wI ys true 0) (tW ys true))) ∧ W.cell? ⟨b4, o4 + 1, none⟩ = some (.int .i64 (frD (wI ys true 0) (tW ys true)))) ∧ W.cell? ⟨b5, o5, none⟩ = some (.int .i64 (frU (wI ys false 0) (tW ys false))) ∧ W.cell? ⟨b5, o5 + 1, none⟩ = some (.int .i64 (frD (wI ys false 0) (tW ys false))) from
              ⟨⟨Keep.below q _ _ (HC4.out v hlt).1, Keep.below q _ _ (HC4.out v hlt).2⟩, ⟨Keep.below q _ _ (HC5.out v hlt).1, Keep.below q _ _ (HC5.out v hlt).2⟩, ⟨Keep.below q _ _ z0, Keep.below q _ _ z1⟩, Keep.below q _ _ z2, Keep.below q _ _ z3⟩)
            clear z0 z1 z2 z3 HAD
            generalize hNU : frU (sU (wI ys true) (v + 1)) (tW ys true) = NU at *
            generalize hND : frD (sU (wI ys true) (v + 1)) (tW ys true) = ND at *
            have HNE := Lib.hid (And.intro hNU hND)
            clear hNU hND
            generalize frU (sU (wI ys true) v) (tW ys true) = OU at *
            generalize frD (sU (wI ys true) v) (tW ys true) = OD at *
            generalize hxu : frU (wI ys true v) (tW ys true) = XU at *
            generalize hxd : frD (wI ys true v) (tW ys true) = XD at *
            generalize hyu : frU (wI ys false v) (tW ys false) = YU at *
            generalize hyd : frD (wI ys false v) (tW ys false) = YD at *
            generalize frU (wI ys true 0) (tW ys true) = ZU at *
            generalize frD (wI ys true 0) (tW ys true) = ZD at *
            generalize frU (wI ys false 0) (tW ys false) = TU at *
            generalize frD (wI ys false 0) (tW ys false) = TD at *
            generalize frU 12 (tW ys true * tW ys false) = MU at *
            generalize frD 12 (tW ys true * tW ys false) = MD at *
            clear hxu hxd hyu hyd
            have y0 := blk_cell HB.out (i := 0) rfl
            have y1 := blk_cell HB.out (i := 1) rfl
            go_wp2
            apply region_once (F := fun W => Hid (Blk W w7.heap.size 39 #[.int .i64 NU, .int .i64 ND]) ∧ Hid (Below w7.heap.size w7 W))
            · go_region_law ((first
                | (go_simp; go_at_call 31; (with_reducible refine (HPLU.out _).mono ?_); rintro e v1 ⟨rfl, hb⟩; have DB := Lib.hid (blk_below HB.out (below_up (Below.refl _ _).drew hb)); have DW := Lib.hid (below_up HBW.out (below_up (Below.refl wr.heap.size wr).drew hb)); have y0 := blk_cell DB.out (i := 0) rfl; have y1 := blk_cell DB.out (i := 1) rfl; have f0 := blk_frozen DB.out 0; have f1 := blk_frozen DB.out 1; clear hb)
                | fail))
              all_goals exact OnceQ.mk rfl ⟨Lib.hid (blk_set (blk_set DB.out 0 (.int .i64 NU)) 1 (.int .i64 ND)), Lib.hid ((DW.out.setCell (p := ⟨w7.heap.size, 0, none⟩) (Nat.le_refl _) _).setCell (p := ⟨w7.heap.size, 1, none⟩) (Nat.le_refl _) _)⟩
            · rintro w8 ⟨HB8, HW8⟩
              clear y0 y1 l0 l1 HPLU HB HBW
              have SX := Lib.hid (HSW.out _ HW8.out)
              have DX := Lib.hid (Below.refl w8.heap.size w8)
              have hk00 : 0 < k := by omega
              have hk01 : (0 : Int) < (k : Int) := by omega
              go_wp2
              go_region_held3 (fun W => (W.cell? ⟨b4, o4 + v * 2, none⟩ = some (.int .i64 XU) ∧ W.cell? ⟨b4, o4 + v * 2 + 1, none⟩ = some (.int .i64 XD)) ∧ (W.cell? ⟨b5, o5 + v * 2, none⟩ = some (.int .i64 YU) ∧ W.cell? ⟨b5, o5 + v * 2 + 1, none⟩ = some (.int .i64 YD)) ∧ (W.cell? ⟨b4, o4, none⟩ = some (.int .i64 ZU) ∧ W.cell? ⟨b4, o4 + 1, none⟩ = some (.int .i64 ZD)) ∧ W.cell? ⟨b5, o5, none⟩ = some (.int .i64 TU) ∧ W.cell? ⟨b5, o5 + 1, none⟩ = some (.int .i64 TD))
                (first | exact SX.out | exact HSW.out _ (below_up HW8.out DX.out) | exact HSW.out _ (below_up HW8.out DX.out.drew) | go_keep)
                (first
                | (go_at_call 24; (with_reducible refine (HM1.out _).mono ?_); rintro e v1 ⟨rfl, hb⟩; have DX := Lib.hid (show Below w8.heap.size w8 v1 from by first | exact below_up DX.out hb | exact below_up DX.out.drew hb); have SX := Lib.hid (HSW.out _ (below_up HW8.out DX.out)); clear hb)
                | (go_at_call 24; (with_reducible refine (HM0.out _).mono ?_); rintro e v2 ⟨rfl, hb⟩; have DX := Lib.hid (show Below w8.heap.size w8 v2 from by first | exact below_up DX.out hb | exact below_up DX.out.drew hb); have SX := Lib.hid (HSW.out _ (below_up HW8.out DX.out)); clear hb)
                | fail)
              all_goals
                have HBE := Lib.hid (blk_below HB8.out DX.out)
                have HWE := Lib.hid (below_up HW8.out DX.out)
                clear SX DX HSW HM1 HM0 HB8 HW8
                go_wp2
                go_roundw
                case rel => exact ⟨v + 1, by omega, by go_num, Lib.hid (by rw [HNE.out.1, HNE.out.2]; exact HBE.out), Lib.hid HWE.out⟩
                case measure => simp [intOf]; omega
          · obtain rfl : v = k := by omega
            have HBE := Lib.hid (show Blk wr w7.heap.size 39 #[.int .i64 1, .int .i64 1] from by
              have e := ch_one (T := tW ys true) (by have := HTB.out true; omega)
              have h := HB.out
              rw [← HTE.out, e.1, e.2] at h
              exact h)
            have HF1E : Hid (frV 1 1 = .agg #[.int .i64 1, .int .i64 1]) := Lib.hid (by have e := ch_one (T := 1) (by omega); rw [frV, e.1, e.2])
            have HF1 := Lib.hid (fun W => HF1E.out ▸ fracOfH_any 1 1 W (by unfold Hug; omega) (by unfold Hug; omega) (by omega))
            have HWE := Lib.hid (below_up HBB.out HBW.out)
            have SX := Lib.hid (show wr.cell? ⟨w7.heap.size, 0, none⟩ = some (.int .i64 1) ∧ wr.cell? ⟨w7.heap.size, 1, none⟩ = some (.int .i64 1) from ⟨blk_cell HBE.out (i := 0) rfl, blk_cell HBE.out (i := 1) rfl⟩)
            have DX := Lib.hid (Below.refl wr.heap.size wr)
            clear HB HBW HTE HTB HMU HWB HSB HSS HC2 HC4 HC5
            go_wp2
            go_region_held3 (fun W => W.cell? ⟨w7.heap.size, 0, none⟩ = some (.int .i64 1) ∧ W.cell? ⟨w7.heap.size, 1, none⟩ = some (.int .i64 1))
              (first | exact SX.out | go_keep)
              (first
              | (go_at_call 30; (with_reducible refine (HF1.out _).mono ?_); rintro e v1 ⟨rfl, hb⟩; have DX := Lib.hid (show Below wr.heap.size wr v1 from by first | exact below_up DX.out hb | exact below_up DX.out.drew hb); have SX := Lib.hid (show v1.cell? ⟨w7.heap.size, 0, none⟩ = some (.int .i64 1) ∧ v1.cell? ⟨w7.heap.size, 1, none⟩ = some (.int .i64 1) from ⟨Keep.below DX.out _ _ (blk_cell HBE.out (i := 0) rfl), Keep.below DX.out _ _ (blk_cell HBE.out (i := 1) rfl)⟩); clear hb)
              | fail)
            all_goals
              have HEE := Lib.hid (below_up HWE.out DX.out)
              clear SX DX
              go_wp2
              go_ret
              exact ⟨rfl, HEE.out⟩
      · have HE0 := Lib.hid (pcF_yes hg hk)
        have HEB := Lib.hid (pcF_yes (s := ⟨#[98, 105, 114, 116, 104]⟩) (b := true) hg (by unfold KindIs; decide +kernel))
        have HED := Lib.hid (pcF_yes (s := ⟨#[100, 101, 97, 116, 104]⟩) (b := false) hg (by unfold KindIs; decide +kernel))
        have hk2 : 2 ≤ k := by rw [← HL.out]; exact hg.b.n2
        rw [HL.out] at HE0 HEB HED
        have HPL := Lib.hid (fun b => pcL_len ys b k)
        have HGI := Lib.hid (fun b i (hi : i < k) => gi_pcL ys b (k := k) hi)
        have HTB := Lib.hid (fun b => tW_bd hg b)
        have HWB := Lib.hid (fun b v (hv : v < k) => wI_bd hg b (v := v) (by rw [HL.out]; exact hv))
        have HMU := Lib.hid (fun v (hv : v < k) => ch_mul hg (v := v) (by rw [HL.out]; exact hv))
        have HSS := Lib.hid (fun v => show sU (wI ys false) (v + 1) = sU (wI ys false) v + wI ys false v from rfl)
        have HSB := Lib.hid (fun v (hv : v ≤ k) => show (v : Int) ≤ sU (wI ys false) v ∧ sU (wI ys false) v ≤ 12 * (v : Int) from sU_ge fun j hj => wI_bd hg false (by rw [HL.out]; omega))
        have HTE := Lib.hid (show tW ys false = sU (wI ys false) k by rw [← HL.out]; rfl)
        have HS0 : Hid (sU (wI ys false) 0 = 0) := Lib.hid rfl
        have hk0 : ((k : Int) == 0) = false := by rw [beq_eq_false_iff_ne]; omega
        have HZ := Lib.hid (show frV 0 1 = .agg #[.int .i64 (frU (sU (wI ys false) 0) (tW ys false)), .int .i64 (frD (sU (wI ys false) 0) (tW ys false))] by
          have e := fr_zero (D := tW ys false) (by have := HTB.out false; omega)
          have e1 := fr_zero (D := 1) (by omega)
          rw [HS0.out, e.1, e.2, frV, e1.1, e1.2])
        clear hg hk
        have HC := Lib.hid (HE0.out ▸ PlaceChances_impl Av k cv ys s w1 HX.out)
        go_wp2_with fail
        refine HC.out.mono ?_
        rintro e w2 ⟨A2, n2, c2, g2_, rfl, hl2, ho, hb⟩
        have HX_2 := Lib.hid (HX.out.keep (Keep.below hb))
        have B_2 := Lib.hid (below_up B1.out hb)
        have HA := Lib.hid ho.frs
        clear ho
        clear hb HC HX B1
        obtain rfl : k = n2 := by have := HPL.out false; omega
        clear hl2
        have HC := Lib.hid (HE0.out ▸ PlaceChances_spec Av k cv ys s w2 HX_2.out)
        go_wp2_with fail
        refine HC.out.mono ?_
        rintro e w3 ⟨A3, n3, c3, g3_, rfl, hl3, ho, hb⟩
        have HX_3 := Lib.hid (HX_2.out.keep (Keep.below hb))
        have HA_3 := Lib.hid (HA.out.keep (Keep.below hb))
        have B_3 := Lib.hid (below_up B_2.out hb)
        have HB_ := Lib.hid ho.frs
        clear ho
        clear hb HC HX_2 HA B_2
        obtain rfl : k = n3 := by have := HPL.out false; omega
        clear hl3
        have HC := Lib.hid (equalFracs_any _ _ _ _ _ _ w3 HA_3.out HB_.out)
        go_wp2_with fail
        refine HC.out.mono ?_
        rintro e w4 ⟨rfl, hb⟩
        have HX_4 := Lib.hid (HX_3.out.keep (Keep.below hb))
        have HA_4 := Lib.hid (HA_3.out.keep (Keep.below hb))
        have HB__4 := Lib.hid (HB_.out.keep (Keep.below hb))
        have B_4 := Lib.hid (below_up B_3.out hb)
        clear hb HC HX_3 HA_3 HB_ B_3
        clear HB__4
        have HC := Lib.hid (HEB.out ▸ PlaceChances_impl Av k cv ys ⟨#[98, 105, 114, 116, 104]⟩ w4 HX_4.out)
        go_wp2_with fail
        refine HC.out.mono ?_
        rintro e w5 ⟨A4, n4, c4, g4_, rfl, hl4, ho, hb⟩
        have HX_5 := Lib.hid (HX_4.out.keep (Keep.below hb))
        have HA_5 := Lib.hid (HA_4.out.keep (Keep.below hb))
        have B_5 := Lib.hid (below_up B_4.out hb)
        have HP_ := Lib.hid ho.frs
        clear ho
        clear hb HC HX_4 HA_4 B_4
        obtain rfl : k = n4 := by have := HPL.out true; omega
        clear hl4
        have HC := Lib.hid (HED.out ▸ PlaceChances_impl Av k cv ys ⟨#[100, 101, 97, 116, 104]⟩ w5 HX_5.out)
        go_wp2_with fail
        refine HC.out.mono ?_
        rintro e w6 ⟨A5, n5, c5, g5_, rfl, hl5, ho, hb⟩
        have HX_6 := Lib.hid (HX_5.out.keep (Keep.below hb))
        have HA_6 := Lib.hid (HA_5.out.keep (Keep.below hb))
        have HP__6 := Lib.hid (HP_.out.keep (Keep.below hb))
        have B_6 := Lib.hid (below_up B_5.out hb)
        have HQ_ := Lib.hid ho.frs
        clear ho
        clear hb HC HX_5 HA_5 HP_ B_5
        obtain rfl : k = n5 := by have := HPL.out false; omega
        clear hl5
        have HC := Lib.hid (HZ.out ▸ fracOfH_any 0 1 w6 (by unfold Hug; omega) (by unfold Hug; omega) (by omega))
        go_wp2_with fail
        refine HC.out.mono ?_
        rintro e w7 ⟨rfl, hb⟩
        have HX_7 := Lib.hid (HX_6.out.keep (Keep.below hb))
        have HA_7 := Lib.hid (HA_6.out.keep (Keep.below hb))
        have HP__7 := Lib.hid (HP__6.out.keep (Keep.below hb))
        have HQ__7 := Lib.hid (HQ_.out.keep (Keep.below hb))
        have B_7 := Lib.hid (below_up B_6.out hb)
        clear hb HC HX_6 HA_6 HP__6 HQ_ B_6
        obtain ⟨b2, o2, rfl, hc2⟩ := HA_7.out.at_ (by omega)
        obtain ⟨b4, o4, rfl, hc4⟩ := HP__7.out.at_ (by omega)
        obtain ⟨b5, o5, rfl, hc5⟩ := HQ__7.out.at_ (by omega)
        have HC2 := Lib.hid (fun v (hv : v < k) => show w7.cell? ⟨b2, o2 + v * 2, none⟩ = some (.int .i64 (frU (wI ys false v) (tW ys false))) ∧ w7.cell? ⟨b2, o2 + v * 2 + 1, none⟩ = some (.int .i64 (frD (wI ys false v) (tW ys false))) from ⟨(HGI.out false v hv).1 ▸ hc2 (v * 2) (by omega), (HGI.out false v hv).2 ▸ hc2 (v * 2 + 1) (by omega)⟩)
        have HC4 := Lib.hid (fun v (hv : v < k) => show w7.cell? ⟨b4, o4 + v * 2, none⟩ = some (.int .i64 (frU (wI ys true v) (tW ys true))) ∧ w7.cell? ⟨b4, o4 + v * 2 + 1, none⟩ = some (.int .i64 (frD (wI ys true v) (tW ys true))) from ⟨(HGI.out true v hv).1 ▸ hc4 (v * 2) (by omega), (HGI.out true v hv).2 ▸ hc4 (v * 2 + 1) (by omega)⟩)
        have HC5 := Lib.hid (fun v (hv : v < k) => show w7.cell? ⟨b5, o5 + v * 2, none⟩ = some (.int .i64 (frU (wI ys false v) (tW ys false))) ∧ w7.cell? ⟨b5, o5 + v * 2 + 1, none⟩ = some (.int .i64 (frD (wI ys false v) (tW ys false))) from ⟨(HGI.out false v hv).1 ▸ hc5 (v * 2) (by omega), (HGI.out false v hv).2 ▸ hc5 (v * 2 + 1) (by omega)⟩)
        have HBB := Lib.hid B_7.out
        have HK0 := Lib.hid (blk_new w7 39 #[.int .i64 (frU (sU (wI ys false) 0) (tW ys false)), .int .i64 (frD (sU (wI ys false) 0) (tW ys false))])
        have HW0 := Lib.hid (below_alloc w7 (.cells #[.int .i64 (frU (sU (wI ys false) 0) (tW ys false)), .int .i64 (frD (sU (wI ys false) 0) (tW ys false))] 39))
        clear hc2 hc4 hc5 HGI HE0 HEB HED HPL HZ HS0
        go_wp2
        generalize w7.alloc (.cells #[.int .i64 (frU (sU (wI ys false) 0) (tW ys false)), .int .i64 (frD (sU (wI ys false) 0) (tW ys false))] 39) = WA at *
        go_loopw [9] (fun i wr => ∃ v : Nat, v ≤ k ∧ i = .int .i64 v ∧ Hid (Blk wr w7.heap.size 39 #[.int .i64 (frU (sU (wI ys false) v) (tW ys false)), .int .i64 (frD (sU (wI ys false) v) (tW ys false))]) ∧ Hid (Below w7.heap.size w7 wr)) (fun i _ => k - (intOf i).toNat)
        case atStart => exact ⟨0, Nat.zero_le _, rfl, HK0, HW0⟩
        case round =>
          clear HK0 HW0
          obtain ⟨v, hv, rfl, HB, HBW⟩ := hrel
          by_cases hlt : v < k
          · obtain ⟨t1, t2⟩ := HTB.out true
            obtain ⟨t3, t4⟩ := HTB.out false
            obtain ⟨tb1, tb2⟩ := HTB.out false
            obtain ⟨s1, s2⟩ := HSB.out v hv
            obtain ⟨x1, x2⟩ := HWB.out true v hlt
            obtain ⟨x3, x4⟩ := HWB.out false v hlt
            obtain ⟨x5, x6⟩ := HWB.out true 0 (by omega)
            obtain ⟨x7, x8⟩ := HWB.out false 0 (by omega)
            obtain ⟨xb1, xb2⟩ := HWB.out false v hlt
            have HAD := Lib.hid (ch_add (S := sU (wI ys false) v) (w := wI ys false v) (T := tW ys false) (by omega))
            rw [← HSS.out v] at HAD
            have HPLU := Lib.hid (fun W => plusOfH_any (frU (sU (wI ys false) v) (tW ys false)) (frD (sU (wI ys false) v) (tW ys false)) (frU (wI ys false v) (tW ys false)) (frD (wI ys false v) (tW ys false)) W (by have := frU_bd (u := sU (wI ys false) v) (d := tW ys false) (B := 60) (by omega) (by omega); omega) (by have := frU_bd (u := wI ys false v) (d := tW ys false) (B := 12) (by omega) (by omega); omega) (by have := frD_bd (u := sU (wI ys false) v) (d := tW ys false) (B := 60) (by omega) (by omega); omega) (by have := frD_bd (u := wI ys false v) (d := tW ys false) (B := 60) (by omega) (by omega); omega))
            rw [frV, HAD.out.1, HAD.out.2] at HPLU
            have HM1 := Lib.hid (fun W => timesOfH_any (frU (wI ys true v) (tW ys true)) (frD (wI ys true v) (tW ys true)) (frU (wI ys false v) (tW ys false)) (frD (wI ys false v) (tW ys false)) W (by have := frU_bd (u := wI ys true v) (d := tW ys true) (B := 12) (by omega) (by omega); omega) (by have := frU_bd (u := wI ys false v) (d := tW ys false) (B := 12) (by omega) (by omega); omega) (by have := frD_bd (u := wI ys true v) (d := tW ys true) (B := 60) (by omega) (by omega); omega) (by have := frD_bd (u := wI ys false v) (d := tW ys false) (B := 60) (by omega) (by omega); omega))
            have HM0 := Lib.hid (fun W => timesOfH_any (frU (wI ys true 0) (tW ys true)) (frD (wI ys true 0) (tW ys true)) (frU (wI ys false 0) (tW ys false)) (frD (wI ys false 0) (tW ys false)) W (by have := frU_bd (u := wI ys true 0) (d := tW ys true) (B := 12) (by omega) (by omega); omega) (by have := frU_bd (u := wI ys false 0) (d := tW ys false) (B := 12) (by omega) (by omega); omega) (by have := frD_bd (u := wI ys true 0) (d := tW ys true) (B := 60) (by omega) (by omega); omega) (by have := frD_bd (u := wI ys false 0) (d := tW ys false) (B := 60) (by omega) (by omega); omega))
            rw [frV, (HMU.out v hlt).1, (HMU.out v hlt).2] at HM1
            rw [frV, (HMU.out 0 (by omega)).1, (HMU.out 0 (by omega)).2] at HM0
            have l0 := Keep.below HBW.out _ _ (HC2.out v hlt).1
            have l1 := Keep.below HBW.out _ _ (HC2.out v hlt).2
            have z0 := (HC4.out 0 (by omega)).1
            have z1 := (HC4.out 0 (by omega)).2
            have z2 := (HC5.out 0 (by omega)).1
            have z3 := (HC5.out 0 (by omega)).2
            simp only [Nat.zero_mul, Nat.add_zero] at z0 z1 z2 z3
            have HSW := Lib.hid (fun W (q : Below w7.heap.size w7 W) => show (W.cell? ⟨b4, o4 + v * 2, none⟩ = some (.int .i64 (frU (wI ys true v) (tW ys true))) ∧ W.cell? ⟨b4, o4 + v * 2 + 1, none⟩ = some (.int .i64 (frD (wI ys true v) (tW ys true)))) ∧ (W.cell? ⟨b5, o5 + v * 2, none⟩ = some (.int .i64 (frU (wI ys false v) (tW ys false))) ∧ W.cell? ⟨b5, o5 + v * 2 + 1, none⟩ = some (.int .i64 (frD (wI ys false v) (tW ys false)))) ∧ (W.cell? ⟨b4, o4, none⟩ = some (.int .i64 (frU (wI ys true 0) (tW ys true))) ∧ W.cell? ⟨b4, o4 + 1, none⟩ = some (.int .i64 (frD (wI ys true 0) (tW ys true)))) ∧ W.cell? ⟨b5, o5, none⟩ = some (.int .i64 (frU (wI ys false 0) (tW ys false))) ∧ W.cell? ⟨b5, o5 + 1, none⟩ = some (.int .i64 (frD (wI ys false 0) (tW ys false))) from
              ⟨⟨Keep.below q _ _ (HC4.out v hlt).1, Keep.below q _ _ (HC4.out v hlt).2⟩, ⟨Keep.below q _ _ (HC5.out v hlt).1, Keep.below q _ _ (HC5.out v hlt).2⟩, ⟨Keep.below q _ _ z0, Keep.below q _ _ z1⟩, Keep.below q _ _ z2, Keep.below q _ _ z3⟩)
            clear z0 z1 z2 z3 HAD
            generalize hNU : frU (sU (wI ys false) (v + 1)) (tW ys false) = NU at *
            generalize hND : frD (sU (wI ys false) (v + 1)) (tW ys false) = ND at *
            have HNE := Lib.hid (And.intro hNU hND)
            clear hNU hND
            generalize frU (sU (wI ys false) v) (tW ys false) = OU at *
            generalize frD (sU (wI ys false) v) (tW ys false) = OD at *
            generalize hxu : frU (wI ys true v) (tW ys true) = XU at *
            generalize hxd : frD (wI ys true v) (tW ys true) = XD at *
            generalize hyu : frU (wI ys false v) (tW ys false) = YU at *
            generalize hyd : frD (wI ys false v) (tW ys false) = YD at *
            generalize frU (wI ys true 0) (tW ys true) = ZU at *
            generalize frD (wI ys true 0) (tW ys true) = ZD at *
            generalize frU (wI ys false 0) (tW ys false) = TU at *
            generalize frD (wI ys false 0) (tW ys false) = TD at *
            generalize frU 12 (tW ys true * tW ys false) = MU at *
            generalize frD 12 (tW ys true * tW ys false) = MD at *
            clear hxu hxd hyu hyd
            have y0 := blk_cell HB.out (i := 0) rfl
            have y1 := blk_cell HB.out (i := 1) rfl
            go_wp2
            apply region_once (F := fun W => Hid (Blk W w7.heap.size 39 #[.int .i64 NU, .int .i64 ND]) ∧ Hid (Below w7.heap.size w7 W))
            · go_region_law ((first
                | (go_simp; go_at_call 31; (with_reducible refine (HPLU.out _).mono ?_); rintro e v1 ⟨rfl, hb⟩; have DB := Lib.hid (blk_below HB.out (below_up (Below.refl _ _).drew hb)); have DW := Lib.hid (below_up HBW.out (below_up (Below.refl wr.heap.size wr).drew hb)); have y0 := blk_cell DB.out (i := 0) rfl; have y1 := blk_cell DB.out (i := 1) rfl; have f0 := blk_frozen DB.out 0; have f1 := blk_frozen DB.out 1; clear hb)
                | fail))
              all_goals exact OnceQ.mk rfl ⟨Lib.hid (blk_set (blk_set DB.out 0 (.int .i64 NU)) 1 (.int .i64 ND)), Lib.hid ((DW.out.setCell (p := ⟨w7.heap.size, 0, none⟩) (Nat.le_refl _) _).setCell (p := ⟨w7.heap.size, 1, none⟩) (Nat.le_refl _) _)⟩
            · rintro w8 ⟨HB8, HW8⟩
              clear y0 y1 l0 l1 HPLU HB HBW
              have SX := Lib.hid (HSW.out _ HW8.out)
              have DX := Lib.hid (Below.refl w8.heap.size w8)
              have hk00 : 0 < k := by omega
              have hk01 : (0 : Int) < (k : Int) := by omega
              go_wp2
              go_region_held3 (fun W => (W.cell? ⟨b4, o4 + v * 2, none⟩ = some (.int .i64 XU) ∧ W.cell? ⟨b4, o4 + v * 2 + 1, none⟩ = some (.int .i64 XD)) ∧ (W.cell? ⟨b5, o5 + v * 2, none⟩ = some (.int .i64 YU) ∧ W.cell? ⟨b5, o5 + v * 2 + 1, none⟩ = some (.int .i64 YD)) ∧ (W.cell? ⟨b4, o4, none⟩ = some (.int .i64 ZU) ∧ W.cell? ⟨b4, o4 + 1, none⟩ = some (.int .i64 ZD)) ∧ W.cell? ⟨b5, o5, none⟩ = some (.int .i64 TU) ∧ W.cell? ⟨b5, o5 + 1, none⟩ = some (.int .i64 TD))
                (first | exact SX.out | exact HSW.out _ (below_up HW8.out DX.out) | exact HSW.out _ (below_up HW8.out DX.out.drew) | go_keep)
                (first
                | (go_at_call 24; (with_reducible refine (HM1.out _).mono ?_); rintro e v1 ⟨rfl, hb⟩; have DX := Lib.hid (show Below w8.heap.size w8 v1 from by first | exact below_up DX.out hb | exact below_up DX.out.drew hb); have SX := Lib.hid (HSW.out _ (below_up HW8.out DX.out)); clear hb)
                | (go_at_call 24; (with_reducible refine (HM0.out _).mono ?_); rintro e v2 ⟨rfl, hb⟩; have DX := Lib.hid (show Below w8.heap.size w8 v2 from by first | exact below_up DX.out hb | exact below_up DX.out.drew hb); have SX := Lib.hid (HSW.out _ (below_up HW8.out DX.out)); clear hb)
                | fail)
              all_goals
                have HBE := Lib.hid (blk_below HB8.out DX.out)
                have HWE := Lib.hid (below_up HW8.out DX.out)
                clear SX DX HSW HM1 HM0 HB8 HW8
                go_wp2
                go_roundw
                case rel => exact ⟨v + 1, by omega, by go_num, Lib.hid (by rw [HNE.out.1, HNE.out.2]; exact HBE.out), Lib.hid HWE.out⟩
                case measure => simp [intOf]; omega
          · obtain rfl : v = k := by omega
            have HBE := Lib.hid (show Blk wr w7.heap.size 39 #[.int .i64 1, .int .i64 1] from by
              have e := ch_one (T := tW ys false) (by have := HTB.out false; omega)
              have h := HB.out
              rw [← HTE.out, e.1, e.2] at h
              exact h)
            have HF1E : Hid (frV 1 1 = .agg #[.int .i64 1, .int .i64 1]) := Lib.hid (by have e := ch_one (T := 1) (by omega); rw [frV, e.1, e.2])
            have HF1 := Lib.hid (fun W => HF1E.out ▸ fracOfH_any 1 1 W (by unfold Hug; omega) (by unfold Hug; omega) (by omega))
            have HWE := Lib.hid (below_up HBB.out HBW.out)
            have SX := Lib.hid (show wr.cell? ⟨w7.heap.size, 0, none⟩ = some (.int .i64 1) ∧ wr.cell? ⟨w7.heap.size, 1, none⟩ = some (.int .i64 1) from ⟨blk_cell HBE.out (i := 0) rfl, blk_cell HBE.out (i := 1) rfl⟩)
            have DX := Lib.hid (Below.refl wr.heap.size wr)
            clear HB HBW HTE HTB HMU HWB HSB HSS HC2 HC4 HC5
            go_wp2
            go_region_held3 (fun W => W.cell? ⟨w7.heap.size, 0, none⟩ = some (.int .i64 1) ∧ W.cell? ⟨w7.heap.size, 1, none⟩ = some (.int .i64 1))
              (first | exact SX.out | go_keep)
              (first
              | (go_at_call 30; (with_reducible refine (HF1.out _).mono ?_); rintro e v1 ⟨rfl, hb⟩; have DX := Lib.hid (show Below wr.heap.size wr v1 from by first | exact below_up DX.out hb | exact below_up DX.out.drew hb); have SX := Lib.hid (show v1.cell? ⟨w7.heap.size, 0, none⟩ = some (.int .i64 1) ∧ v1.cell? ⟨w7.heap.size, 1, none⟩ = some (.int .i64 1) from ⟨Keep.below DX.out _ _ (blk_cell HBE.out (i := 0) rfl), Keep.below DX.out _ _ (blk_cell HBE.out (i := 1) rfl)⟩); clear hb)
              | fail)
            all_goals
              have HEE := Lib.hid (below_up HWE.out DX.out)
              clear SX DX
              go_wp2
              go_ret
              exact ⟨rfl, HEE.out⟩
      · have HE0 := Lib.hid (show pcF ys s = [] from pcF_none hk)
        clear hg hk
        have HC := Lib.hid (HE0.out ▸ PlaceChances_impl Av k cv ys s w1 HX.out)
        go_wp2_with fail
        refine HC.out.mono ?_
        rintro e w2 ⟨A2, n2, c2, g2_, rfl, hl2, ho, hb⟩
        have HX_2 := Lib.hid (HX.out.keep (Keep.below hb))
        have B_2 := Lib.hid (below_up B1.out hb)
        have HA := Lib.hid ho.frs
        clear ho
        clear hb HC HX B1
        obtain rfl : n2 = 0 := by simp at hl2; omega
        clear hl2
        have HC := Lib.hid (HE0.out ▸ PlaceChances_spec Av k cv ys s w2 HX_2.out)
        go_wp2_with fail
        refine HC.out.mono ?_
        rintro e w3 ⟨A3, n3, c3, g3_, rfl, hl3, ho, hb⟩
        have HX_3 := Lib.hid (HX_2.out.keep (Keep.below hb))
        have HA_3 := Lib.hid (HA.out.keep (Keep.below hb))
        have B_3 := Lib.hid (below_up B_2.out hb)
        have HB_ := Lib.hid ho.frs
        clear ho
        clear hb HC HX_2 HA B_2
        obtain rfl : n3 = 0 := by simp at hl3; omega
        clear hl3
        have HC := Lib.hid (equalFracs_any _ _ _ _ _ _ w3 HA_3.out HB_.out)
        go_wp2_with fail
        refine HC.out.mono ?_
        rintro e w4 ⟨rfl, hb⟩
        have HX_4 := Lib.hid (HX_3.out.keep (Keep.below hb))
        have HA_4 := Lib.hid (HA_3.out.keep (Keep.below hb))
        have HB__4 := Lib.hid (HB_.out.keep (Keep.below hb))
        have B_4 := Lib.hid (below_up B_3.out hb)
        clear hb HC HX_3 HA_3 HB_ B_3
        clear HB__4
        have HC := Lib.hid (HE0.out ▸ PlaceChances_spec Av k cv ys s w4 HX_4.out)
        go_wp2_with fail
        refine HC.out.mono ?_
        rintro e w5 ⟨A4, n4, c4, g4_, rfl, hl4, ho, hb⟩
        have HX_5 := Lib.hid (HX_4.out.keep (Keep.below hb))
        have HA_5 := Lib.hid (HA_4.out.keep (Keep.below hb))
        have B_5 := Lib.hid (below_up B_4.out hb)
        have HC_ := Lib.hid ho.frs
        clear ho
        clear hb HC HX_4 HA_4 B_4
        obtain rfl : n4 = 0 := by simp at hl4; omega
        clear hl4
        have HC := Lib.hid (equalFracs_any _ _ _ _ _ _ w5 HA_5.out HC_.out)
        go_wp2_with fail
        refine HC.out.mono ?_
        rintro e w6 ⟨rfl, hb⟩
        have HX_6 := Lib.hid (HX_5.out.keep (Keep.below hb))
        have HA_6 := Lib.hid (HA_5.out.keep (Keep.below hb))
        have HC__6 := Lib.hid (HC_.out.keep (Keep.below hb))
        have B_6 := Lib.hid (below_up B_5.out hb)
        clear hb HC HX_5 HA_5 HC_ B_5
        go_wp2
        go_ret
        exact ⟨rfl, B_6.out⟩
    · have HE0 := Lib.hid (show pcF ys s = [] from pcF_no hg)
      clear hg
      have HC := Lib.hid (HE0.out ▸ PlaceChances_impl Av k cv ys s w1 HX.out)
      go_wp2_with fail
      refine HC.out.mono ?_
      rintro e w2 ⟨A2, n2, c2, g2_, rfl, hl2, ho, hb⟩
      have HX_2 := Lib.hid (HX.out.keep (Keep.below hb))
      have B_2 := Lib.hid (below_up B1.out hb)
      have HA := Lib.hid ho.frs
      clear ho
      clear hb HC HX B1
      obtain rfl : n2 = 0 := by simp at hl2; omega
      clear hl2
      have HC := Lib.hid (HE0.out ▸ PlaceChances_spec Av k cv ys s w2 HX_2.out)
      go_wp2_with fail
      refine HC.out.mono ?_
      rintro e w3 ⟨A3, n3, c3, g3_, rfl, hl3, ho, hb⟩
      have HX_3 := Lib.hid (HX_2.out.keep (Keep.below hb))
      have HA_3 := Lib.hid (HA.out.keep (Keep.below hb))
      have B_3 := Lib.hid (below_up B_2.out hb)
      have HB_ := Lib.hid ho.frs
      clear ho
      clear hb HC HX_2 HA B_2
      obtain rfl : n3 = 0 := by simp at hl3; omega
      clear hl3
      have HC := Lib.hid (equalFracs_any _ _ _ _ _ _ w3 HA_3.out HB_.out)
      go_wp2_with fail
      refine HC.out.mono ?_
      rintro e w4 ⟨rfl, hb⟩
      have HX_4 := Lib.hid (HX_3.out.keep (Keep.below hb))
      have HA_4 := Lib.hid (HA_3.out.keep (Keep.below hb))
      have HB__4 := Lib.hid (HB_.out.keep (Keep.below hb))
      have B_4 := Lib.hid (below_up B_3.out hb)
      clear hb HC HX_3 HA_3 HB_ B_3
      clear HB__4
      have HC := Lib.hid (HE0.out ▸ PlaceChances_spec Av k cv ys s w4 HX_4.out)
      go_wp2_with fail
      refine HC.out.mono ?_
      rintro e w5 ⟨A4, n4, c4, g4_, rfl, hl4, ho, hb⟩
      have HX_5 := Lib.hid (HX_4.out.keep (Keep.below hb))
      have HA_5 := Lib.hid (HA_4.out.keep (Keep.below hb))
      have B_5 := Lib.hid (below_up B_4.out hb)
      have HC_ := Lib.hid ho.frs
      clear ho
      clear hb HC HX_4 HA_4 B_4
      obtain rfl : n4 = 0 := by simp at hl4; omega
      clear hl4
      have HC := Lib.hid (equalFracs_any _ _ _ _ _ _ w5 HA_5.out HC_.out)
      go_wp2_with fail
      refine HC.out.mono ?_
      rintro e w6 ⟨rfl, hb⟩
      have HX_6 := Lib.hid (HX_5.out.keep (Keep.below hb))
      have HA_6 := Lib.hid (HA_5.out.keep (Keep.below hb))
      have HC__6 := Lib.hid (HC_.out.keep (Keep.below hb))
      have B_6 := Lib.hid (below_up B_5.out hb)
      clear hb HC HX_5 HA_5 HC_ B_5
      go_wp2
      go_ret
      exact ⟨rfl, B_6.out⟩

set_option maxRecDepth 100000 in
theorem hFnPlaceChances_lifted (os : Os) (started : os.Started) (H : Type) (enc : TypeId × Value → H) :
    ReturnsInHanded {} Try.checked os 7 .any (Rows.fnPlaceChancesSpec.pre6 enc Try.prog Try.f7 Rows.fnPlaceChancesRow.domain false) (Rows.fnPlaceChancesSpec.post enc Try.prog Try.f7 false true false false) := by
  refine returnsInHanded_of_change_sized (C := Try.checked) Try.own started (by kernel_rfl) Try.func7
    (ChangeSpec.witness6 (enc := enc) (C := Try.checked) false ⟨#[], #[.slice none 0 0], []⟩ 8 (by kernel_rfl) (by kernel_rfl) (by kernel_rfl) (by kernel_rfl)) ?_
  intro W base args ds gs before hval0 hW _ hwt _
  have hval : ∀ (j : Nat) t v, Try.f7.params[j]? = some t → args[j]? = some v → Value.okWide Try.prog W .any base t v := hval0
  have hA : ∃ p, DataW.TrodAll enc Try.prog W 0 (fun _ => true) true Try.f7.params.toList args.toList ds p := by obtain ⟨p, q, hA0, _⟩ := hW; exact ⟨p, hA0⟩
  obtain ⟨p, hA⟩ := hA
  have hwt' := weights_arg hwt (j := 0) (t := 22) (by rw [Try.params7]; rfl) (d := ds.getD 0 .nil)
  rw [Try.params7] at hA hval
  obtain ⟨v0, d0, rfl, rfl, h0⟩ := trodAll_one hA
  obtain ⟨A, n, c, rfl, hx⟩ := open_bytes (hval 0 22 v0 rfl rfl) h0 (hwt' rfl)
  refine (fnPlaceChances_calls A n c W hx).mono fun e W' ⟨he, hb⟩ => ?_
  subst he
  exact ⟨_, rfl, law_post (F := Try.f7) rfl rfl (by rw [Try.params7]; simp only [List.mem_cons, List.not_mem_nil, or_false, forall_eq]; exact ⟨by kernel_rfl, of_decide_eq_true (by kernel_rfl)⟩) hW (fun h => by subst h; rfl) hb⟩

theorem hFnPlaceChances_holds : Rows.FnPlaceChancesSaid :=
  OpenClaim.holds_of_wide 7 Try.f7 rfl rfl rfl rfl rfl rfl rfl ⟨rfl, rfl, rfl, rfl, rfl⟩ rfl rfl rfl rfl rfl (by kernel_rfl) Try.func7
    (by unfold joinedFacts; simp only [Bool.and_eq_true]; (repeat' apply And.intro) <;> (first | (with_reducible exact prog_enters) | ((with_reducible refine prog_lifts ?_); rfl) | ((with_reducible refine prog_make ?_); rfl) | kernel_rfl))
    (of_decide_eq_true (by kernel_rfl)) (by unfold Func.isWrapper; first | (rw [if_pos (by decide +kernel)]; kernel_rfl) | (rw [if_neg (by decide +kernel)]; exact ⟨rfl, rfl⟩))
    (fun os started H enc _ => hFnPlaceChances_lifted os started H enc)

end Go.Proofs.Ytolnbkplgnpfjaa
