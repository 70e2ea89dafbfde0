/- The law FnGrowthOf holds: for every code, of what it draws, the program tells the growth as the model does, and the shares' growth has the mean one; at rest no strategy grows, and none with a share shrinks. No condition. -/
import Derived.Test.YtoekpbcdgmejcaaQ10
import Derived.Deep.RegionHeld3
import Derived.Deep.RegionLaw
namespace Go.Proofs.Ytoekpbcdgmejcaa
open Go.ChangeShapes Go.WideShapes Go.ChangeAt Go.RowKit Go.Deep

set_option maxRecDepth 100000 in
set_option maxHeartbeats 25600000 in
theorem fnGrowthOf_calls (A : Option Addr) (n c : Nat) (w : World) (hx : Bytes w A n c) :
    Calls Try.prog 8 #[.slice A n c] w fun e w' => e = .returned (.bool true) ∧ Below w.heap.size w w' := by
  have hmx := hx.max
  have H0 := Lib.hid (DrawGrowthOf_any A n c w hx)
  clear hx
  by_cases hs : 1048576 < n
  · go_enter Try.func8, Try.ntmps8
    go_wp2
    go_ret
    exact ⟨rfl, Below.refl _ _⟩
  · go_enter Try.func8, Try.ntmps8
    go_wp2_with fail
    refine H0.out.mono ?_
    rintro e w1 ⟨Av, k, cv, gg, xss, Bv, m, cb, ys, rfl, hsm, hown, hi, hb⟩
    have HS := Lib.hid hsm
    have HR := Lib.hid hown.rows
    have HY := Lib.hid hi
    have B1 := Lib.hid hb
    have LX := Lib.hid hown.rows.len
    have LY := Lib.hid hi.len
    clear hsm hown hi hb H0
    by_cases hf : VF xss ∧ VS ys xss.length
    · have hk : 0 < k := by rw [← LX.out]; exact hf.1.q.1.n1
      have hk3 : k ≤ 3 := by rw [← LX.out]; exact hf.1.q.1.n3
      have hfs : FS xss ys k := FS.of LX.out hf.1 (by have := hf.2; rw [LX.out] at this; exact this)
      have hmk : m = k := by rw [← LY.out]; exact hfs.xl
      subst hmk
      have HGF := Lib.hid (grF_yes hfs)
      have HGL := Lib.hid (grL_len xss ys m m)
      have HFS := Lib.hid hfs
      have HSX := Lib.hid (hfs.s.sumOk (by omega))
      have HGI := Lib.hid (fun i (hi : i < m) => gi_grL xss ys m (k := m) hi)
      have hP := hfs.gp
      have h0' : ((m : Int) == 0) = false := by rw [beq_eq_false_iff_ne]; omega
      obtain ⟨sU, hsU⟩ : ∃ f : Nat → Int, ∀ q, f q = frU (payU xss ys ys m q) (gP xss ys m) := ⟨_, fun _ => rfl⟩
      obtain ⟨sD, hsD⟩ : ∃ f : Nat → Int, ∀ q, f q = frD (payU xss ys ys m q) (gP xss ys m) := ⟨_, fun _ => rfl⟩
      have HZ := Lib.hid (show frV 0 1 = .agg #[.int .i64 (sU 0), .int .i64 (sD 0)] by
        obtain ⟨e1, e2⟩ := fr_eq (u := 0) (d := 1) (v := payU xss ys ys m 0) (e := gP xss ys m) (by omega) (by omega) (by simp [payU])
        rw [hsU, hsD]; unfold frV; rw [e1, e2])
      have HEND := Lib.hid (show sU m = 1 ∧ sD m = 1 by rw [hsU, hsD]; exact fr_whole (P := gP xss ys m) (by omega))
      have HSU := Lib.hid hsU
      have HSD := Lib.hid hsD
      have HP := Lib.hid hP
      have HF1 := Lib.hid (fun W => show Calls Try.prog 34 #[.int .i64 1, .int .i64 1] W (Ret (.agg #[.int .i64 1, .int .i64 1]) W) from frV_one 1 ▸ fracOfG_any 1 1 W (by unfold Big; omega) (by unfold Big; omega) (by omega))
      clear hsU hsD hf hfs hP
      have HC := Lib.hid (GrowthOf_impl _ _ _ xss _ _ _ ys w1 HR.out HY.out)
      go_wp2_with fail
      refine HC.out.mono ?_
      rintro e w2 ⟨A2, n2, c2, g2_, rfl, hl2, ho, hb⟩
      have HR_2 := Lib.hid (HR.out.keep (Keep.below hb))
      have HY_2 := Lib.hid (HY.out.keep (Keep.below hb))
      have B_2 := Lib.hid (below_up B1.out hb)
      have HA := Lib.hid ho.frs
      clear ho
      clear hb HC HR HY B1
      rw [HGF.out] at hl2 HA
      obtain rfl : n2 = m := by have := HGL.out; omega
      clear hl2
      have HC := Lib.hid (GrowthOf_spec _ _ _ xss _ _ _ ys w2 HR_2.out HY_2.out)
      go_wp2_with fail
      refine HC.out.mono ?_
      rintro e w3 ⟨A3, n3, c3, g3_, rfl, hl3, ho, hb⟩
      have HR_3 := Lib.hid (HR_2.out.keep (Keep.below hb))
      have HY_3 := Lib.hid (HY_2.out.keep (Keep.below hb))
      have HA_3 := Lib.hid (HA.out.keep (Keep.below hb))
      have B_3 := Lib.hid (below_up B_2.out hb)
      have HB_ := Lib.hid ho.frs
      clear ho
      clear hb HC HR_2 HY_2 HA B_2
      rw [HGF.out] at hl3 HB_
      obtain rfl : n3 = n2 := by have := HGL.out; omega
      clear hl3
      have HC := Lib.hid (equalFracs_any _ _ _ _ _ _ w3 HA_3.out HB_.out)
      go_wp2_with fail
      refine HC.out.mono ?_
      rintro e w4 ⟨rfl, hb⟩
      have HR_4 := Lib.hid (HR_3.out.keep (Keep.below hb))
      have HY_4 := Lib.hid (HY_3.out.keep (Keep.below hb))
      have HA_4 := Lib.hid (HA_3.out.keep (Keep.below hb))
      have HB__4 := Lib.hid (HB_.out.keep (Keep.below hb))
      have B_4 := Lib.hid (below_up B_3.out hb)
      clear hb HC HR_3 HY_3 HA_3 HB_ B_3
      clear HB__4
      have HC := Lib.hid (HZ.out ▸ fracOfG_any 0 1 w4 (by unfold Big; omega) (by unfold Big; omega) (by omega))
      go_wp2_with fail
      refine HC.out.mono ?_
      rintro e w5 ⟨rfl, hb⟩
      have HR_5 := Lib.hid (HR_4.out.keep (Keep.below hb))
      have HY_5 := Lib.hid (HY_4.out.keep (Keep.below hb))
      have HA_5 := Lib.hid (HA_4.out.keep (Keep.below hb))
      have B_5 := Lib.hid (below_up B_4.out hb)
      clear hb HC HR_4 HY_4 HA_4 B_4
      obtain ⟨bg, og, rfl, hcg⟩ := HA_5.out.at_ hk
      have HCG := Lib.hid hcg
      obtain ⟨by_, oy, rfl, hcy⟩ := HY_5.out.at_ hk
      have HCY := Lib.hid hcy
      have HYB := Lib.hid HY_5.out
      have HBX := Lib.hid B_5.out
      clear hcg hcy
      clear HA_5
      have HBK := Lib.hid (blk_new w5 37 #[.int .i64 (sU 0), .int .i64 (sD 0)])
      have HBL := Lib.hid (below_alloc w5 (.cells #[.int .i64 (sU 0), .int .i64 (sD 0)] 37))
      have hal := below_alloc w5 (.cells #[.int .i64 (sU 0), .int .i64 (sD 0)] 37)
      have HR_al := Lib.hid (HR_5.out.keep (Keep.below hal))
      have HY_al := Lib.hid (HY_5.out.keep (Keep.below hal))
      have B_al := Lib.hid (below_up B_5.out hal)
      clear hal HR_5 HY_5 B_5
      have HCA := Lib.hid (IsRest_impl _ _ _ xss _ _ _ ys (w5.alloc (.cells #[.int .i64 (sU 0), .int .i64 (sD 0)] 37)) HR_al.out HY_al.out)
      by_cases hr : RQ xss ys
      · rw [pb_true hr] at HCA
        have HRR := Lib.hid (show RestP xss ys n3 by have h := hr.r; rw [LX.out] at h; exact h)
        have HRQ := Lib.hid (fun i (hi : i < n3) => gr_rest HFS.out HRR.out hi)
        clear HRR
        clear hr
        go_wp2_with fail
        refine HCA.out.mono ?_
        rintro e w7 ⟨rfl, hb⟩
        have HBK7 := Lib.hid (blk_below HBK.out hb)
        have HBL7 := Lib.hid (below_up HBL.out hb)
        clear hb HCA HBK HBL HR_al HY_al
        go_wp2
        go_loopw [8] (fun j wr => ∃ q : Nat, q ≤ n3 ∧ j = .int .i64 q ∧ Hid (Blk wr w5.heap.size 37 #[.int .i64 (sU q), .int .i64 (sD q)]) ∧ Hid (Below w5.heap.size w5 wr)) (fun j _ => n3 - (intOf j).toNat)
        case atStart => exact ⟨0, Nat.zero_le _, rfl, HBK7, HBL7⟩
        case round =>
          clear HBK7 HBL7
          obtain ⟨q, hq, rfl, HBK, HBI⟩ := hrel
          by_cases hlt : q < n3
          · have c1 := Keep.below HBI.out _ _ (HCY.out q hlt)
            have c2 := Keep.below HBI.out _ _ (HCG.out (q * 2) (by omega))
            have c3 := (show wr.cell? ⟨bg, og + q * 2 + 1, none⟩ = some (.int .i64 (gi (grL xss ys n3 n3) (q * 2 + 1))) from Keep.below HBI.out _ _ (HCG.out (q * 2 + 1) (by omega)))
            rw [(HGI.out q hlt).1] at c2
            rw [(HGI.out q hlt).2] at c3
            obtain ⟨p1, p2⟩ := HP.out
            have hgu := HFS.out.gu hlt
            have hxb := HFS.out.x q hlt
            have hT := HFS.out.s.bd (by omega)
            have hpu := payU_bd HFS.out.pb hk3 (i := q) (by omega)
            have hdb := gr_bd HFS.out hlt
            have b1 := frU_bd (u := gi ys q) (d := tot ys) (B := 1000) (by omega) (by omega)
            have b2 := frD_bd (u := gi ys q) (d := tot ys) (B := 3000) (by omega) (by omega)
            have b3 := frU_bd (u := gU xss ys n3 q) (d := gP xss ys n3) (B := 81000000) (by omega) (by omega)
            have b4 := frD_bd (u := gU xss ys n3 q) (d := gP xss ys n3) (B := 81000000) (by omega) (by omega)
            have b5 := frU_bd (u := payU xss ys ys n3 q) (d := gP xss ys n3) (B := 81000000) (by omega) (by omega)
            have b6 := frD_bd (u := payU xss ys ys n3 q) (d := gP xss ys n3) (B := 81000000) (by omega) (by omega)
            have b7 := frU_bd (u := gi ys q * dotr xss ys q n3) (d := gP xss ys n3) (B := 81000000) (by omega) (by omega)
            have b8 := frD_bd (u := gi ys q * dotr xss ys q n3) (d := gP xss ys n3) (B := 81000000) (by omega) (by omega)
            obtain ⟨e1, e2⟩ := gr_part HFS.out (i := q)
            obtain ⟨e3, e4⟩ := fr_sum (S := payU xss ys ys n3 q) (R := gi ys q * dotr xss ys q n3) (P := gP xss ys n3) (by omega)
            rw [← payU_next] at e3 e4
            have HE1 := Lib.hid (show frV (frU (gi ys q) (tot ys) * frU (gU xss ys n3 q) (gP xss ys n3)) (frD (gi ys q) (tot ys) * frD (gU xss ys n3 q) (gP xss ys n3)) = .agg #[.int .i64 (frU (gi ys q * dotr xss ys q n3) (gP xss ys n3)), .int .i64 (frD (gi ys q * dotr xss ys q n3) (gP xss ys n3))] by unfold frV; rw [e1, e2])
            have HE2 := Lib.hid (show frV (frU (payU xss ys ys n3 q) (gP xss ys n3) * frD (gi ys q * dotr xss ys q n3) (gP xss ys n3) + frU (gi ys q * dotr xss ys q n3) (gP xss ys n3) * frD (payU xss ys ys n3 q) (gP xss ys n3)) (frD (payU xss ys ys n3 q) (gP xss ys n3) * frD (gi ys q * dotr xss ys q n3) (gP xss ys n3)) = .agg #[.int .i64 (sU (q + 1)), .int .i64 (sD (q + 1))] by rw [HSU.out, HSD.out]; unfold frV; rw [e3, e4])
            clear e1 e2 e3 e4
            have HQ1 := Lib.hid (fun W => show Calls Try.prog 34 #[.int .i64 (gi ys q), .int .i64 (tot ys)] W (Ret (.agg #[.int .i64 (frU (gi ys q) (tot ys)), .int .i64 (frD (gi ys q) (tot ys))]) W) from fracOfG_any (gi ys q) (tot ys) W (by unfold Big; omega) (by unfold Big; omega) (by omega))
            have HQ2 := Lib.hid (fun W => HE1.out ▸ timesOfG_any (frU (gi ys q) (tot ys)) (frD (gi ys q) (tot ys)) (frU (gU xss ys n3 q) (gP xss ys n3)) (frD (gU xss ys n3 q) (gP xss ys n3)) W (by omega) (by omega) (by omega) (by omega))
            obtain ⟨r1, r2⟩ := mulbd (x := frU (payU xss ys ys n3 q) (gP xss ys n3)) (y := frD (gi ys q * dotr xss ys q n3) (gP xss ys n3)) (A := 81000000) (B := 81000000) (by omega) (by omega)
            obtain ⟨r3, r4⟩ := mulbd (x := frU (gi ys q * dotr xss ys q n3) (gP xss ys n3)) (y := frD (payU xss ys ys n3 q) (gP xss ys n3)) (A := 81000000) (B := 81000000) (by omega) (by omega)
            have HQ3 := Lib.hid (fun W => HE2.out ▸ plusOfG_any (frU (payU xss ys ys n3 q) (gP xss ys n3)) (frD (payU xss ys ys n3 q) (gP xss ys n3)) (frU (gi ys q * dotr xss ys q n3) (gP xss ys n3)) (frD (gi ys q * dotr xss ys q n3) (gP xss ys n3)) W (by omega) (by omega) (by omega) (by omega) (by unfold Big; omega))
            have HTT := Lib.hid (fun W (k : Keep wr W) => total_any (some ⟨by_, oy, none⟩) n3 cb ys W ((HYB.out.keep (Keep.below HBI.out)).keep k) HSX.out)
            rw [← HSU.out, ← HSD.out] at HQ3
            clear HE1 HE2 r1 r2 r3 r4 b1 b2 b5 b6 b7 b8 hpu hdb hgu hT
            obtain ⟨hls, hone⟩ := HRQ.out q hlt
            have HLS := Lib.hid (fun W => hls ▸ lessOf_any 1 1 (frU (gU xss ys n3 q) (gP xss ys n3)) (frD (gU xss ys n3 q) (gP xss ys n3)) W (by omega) (by omega) (by omega) (by omega))
            clear hls
            clear b3 b4
            have HC0 := Lib.hid (show (w5.cell? ⟨by_, oy + q, none⟩ = some (.int .i64 (gi ys q))) ∧ w5.cell? ⟨bg, og + q * 2, none⟩ = some (.int .i64 (frU (gU xss ys n3 q) (gP xss ys n3))) ∧ w5.cell? ⟨bg, og + q * 2 + 1, none⟩ = some (.int .i64 (frD (gU xss ys n3 q) (gP xss ys n3))) from ⟨HCY.out q hlt, (HGI.out q hlt).1 ▸ HCG.out (q * 2) (by omega), (HGI.out q hlt).2 ▸ HCG.out (q * 2 + 1) (by omega)⟩)
            have hin : (q : Int) < (n3 : Int) := by omega
            generalize frU (gi ys q) (tot ys) = y1 at *
            generalize frD (gi ys q) (tot ys) = y2 at *
            generalize frU (gi ys q * dotr xss ys q n3) (gP xss ys n3) = tu at *
            generalize frD (gi ys q * dotr xss ys q n3) (gP xss ys n3) = td at *
            generalize frU (gU xss ys n3 q) (gP xss ys n3) = gu at *
            generalize frD (gU xss ys n3 q) (gP xss ys n3) = gd at *
            generalize tot ys = TY at *
            generalize gi ys q = y at *
            have z0 := blk_cell HBK.out (i := 0) (v := .int .i64 (sU q)) rfl
            have z1 := blk_cell HBK.out (i := 1) (v := .int .i64 (sD q)) rfl
            have HZA := Lib.hid (And.intro c1 (And.intro c2 c3))
            have HZC := Lib.hid (And.intro z0 z1)
            have HK0 := Lib.hid (show Keep wr wr.drew from Keep.drewN wr 1)
            go_wp2
            apply region_once (F := fun v => Hid (Blk v w5.heap.size 37 #[.int .i64 (sU (q + 1)), .int .i64 (sD (q + 1))]) ∧ Hid (Below w5.heap.size w5 v))
            · go_region_law ((first
              | (go_simp; go_at_call 35; refine (HTT.out _ (Keep.drewN _ 1)).mono ?_; rintro e v1 ⟨rfl, hqq⟩; have D1 := Lib.hid (show Below wr.heap.size wr v1 from below_quiet (Below.refl _ _).drew hqq); have y0 := Keep.below D1.out _ _ HZC.out.1; have y1_ := Keep.below D1.out _ _ HZC.out.2; have y2_ := Keep.below D1.out _ _ HZA.out.2.1; have y3 := Keep.below D1.out _ _ HZA.out.2.2; have y4 := Keep.below D1.out _ _ HZA.out.1; clear hqq)
              | (go_simp; go_at_call 34; refine (HQ1.out _).mono ?_; rintro e v2 ⟨rfl, hb⟩; have D2 := Lib.hid (below_up D1.out hb); have y0 := Keep.below D2.out _ _ HZC.out.1; have y1_ := Keep.below D2.out _ _ HZC.out.2; have y2_ := Keep.below D2.out _ _ HZA.out.2.1; have y3 := Keep.below D2.out _ _ HZA.out.2.2; clear hb D1)
              | (go_simp; go_at_call 36; refine (HQ2.out _).mono ?_; rintro e v3 ⟨rfl, hb⟩; have D3 := Lib.hid (below_up D2.out hb); have y0 := Keep.below D3.out _ _ HZC.out.1; have y1_ := Keep.below D3.out _ _ HZC.out.2; clear hb D2)
              | (go_simp; go_at_call 44; refine (HQ3.out _).mono ?_; rintro e v4 ⟨rfl, hb⟩; have D4 := Lib.hid (below_up D3.out hb); have HK4 := Lib.hid (blk_below HBK.out D4.out); have y0 := blk_cell HK4.out (i := 0) (v := .int .i64 (sU q)) rfl; have y1_ := blk_cell HK4.out (i := 1) (v := .int .i64 (sD q)) rfl; have f0 := blk_frozen HK4.out 0; have f1 := blk_frozen HK4.out 1; clear hb D3)))
              all_goals
                have HK5 := Lib.hid (blk_set (blk_set HK4.out 0 (.int .i64 (sU (q + 1)))) 1 (.int .i64 (sD (q + 1))))
                simp only [List.setIfInBounds_toArray, List.set_cons_zero, List.set_cons_succ] at HK5
                exact OnceQ.mk rfl ⟨HK5, Lib.hid (((below_up HBI.out D4.out).setCell (p := ⟨w5.heap.size, 0, none⟩) (Nat.le_refl _) (.int .i64 (sU (q + 1)))).setCell (p := ⟨w5.heap.size, 1, none⟩) (Nat.le_refl _) (.int .i64 (sD (q + 1))))⟩
            · rintro w5 ⟨HK5, HB5⟩
              clear z0 z1 c1 c2 c3 HQ1 HQ2 HQ3 HTT HBK HZC HK0
              have HZ5 := Lib.hid (And.intro (Keep.below HB5.out _ _ HC0.out.1) (And.intro (Keep.below HB5.out _ _ HC0.out.2.1) (Keep.below HB5.out _ _ HC0.out.2.2)))
              clear HC0 HZA
              by_cases hy : 0 < y
              · obtain ⟨rfl, rfl⟩ := hone hy
                have hd1 : decide (0 < y) = true := decide_eq_true hy
                clear hone hy
                go_wp2
                go_region_held3 (fun W => W.cell? ⟨by_, oy + q, none⟩ = some (.int .i64 y) ∧ (W.cell? ⟨bg, og + q * 2, none⟩ = some (.int .i64 1) ∧ W.cell? ⟨bg, og + q * 2 + 1, none⟩ = some (.int .i64 1)))
                  (first | exact Y6.out | exact Y5.out | exact Y4.out | exact HZ5.out | go_keep)
                  (first
                  | (go_at_call 34; (with_reducible refine (HF1.out _).mono ?_); rintro e v4a ⟨rfl, hb⟩; have Y4 := Lib.hid (And.intro (Keep.below hb _ _ HZ5.out.1) (And.intro (Keep.below hb _ _ HZ5.out.2.1) (Keep.below hb _ _ HZ5.out.2.2))); have D4a := Lib.hid (below_up (Below.refl w5.heap.size w5).drew hb); clear hb HZ5)
                  | (go_at_call 34; (with_reducible refine (HF1.out _).mono ?_); rintro e v5 ⟨rfl, hb⟩; have Y5 := Lib.hid (And.intro (Keep.below hb _ _ Y4.out.1) (And.intro (Keep.below hb _ _ Y4.out.2.1) (Keep.below hb _ _ Y4.out.2.2))); have D5 := Lib.hid (below_up D4a.out hb); clear hb Y4)
                  | (go_at_call 29; (with_reducible refine (HLS.out _).mono ?_); rintro e v6 ⟨rfl, hb⟩; have Y6 := Lib.hid (And.intro (Keep.below hb _ _ Y5.out.1) (And.intro (Keep.below hb _ _ Y5.out.2.1) (Keep.below hb _ _ Y5.out.2.2))); have DD := Lib.hid (below_up D5.out hb); clear hb Y5))
                all_goals
                  go_wp2
                  go_roundw
                  case rel => exact ⟨q + 1, by omega, by go_num, Lib.hid (blk_below HK5.out DD.out), Lib.hid (below_up HB5.out DD.out)⟩
                  case measure => simp [intOf]; omega
              · obtain rfl : y = 0 := by omega
                clear hone hy hxb
                go_wp2_with fail
                refine wp_region_held_drew (S := (fun W => W.cell? ⟨by_, oy + q, none⟩ = some (.int .i64 0) ∧ (W.cell? ⟨bg, og + q * 2, none⟩ = some (.int .i64 gu) ∧ W.cell? ⟨bg, og + q * 2 + 1, none⟩ = some (.int .i64 gd)))) (by kernel_rfl) HZ5.out (fun hHeld => ?_)
                refine wpAnyH_take (i := 0) (oi := { dst := some 60, op := Go.Op.move (Go.Operand.tmp 7), type := 4, pos := "laws.go:633", after := #[], guard := none }) (v := ?_) rfl (by kernel_rfl) (by kernel_rfl) (by kernel_rfl) (fun _ _ _ h => h) (Or.inl ⟨by rfl, ?_⟩) (by assumption) ?_
                rotate_left
                · (intro w hSw; (try dsimp only at hSw); go_simp; try with_reducible rfl)
                simp only [Act.put, List.setIfInBounds_toArray, List.set_cons_zero, List.set_cons_succ]
                refine wpAnyH_take (i := 1) (oi := { dst := some 61, op := Go.Op.move (Go.Operand.tmp 60), type := 4, pos := "laws.go:633", after := #[{ on := 0, ground := Go.Ground.data }], guard := none }) (v := ?_) rfl (by kernel_rfl) (by kernel_rfl) (by kernel_rfl) (fun _ _ _ h => h) (Or.inl ⟨by rfl, ?_⟩) (by assumption) ?_
                rotate_left
                · (intro w hSw; (try dsimp only at hSw); go_simp; try with_reducible rfl)
                simp only [Act.put, List.setIfInBounds_toArray, List.set_cons_zero, List.set_cons_succ]
                refine wpAnyH_take (i := 2) (oi := { dst := some 62, op := Go.Op.move (Go.Operand.tmp 4), type := 26, pos := "laws.go:633", after := #[{ on := 1, ground := Go.Ground.guard }], guard := some (1, true) }) (v := ?_) rfl (by kernel_rfl) (by kernel_rfl) (by kernel_rfl) (fun _ _ _ h => h) (Or.inl ⟨by rfl, ?_⟩) (by assumption) ?_
                rotate_left
                · (intro w hSw; (try dsimp only at hSw); go_simp; try with_reducible rfl)
                simp only [Act.put, List.setIfInBounds_toArray, List.set_cons_zero, List.set_cons_succ]
                refine wpAnyH_take (i := 3) (oi := { dst := some 63, op := Go.Op.move (Go.Operand.tmp 8), type := 3, pos := "laws.go:633", after := #[{ on := 1, ground := Go.Ground.guard }], guard := some (1, true) }) (v := ?_) rfl (by kernel_rfl) (by kernel_rfl) (by kernel_rfl) (fun _ _ _ h => h) (Or.inl ⟨by rfl, ?_⟩) (by assumption) ?_
                rotate_left
                · (intro w hSw; (try dsimp only at hSw); go_simp; try with_reducible rfl)
                simp only [Act.put, List.setIfInBounds_toArray, List.set_cons_zero, List.set_cons_succ]
                refine wpAnyH_take (i := 4) (oi := { dst := some 64, op := Go.Op.indexAddr 26 (Go.Operand.tmp 62) (Go.Operand.tmp 63), type := 0, pos := "laws.go:633", after := #[{ on := 2, ground := Go.Ground.data }, { on := 3, ground := Go.Ground.data }, { on := 1, ground := Go.Ground.guard }], guard := some (1, true) }) (v := ?_) rfl (by kernel_rfl) (by kernel_rfl) (by kernel_rfl) (fun _ _ _ h => h) (Or.inl ⟨by rfl, ?_⟩) (by assumption) ?_
                rotate_left
                · (intro w hSw; (try dsimp only at hSw); go_simp; try with_reducible rfl)
                simp only [Act.put, List.setIfInBounds_toArray, List.set_cons_zero, List.set_cons_succ]
                refine wpAnyH_take (i := 5) (oi := { dst := some 65, op := Go.Op.load 3 (Go.Operand.tmp 64), type := 3, pos := "laws.go:633", after := #[{ on := 4, ground := Go.Ground.data }, { on := 1, ground := Go.Ground.guard }], guard := some (1, true) }) (v := ?_) rfl (by kernel_rfl) (by kernel_rfl) (by kernel_rfl) (fun _ _ _ h => h) (Or.inl ⟨by rfl, ?_⟩) (by assumption) ?_
                rotate_left
                · (intro w hSw; (try dsimp only at hSw); go_simp; try with_reducible rfl)
                simp only [Act.put, List.setIfInBounds_toArray, List.set_cons_zero, List.set_cons_succ]
                refine wpAnyH_take (i := 6) (oi := { dst := some 66, op := Go.Op.binOp Go.BinOp.gtr 3 (Go.Operand.tmp 65) (Go.Operand.const (Go.Value.int Go.IntKind.i64 0)) 3, type := 4, pos := "laws.go:633", after := #[{ on := 5, ground := Go.Ground.data }, { on := 1, ground := Go.Ground.guard }], guard := some (1, true) }) (v := ?_) rfl (by kernel_rfl) (by kernel_rfl) (by kernel_rfl) (fun _ _ _ h => h) (Or.inl ⟨by rfl, ?_⟩) (by assumption) ?_
                rotate_left
                · (intro w hSw; (try dsimp only at hSw); go_simp; try with_reducible rfl)
                simp only [Act.put, List.setIfInBounds_toArray, List.set_cons_zero, List.set_cons_succ]
                refine wpAnyH_take (i := 7) (oi := { dst := some 67, op := Go.Op.move (Go.Operand.tmp 66), type := 4, pos := "laws.go:633", after := #[{ on := 6, ground := Go.Ground.data }, { on := 1, ground := Go.Ground.chain }, { on := 1, ground := Go.Ground.guard }], guard := some (1, true) }) (v := ?_) rfl (by kernel_rfl) (by kernel_rfl) (by kernel_rfl) (fun _ _ _ h => h) (Or.inl ⟨by rfl, ?_⟩) (by assumption) ?_
                rotate_left
                · (intro w hSw; (try dsimp only at hSw); go_simp; try with_reducible rfl)
                simp only [Act.put, List.setIfInBounds_toArray, List.set_cons_zero, List.set_cons_succ]
                refine wpAnyH_take (i := 8) (oi := { dst := some 68, op := Go.Op.move (Go.Operand.tmp 5), type := 50, pos := "laws.go:633", after := #[{ on := 7, ground := Go.Ground.guard }], guard := some (7, true) }) (v := undef) rfl (by kernel_rfl) (by kernel_rfl) (by kernel_rfl) (fun _ _ _ h => h) (Or.inr ⟨by rfl, rfl⟩) (by assumption) ?_
                simp only [Act.put, List.setIfInBounds_toArray, List.set_cons_zero, List.set_cons_succ]
                refine wpAnyH_take (i := 9) (oi := { dst := some 69, op := Go.Op.move (Go.Operand.tmp 8), type := 3, pos := "laws.go:633", after := #[{ on := 7, ground := Go.Ground.guard }], guard := some (7, true) }) (v := undef) rfl (by kernel_rfl) (by kernel_rfl) (by kernel_rfl) (fun _ _ _ h => h) (Or.inr ⟨by rfl, rfl⟩) (by assumption) ?_
                simp only [Act.put, List.setIfInBounds_toArray, List.set_cons_zero, List.set_cons_succ]
                refine wpAnyH_take (i := 10) (oi := { dst := some 70, op := Go.Op.indexAddr 50 (Go.Operand.tmp 68) (Go.Operand.tmp 69), type := 0, pos := "laws.go:633", after := #[{ on := 8, ground := Go.Ground.data }, { on := 9, ground := Go.Ground.data }, { on := 7, ground := Go.Ground.guard }], guard := some (7, true) }) (v := undef) rfl (by kernel_rfl) (by kernel_rfl) (by kernel_rfl) (fun _ _ _ h => h) (Or.inr ⟨by rfl, rfl⟩) (by assumption) ?_
                simp only [Act.put, List.setIfInBounds_toArray, List.set_cons_zero, List.set_cons_succ]
                refine wpAnyH_take (i := 11) (oi := { dst := some 71, op := Go.Op.load 37 (Go.Operand.tmp 70), type := 37, pos := "laws.go:633", after := #[{ on := 10, ground := Go.Ground.data }, { on := 7, ground := Go.Ground.guard }], guard := some (7, true) }) (v := undef) rfl (by kernel_rfl) (by kernel_rfl) (by kernel_rfl) (fun _ _ _ h => h) (Or.inr ⟨by rfl, rfl⟩) (by assumption) ?_
                simp only [Act.put, List.setIfInBounds_toArray, List.set_cons_zero, List.set_cons_succ]
                refine wpAnyH_take (i := 12) (oi := { dst := some 72, op := Go.Op.call { callee := Go.Callee.value (Go.Operand.func 34), args := #[Go.Operand.const (Go.Value.int Go.IntKind.i64 1), Go.Operand.const (Go.Value.int Go.IntKind.i64 1)], argTypes := #[3, 3] }, type := 37, pos := "laws.go:633", after := #[{ on := 7, ground := Go.Ground.chain }, { on := 7, ground := Go.Ground.guard }], guard := some (7, true) }) (v := undef) rfl (by kernel_rfl) (by kernel_rfl) (by kernel_rfl) (fun _ _ _ h => h) (Or.inr ⟨by rfl, rfl⟩) (by assumption) ?_
                simp only [Act.put, List.setIfInBounds_toArray, List.set_cons_zero, List.set_cons_succ]
                refine wpAnyH_take (i := 13) (oi := { dst := some 73, op := Go.Op.binOp Go.BinOp.neq 37 (Go.Operand.tmp 71) (Go.Operand.tmp 72) 37, type := 4, pos := "laws.go:633", after := #[{ on := 11, ground := Go.Ground.data }, { on := 12, ground := Go.Ground.data }, { on := 7, ground := Go.Ground.guard }], guard := some (7, true) }) (v := undef) rfl (by kernel_rfl) (by kernel_rfl) (by kernel_rfl) (fun _ _ _ h => h) (Or.inr ⟨by rfl, rfl⟩) (by assumption) ?_
                simp only [Act.put, List.setIfInBounds_toArray, List.set_cons_zero, List.set_cons_succ]
                refine wpAnyH_take (i := 14) (oi := { dst := some 74, op := Go.Op.pick (Go.Operand.tmp 67) (Go.Operand.tmp 73) (Go.Operand.const (Go.Value.bool false)), type := 4, pos := "laws.go:633", after := #[{ on := 7, ground := Go.Ground.data }, { on := 13, ground := Go.Ground.data }, { on := 1, ground := Go.Ground.guard }], guard := some (1, true) }) (v := ?_) rfl (by kernel_rfl) (by kernel_rfl) (by kernel_rfl) (fun _ _ _ h => h) (Or.inl ⟨by rfl, ?_⟩) (by assumption) ?_
                rotate_left
                · (intro w hSw; (try dsimp only at hSw); go_simp; try with_reducible rfl)
                simp only [Act.put, List.setIfInBounds_toArray, List.set_cons_zero, List.set_cons_succ]
                refine wpAnyH_take (i := 15) (oi := { dst := some 75, op := Go.Op.move (Go.Operand.tmp 74), type := 4, pos := "laws.go:633", after := #[{ on := 14, ground := Go.Ground.data }, { on := 12, ground := Go.Ground.chain }, { on := 1, ground := Go.Ground.guard }], guard := some (1, true) }) (v := ?_) rfl (by kernel_rfl) (by kernel_rfl) (by kernel_rfl) (fun _ _ _ h => h) (Or.inl ⟨by rfl, ?_⟩) (by assumption) ?_
                rotate_left
                · (intro w hSw; (try dsimp only at hSw); go_simp; try with_reducible rfl)
                simp only [Act.put, List.setIfInBounds_toArray, List.set_cons_zero, List.set_cons_succ]
                refine wpAnyH_take (i := 17) (oi := { dst := some 77, op := Go.Op.move (Go.Operand.tmp 5), type := 50, pos := "laws.go:633", after := #[{ on := 15, ground := Go.Ground.guard }], guard := some (15, false) }) (v := ?_) rfl (by kernel_rfl) (by kernel_rfl) (by kernel_rfl) (fun _ _ _ h => h) (Or.inl ⟨by rfl, ?_⟩) (by assumption) ?_
                rotate_left
                · (intro w hSw; (try dsimp only at hSw); go_simp; try with_reducible rfl)
                simp only [Act.put, List.setIfInBounds_toArray, List.set_cons_zero, List.set_cons_succ]
                refine wpAnyH_take (i := 18) (oi := { dst := some 78, op := Go.Op.move (Go.Operand.tmp 8), type := 3, pos := "laws.go:633", after := #[{ on := 15, ground := Go.Ground.guard }], guard := some (15, false) }) (v := ?_) rfl (by kernel_rfl) (by kernel_rfl) (by kernel_rfl) (fun _ _ _ h => h) (Or.inl ⟨by rfl, ?_⟩) (by assumption) ?_
                rotate_left
                · (intro w hSw; (try dsimp only at hSw); go_simp; try with_reducible rfl)
                simp only [Act.put, List.setIfInBounds_toArray, List.set_cons_zero, List.set_cons_succ]
                refine wpAnyH_take (i := 19) (oi := { dst := some 79, op := Go.Op.indexAddr 50 (Go.Operand.tmp 77) (Go.Operand.tmp 78), type := 0, pos := "laws.go:633", after := #[{ on := 17, ground := Go.Ground.data }, { on := 18, ground := Go.Ground.data }, { on := 15, ground := Go.Ground.guard }], guard := some (15, false) }) (v := ?_) rfl (by kernel_rfl) (by kernel_rfl) (by kernel_rfl) (fun _ _ _ h => h) (Or.inl ⟨by rfl, ?_⟩) (by assumption) ?_
                rotate_left
                · (intro w hSw; (try dsimp only at hSw); go_simp; try with_reducible rfl)
                simp only [Act.put, List.setIfInBounds_toArray, List.set_cons_zero, List.set_cons_succ]
                refine wpAnyH_take (i := 20) (oi := { dst := some 80, op := Go.Op.load 37 (Go.Operand.tmp 79), type := 37, pos := "laws.go:633", after := #[{ on := 19, ground := Go.Ground.data }, { on := 15, ground := Go.Ground.guard }], guard := some (15, false) }) (v := ?_) rfl (by kernel_rfl) (by kernel_rfl) (by kernel_rfl) (fun _ _ _ h => h) (Or.inl ⟨by rfl, ?_⟩) (by assumption) ?_
                rotate_left
                · (intro w hSw; (try dsimp only at hSw); go_simp; try with_reducible rfl)
                simp only [Act.put, List.setIfInBounds_toArray, List.set_cons_zero, List.set_cons_succ]
                refine wpAnyH_ready (rs := [16]) (by kernel_rfl) (by simp) ?_
                refine AllReadyH.cons (o := { dst := some 76, op := Go.Op.call { callee := Go.Callee.value (Go.Operand.func 34), args := #[Go.Operand.const (Go.Value.int Go.IntKind.i64 1), Go.Operand.const (Go.Value.int Go.IntKind.i64 1)], argTypes := #[3, 3] }, type := 37, pos := "laws.go:633", after := #[{ on := 15, ground := Go.Ground.chain }, { on := 15, ground := Go.Ground.guard }], guard := some (15, false) }) rfl (fun K hK => ?_) AllReadyH.nil
                go_simp
                go_at_call 34
                refine (HF1.out _).mono ?_
                rintro e v5 ⟨rfl, hb⟩
                have Y5 := Lib.hid (And.intro (Keep.below hb _ _ HZ5.out.1) (And.intro (Keep.below hb _ _ HZ5.out.2.1) (Keep.below hb _ _ HZ5.out.2.2)))
                have D5 := Lib.hid (below_up (Below.refl w5.heap.size w5).drew hb)
                clear hb
                refine hK.out _ _ Y5.out (fun hHeld => ?_)
                clear hK K
                try simp only [Act.put, List.setIfInBounds_toArray, List.set_cons_zero, List.set_cons_succ]
                refine wpAnyH_ready (rs := [21]) (by kernel_rfl) (by simp) ?_
                refine AllReadyH.cons (o := { dst := some 81, op := Go.Op.call { callee := Go.Callee.value (Go.Operand.func 29), args := #[Go.Operand.tmp 76, Go.Operand.tmp 80], argTypes := #[37, 37] }, type := 4, pos := "laws.go:633", after := #[{ on := 16, ground := Go.Ground.data }, { on := 20, ground := Go.Ground.data }, { on := 16, ground := Go.Ground.chain }, { on := 15, ground := Go.Ground.guard }], guard := some (15, false) }) rfl (fun K hK => ?_) AllReadyH.nil
                go_simp
                go_at_call 29
                refine (HLS.out _).mono ?_
                rintro e v6 ⟨rfl, hb⟩
                have Y6 := Lib.hid (And.intro (Keep.below hb _ _ Y5.out.1) (And.intro (Keep.below hb _ _ Y5.out.2.1) (Keep.below hb _ _ Y5.out.2.2)))
                have DD := Lib.hid (below_up D5.out hb)
                clear hb D5 Y5
                refine hK.out _ _ Y6.out (fun hHeld => ?_)
                clear hK K
                try simp only [Act.put, List.setIfInBounds_toArray, List.set_cons_zero, List.set_cons_succ]
                refine wpAnyH_take (i := 22) (oi := { dst := some 82, op := Go.Op.pick (Go.Operand.tmp 75) (Go.Operand.const (Go.Value.bool true)) (Go.Operand.tmp 81), type := 4, pos := "laws.go:633", after := #[{ on := 15, ground := Go.Ground.data }, { on := 21, ground := Go.Ground.data }, { on := 1, ground := Go.Ground.guard }], guard := some (1, true) }) (v := ?_) rfl (by kernel_rfl) (by kernel_rfl) (by kernel_rfl) (fun _ _ _ h => h) (Or.inl ⟨by rfl, ?_⟩) (by assumption) ?_
                rotate_left
                · (intro w hSw; (try dsimp only at hSw); go_simp; try with_reducible rfl)
                simp only [Act.put, List.setIfInBounds_toArray, List.set_cons_zero, List.set_cons_succ]
                refine wpAnyH_take (i := 23) (oi := { dst := some 83, op := Go.Op.pick (Go.Operand.tmp 61) (Go.Operand.tmp 82) (Go.Operand.const (Go.Value.bool false)), type := 4, pos := "laws.go:633", after := #[{ on := 1, ground := Go.Ground.data }, { on := 22, ground := Go.Ground.data }], guard := none }) (v := ?_) rfl (by kernel_rfl) (by kernel_rfl) (by kernel_rfl) (fun _ _ _ h => h) (Or.inl ⟨by rfl, ?_⟩) (by assumption) ?_
                rotate_left
                · (intro w hSw; (try dsimp only at hSw); go_simp; try with_reducible rfl)
                simp only [Act.put, List.setIfInBounds_toArray, List.set_cons_zero, List.set_cons_succ]
                refine wpAnyH_done (by kernel_rfl) ?_ _
                go_wp2
                go_roundw
                case rel => exact ⟨q + 1, by omega, by go_num, Lib.hid (blk_below HK5.out DD.out), Lib.hid (below_up HB5.out DD.out)⟩
                case measure => simp [intOf]; omega
          · obtain rfl : q = n3 := by omega
            have HQB := Lib.hid (below_up HBX.out HBI.out)
            rw [HEND.out.1, HEND.out.2] at HBK
            have z0 := blk_cell HBK.out (i := 0) (v := .int .i64 1) rfl
            have z1 := blk_cell HBK.out (i := 1) (v := .int .i64 1) rfl
            have HZC := Lib.hid (And.intro z0 z1)
            clear z0 z1
            go_wp2
            go_region_held3 (fun W => W.cell? ⟨w5.heap.size, 0, none⟩ = some (.int .i64 1) ∧ W.cell? ⟨w5.heap.size, 1, none⟩ = some (.int .i64 1))
              (first | exact S1.out | exact HZC.out | go_keep)
              (first | (go_at_call 34; (with_reducible refine (HF1.out _).mono ?_); rintro e v1 ⟨rfl, hb⟩; have S1 := Lib.hid (And.intro (Keep.below hb _ _ HZC.out.1) (Keep.below hb _ _ HZC.out.2)); have D1 := Lib.hid (below_up HQB.out.drew hb); clear hb))
            all_goals
              go_wp2
              go_ret
              exact ⟨rfl, D1.out⟩
      · rw [pb_false hr] at HCA
        clear hr
        go_wp2_with fail
        refine HCA.out.mono ?_
        rintro e w7 ⟨rfl, hb⟩
        have HBK7 := Lib.hid (blk_below HBK.out hb)
        have HBL7 := Lib.hid (below_up HBL.out hb)
        clear hb HCA HBK HBL HR_al HY_al
        go_wp2
        go_loopw [8] (fun j wr => ∃ q : Nat, q ≤ n3 ∧ j = .int .i64 q ∧ Hid (Blk wr w5.heap.size 37 #[.int .i64 (sU q), .int .i64 (sD q)]) ∧ Hid (Below w5.heap.size w5 wr)) (fun j _ => n3 - (intOf j).toNat)
        case atStart => exact ⟨0, Nat.zero_le _, rfl, HBK7, HBL7⟩
        case round =>
          clear HBK7 HBL7
          obtain ⟨q, hq, rfl, HBK, HBI⟩ := hrel
          by_cases hlt : q < n3
          · have c1 := Keep.below HBI.out _ _ (HCY.out q hlt)
            have c2 := Keep.below HBI.out _ _ (HCG.out (q * 2) (by omega))
            have c3 := (show wr.cell? ⟨bg, og + q * 2 + 1, none⟩ = some (.int .i64 (gi (grL xss ys n3 n3) (q * 2 + 1))) from Keep.below HBI.out _ _ (HCG.out (q * 2 + 1) (by omega)))
            rw [(HGI.out q hlt).1] at c2
            rw [(HGI.out q hlt).2] at c3
            obtain ⟨p1, p2⟩ := HP.out
            have hgu := HFS.out.gu hlt
            have hxb := HFS.out.x q hlt
            have hT := HFS.out.s.bd (by omega)
            have hpu := payU_bd HFS.out.pb hk3 (i := q) (by omega)
            have hdb := gr_bd HFS.out hlt
            have b1 := frU_bd (u := gi ys q) (d := tot ys) (B := 1000) (by omega) (by omega)
            have b2 := frD_bd (u := gi ys q) (d := tot ys) (B := 3000) (by omega) (by omega)
            have b3 := frU_bd (u := gU xss ys n3 q) (d := gP xss ys n3) (B := 81000000) (by omega) (by omega)
            have b4 := frD_bd (u := gU xss ys n3 q) (d := gP xss ys n3) (B := 81000000) (by omega) (by omega)
            have b5 := frU_bd (u := payU xss ys ys n3 q) (d := gP xss ys n3) (B := 81000000) (by omega) (by omega)
            have b6 := frD_bd (u := payU xss ys ys n3 q) (d := gP xss ys n3) (B := 81000000) (by omega) (by omega)
            have b7 := frU_bd (u := gi ys q * dotr xss ys q n3) (d := gP xss ys n3) (B := 81000000) (by omega) (by omega)
            have b8 := frD_bd (u := gi ys q * dotr xss ys q n3) (d := gP xss ys n3) (B := 81000000) (by omega) (by omega)
            obtain ⟨e1, e2⟩ := gr_part HFS.out (i := q)
            obtain ⟨e3, e4⟩ := fr_sum (S := payU xss ys ys n3 q) (R := gi ys q * dotr xss ys q n3) (P := gP xss ys n3) (by omega)
            rw [← payU_next] at e3 e4
            have HE1 := Lib.hid (show frV (frU (gi ys q) (tot ys) * frU (gU xss ys n3 q) (gP xss ys n3)) (frD (gi ys q) (tot ys) * frD (gU xss ys n3 q) (gP xss ys n3)) = .agg #[.int .i64 (frU (gi ys q * dotr xss ys q n3) (gP xss ys n3)), .int .i64 (frD (gi ys q * dotr xss ys q n3) (gP xss ys n3))] by unfold frV; rw [e1, e2])
            have HE2 := Lib.hid (show frV (frU (payU xss ys ys n3 q) (gP xss ys n3) * frD (gi ys q * dotr xss ys q n3) (gP xss ys n3) + frU (gi ys q * dotr xss ys q n3) (gP xss ys n3) * frD (payU xss ys ys n3 q) (gP xss ys n3)) (frD (payU xss ys ys n3 q) (gP xss ys n3) * frD (gi ys q * dotr xss ys q n3) (gP xss ys n3)) = .agg #[.int .i64 (sU (q + 1)), .int .i64 (sD (q + 1))] by rw [HSU.out, HSD.out]; unfold frV; rw [e3, e4])
            clear e1 e2 e3 e4
            have HQ1 := Lib.hid (fun W => show Calls Try.prog 34 #[.int .i64 (gi ys q), .int .i64 (tot ys)] W (Ret (.agg #[.int .i64 (frU (gi ys q) (tot ys)), .int .i64 (frD (gi ys q) (tot ys))]) W) from fracOfG_any (gi ys q) (tot ys) W (by unfold Big; omega) (by unfold Big; omega) (by omega))
            have HQ2 := Lib.hid (fun W => HE1.out ▸ timesOfG_any (frU (gi ys q) (tot ys)) (frD (gi ys q) (tot ys)) (frU (gU xss ys n3 q) (gP xss ys n3)) (frD (gU xss ys n3 q) (gP xss ys n3)) W (by omega) (by omega) (by omega) (by omega))
            obtain ⟨r1, r2⟩ := mulbd (x := frU (payU xss ys ys n3 q) (gP xss ys n3)) (y := frD (gi ys q * dotr xss ys q n3) (gP xss ys n3)) (A := 81000000) (B := 81000000) (by omega) (by omega)
            obtain ⟨r3, r4⟩ := mulbd (x := frU (gi ys q * dotr xss ys q n3) (gP xss ys n3)) (y := frD (payU xss ys ys n3 q) (gP xss ys n3)) (A := 81000000) (B := 81000000) (by omega) (by omega)
            have HQ3 := Lib.hid (fun W => HE2.out ▸ plusOfG_any (frU (payU xss ys ys n3 q) (gP xss ys n3)) (frD (payU xss ys ys n3 q) (gP xss ys n3)) (frU (gi ys q * dotr xss ys q n3) (gP xss ys n3)) (frD (gi ys q * dotr xss ys q n3) (gP xss ys n3)) W (by omega) (by omega) (by omega) (by omega) (by unfold Big; omega))
            have HTT := Lib.hid (fun W (k : Keep wr W) => total_any (some ⟨by_, oy, none⟩) n3 cb ys W ((HYB.out.keep (Keep.below HBI.out)).keep k) HSX.out)
            rw [← HSU.out, ← HSD.out] at HQ3
            clear HE1 HE2 r1 r2 r3 r4 b1 b2 b5 b6 b7 b8 hpu hdb hgu hT
            clear b3 b4
            have HC0 := Lib.hid (show (w5.cell? ⟨by_, oy + q, none⟩ = some (.int .i64 (gi ys q))) ∧ w5.cell? ⟨bg, og + q * 2, none⟩ = some (.int .i64 (frU (gU xss ys n3 q) (gP xss ys n3))) ∧ w5.cell? ⟨bg, og + q * 2 + 1, none⟩ = some (.int .i64 (frD (gU xss ys n3 q) (gP xss ys n3))) from ⟨HCY.out q hlt, (HGI.out q hlt).1 ▸ HCG.out (q * 2) (by omega), (HGI.out q hlt).2 ▸ HCG.out (q * 2 + 1) (by omega)⟩)
            have hin : (q : Int) < (n3 : Int) := by omega
            generalize frU (gi ys q) (tot ys) = y1 at *
            generalize frD (gi ys q) (tot ys) = y2 at *
            generalize frU (gi ys q * dotr xss ys q n3) (gP xss ys n3) = tu at *
            generalize frD (gi ys q * dotr xss ys q n3) (gP xss ys n3) = td at *
            generalize frU (gU xss ys n3 q) (gP xss ys n3) = gu at *
            generalize frD (gU xss ys n3 q) (gP xss ys n3) = gd at *
            generalize tot ys = TY at *
            generalize gi ys q = y at *
            have z0 := blk_cell HBK.out (i := 0) (v := .int .i64 (sU q)) rfl
            have z1 := blk_cell HBK.out (i := 1) (v := .int .i64 (sD q)) rfl
            have HZA := Lib.hid (And.intro c1 (And.intro c2 c3))
            have HZC := Lib.hid (And.intro z0 z1)
            have HK0 := Lib.hid (show Keep wr wr.drew from Keep.drewN wr 1)
            go_wp2
            apply region_once (F := fun v => Hid (Blk v w5.heap.size 37 #[.int .i64 (sU (q + 1)), .int .i64 (sD (q + 1))]) ∧ Hid (Below w5.heap.size w5 v))
            · go_region_law ((first
              | (go_simp; go_at_call 35; refine (HTT.out _ (Keep.drewN _ 1)).mono ?_; rintro e v1 ⟨rfl, hqq⟩; have D1 := Lib.hid (show Below wr.heap.size wr v1 from below_quiet (Below.refl _ _).drew hqq); have y0 := Keep.below D1.out _ _ HZC.out.1; have y1_ := Keep.below D1.out _ _ HZC.out.2; have y2_ := Keep.below D1.out _ _ HZA.out.2.1; have y3 := Keep.below D1.out _ _ HZA.out.2.2; have y4 := Keep.below D1.out _ _ HZA.out.1; clear hqq)
              | (go_simp; go_at_call 34; refine (HQ1.out _).mono ?_; rintro e v2 ⟨rfl, hb⟩; have D2 := Lib.hid (below_up D1.out hb); have y0 := Keep.below D2.out _ _ HZC.out.1; have y1_ := Keep.below D2.out _ _ HZC.out.2; have y2_ := Keep.below D2.out _ _ HZA.out.2.1; have y3 := Keep.below D2.out _ _ HZA.out.2.2; clear hb D1)
              | (go_simp; go_at_call 36; refine (HQ2.out _).mono ?_; rintro e v3 ⟨rfl, hb⟩; have D3 := Lib.hid (below_up D2.out hb); have y0 := Keep.below D3.out _ _ HZC.out.1; have y1_ := Keep.below D3.out _ _ HZC.out.2; clear hb D2)
              | (go_simp; go_at_call 44; refine (HQ3.out _).mono ?_; rintro e v4 ⟨rfl, hb⟩; have D4 := Lib.hid (below_up D3.out hb); have HK4 := Lib.hid (blk_below HBK.out D4.out); have y0 := blk_cell HK4.out (i := 0) (v := .int .i64 (sU q)) rfl; have y1_ := blk_cell HK4.out (i := 1) (v := .int .i64 (sD q)) rfl; have f0 := blk_frozen HK4.out 0; have f1 := blk_frozen HK4.out 1; clear hb D3)))
              all_goals
                have HK5 := Lib.hid (blk_set (blk_set HK4.out 0 (.int .i64 (sU (q + 1)))) 1 (.int .i64 (sD (q + 1))))
                simp only [List.setIfInBounds_toArray, List.set_cons_zero, List.set_cons_succ] at HK5
                exact OnceQ.mk rfl ⟨HK5, Lib.hid (((below_up HBI.out D4.out).setCell (p := ⟨w5.heap.size, 0, none⟩) (Nat.le_refl _) (.int .i64 (sU (q + 1)))).setCell (p := ⟨w5.heap.size, 1, none⟩) (Nat.le_refl _) (.int .i64 (sD (q + 1))))⟩
            · rintro w5 ⟨HK5, HB5⟩
              clear z0 z1 c1 c2 c3 HQ1 HQ2 HQ3 HTT HBK HZC HK0
              clear HC0 HZA hxb
              have HS0 : Hid ((fun _ : World => True) w5) := Lib.hid trivial
              go_wp2_with fail
              refine wp_region_held_drew (S := (fun _ : World => True)) (by kernel_rfl) trivial (fun hHeld => ?_)
              refine wpAnyH_take (i := 0) (oi := { dst := some 60, op := Go.Op.move (Go.Operand.tmp 7), type := 4, pos := "laws.go:633", after := #[], guard := none }) (v := ?_) rfl (by kernel_rfl) (by kernel_rfl) (by kernel_rfl) (fun _ _ _ h => h) (Or.inl ⟨by rfl, ?_⟩) (by assumption) ?_
              rotate_left
              · (intro w hSw; (try dsimp only at hSw); go_simp; try with_reducible rfl)
              simp only [Act.put, List.setIfInBounds_toArray, List.set_cons_zero, List.set_cons_succ]
              refine wpAnyH_take (i := 1) (oi := { dst := some 61, op := Go.Op.move (Go.Operand.tmp 60), type := 4, pos := "laws.go:633", after := #[{ on := 0, ground := Go.Ground.data }], guard := none }) (v := ?_) rfl (by kernel_rfl) (by kernel_rfl) (by kernel_rfl) (fun _ _ _ h => h) (Or.inl ⟨by rfl, ?_⟩) (by assumption) ?_
              rotate_left
              · (intro w hSw; (try dsimp only at hSw); go_simp; try with_reducible rfl)
              simp only [Act.put, List.setIfInBounds_toArray, List.set_cons_zero, List.set_cons_succ]
              refine wpAnyH_take (i := 2) (oi := { dst := some 62, op := Go.Op.move (Go.Operand.tmp 4), type := 26, pos := "laws.go:633", after := #[{ on := 1, ground := Go.Ground.guard }], guard := some (1, true) }) (v := undef) rfl (by kernel_rfl) (by kernel_rfl) (by kernel_rfl) (fun _ _ _ h => h) (Or.inr ⟨by rfl, rfl⟩) (by assumption) ?_
              simp only [Act.put, List.setIfInBounds_toArray, List.set_cons_zero, List.set_cons_succ]
              refine wpAnyH_take (i := 3) (oi := { dst := some 63, op := Go.Op.move (Go.Operand.tmp 8), type := 3, pos := "laws.go:633", after := #[{ on := 1, ground := Go.Ground.guard }], guard := some (1, true) }) (v := undef) rfl (by kernel_rfl) (by kernel_rfl) (by kernel_rfl) (fun _ _ _ h => h) (Or.inr ⟨by rfl, rfl⟩) (by assumption) ?_
              simp only [Act.put, List.setIfInBounds_toArray, List.set_cons_zero, List.set_cons_succ]
              refine wpAnyH_take (i := 4) (oi := { dst := some 64, op := Go.Op.indexAddr 26 (Go.Operand.tmp 62) (Go.Operand.tmp 63), type := 0, pos := "laws.go:633", after := #[{ on := 2, ground := Go.Ground.data }, { on := 3, ground := Go.Ground.data }, { on := 1, ground := Go.Ground.guard }], guard := some (1, true) }) (v := undef) rfl (by kernel_rfl) (by kernel_rfl) (by kernel_rfl) (fun _ _ _ h => h) (Or.inr ⟨by rfl, rfl⟩) (by assumption) ?_
              simp only [Act.put, List.setIfInBounds_toArray, List.set_cons_zero, List.set_cons_succ]
              refine wpAnyH_take (i := 5) (oi := { dst := some 65, op := Go.Op.load 3 (Go.Operand.tmp 64), type := 3, pos := "laws.go:633", after := #[{ on := 4, ground := Go.Ground.data }, { on := 1, ground := Go.Ground.guard }], guard := some (1, true) }) (v := undef) rfl (by kernel_rfl) (by kernel_rfl) (by kernel_rfl) (fun _ _ _ h => h) (Or.inr ⟨by rfl, rfl⟩) (by assumption) ?_
              simp only [Act.put, List.setIfInBounds_toArray, List.set_cons_zero, List.set_cons_succ]
              refine wpAnyH_take (i := 6) (oi := { dst := some 66, op := Go.Op.binOp Go.BinOp.gtr 3 (Go.Operand.tmp 65) (Go.Operand.const (Go.Value.int Go.IntKind.i64 0)) 3, type := 4, pos := "laws.go:633", after := #[{ on := 5, ground := Go.Ground.data }, { on := 1, ground := Go.Ground.guard }], guard := some (1, true) }) (v := undef) rfl (by kernel_rfl) (by kernel_rfl) (by kernel_rfl) (fun _ _ _ h => h) (Or.inr ⟨by rfl, rfl⟩) (by assumption) ?_
              simp only [Act.put, List.setIfInBounds_toArray, List.set_cons_zero, List.set_cons_succ]
              refine wpAnyH_take (i := 7) (oi := { dst := some 67, op := Go.Op.move (Go.Operand.tmp 66), type := 4, pos := "laws.go:633", after := #[{ on := 6, ground := Go.Ground.data }, { on := 1, ground := Go.Ground.chain }, { on := 1, ground := Go.Ground.guard }], guard := some (1, true) }) (v := undef) rfl (by kernel_rfl) (by kernel_rfl) (by kernel_rfl) (fun _ _ _ h => h) (Or.inr ⟨by rfl, rfl⟩) (by assumption) ?_
              simp only [Act.put, List.setIfInBounds_toArray, List.set_cons_zero, List.set_cons_succ]
              refine wpAnyH_take (i := 8) (oi := { dst := some 68, op := Go.Op.move (Go.Operand.tmp 5), type := 50, pos := "laws.go:633", after := #[{ on := 7, ground := Go.Ground.guard }], guard := some (7, true) }) (v := undef) rfl (by kernel_rfl) (by kernel_rfl) (by kernel_rfl) (fun _ _ _ h => h) (Or.inr ⟨by rfl, rfl⟩) (by assumption) ?_
              simp only [Act.put, List.setIfInBounds_toArray, List.set_cons_zero, List.set_cons_succ]
              refine wpAnyH_take (i := 9) (oi := { dst := some 69, op := Go.Op.move (Go.Operand.tmp 8), type := 3, pos := "laws.go:633", after := #[{ on := 7, ground := Go.Ground.guard }], guard := some (7, true) }) (v := undef) rfl (by kernel_rfl) (by kernel_rfl) (by kernel_rfl) (fun _ _ _ h => h) (Or.inr ⟨by rfl, rfl⟩) (by assumption) ?_
              simp only [Act.put, List.setIfInBounds_toArray, List.set_cons_zero, List.set_cons_succ]
              refine wpAnyH_take (i := 10) (oi := { dst := some 70, op := Go.Op.indexAddr 50 (Go.Operand.tmp 68) (Go.Operand.tmp 69), type := 0, pos := "laws.go:633", after := #[{ on := 8, ground := Go.Ground.data }, { on := 9, ground := Go.Ground.data }, { on := 7, ground := Go.Ground.guard }], guard := some (7, true) }) (v := undef) rfl (by kernel_rfl) (by kernel_rfl) (by kernel_rfl) (fun _ _ _ h => h) (Or.inr ⟨by rfl, rfl⟩) (by assumption) ?_
              simp only [Act.put, List.setIfInBounds_toArray, List.set_cons_zero, List.set_cons_succ]
              refine wpAnyH_take (i := 11) (oi := { dst := some 71, op := Go.Op.load 37 (Go.Operand.tmp 70), type := 37, pos := "laws.go:633", after := #[{ on := 10, ground := Go.Ground.data }, { on := 7, ground := Go.Ground.guard }], guard := some (7, true) }) (v := undef) rfl (by kernel_rfl) (by kernel_rfl) (by kernel_rfl) (fun _ _ _ h => h) (Or.inr ⟨by rfl, rfl⟩) (by assumption) ?_
              simp only [Act.put, List.setIfInBounds_toArray, List.set_cons_zero, List.set_cons_succ]
              refine wpAnyH_take (i := 12) (oi := { dst := some 72, op := Go.Op.call { callee := Go.Callee.value (Go.Operand.func 34), args := #[Go.Operand.const (Go.Value.int Go.IntKind.i64 1), Go.Operand.const (Go.Value.int Go.IntKind.i64 1)], argTypes := #[3, 3] }, type := 37, pos := "laws.go:633", after := #[{ on := 7, ground := Go.Ground.chain }, { on := 7, ground := Go.Ground.guard }], guard := some (7, true) }) (v := undef) rfl (by kernel_rfl) (by kernel_rfl) (by kernel_rfl) (fun _ _ _ h => h) (Or.inr ⟨by rfl, rfl⟩) (by assumption) ?_
              simp only [Act.put, List.setIfInBounds_toArray, List.set_cons_zero, List.set_cons_succ]
              refine wpAnyH_take (i := 13) (oi := { dst := some 73, op := Go.Op.binOp Go.BinOp.neq 37 (Go.Operand.tmp 71) (Go.Operand.tmp 72) 37, type := 4, pos := "laws.go:633", after := #[{ on := 11, ground := Go.Ground.data }, { on := 12, ground := Go.Ground.data }, { on := 7, ground := Go.Ground.guard }], guard := some (7, true) }) (v := undef) rfl (by kernel_rfl) (by kernel_rfl) (by kernel_rfl) (fun _ _ _ h => h) (Or.inr ⟨by rfl, rfl⟩) (by assumption) ?_
              simp only [Act.put, List.setIfInBounds_toArray, List.set_cons_zero, List.set_cons_succ]
              refine wpAnyH_take (i := 14) (oi := { dst := some 74, op := Go.Op.pick (Go.Operand.tmp 67) (Go.Operand.tmp 73) (Go.Operand.const (Go.Value.bool false)), type := 4, pos := "laws.go:633", after := #[{ on := 7, ground := Go.Ground.data }, { on := 13, ground := Go.Ground.data }, { on := 1, ground := Go.Ground.guard }], guard := some (1, true) }) (v := undef) rfl (by kernel_rfl) (by kernel_rfl) (by kernel_rfl) (fun _ _ _ h => h) (Or.inr ⟨by rfl, rfl⟩) (by assumption) ?_
              simp only [Act.put, List.setIfInBounds_toArray, List.set_cons_zero, List.set_cons_succ]
              refine wpAnyH_take (i := 15) (oi := { dst := some 75, op := Go.Op.move (Go.Operand.tmp 74), type := 4, pos := "laws.go:633", after := #[{ on := 14, ground := Go.Ground.data }, { on := 12, ground := Go.Ground.chain }, { on := 1, ground := Go.Ground.guard }], guard := some (1, true) }) (v := undef) rfl (by kernel_rfl) (by kernel_rfl) (by kernel_rfl) (fun _ _ _ h => h) (Or.inr ⟨by rfl, rfl⟩) (by assumption) ?_
              simp only [Act.put, List.setIfInBounds_toArray, List.set_cons_zero, List.set_cons_succ]
              refine wpAnyH_take (i := 16) (oi := { dst := some 76, op := Go.Op.call { callee := Go.Callee.value (Go.Operand.func 34), args := #[Go.Operand.const (Go.Value.int Go.IntKind.i64 1), Go.Operand.const (Go.Value.int Go.IntKind.i64 1)], argTypes := #[3, 3] }, type := 37, pos := "laws.go:633", after := #[{ on := 15, ground := Go.Ground.chain }, { on := 15, ground := Go.Ground.guard }], guard := some (15, false) }) (v := undef) rfl (by kernel_rfl) (by kernel_rfl) (by kernel_rfl) (fun _ _ _ h => h) (Or.inr ⟨by rfl, rfl⟩) (by assumption) ?_
              simp only [Act.put, List.setIfInBounds_toArray, List.set_cons_zero, List.set_cons_succ]
              refine wpAnyH_take (i := 17) (oi := { dst := some 77, op := Go.Op.move (Go.Operand.tmp 5), type := 50, pos := "laws.go:633", after := #[{ on := 15, ground := Go.Ground.guard }], guard := some (15, false) }) (v := undef) rfl (by kernel_rfl) (by kernel_rfl) (by kernel_rfl) (fun _ _ _ h => h) (Or.inr ⟨by rfl, rfl⟩) (by assumption) ?_
              simp only [Act.put, List.setIfInBounds_toArray, List.set_cons_zero, List.set_cons_succ]
              refine wpAnyH_take (i := 18) (oi := { dst := some 78, op := Go.Op.move (Go.Operand.tmp 8), type := 3, pos := "laws.go:633", after := #[{ on := 15, ground := Go.Ground.guard }], guard := some (15, false) }) (v := undef) rfl (by kernel_rfl) (by kernel_rfl) (by kernel_rfl) (fun _ _ _ h => h) (Or.inr ⟨by rfl, rfl⟩) (by assumption) ?_
              simp only [Act.put, List.setIfInBounds_toArray, List.set_cons_zero, List.set_cons_succ]
              refine wpAnyH_take (i := 19) (oi := { dst := some 79, op := Go.Op.indexAddr 50 (Go.Operand.tmp 77) (Go.Operand.tmp 78), type := 0, pos := "laws.go:633", after := #[{ on := 17, ground := Go.Ground.data }, { on := 18, ground := Go.Ground.data }, { on := 15, ground := Go.Ground.guard }], guard := some (15, false) }) (v := undef) rfl (by kernel_rfl) (by kernel_rfl) (by kernel_rfl) (fun _ _ _ h => h) (Or.inr ⟨by rfl, rfl⟩) (by assumption) ?_
              simp only [Act.put, List.setIfInBounds_toArray, List.set_cons_zero, List.set_cons_succ]
              refine wpAnyH_take (i := 20) (oi := { dst := some 80, op := Go.Op.load 37 (Go.Operand.tmp 79), type := 37, pos := "laws.go:633", after := #[{ on := 19, ground := Go.Ground.data }, { on := 15, ground := Go.Ground.guard }], guard := some (15, false) }) (v := undef) rfl (by kernel_rfl) (by kernel_rfl) (by kernel_rfl) (fun _ _ _ h => h) (Or.inr ⟨by rfl, rfl⟩) (by assumption) ?_
              simp only [Act.put, List.setIfInBounds_toArray, List.set_cons_zero, List.set_cons_succ]
              refine wpAnyH_take (i := 21) (oi := { dst := some 81, op := Go.Op.call { callee := Go.Callee.value (Go.Operand.func 29), args := #[Go.Operand.tmp 76, Go.Operand.tmp 80], argTypes := #[37, 37] }, type := 4, pos := "laws.go:633", after := #[{ on := 16, ground := Go.Ground.data }, { on := 20, ground := Go.Ground.data }, { on := 16, ground := Go.Ground.chain }, { on := 15, ground := Go.Ground.guard }], guard := some (15, false) }) (v := undef) rfl (by kernel_rfl) (by kernel_rfl) (by kernel_rfl) (fun _ _ _ h => h) (Or.inr ⟨by rfl, rfl⟩) (by assumption) ?_
              simp only [Act.put, List.setIfInBounds_toArray, List.set_cons_zero, List.set_cons_succ]
              refine wpAnyH_take (i := 22) (oi := { dst := some 82, op := Go.Op.pick (Go.Operand.tmp 75) (Go.Operand.const (Go.Value.bool true)) (Go.Operand.tmp 81), type := 4, pos := "laws.go:633", after := #[{ on := 15, ground := Go.Ground.data }, { on := 21, ground := Go.Ground.data }, { on := 1, ground := Go.Ground.guard }], guard := some (1, true) }) (v := undef) rfl (by kernel_rfl) (by kernel_rfl) (by kernel_rfl) (fun _ _ _ h => h) (Or.inr ⟨by rfl, rfl⟩) (by assumption) ?_
              simp only [Act.put, List.setIfInBounds_toArray, List.set_cons_zero, List.set_cons_succ]
              refine wpAnyH_take (i := 23) (oi := { dst := some 83, op := Go.Op.pick (Go.Operand.tmp 61) (Go.Operand.tmp 82) (Go.Operand.const (Go.Value.bool false)), type := 4, pos := "laws.go:633", after := #[{ on := 1, ground := Go.Ground.data }, { on := 22, ground := Go.Ground.data }], guard := none }) (v := ?_) rfl (by kernel_rfl) (by kernel_rfl) (by kernel_rfl) (fun _ _ _ h => h) (Or.inl ⟨by rfl, ?_⟩) (by assumption) ?_
              rotate_left
              · (intro w hSw; (try dsimp only at hSw); go_simp; try with_reducible rfl)
              simp only [Act.put, List.setIfInBounds_toArray, List.set_cons_zero, List.set_cons_succ]
              refine wpAnyH_done (by kernel_rfl) ?_ _
              have DD := Lib.hid (Below.refl w5.heap.size w5).drew
              go_wp2
              go_roundw
              case rel => exact ⟨q + 1, by omega, by go_num, Lib.hid (blk_below HK5.out DD.out), Lib.hid (below_up HB5.out DD.out)⟩
              case measure => simp [intOf]; omega
          · obtain rfl : q = n3 := by omega
            have HQB := Lib.hid (below_up HBX.out HBI.out)
            rw [HEND.out.1, HEND.out.2] at HBK
            have z0 := blk_cell HBK.out (i := 0) (v := .int .i64 1) rfl
            have z1 := blk_cell HBK.out (i := 1) (v := .int .i64 1) rfl
            have HZC := Lib.hid (And.intro z0 z1)
            clear z0 z1
            go_wp2
            go_region_held3 (fun W => W.cell? ⟨w5.heap.size, 0, none⟩ = some (.int .i64 1) ∧ W.cell? ⟨w5.heap.size, 1, none⟩ = some (.int .i64 1))
              (first | exact S1.out | exact HZC.out | go_keep)
              (first | (go_at_call 34; (with_reducible refine (HF1.out _).mono ?_); rintro e v1 ⟨rfl, hb⟩; have S1 := Lib.hid (And.intro (Keep.below hb _ _ HZC.out.1) (Keep.below hb _ _ HZC.out.2)); have D1 := Lib.hid (below_up HQB.out.drew hb); clear hb))
            all_goals
              go_wp2
              go_ret
              exact ⟨rfl, D1.out⟩
    · have HNO := Lib.hid (grF_no hf)
      clear hf
      have HC := Lib.hid (GrowthOf_impl _ _ _ xss _ _ _ ys w1 HR.out HY.out)
      go_wp2_with fail
      refine HC.out.mono ?_
      rintro e w2 ⟨A2, n2, c2, g2_, rfl, hl2, ho, hb⟩
      have HR_2 := Lib.hid (HR.out.keep (Keep.below hb))
      have HY_2 := Lib.hid (HY.out.keep (Keep.below hb))
      have B_2 := Lib.hid (below_up B1.out hb)
      have HA := Lib.hid ho.frs
      clear ho
      clear hb HC HR HY B1
      rw [HNO.out] at hl2 HA
      obtain rfl : n2 = 0 := by simp only [List.length_nil] at hl2; omega
      clear hl2
      have HC := Lib.hid (GrowthOf_spec _ _ _ xss _ _ _ ys w2 HR_2.out HY_2.out)
      go_wp2_with fail
      refine HC.out.mono ?_
      rintro e w3 ⟨A3, n3, c3, g3_, rfl, hl3, ho, hb⟩
      have HR_3 := Lib.hid (HR_2.out.keep (Keep.below hb))
      have HY_3 := Lib.hid (HY_2.out.keep (Keep.below hb))
      have HA_3 := Lib.hid (HA.out.keep (Keep.below hb))
      have B_3 := Lib.hid (below_up B_2.out hb)
      have HB_ := Lib.hid ho.frs
      clear ho
      clear hb HC HR_2 HY_2 HA B_2
      rw [HNO.out] at hl3 HB_
      obtain rfl : n3 = 0 := by simp only [List.length_nil] at hl3; omega
      clear hl3
      have HC := Lib.hid (equalFracs_any _ _ _ _ _ _ w3 HA_3.out HB_.out)
      go_wp2_with fail
      refine HC.out.mono ?_
      rintro e w4 ⟨rfl, hb⟩
      have HR_4 := Lib.hid (HR_3.out.keep (Keep.below hb))
      have HY_4 := Lib.hid (HY_3.out.keep (Keep.below hb))
      have HA_4 := Lib.hid (HA_3.out.keep (Keep.below hb))
      have HB__4 := Lib.hid (HB_.out.keep (Keep.below hb))
      have B_4 := Lib.hid (below_up B_3.out hb)
      clear hb HC HR_3 HY_3 HA_3 HB_ B_3
      clear HB__4
      have HC := Lib.hid (GrowthOf_spec _ _ _ xss _ _ _ ys w4 HR_4.out HY_4.out)
      go_wp2_with fail
      refine HC.out.mono ?_
      rintro e w5 ⟨A4, n4, c4, g4_, rfl, hl4, ho, hb⟩
      have HR_5 := Lib.hid (HR_4.out.keep (Keep.below hb))
      have HY_5 := Lib.hid (HY_4.out.keep (Keep.below hb))
      have HA_5 := Lib.hid (HA_4.out.keep (Keep.below hb))
      have B_5 := Lib.hid (below_up B_4.out hb)
      have HB_ := Lib.hid ho.frs
      clear ho
      clear hb HC HR_4 HY_4 HA_4 B_4
      rw [HNO.out] at hl4 HB_
      obtain rfl : n4 = 0 := by simp only [List.length_nil] at hl4; omega
      clear hl4
      have HC := Lib.hid (equalFracs_any _ _ _ _ _ _ w5 HA_5.out HB_.out)
      go_wp2_with fail
      refine HC.out.mono ?_
      rintro e w6 ⟨rfl, hb⟩
      have HR_6 := Lib.hid (HR_5.out.keep (Keep.below hb))
      have HY_6 := Lib.hid (HY_5.out.keep (Keep.below hb))
      have HA_6 := Lib.hid (HA_5.out.keep (Keep.below hb))
      have HB__6 := Lib.hid (HB_.out.keep (Keep.below hb))
      have B_6 := Lib.hid (below_up B_5.out hb)
      clear hb HC HR_5 HY_5 HA_5 HB_ B_5
      go_wp2
      go_ret
      exact ⟨rfl, B_6.out⟩

set_option maxRecDepth 100000 in
theorem hFnGrowthOf_lifted (os : Os) (started : os.Started) (H : Type) (enc : TypeId × Value → H) :
    ReturnsInHanded {} Try.checked os 8 .any (Rows.fnGrowthOfSpec.pre6 enc Try.prog Try.f8 Rows.fnGrowthOfRow.domain false) (Rows.fnGrowthOfSpec.post enc Try.prog Try.f8 false true false false) := by
  refine returnsInHanded_of_change_sized (C := Try.checked) Try.own started (by kernel_rfl) Try.func8
    (ChangeSpec.witness6 (enc := enc) (C := Try.checked) false ⟨#[], #[.slice none 0 0], []⟩ 8 (by kernel_rfl) (by kernel_rfl) (by kernel_rfl) (by kernel_rfl)) ?_
  intro W base args ds gs before hval0 hW _ hwt _
  have hval : ∀ (j : Nat) t v, Try.f8.params[j]? = some t → args[j]? = some v → Value.okWide Try.prog W .any base t v := hval0
  have hA : ∃ p, DataW.TrodAll enc Try.prog W 0 (fun _ => true) true Try.f8.params.toList args.toList ds p := by obtain ⟨p, q, hA0, _⟩ := hW; exact ⟨p, hA0⟩
  obtain ⟨p, hA⟩ := hA
  have hwt' := weights_arg hwt (j := 0) (t := 22) (by rw [Try.params8]; rfl) (d := ds.getD 0 .nil)
  rw [Try.params8] at hA hval
  obtain ⟨v0, d0, rfl, rfl, h0⟩ := trodAll_one hA
  obtain ⟨A, n, c, rfl, hx⟩ := open_bytes (hval 0 22 v0 rfl rfl) h0 (hwt' rfl)
  refine (fnGrowthOf_calls A n c W hx).mono fun e W' ⟨he, hb⟩ => ?_
  subst he
  exact ⟨_, rfl, law_post (F := Try.f8) rfl rfl (by rw [Try.params8]; simp only [List.mem_cons, List.not_mem_nil, or_false, forall_eq]; exact ⟨by kernel_rfl, of_decide_eq_true (by kernel_rfl)⟩) hW (fun h => by subst h; rfl) hb⟩

theorem hFnGrowthOf_holds : Rows.FnGrowthOfSaid :=
  OpenClaim.holds_of_wide 8 Try.f8 rfl rfl rfl rfl rfl rfl rfl ⟨rfl, rfl, rfl, rfl, rfl⟩ rfl rfl rfl rfl rfl (by kernel_rfl) Try.func8
    (by unfold joinedFacts; simp only [Bool.and_eq_true]; (repeat' apply And.intro) <;> (first | (with_reducible exact prog_enters) | ((with_reducible refine prog_lifts ?_); rfl) | ((with_reducible refine prog_make ?_); rfl) | kernel_rfl))
    (of_decide_eq_true (by kernel_rfl)) (by unfold Func.isWrapper; first | (rw [if_pos (by decide +kernel)]; kernel_rfl) | (rw [if_neg (by decide +kernel)]; exact ⟨rfl, rfl⟩))
    (fun os started H enc _ => hFnGrowthOf_lifted os started H enc)

end Go.Proofs.Ytoekpbcdgmejcaa
