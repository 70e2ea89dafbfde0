/- The law FnKindsByUrn holds: for every code, of what it draws, the program tells the chance of sizes of kinds by the urn as the model does; of all sizes the chances are 1 together, and the mean of how many kinds there are is that of the mean. No condition. -/
import Derived.Test.YtpchnoalamdhkaaQ13
namespace Go.Proofs.Ytpchnoalamdhkaa
open Go.ChangeShapes Go.WideShapes Go.ChangeAt Go.RowKit Go.Deep

set_option maxRecDepth 100000 in
set_option maxHeartbeats 3200000 in
theorem fnKindsByUrn_calls (A : Option Addr) (n c : Nat) (w : World) (hx : Bytes w A n c) :
    Calls Try.prog 7 #[.slice A n c] w fun e w' => e = .returned (.bool true) ∧ Below w.heap.size w w' := by
  have hmx := hx.max
  have H0 := Lib.hid (DrawKindsByUrn_any A n c w hx)
  clear hx
  by_cases hs : 1048576 < n
  · go_enter Try.func7, Try.ntmps7
    go_wp2
    go_ret
    exact ⟨rfl, Below.refl _ _⟩
  · go_enter Try.func7, Try.ntmps7
    go_wp2_with fail
    refine H0.out.mono ?_
    rintro e w1 ⟨Av, cv, gg, xs, f, rfl, ⟨f0, f7⟩, hd, hl8, hown, hb⟩
    have X := Lib.hid hown.ints
    have B1 := Lib.hid hb
    have HCI := Lib.hid (fun W h => KindsByUrn_impl Av xs.length cv xs f W h (by unfold Fit; omega))
    have HCS := Lib.hid (fun W h => KindsByUrn_spec Av xs.length cv xs f W h (by unfold Fit; omega))
    clear hown hb H0 hd hl8
    by_cases hq : KQ xs f
    · rw [ku_yes hq, pb_true hq] at HCI HCS
      obtain ⟨m, hF⟩ := ku_facts hq
      have hf := hq.2
      unfold InR at hf
      obtain ⟨hf1, hf6⟩ := hf
      have hm1 := hF.m1
      have hm7 := hF.m7
      have HT := Lib.hid (fun W h => hF.tot ▸ total_any Av xs.length cv xs W h hq.1.so)
      have HCP := Lib.hid (fun W => PartsOf_impl m W (by unfold Fit; omega))
      rw [pt_yes (by unfold InR; omega)] at HCP
      have HF := Lib.hid (pts_facts hm1 hm7)
      have HU := Lib.hid (us_facts (m := m) (f := f) hm1 hm7 hf1 hf6)
      have hx1 : 1 ≤ frU (kuU xs f) (kuD xs f) := by unfold kuU kuD; rw [hF.tot, Int.toNat_natCast]; exact hF.pos
      have HCM := Lib.hid (fun W => MeanKinds_impl m f W (by unfold Fit; omega) (by unfold Fit; omega))
      rw [mk_yes (show MQ m f from ⟨by unfold InR; omega, by unfold InR; omega⟩), pb_true (show MQ m f from ⟨by unfold InR; omega, by unfold InR; omega⟩)] at HCM
      have HZ : Hid (frV 0 1 = .agg #[.int .i64 0, .int .i64 1]) := Lib.hid (by rw [frV, (fr_one 0).1, (fr_one 0).2])
      have HC0 := Lib.hid (fun W => HZ.out ▸ fracOfH_any 0 1 W (by unfold Hug; omega) (by unfold Hug; omega) (by omega))
      have HZ1 : Hid (frV 1 1 = .agg #[.int .i64 1, .int .i64 1]) := Lib.hid (by rw [frV, (fr_one 1).1, (fr_one 1).2])
      have HC9 := Lib.hid (fun W => HZ1.out ▸ fracOfH_any 1 1 W (by unfold Hug; omega) (by unfold Hug; omega) (by omega))
      obtain ⟨d1, d2, _, _⟩ := mk_bd hf1 hf6 (k := m) (by omega)
      have HLE := Lib.hid HF.out.le
      have hl0 := HF.out.pos
      clear hq hF HZ HZ1
      generalize frU (kuU xs f) (kuD xs f) = X' at *
      generalize frD (kuU xs f) (kuD xs f) = Y' at *
      generalize xs.length = N at *
      generalize hls : pts 7 m m = list at *
      have HLS := Lib.hid hls
      clear hls
      have HC := Lib.hid (HCI.out w1 X.out)
      go_wp2_with fail
      refine HC.out.mono ?_
      rintro e w2 ⟨rfl, hb⟩
      have X_2 := Lib.hid (X.out.keep (Keep.below hb))
      have B_2 := Lib.hid (below_up B1.out hb)
      clear hb HC X B1
      have hal := below_alloc w2 (.cells #[.int .i64 X', .int .i64 Y'] 39)
      have X_2b := Lib.hid (X_2.out.keep (Keep.below hal))
      have B_2b := Lib.hid (below_up B_2.out hal)
      have P0 := Lib.hid (blk_cell (blk_new w2 39 #[.int .i64 X', .int .i64 Y']) (i := 0) (v := .int .i64 X') rfl)
      have P1 := Lib.hid (blk_cell (blk_new w2 39 #[.int .i64 X', .int .i64 Y']) (i := 1) (v := .int .i64 Y') rfl)
      clear hal X_2 B_2
      have HC := Lib.hid (HCS.out (w2.alloc (.cells #[.int .i64 X', .int .i64 Y'] 39)) X_2b.out)
      go_wp2_with fail
      generalize w2.alloc (.cells #[.int .i64 X', .int .i64 Y'] 39) = w2a at *
      generalize w2.heap.size = h2a at *
      refine HC.out.mono ?_
      rintro e w3 ⟨rfl, hb⟩
      have X_3 := Lib.hid (X_2b.out.keep (Keep.below hb))
      have P0_3 := Lib.hid (Keep.below hb _ _ P0.out)
      have P1_3 := Lib.hid (Keep.below hb _ _ P1.out)
      have B_3 := Lib.hid (below_up B_2b.out hb)
      clear hb HC X_2b P0 P1 B_2b
      have hal := below_alloc w3 (.cells #[.int .i64 X', .int .i64 Y'] 39)
      have X_3b := Lib.hid (X_3.out.keep (Keep.below hal))
      have P0_3b := Lib.hid (Keep.below hal _ _ P0_3.out)
      have P1_3b := Lib.hid (Keep.below hal _ _ P1_3.out)
      have B_3b := Lib.hid (below_up B_3.out hal)
      have E0 := Lib.hid (blk_cell (blk_new w3 39 #[.int .i64 X', .int .i64 Y']) (i := 0) (v := .int .i64 X') rfl)
      have E1 := Lib.hid (blk_cell (blk_new w3 39 #[.int .i64 X', .int .i64 Y']) (i := 1) (v := .int .i64 Y') rfl)
      clear hal X_3 P0_3 P1_3 B_3
      have HC := Lib.hid (HT.out (w3.alloc (.cells #[.int .i64 X', .int .i64 Y'] 39)) X_3b.out)
      have q_P0 := P0_3b.out
      have q_P1 := P1_3b.out
      have q_E0 := E0.out
      have q_E1 := E1.out
      go_wp2_with fail
      generalize w3.alloc (.cells #[.int .i64 X', .int .i64 Y'] 39) = w3a at *
      generalize w3.heap.size = h3a at *
      refine HC.out.mono ?_
      rintro e w4 ⟨rfl, hq⟩
      have hb := hq.below (B := w3a.heap.size)
      have X_4 := Lib.hid (X_3b.out.keep (Keep.below hb))
      have P0_4 := Lib.hid (Keep.below hb _ _ P0_3b.out)
      have P1_4 := Lib.hid (Keep.below hb _ _ P1_3b.out)
      have E0_4 := Lib.hid (Keep.below hb _ _ E0.out)
      have E1_4 := Lib.hid (Keep.below hb _ _ E1.out)
      have B_4 := Lib.hid (below_up B_3b.out hb)
      clear hb HC hq X_3b P0_3b P1_3b E0 E1 B_3b q_P0 q_P1 q_E0 q_E1
      clear E0_4
      clear E1_4
      have HC := Lib.hid (HCP.out w4)
      go_wp2_with fail
      refine HC.out.mono ?_
      rintro e w5 ⟨Al, nl, cl, gl, rfl, hnl, ho, hb⟩
      have X_5 := Lib.hid (X_4.out.keep (Keep.below hb))
      have P0_5 := Lib.hid (Keep.below hb _ _ P0_4.out)
      have P1_5 := Lib.hid (Keep.below hb _ _ P1_4.out)
      have B_5 := Lib.hid (below_up B_4.out hb)
      subst hnl
      have T := Lib.hid ho
      clear ho
      clear hb HC X_4 P0_4 P1_4 B_4
      have hpx := World.block_lt_of_cell? _ _ P0_5.out
      have HPX := Lib.hid (show h2a < w5.heap.size from hpx)
      clear hpx
      have HC := Lib.hid (HC0.out w5)
      go_wp2_with fail
      refine HC.out.mono ?_
      rintro e w6 ⟨rfl, hb⟩
      have X_6 := Lib.hid (X_5.out.keep (Keep.below hb))
      have P0_6 := Lib.hid (Keep.below hb _ _ P0_5.out)
      have P1_6 := Lib.hid (Keep.below hb _ _ P1_5.out)
      have B_6 := Lib.hid (below_up B_5.out hb)
      have T2 := Lib.hid (T.out.below hb)
      have HZZ := Lib.hid hb.size
      clear T
      clear hb HC X_5 P0_5 P1_5 B_5
      have HN0 := Lib.hid (fr_nil (D := mkD f m) (by omega))
      have b4 : Blk (w6.alloc (.cells #[.int .i64 0, .int .i64 1] 39)) w6.heap.size 39 #[.int .i64 (frU 0 (mkD f m)), .int .i64 (frD 0 (mkD f m))] := by rw [HN0.out.1, HN0.out.2]; exact blk_new _ _ _
      have B4 := Lib.hid b4
      have hal := below_alloc w6 (.cells #[.int .i64 0, .int .i64 1] 39)
      have T3 := Lib.hid (T2.out.below hal)
      have P3 := Lib.hid (Keep.below hal _ _ P0_6.out)
      have U3 := Lib.hid (below_up B_6.out hal)
      have HWS := Lib.hid B_6.out.size
      clear b4 hal T2
      go_wp2_with fail
      refine (HC0.out _).mono ?_
      rintro e w8 ⟨rfl, hb⟩
      have hal := below_alloc w8 (.cells #[.int .i64 0, .int .i64 1] 39)
      have hsz : w6.heap.size < w8.heap.size := by have := hb.size; simp at this; omega
      have b5 : Blk (w8.alloc (.cells #[.int .i64 0, .int .i64 1] 39)) w8.heap.size 39 #[.int .i64 (frU 0 (mkD f m)), .int .i64 (frD 0 (mkD f m))] := by rw [HN0.out.1, HN0.out.2]; exact blk_new _ _ _
      have HTY0 := Lib.hid (show TY w _ w5.heap.size h2a w6.heap.size w8.heap.size X' (frU (uS m f 0) (mkD f m)) (frD (uS m f 0) (mkD f m)) (frU (kS m f 0) (mkD f m)) (frD (kS m f 0) (mkD f m)) gl Al list.length cl list (w8.alloc (.cells #[.int .i64 0, .int .i64 1] 39)) from
        ⟨(T3.out.below hb).below hal, Keep.below hal _ _ (Keep.below hb _ _ P3.out), blk_below (blk_below B4.out hb) hal, b5, HPX.out, HZZ.out, hsz, HWS.out, below_up (below_up U3.out hb) hal⟩)
      obtain ⟨lo, hi, p, r, q, hpe, hre, hqe, HTY⟩ : ∃ lo hi p r q, p = h2a ∧ r = w6.heap.size ∧ q = w8.heap.size ∧ Hid (TY w lo hi p r q X' (frU (uS m f 0) (mkD f m)) (frD (uS m f 0) (mkD f m)) (frU (kS m f 0) (mkD f m)) (frD (kS m f 0) (mkD f m)) gl Al list.length cl list (w8.alloc (.cells #[.int .i64 0, .int .i64 1] 39))) 
          := ⟨_, _, _, _, _, rfl, rfl, rfl, HTY0⟩
      clear hb hal hsz b5 B4 T3 P3 U3 HPX HZZ HWS HC0 HN0 HTY0
      go_wp2
      rw [← hqe]
      rw [← hre]
      generalize w8.alloc (.cells #[.int .i64 0, .int .i64 1] 39) = W0 at *
      clear hqe hre
      subst hpe
      obtain ⟨b, o, rfl, _⟩ := HTY.out.li.rows.at_ hl0
      go_loopw [13] (fun k_ wr => ∃ k : Nat, k ≤ list.length ∧ k_ = .int .i64 k ∧ Hid (TY w lo hi p r q X' (frU (uS m f k) (mkD f m)) (frD (uS m f k) (mkD f m)) (frU (kS m f k) (mkD f m)) (frD (kS m f k) (mkD f m)) gl (some ⟨b, o, none⟩) list.length cl list wr)) (fun k_ _ => list.length - (intOf k_).toNat)
      case atStart => exact ⟨0, Nat.zero_le _, rfl, HTY⟩
      case round =>
        clear HTY
        obtain ⟨k, hk, rfl, HTY⟩ := hrel
        have hkb : (k : Int) ≤ 100 := by have := HLE.out; omega
        obtain ⟨s0, s1, s2, s3⟩ := HU.out.bd k (by rw [HLS.out]; omega)
        have hlb := HLE.out
        by_cases hlt : k < list.length
        · have HTS : Hid (uS m f (k + 1) = uS m f k + uw m (gr list k) f ∧ kS m f (k + 1) = kS m f k + uw m (gr list k) f * ((gr list k).length : Int)) := Lib.hid (by rw [uS, kS, HLS.out]; exact ⟨rfl, rfl⟩)
          obtain ⟨R, cc, c1, hR⟩ := HTY.out.li.rows.cell hlt
          have HV := Lib.hid (HF.out.ok k hlt)
          have hkq : KQ (gr list k) f := ⟨HV.out, by unfold InR; omega⟩
          have HKP := Lib.hid (fun W h => KindsByUrn_impl R (gr list k).length cc (gr list k) f W h (by unfold Fit; omega))
          rw [ku_yes hkq, pb_true hkq] at HKP
          unfold kuU kuD at HKP
          rw [HF.out.sum k hlt, Int.toNat_natCast] at HKP
          obtain ⟨u0, u1⟩ := uw_bd (m := m) (xs := gr list k) (f := f) (by omega) (by rw [HLS.out]; exact gr_mem hlt) hf1 hf6
          have HC := Lib.hid (HKP.out wr hR)
          have hrl := HV.out.2.1
          clear hkq hR HKP
          have HGK : Hid (∀ W, TY w lo hi p r q X' (frU (uS m f k) (mkD f m)) (frD (uS m f k) (mkD f m)) (frU (kS m f k) (mkD f m)) (frD (kS m f k) (mkD f m)) gl (some ⟨b, o, none⟩) list.length cl list W → ∃ R cc, W.cell? ⟨b, o + k, none⟩ = some (.slice R (gr list k).length cc)) := Lib.hid (fun W h => by obtain ⟨R, cc, c1, _⟩ := h.li.rows.cell hlt; exact ⟨R, cc, c1⟩)
          have HGK2 : Hid (∀ W, TY w lo hi p r q X' (frU (uS m f (k + 1)) (mkD f m)) (frD (uS m f (k + 1)) (mkD f m)) (frU (kS m f k) (mkD f m)) (frD (kS m f k) (mkD f m)) gl (some ⟨b, o, none⟩) list.length cl list W → ∃ R cc, W.cell? ⟨b, o + k, none⟩ = some (.slice R (gr list k).length cc)) := Lib.hid (fun W h => by obtain ⟨R, cc, c1, _⟩ := h.li.rows.cell hlt; exact ⟨R, cc, c1⟩)
          generalize gr list k = row at *
          have t3 : 0 ≤ uw m row f * (row.length : Int) := Int.mul_nonneg (by omega) (by omega)
          have t5 := mulbd (x := uw m row f) (y := (row.length : Int)) (A := 20000000) (B := 7) (by omega) (by omega)
          have HVV : Hid (∀ u d : Int, frV u d = .agg #[.int .i64 (frU u d), .int .i64 (frD u d)]) := Lib.hid (fun _ _ => rfl)
          have HP1 := Lib.hid (fun W => plusOfH_any (frU (uS m f k) (mkD f m)) (frD (uS m f k) (mkD f m)) (frU (uw m row f) (mkD f m)) (frD (uw m row f) (mkD f m)) W (frU_bd (by omega) (by omega)) (frU_bd (by omega) (by omega)) (frD_bd (by omega) (by omega)) (frD_bd (by omega) (by omega)))
          have HE1 := Lib.hid (one_den (S := uS m f k) (t := uw m row f) (D := mkD f m) (by omega))
          have HFR := Lib.hid (fun W => fracOfH_any (row.length : Int) 1 W (by unfold Hug; omega) (by unfold Hug; omega) (by omega))
          have HTI := Lib.hid (fun W => timesOfH_any (frU (uw m row f) (mkD f m)) (frD (uw m row f) (mkD f m)) (frU (row.length : Int) 1) (frD (row.length : Int) 1) W (frU_bd (by omega) (by omega)) (frU_bd (by omega) (by omega)) (frD_bd (by omega) (by omega)) (frD_bd (by omega) (by omega)))
          have HTE := Lib.hid (fr_tim (u := uw m row f) (d := mkD f m) (v := (row.length : Int)) (e := 1) (by omega) (by omega))
          have HPL := Lib.hid (fun W => plusOfH_any (frU (kS m f k) (mkD f m)) (frD (kS m f k) (mkD f m)) (frU (uw m row f * (row.length : Int)) (mkD f m)) (frD (uw m row f * (row.length : Int)) (mkD f m)) W (frU_bd (by omega) (by omega)) (frU_bd (by omega) (by omega)) (frD_bd (by omega) (by omega)) (frD_bd (by omega) (by omega)))
          have HE2 := Lib.hid (one_den (S := kS m f k) (t := uw m row f * (row.length : Int)) (D := mkD f m) (by omega))
          rw [HVV.out, HE1.out.1, HE1.out.2, ← HTS.out.1] at HP1
          rw [HVV.out, HTE.out.1, HTE.out.2, Int.mul_one] at HTI
          rw [HVV.out, HE2.out.1, HE2.out.2, ← HTS.out.2] at HPL
          rw [HVV.out] at HFR
          clear HE1 HE2 HTE HVV HTS t3 t5 u0 u1 s0 s1 s2 s3
          generalize frU (uw m row f * (row.length : Int)) (mkD f m) = TU at *
          generalize frD (uw m row f * (row.length : Int)) (mkD f m) = TD at *
          generalize hnu : (frU (uS m f (k + 1)) (mkD f m)) = NU at *
          generalize hnd : (frD (uS m f (k + 1)) (mkD f m)) = ND at *
          generalize hmu : (frU (kS m f (k + 1)) (mkD f m)) = MU at *
          generalize hmd : (frD (kS m f (k + 1)) (mkD f m)) = MD at *
          have HNE := Lib.hid (And.intro hnu (And.intro hnd (And.intro hmu hmd)))
          clear hnu hnd hmu hmd
          generalize (frU (uS m f k) (mkD f m)) = OU at *
          generalize (frD (uS m f k) (mkD f m)) = OD at *
          generalize (frU (kS m f k) (mkD f m)) = QU at *
          generalize (frD (kS m f k) (mkD f m)) = QD at *
          generalize frU (uw m row f) (mkD f m) = AU at *
          generalize frD (uw m row f) (mkD f m) = AD at *
          generalize frU (row.length : Int) 1 = GU at *
          generalize frD (row.length : Int) 1 = GD at *
          generalize row.length = ml at *
          go_wp2_with fail
          refine HC.out.mono ?_
          rintro e w9 ⟨rfl, hb⟩
          have DX := Lib.hid ((HTY.out.next hb).next (below_alloc w9 (.cells #[.int .i64 AU, .int .i64 AD] 39)))
          have ZX := Lib.hid (blk_new w9 39 #[.int .i64 AU, .int .i64 AD])
          have hyb : r < w9.heap.size := by have h1 := blk_lt HTY.out.b; have h2 := hb.size; omega
          have hyq : q < w9.heap.size := by have h1 := blk_lt HTY.out.b2; have h2 := hb.size; omega
          have HYB := Lib.hid (And.intro hyb hyq)
          clear hb HC HTY c1 hyb hyq
          have y0 := blk_cell DX.out.b (i := 0) rfl
          have y1 := blk_cell DX.out.b (i := 1) rfl
          have z0 := blk_cell ZX.out (i := 0) rfl
          have z1 := blk_cell ZX.out (i := 1) rfl
          go_wp2_with fail
          generalize w9.alloc (.cells #[.int .i64 AU, .int .i64 AD] 39) = W9 at *
          generalize w9.heap.size = yb at *
          refine (HP1.out _).mono ?_
          rintro e w10 ⟨rfl, hb⟩
          have DX1 := Lib.hid (DX.out.next hb)
          have ZX1 := Lib.hid (blk_below ZX.out hb)
          clear hb y0 y1 z0 z1 DX ZX HP1
          have y0 := blk_cell DX1.out.b (i := 0) rfl
          have y1 := blk_cell DX1.out.b (i := 1) rfl
          have f0 := blk_frozen DX1.out.b 0
          have f1 := blk_frozen DX1.out.b 1
          have DX := Lib.hid (DX1.out.setR NU ND)
          have ZX := Lib.hid (blk_other (blk_other ZX1.out (p := ⟨r, 0, none⟩) (by have := HYB.out; show yb ≠ r; omega) (.int .i64 NU)) (p := ⟨r, 1, none⟩) (by have := HYB.out; show yb ≠ r; omega) (.int .i64 ND))
          clear DX1 ZX1
          go_wp2
          generalize (w10.setCell ⟨r, 0, none⟩ (.int .i64 NU)).setCell ⟨r, 1, none⟩ (.int .i64 ND) = W10 at *
          clear y0 y1 f0 f1
          obtain ⟨R, cc, c1⟩ := HGK2.out W10 DX.out
          have SX := Lib.hid c1
          have k0 := blk_cell DX.out.b2 (i := 0) rfl
          have k1 := blk_cell DX.out.b2 (i := 1) rfl
          have z0 := blk_cell ZX.out (i := 0) rfl
          have z1 := blk_cell ZX.out (i := 1) rfl
          apply region_once (F := fun v => Hid (TY w lo hi p r q X' NU ND MU MD gl (some ⟨b, o, none⟩) list.length cl list v))
          · go_region_law ((first
              | (go_simp; go_at_call 28; (with_reducible refine (HFR.out _).mono ?_); rintro e v1 ⟨rfl, hb⟩; have SX := Lib.hid (Keep.below hb _ _ SX.out); have c1 := SX.out; have ZX := Lib.hid (show Blk v1 yb 39 #[.int .i64 AU, .int .i64 AD] from by first | exact blk_below ZX.out hb | exact blk_below (blk_quiet ZX.out ⟨1, rfl⟩) hb); have DX := Lib.hid (show TY w lo hi p r q X' NU ND QU QD gl (some ⟨b, o, none⟩) list.length cl list v1 from by first | exact DX.out.next hb | exact DX.out.drew.next hb); have k0 := blk_cell DX.out.b2 (i := 0) rfl; have k1 := blk_cell DX.out.b2 (i := 1) rfl; have z0 := blk_cell ZX.out (i := 0) rfl; have z1 := blk_cell ZX.out (i := 1) rfl; clear hb)
              | (go_simp; go_at_call 25; (with_reducible refine (HTI.out _).mono ?_); rintro e v3 ⟨rfl, hb⟩; have DX := Lib.hid (show TY w lo hi p r q X' NU ND QU QD gl (some ⟨b, o, none⟩) list.length cl list v3 from DX.out.next hb); have k0 := blk_cell DX.out.b2 (i := 0) rfl; have k1 := blk_cell DX.out.b2 (i := 1) rfl; clear hb)
              | (go_simp; go_at_call 38; (with_reducible refine (HPL.out _).mono ?_); rintro e v4 ⟨rfl, hb⟩; have DX := Lib.hid (show TY w lo hi p r q X' NU ND QU QD gl (some ⟨b, o, none⟩) list.length cl list v4 from DX.out.next hb); have k0 := blk_cell DX.out.b2 (i := 0) rfl; have k1 := blk_cell DX.out.b2 (i := 1) rfl; have f0 := blk_frozen DX.out.b2 0; have f1 := blk_frozen DX.out.b2 1; clear hb)
              | fail))
            all_goals exact OnceQ.mk rfl (Lib.hid (DX.out.setQ MU MD))
          · rintro w7' HX7
            clear k0 k1 z0 z1 c1 SX HFR HTI HPL DX ZX HGK HGK2
            go_wp2
            go_roundw
            case rel => exact ⟨k + 1, by omega, by go_num, Lib.hid (by rw [HNE.out.1, HNE.out.2.1, HNE.out.2.2.1, HNE.out.2.2.2]; exact HX7.out)⟩
            case measure => simp [intOf]; omega
        · obtain rfl : k = list.length := by omega
          have HE := Lib.hid (show (frU (uS m f list.length) (mkD f m)) = 1 ∧ (frD (uS m f list.length) (mkD f m)) = 1 from by have h := HU.out.u; rw [HLS.out] at h; rw [h]; exact fr_whole (by omega))
          have HE2 := Lib.hid (show (frU (kS m f list.length) (mkD f m)) = frU (mkU f m) (mkD f m) ∧ (frD (kS m f list.length) (mkD f m)) = frD (mkU f m) (mkD f m) from by have h := HU.out.k; rw [HLS.out] at h; rw [h]; exact ⟨rfl, rfl⟩)
          rw [HE.out.1, HE.out.2, HE2.out.1, HE2.out.2] at HTY
          clear HE HE2 s0 s1 s2 s3
          generalize frU (mkU f m) (mkD f m) = U9 at *
          generalize frD (mkU f m) (mkD f m) = D9 at *
          go_wp2_with fail
          refine (HCM.out _).mono ?_
          rintro e w9 ⟨rfl, hb⟩
          have DX := Lib.hid ((HTY.out.next hb).next (below_alloc w9 (.cells #[.int .i64 U9, .int .i64 D9] 39)))
          have ZX := Lib.hid (blk_new w9 39 #[.int .i64 U9, .int .i64 D9])
          clear hb HTY
          go_wp2
          generalize w9.alloc (.cells #[.int .i64 U9, .int .i64 D9] 39) = W9 at *
          generalize w9.heap.size = yb at *
          have y0 := blk_cell DX.out.b (i := 0) rfl
          have y1 := blk_cell DX.out.b (i := 1) rfl
          have k0 := blk_cell DX.out.b2 (i := 0) rfl
          have k1 := blk_cell DX.out.b2 (i := 1) rfl
          have z0 := blk_cell ZX.out (i := 0) rfl
          have z1 := blk_cell ZX.out (i := 1) rfl
          have x0 := DX.out.bx
          have hx0 : decide (0 < X') = true := decide_eq_true (by omega)
          have hx0' : 0 < X' := by omega
          have SX := Lib.hid (And.intro y0 (And.intro y1 (And.intro k0 (And.intro k1 (And.intro z0 (And.intro z1 x0))))))
          have DX := Lib.hid DX.out.up
          go_wp2
          go_region_held3 (fun W => W.cell? ⟨r, 0, none⟩ = some (.int .i64 1) ∧ W.cell? ⟨r, 1, none⟩ = some (.int .i64 1) ∧ W.cell? ⟨q, 0, none⟩ = some (.int .i64 U9) ∧ W.cell? ⟨q, 1, none⟩ = some (.int .i64 D9) ∧ W.cell? ⟨yb, 0, none⟩ = some (.int .i64 U9) ∧ W.cell? ⟨yb, 1, none⟩ = some (.int .i64 D9) ∧ W.cell? ⟨p, 0, none⟩ = some (.int .i64 X'))
            (first | exact SX.out | go_keep)
            (first
            | (go_at_call 28; (with_reducible refine (HC9.out _).mono ?_); rintro e v1 ⟨rfl, hb⟩; have SX := Lib.hid (And.intro (Keep.below hb _ _ SX.out.1) (And.intro (Keep.below hb _ _ SX.out.2.1) (And.intro (Keep.below hb _ _ SX.out.2.2.1) (And.intro (Keep.below hb _ _ SX.out.2.2.2.1) (And.intro (Keep.below hb _ _ SX.out.2.2.2.2.1) (And.intro (Keep.below hb _ _ SX.out.2.2.2.2.2.1) (Keep.below hb _ _ SX.out.2.2.2.2.2.2))))))); have DX := Lib.hid (show Below w.heap.size w v1 from by first | exact below_up DX.out hb | exact below_up DX.out.drew hb); clear hb))
          all_goals
            clear y0 y1 k0 k1 z0 z1 x0
            go_wp2
            go_ret
            exact ⟨rfl, DX.out⟩
    · rw [ku_no hq, pb_false hq] at HCI HCS
      clear hq
      generalize hN : xs.length = N at *
      clear hN
      have HC := Lib.hid (HCI.out w1 X.out)
      go_wp2_with fail
      refine HC.out.mono ?_
      rintro e w2 ⟨rfl, hb⟩
      have X_2 := Lib.hid (X.out.keep (Keep.below hb))
      have B_2 := Lib.hid (below_up B1.out hb)
      clear hb HC X B1
      have hal := below_alloc w2 (.cells #[.int .i64 0, .int .i64 0] 39)
      have X_2b := Lib.hid (X_2.out.keep (Keep.below hal))
      have B_2b := Lib.hid (below_up B_2.out hal)
      have P0 := Lib.hid (blk_cell (blk_new w2 39 #[.int .i64 0, .int .i64 0]) (i := 0) (v := .int .i64 0) rfl)
      have P1 := Lib.hid (blk_cell (blk_new w2 39 #[.int .i64 0, .int .i64 0]) (i := 1) (v := .int .i64 0) rfl)
      clear hal X_2 B_2
      have HC := Lib.hid (HCS.out (w2.alloc (.cells #[.int .i64 0, .int .i64 0] 39)) X_2b.out)
      go_wp2_with fail
      generalize w2.alloc (.cells #[.int .i64 0, .int .i64 0] 39) = w2a at *
      generalize w2.heap.size = h2a at *
      refine HC.out.mono ?_
      rintro e w3 ⟨rfl, hb⟩
      have X_3 := Lib.hid (X_2b.out.keep (Keep.below hb))
      have P0_3 := Lib.hid (Keep.below hb _ _ P0.out)
      have P1_3 := Lib.hid (Keep.below hb _ _ P1.out)
      have B_3 := Lib.hid (below_up B_2b.out hb)
      clear hb HC X_2b P0 P1 B_2b
      have hal := below_alloc w3 (.cells #[.int .i64 0, .int .i64 0] 39)
      have X_3b := Lib.hid (X_3.out.keep (Keep.below hal))
      have P0_3b := Lib.hid (Keep.below hal _ _ P0_3.out)
      have P1_3b := Lib.hid (Keep.below hal _ _ P1_3.out)
      have B_3b := Lib.hid (below_up B_3.out hal)
      have E0 := Lib.hid (blk_cell (blk_new w3 39 #[.int .i64 0, .int .i64 0]) (i := 0) (v := .int .i64 0) rfl)
      have E1 := Lib.hid (blk_cell (blk_new w3 39 #[.int .i64 0, .int .i64 0]) (i := 1) (v := .int .i64 0) rfl)
      clear hal X_3 P0_3 P1_3 B_3
      have q_P0 := P0_3b.out
      have q_P1 := P1_3b.out
      have q_E0 := E0.out
      have q_E1 := E1.out
      go_wp2
      go_ret
      exact ⟨rfl, B_3b.out⟩

set_option maxRecDepth 100000 in
theorem hFnKindsByUrn_lifted (os : Os) (started : os.Started) (H : Type) (enc : TypeId × Value → H) :
    ReturnsInHanded {} Try.checked os 7 .any (Rows.fnKindsByUrnSpec.pre6 enc Try.prog Try.f7 Rows.fnKindsByUrnRow.domain false) (Rows.fnKindsByUrnSpec.post enc Try.prog Try.f7 false true false false) := by
  refine returnsInHanded_of_change_sized (C := Try.checked) Try.own started (by kernel_rfl) Try.func7
    (ChangeSpec.witness6 (enc := enc) (C := Try.checked) false ⟨#[], #[.slice none 0 0], []⟩ 8 (by kernel_rfl) (by kernel_rfl) (by kernel_rfl) (by kernel_rfl)) ?_
  intro W base args ds gs before hval0 hW _ hwt _
  have hval : ∀ (j : Nat) t v, Try.f7.params[j]? = some t → args[j]? = some v → Value.okWide Try.prog W .any base t v := hval0
  have hA : ∃ p, DataW.TrodAll enc Try.prog W 0 (fun _ => true) true Try.f7.params.toList args.toList ds p := by obtain ⟨p, q, hA0, _⟩ := hW; exact ⟨p, hA0⟩
  obtain ⟨p, hA⟩ := hA
  have hwt' := weights_arg hwt (j := 0) (t := 22) (by rw [Try.params7]; rfl) (d := ds.getD 0 .nil)
  rw [Try.params7] at hA hval
  obtain ⟨v0, d0, rfl, rfl, h0⟩ := trodAll_one hA
  obtain ⟨A, n, c, rfl, hx⟩ := open_bytes (hval 0 22 v0 rfl rfl) h0 (hwt' rfl)
  refine (fnKindsByUrn_calls A n c W hx).mono fun e W' ⟨he, hb⟩ => ?_
  subst he
  exact ⟨_, rfl, law_post (F := Try.f7) rfl rfl (by rw [Try.params7]; simp only [List.mem_cons, List.not_mem_nil, or_false, forall_eq]; exact ⟨by kernel_rfl, of_decide_eq_true (by kernel_rfl)⟩) hW (fun h => by subst h; rfl) hb⟩

theorem hFnKindsByUrn_holds : Rows.FnKindsByUrnSaid :=
  OpenClaim.holds_of_wide 7 Try.f7 rfl rfl rfl rfl rfl rfl rfl ⟨rfl, rfl, rfl, rfl, rfl⟩ rfl rfl rfl rfl rfl (by kernel_rfl) Try.func7
    (by unfold joinedFacts; simp only [Bool.and_eq_true]; (repeat' apply And.intro) <;> (first | (with_reducible exact prog_enters) | ((with_reducible refine prog_lifts ?_); rfl) | ((with_reducible refine prog_make ?_); rfl) | kernel_rfl))
    (of_decide_eq_true (by kernel_rfl)) (by unfold Func.isWrapper; first | (rw [if_pos (by decide +kernel)]; kernel_rfl) | (rw [if_neg (by decide +kernel)]; exact ⟨rfl, rfl⟩))
    (fun os started H enc _ => hFnKindsByUrn_lifted os started H enc)

end Go.Proofs.Ytpchnoalamdhkaa
