/- The law FnTwoAreAlike holds: for every code, of the numbers that it draws, the program tells how many kinds there are in the mean as the model does, and the mean chance that two are of one kind is 1 divided by 1 and the weight. No condition. -/
import Derived.Test.YtpchnoalamdhkaaQ13
namespace Go.Proofs.Ytpchnoalamdhkaa
open Go.ChangeShapes Go.WideShapes Go.ChangeAt Go.RowKit Go.Deep

set_option maxRecDepth 100000 in
set_option maxHeartbeats 3200000 in
theorem fnTwoAreAlike_calls (A : Option Addr) (n c : Nat) (w : World) (hx : Bytes w A n c) :
    Calls Try.prog 9 #[.slice A n c] w fun e w' => e = .returned (.bool true) ∧ Below w.heap.size w w' := by
  have hmx := hx.max
  have H0 := Lib.hid (DrawMeanKinds_any A n c w hx)
  clear hx
  by_cases hs : 1048576 < n
  · go_enter Try.func9, Try.ntmps9
    go_wp2
    go_ret
    exact ⟨rfl, Below.refl _ _⟩
  · go_enter Try.func9, Try.ntmps9
    go_wp2_with fail
    refine H0.out.mono ?_
    rintro e w1 ⟨n, f, rfl, ⟨n1, n2⟩, ⟨f1, f2⟩, hb⟩
    have B1 := Lib.hid hb
    clear hb H0
    have HCI := Lib.hid (fun W => MeanKinds_impl n f W (by unfold Fit; omega) (by unfold Fit; omega))
    have HCS := Lib.hid (fun W => MeanKinds_spec n f W (by unfold Fit; omega) (by unfold Fit; omega))
    have HCP := Lib.hid (fun W => PartsOf_impl n W (by unfold Fit; omega))
    by_cases hq : MQ n f
    · obtain ⟨n, rfl⟩ : ∃ k : Nat, n = (k : Int) := ⟨n.toNat, by omega⟩
      have hn := hq.1
      have hf := hq.2
      rw [mk_yes hq, pb_true hq] at HCI HCS
      rw [pt_yes hn] at HCP
      unfold InR at hn hf
      obtain ⟨hn1, hn7⟩ := hn
      obtain ⟨hf1, hf6⟩ := hf
      have HF := Lib.hid (pts_facts (n := n) (by omega) (by omega))
      generalize frU (mkU f n) (mkD f n) = U at *
      generalize frD (mkU f n) (mkD f n) = D at *
      clear hq
      by_cases hn2 : (n : Int) < 2
      · have hg1 : decide ((n : Int) < 2) = true := decide_eq_true hn2
        have hg2 : n < 2 := by omega
        clear HF
        generalize pts 7 n n = list at *
        have HC := Lib.hid (HCI.out w1)
        go_wp2_with fail
        refine HC.out.mono ?_
        rintro e w2 ⟨rfl, hb⟩
        have B_2 := Lib.hid (below_up B1.out hb)
        clear hb HC B1
        have hal := below_alloc w2 (.cells #[.int .i64 U, .int .i64 D] 39)
        have B_2b := Lib.hid (below_up B_2.out hal)
        have P0 := Lib.hid (blk_cell (blk_new w2 39 #[.int .i64 U, .int .i64 D]) (i := 0) (v := .int .i64 U) rfl)
        have P1 := Lib.hid (blk_cell (blk_new w2 39 #[.int .i64 U, .int .i64 D]) (i := 1) (v := .int .i64 D) rfl)
        clear hal B_2
        have HC := Lib.hid (HCS.out (w2.alloc (.cells #[.int .i64 U, .int .i64 D] 39)))
        go_wp2_with fail
        generalize w2.alloc (.cells #[.int .i64 U, .int .i64 D] 39) = w2a at *
        generalize w2.heap.size = h2a at *
        refine HC.out.mono ?_
        rintro e w3 ⟨rfl, hb⟩
        have P0_3 := Lib.hid (Keep.below hb _ _ P0.out)
        have P1_3 := Lib.hid (Keep.below hb _ _ P1.out)
        have B_3 := Lib.hid (below_up B_2b.out hb)
        clear hb HC P0 P1 B_2b
        have hal := below_alloc w3 (.cells #[.int .i64 U, .int .i64 D] 39)
        have P0_3b := Lib.hid (Keep.below hal _ _ P0_3.out)
        have P1_3b := Lib.hid (Keep.below hal _ _ P1_3.out)
        have B_3b := Lib.hid (below_up B_3.out hal)
        have E0 := Lib.hid (blk_cell (blk_new w3 39 #[.int .i64 U, .int .i64 D]) (i := 0) (v := .int .i64 U) rfl)
        have E1 := Lib.hid (blk_cell (blk_new w3 39 #[.int .i64 U, .int .i64 D]) (i := 1) (v := .int .i64 D) rfl)
        clear hal P0_3 P1_3 B_3
        have HC := Lib.hid (HCP.out (w3.alloc (.cells #[.int .i64 U, .int .i64 D] 39)))
        have q_P0 := P0_3b.out
        have q_P1 := P1_3b.out
        have q_E0 := E0.out
        have q_E1 := E1.out
        go_wp2_with fail
        generalize w3.alloc (.cells #[.int .i64 U, .int .i64 D] 39) = w3a at *
        generalize w3.heap.size = h3a at *
        refine HC.out.mono ?_
        rintro e w4 ⟨Al, nl, cl, gl, rfl, hnl, ho, hb⟩
        have P0_4 := Lib.hid (Keep.below hb _ _ P0_3b.out)
        have P1_4 := Lib.hid (Keep.below hb _ _ P1_3b.out)
        have E0_4 := Lib.hid (Keep.below hb _ _ E0.out)
        have E1_4 := Lib.hid (Keep.below hb _ _ E1.out)
        have B_4 := Lib.hid (below_up B_3b.out hb)
        subst hnl
        have T := Lib.hid ho
        have HLO := Lib.hid (And.intro hb.size hb.size)
        clear ho
        clear hb HC P0_3b P1_3b E0 E1 B_3b q_P0 q_P1 q_E0 q_E1
        go_wp2
        go_ret
        exact ⟨rfl, B_4.out⟩
      · have hg1 : decide ((n : Int) < 2) = false := decide_eq_false hn2
        have hg2 : ¬ n < 2 := by omega
        have hl0 := HF.out.pos
        have hl0' : ((pts 7 n n).length : Int) ≠ 0 := by omega
        have hl1 : (((pts 7 n n).length : Int) == 0) = false := beq_eq_false_iff_ne.2 hl0'
        have hg3 : decide (f < 1) = false := decide_eq_false (by omega)
        have hg4 : decide (6 < f) = false := decide_eq_false (by omega)
        have HT := Lib.hid (tw_facts (m := n) (f := f) (by omega) (by omega) hf1 hf6)
        have HZ : Hid (frV 0 1 = .agg #[.int .i64 0, .int .i64 1]) := Lib.hid (by rw [frV, (fr_one 0).1, (fr_one 0).2])
        have HC0 := Lib.hid (fun W => HZ.out ▸ fracOfH_any 0 1 W (by unfold Hug; omega) (by unfold Hug; omega) (by omega))
        have HC9 := Lib.hid (fun W => fracOfH_any 1 (1 + f) W (by unfold Hug; omega) (by unfold Hug; omega) (by omega))
        obtain ⟨d1, d2, _, _⟩ := mk_bd hf1 hf6 (k := n) (by omega)
        have HEB := Lib.hid (show 2 ≤ (n : Int) * ((n : Int) - 1) ∧ (n : Int) * ((n : Int) - 1) ≤ 42 from by
          have h : n = 2 ∨ n = 3 ∨ n = 4 ∨ n = 5 ∨ n = 6 ∨ n = 7 := by omega
          rcases h with rfl | rfl | rfl | rfl | rfl | rfl <;> decide)
        have HLE := Lib.hid HF.out.le
        generalize hls : pts 7 n n = list at *
        have HLS := Lib.hid hls
        clear hls
        have HC := Lib.hid (HCI.out w1)
        go_wp2_with fail
        refine HC.out.mono ?_
        rintro e w2 ⟨rfl, hb⟩
        have B_2 := Lib.hid (below_up B1.out hb)
        clear hb HC B1
        have hal := below_alloc w2 (.cells #[.int .i64 U, .int .i64 D] 39)
        have B_2b := Lib.hid (below_up B_2.out hal)
        have P0 := Lib.hid (blk_cell (blk_new w2 39 #[.int .i64 U, .int .i64 D]) (i := 0) (v := .int .i64 U) rfl)
        have P1 := Lib.hid (blk_cell (blk_new w2 39 #[.int .i64 U, .int .i64 D]) (i := 1) (v := .int .i64 D) rfl)
        clear hal B_2
        have HC := Lib.hid (HCS.out (w2.alloc (.cells #[.int .i64 U, .int .i64 D] 39)))
        go_wp2_with fail
        generalize w2.alloc (.cells #[.int .i64 U, .int .i64 D] 39) = w2a at *
        generalize w2.heap.size = h2a at *
        refine HC.out.mono ?_
        rintro e w3 ⟨rfl, hb⟩
        have P0_3 := Lib.hid (Keep.below hb _ _ P0.out)
        have P1_3 := Lib.hid (Keep.below hb _ _ P1.out)
        have B_3 := Lib.hid (below_up B_2b.out hb)
        clear hb HC P0 P1 B_2b
        have hal := below_alloc w3 (.cells #[.int .i64 U, .int .i64 D] 39)
        have P0_3b := Lib.hid (Keep.below hal _ _ P0_3.out)
        have P1_3b := Lib.hid (Keep.below hal _ _ P1_3.out)
        have B_3b := Lib.hid (below_up B_3.out hal)
        have E0 := Lib.hid (blk_cell (blk_new w3 39 #[.int .i64 U, .int .i64 D]) (i := 0) (v := .int .i64 U) rfl)
        have E1 := Lib.hid (blk_cell (blk_new w3 39 #[.int .i64 U, .int .i64 D]) (i := 1) (v := .int .i64 D) rfl)
        clear hal P0_3 P1_3 B_3
        have HC := Lib.hid (HCP.out (w3.alloc (.cells #[.int .i64 U, .int .i64 D] 39)))
        have q_P0 := P0_3b.out
        have q_P1 := P1_3b.out
        have q_E0 := E0.out
        have q_E1 := E1.out
        go_wp2_with fail
        generalize w3.alloc (.cells #[.int .i64 U, .int .i64 D] 39) = w3a at *
        generalize w3.heap.size = h3a at *
        refine HC.out.mono ?_
        rintro e w4 ⟨Al, nl, cl, gl, rfl, hnl, ho, hb⟩
        have P0_4 := Lib.hid (Keep.below hb _ _ P0_3b.out)
        have P1_4 := Lib.hid (Keep.below hb _ _ P1_3b.out)
        have E0_4 := Lib.hid (Keep.below hb _ _ E0.out)
        have E1_4 := Lib.hid (Keep.below hb _ _ E1.out)
        have B_4 := Lib.hid (below_up B_3b.out hb)
        subst hnl
        have T := Lib.hid ho
        have HLO := Lib.hid (And.intro hb.size hb.size)
        clear ho
        clear hb HC P0_3b P1_3b E0 E1 B_3b q_P0 q_P1 q_E0 q_E1
        have HC := Lib.hid (HC0.out w4)
        go_wp2_with fail
        refine HC.out.mono ?_
        rintro e w5 ⟨rfl, hb⟩
        have P0_5 := Lib.hid (Keep.below hb _ _ P0_4.out)
        have P1_5 := Lib.hid (Keep.below hb _ _ P1_4.out)
        have E0_5 := Lib.hid (Keep.below hb _ _ E0_4.out)
        have E1_5 := Lib.hid (Keep.below hb _ _ E1_4.out)
        have B_5 := Lib.hid (below_up B_4.out hb)
        have T2 := Lib.hid (T.out.below hb)
        have HZZ := Lib.hid hb.size
        clear hb HC P0_4 P1_4 E0_4 E1_4 B_4
        have b4 := blk_new w5 39 #[.int .i64 0, .int .i64 1]
        have hDE : Hid (0 < mkD f n * ((n : Int) * ((n : Int) - 1))) := Lib.hid (Int.mul_pos (by omega) (by have := HEB.out; omega))
        have HTX := Lib.hid (show TX w _ _ w5.heap.size (frU (tS n f 0) (mkD f n * ((n : Int) * ((n : Int) - 1)))) (frD (tS n f 0) (mkD f n * ((n : Int) * ((n : Int) - 1)))) gl Al list.length cl list (w5.alloc (.cells #[.int .i64 0, .int .i64 1] 39)) from
          ⟨T2.out.below (below_alloc _ _), by show Blk _ _ _ #[.int .i64 (frU 0 _), .int .i64 (frD 0 _)]; rw [(fr_nil hDE.out).1, (fr_nil hDE.out).2]; exact b4, HZZ.out, B_5.out.size, below_up B_5.out (below_alloc _ _)⟩)
        clear T T2 b4 HZZ HLO HCI HCS HCP HC0 B_5
        obtain ⟨b, o, rfl, _⟩ := HTX.out.li.rows.at_ hl0
        go_wp2
        generalize w5.alloc (.cells #[.int .i64 0, .int .i64 1] 39) = W0 at *
        generalize w5.heap.size = r at *
        obtain ⟨lo, hi, HTX⟩ : ∃ lo hi, Hid (TX w lo hi r (frU (tS n f 0) (mkD f n * ((n : Int) * ((n : Int) - 1)))) (frD (tS n f 0) (mkD f n * ((n : Int) * ((n : Int) - 1)))) gl (some ⟨b, o, none⟩) list.length cl list W0) := ⟨_, _, HTX⟩
        go_loopw [11] (fun k_ wr => ∃ k : Nat, k ≤ list.length ∧ k_ = .int .i64 k ∧ Hid (TX w lo hi r (frU (tS n f k) (mkD f n * ((n : Int) * ((n : Int) - 1)))) (frD (tS n f k) (mkD f n * ((n : Int) * ((n : Int) - 1)))) gl (some ⟨b, o, none⟩) list.length cl list wr)) (fun k_ _ => list.length - (intOf k_).toNat)
        case atStart => exact ⟨0, Nat.zero_le _, rfl, HTX⟩
        case round =>
          clear HTX
          obtain ⟨k, hk, rfl, HTX⟩ := hrel
          by_cases hlt : k < list.length
          · obtain ⟨R, cc, c1, hR⟩ := HTX.out.li.rows.cell hlt
            have HV := Lib.hid (HF.out.ok k hlt)
            have hpr := HT.out.pr k (by rw [HLS.out]; exact hlt)
            have hts := HT.out.ts k (by rw [HLS.out]; omega)
            have HTS : Hid (tS n f (k + 1) = tS n f k + uw n (gr list k) f * prI (gr list k) (gr list k).length) := Lib.hid (by rw [tS, HLS.out])
            rw [HLS.out] at hpr
            have HPR := Lib.hid hpr
            have hkq : KQ (gr list k) f := ⟨HV.out, by unfold InR; omega⟩
            have HKP := Lib.hid (fun W h => KindsByProduct_impl R (gr list k).length cc (gr list k) f W h (by unfold Fit; omega))
            rw [kp_yes hkq, pb_true hkq, ← (kp_ku hkq).1, ← (kp_ku hkq).2] at HKP
            unfold kuU kuD at HKP
            rw [HF.out.sum k hlt, Int.toNat_natCast] at HKP
            have huw := uw_bd (m := n) (xs := gr list k) (f := f) (by omega) (by rw [HLS.out]; exact gr_mem hlt) hf1 hf6
            have HUW := Lib.hid huw
            have HTSB := Lib.hid hts
            have HRI := Lib.hid hR
            have SX := Lib.hid c1
            have hrl := HV.out.2.1
            clear hpr hts hkq huw hR
            generalize gr list k = row at *
            go_wp2
            generalize wr = W1 at *
            go_loopw [12, 13] (fun p i wi => ∃ j : Nat, j ≤ row.length ∧ i = .int .i64 j ∧ p = .int .i64 (prI row j) ∧ Hid (Quiet W1 wi)) (fun _ i _ => row.length - (intOf i).toNat)
            case atStart => exact ⟨0, Nat.zero_le _, rfl, rfl, Lib.hid (Quiet.refl _)⟩
            case round =>
              obtain ⟨j, hj, rfl, rfl, HQ⟩ := hrel
              have c2 := Keep.quiet HQ.out _ _ SX.out
              by_cases hjl : j < row.length
              · obtain ⟨b2, o2, rfl, hc2⟩ := (HRI.out.keep (Keep.quiet HQ.out)).at_ (by omega)
                have c3 := hc2 j hjl
                obtain ⟨x1, x7, _⟩ := HV.out.1 j hjl
                obtain ⟨q0, q1⟩ := HPR.out j hj
                have HPS : Hid (prI row (j + 1) = prI row j + gi row j * (gi row j - 1)) := Lib.hid rfl
                obtain ⟨p1, p2⟩ := mulbd (x := gi row j) (y := gi row j - 1) (A := 7) (B := 7) (by omega) (by omega)
                clear hc2
                generalize gi row j = x at *
                generalize prI row j = v at *
                generalize row.length = m at *
                go_wp2
                go_quiet (fail)
                go_wp2
                go_roundw
                case rel => exact ⟨j + 1, by omega, by go_num, by rw [HPS.out], Lib.hid (HQ.out.trans ⟨_, rfl⟩)⟩
                case measure => simp [intOf]; omega
              · obtain rfl : j = row.length := by omega
                have HTQ := Lib.hid (HTX.out.next HQ.out.below)
                have HRQ := Lib.hid (HRI.out.keep (Keep.quiet HQ.out))
                obtain ⟨q0, q1⟩ := HPR.out row.length (Nat.le_refl _)
                obtain ⟨e1, e2⟩ := HEB.out
                obtain ⟨u0, u1⟩ := HUW.out
                obtain ⟨s0, s1⟩ := HTSB.out
                have HDB := Lib.hid (mulbd (x := mkD f n) (y := (n : Int) * ((n : Int) - 1)) (A := 20000000) (B := 42) (by omega) (by omega))
                obtain ⟨db1, db2⟩ := HDB.out
                have hDE' := hDE.out
                have HFR := Lib.hid (fun W => fracOfH_any (prI row row.length) ((n : Int) * ((n : Int) - 1)) W (by unfold Hug; omega) (by unfold Hug; omega) (by omega))
                have HVV : Hid (∀ u d : Int, frV u d = .agg #[.int .i64 (frU u d), .int .i64 (frD u d)]) := Lib.hid (fun _ _ => rfl)
                have t3 : 0 ≤ uw n row f * prI row row.length := Int.mul_nonneg (by omega) (by omega)
                have t5 := mulbd (x := uw n row f) (y := prI row row.length) (A := 20000000) (B := 42) (by omega) (by omega)
                have HTI := Lib.hid (fun W => timesOfH_any (frU (uw n row f) (mkD f n)) (frD (uw n row f) (mkD f n)) (frU (prI row row.length) ((n : Int) * ((n : Int) - 1))) (frD (prI row row.length) ((n : Int) * ((n : Int) - 1))) W (frU_bd (by omega) (by omega)) (frU_bd (by omega) (by omega)) (frD_bd (by omega) (by omega)) (frD_bd (by omega) (by omega)))
                have HTE := Lib.hid (fr_tim (u := uw n row f) (d := mkD f n) (v := prI row row.length) (e := (n : Int) * ((n : Int) - 1)) (by omega) (by omega))
                have HPL := Lib.hid (fun W => plusOfH_any (frU (tS n f k) (mkD f n * ((n : Int) * ((n : Int) - 1)))) (frD (tS n f k) (mkD f n * ((n : Int) * ((n : Int) - 1)))) (frU (uw n row f * prI row row.length) (mkD f n * ((n : Int) * ((n : Int) - 1)))) (frD (uw n row f * prI row row.length) (mkD f n * ((n : Int) * ((n : Int) - 1)))) W (frU_bd (by omega) (by omega)) (frU_bd (by omega) (by omega)) (frD_bd (by omega) (by omega)) (frD_bd (by omega) (by omega)))
                have HPE := Lib.hid (same_den (S := tS n f k) (a := uw n row f) (u := prI row row.length) (D := mkD f n) (E := (n : Int) * ((n : Int) - 1)) (by omega) (by omega))
                rw [HVV.out, HTE.out.1, HTE.out.2] at HTI
                rw [HVV.out, HPE.out.1, HPE.out.2] at HPL
                rw [HVV.out] at HFR
                have HNE := Lib.hid (show frU (tS n f (k + 1)) (mkD f n * ((n : Int) * ((n : Int) - 1))) = frU (tS n f k + uw n row f * prI row row.length) (mkD f n * ((n : Int) * ((n : Int) - 1))) ∧ frD (tS n f (k + 1)) (mkD f n * ((n : Int) * ((n : Int) - 1))) = frD (tS n f k + uw n row f * prI row row.length) (mkD f n * ((n : Int) * ((n : Int) - 1))) by rw [HTS.out]; exact ⟨rfl, rfl⟩)
                clear HTE HPE HVV HTS t3 t5 HDB db1 db2 hDE' HTX HRI HPR HUW HTSB u0 u1 s0 s1
                generalize frU (tS n f k + uw n row f * prI row row.length) (mkD f n * ((n : Int) * ((n : Int) - 1))) = NU at *
                generalize frD (tS n f k + uw n row f * prI row row.length) (mkD f n * ((n : Int) * ((n : Int) - 1))) = ND at *
                generalize frU (uw n row f * prI row row.length) (mkD f n * ((n : Int) * ((n : Int) - 1))) = TU at *
                generalize frD (uw n row f * prI row row.length) (mkD f n * ((n : Int) * ((n : Int) - 1))) = TD at *
                generalize frU (tS n f k) (mkD f n * ((n : Int) * ((n : Int) - 1))) = OU at *
                generalize frD (tS n f k) (mkD f n * ((n : Int) * ((n : Int) - 1))) = OD at *
                generalize frU (uw n row f) (mkD f n) = AU at *
                generalize frD (uw n row f) (mkD f n) = AD at *
                generalize frU (prI row row.length) ((n : Int) * ((n : Int) - 1)) = GU at *
                generalize frD (prI row row.length) ((n : Int) * ((n : Int) - 1)) = GD at *
                have hw2 : IntKind.i64.wrap ((n : Int) * IntKind.i64.wrap ((n : Int) - 1)) = (n : Int) * ((n : Int) - 1) := by rw [wrapIn (x := (n : Int) - 1) (by omega), wrapIn (by omega)]
                rw [← hw2] at HFR
                clear hw2
                generalize prI row row.length = pv at *
                have HC := Lib.hid (HKP.out wr HRQ.out)
                generalize row.length = m at *
                go_wp2_with fail
                refine HC.out.mono ?_
                rintro e w9 ⟨rfl, hb⟩
                have DX := Lib.hid ((HTQ.out.next hb).next (below_alloc w9 (.cells #[.int .i64 AU, .int .i64 AD] 39)))
                have ZX := Lib.hid (blk_new w9 39 #[.int .i64 AU, .int .i64 AD])
                clear hb HC HTQ HKP HRQ c2
                go_wp2
                generalize w9.alloc (.cells #[.int .i64 AU, .int .i64 AD] 39) = W9 at *
                generalize w9.heap.size = yb at *
                have y0 := blk_cell DX.out.b (i := 0) rfl
                have y1 := blk_cell DX.out.b (i := 1) rfl
                have z0 := blk_cell ZX.out (i := 0) rfl
                have z1 := blk_cell ZX.out (i := 1) rfl
                apply region_once (F := fun v => Hid (TX w lo hi r NU ND gl (some ⟨b, o, none⟩) list.length cl list v))
                · go_region_law ((first
                    | (go_simp; go_at_call 28; (with_reducible refine (HFR.out _).mono ?_); rintro e v1 ⟨rfl, hb⟩; have ZX := Lib.hid (show Blk v1 yb 39 #[.int .i64 AU, .int .i64 AD] from by first | exact blk_below ZX.out hb | exact blk_below (blk_quiet ZX.out ⟨1, rfl⟩) hb); have DX := Lib.hid (show TX w lo hi r OU OD gl (some ⟨b, o, none⟩) list.length cl list v1 from by first | exact DX.out.next hb | exact DX.out.drew.next hb); have y0 := blk_cell DX.out.b (i := 0) rfl; have y1 := blk_cell DX.out.b (i := 1) rfl; have z0 := blk_cell ZX.out (i := 0) rfl; have z1 := blk_cell ZX.out (i := 1) rfl; clear hb)
                    | (go_simp; go_at_call 25; (with_reducible refine (HTI.out _).mono ?_); rintro e v3 ⟨rfl, hb⟩; have DX := Lib.hid (show TX w lo hi r OU OD gl (some ⟨b, o, none⟩) list.length cl list v3 from DX.out.next hb); have y0 := blk_cell DX.out.b (i := 0) rfl; have y1 := blk_cell DX.out.b (i := 1) rfl; clear hb)
                    | (go_simp; go_at_call 38; (with_reducible refine (HPL.out _).mono ?_); rintro e v4 ⟨rfl, hb⟩; have DX := Lib.hid (show TX w lo hi r OU OD gl (some ⟨b, o, none⟩) list.length cl list v4 from DX.out.next hb); have y0 := blk_cell DX.out.b (i := 0) rfl; have y1 := blk_cell DX.out.b (i := 1) rfl; have f0 := blk_frozen DX.out.b 0; have f1 := blk_frozen DX.out.b 1; clear hb)
                    | fail))
                  all_goals exact OnceQ.mk rfl (Lib.hid (DX.out.set NU ND))
                · rintro w7 HX7
                  clear y0 y1 z0 z1 HFR HTI HPL DX ZX
                  have hll := HLE.out
                  have hkb : (k : Int) ≤ 100 := by omega
                  go_wp2
                  go_roundw
                  case rel => exact ⟨k + 1, by omega, by go_num, Lib.hid (by rw [HNE.out.1, HNE.out.2]; exact HX7.out)⟩
                  case measure => simp [intOf]; omega
          · obtain rfl : k = list.length := by omega
            have HE := Lib.hid (show frU (tS n f list.length) (mkD f n * ((n : Int) * ((n : Int) - 1))) = frU 1 (1 + f) ∧ frD (tS n f list.length) (mkD f n * ((n : Int) * ((n : Int) - 1))) = frD 1 (1 + f) from fr_eq hDE.out (by omega) (by have h := HT.out.all; rw [HLS.out] at h; rw [h, Int.one_mul]))
            rw [HE.out.1, HE.out.2] at HTX
            have HFV : Hid (frV 1 (1 + f) = .agg #[.int .i64 (frU 1 (1 + f)), .int .i64 (frD 1 (1 + f))]) := Lib.hid rfl
            rw [HFV.out] at HC9
            have hw1 : IntKind.i64.wrap (1 + f) = 1 + f := wrapIn (by omega)
            clear HE HFV
            generalize frU 1 (1 + f) = U9 at *
            generalize frD 1 (1 + f) = D9 at *
            have s0 := blk_cell HTX.out.b (i := 0) rfl
            have s1 := blk_cell HTX.out.b (i := 1) rfl
            have SX := Lib.hid (And.intro s0 s1)
            have DX := Lib.hid HTX.out.up
            go_wp2
            go_region_held3 (fun W => W.cell? ⟨r, 0, none⟩ = some (.int .i64 U9) ∧ W.cell? ⟨r, 1, none⟩ = some (.int .i64 D9))
              (first | exact SX.out | go_keep)
              (first
              | (go_at_call 28; (with_reducible refine (HC9.out _).mono ?_); rintro e v1 ⟨rfl, hb⟩; have SX := Lib.hid (And.intro (Keep.below hb _ _ SX.out.1) (Keep.below hb _ _ SX.out.2)); have DX := Lib.hid (show Below w.heap.size w v1 from by first | exact below_up DX.out hb | exact below_up DX.out.drew hb); clear hb)
              | fail)
            all_goals
              clear s0 s1
              go_wp2
              go_ret
              exact ⟨rfl, DX.out⟩
    · rw [mk_no hq, pb_false hq] at HCI HCS
      have hcase : n < 2 ∨ (ptV n = [] ∧ ¬ n < 2) ∨ (0 < (ptV n).length ∧ (f < 1 ∨ 6 < f) ∧ ¬ n < 2) := by
        by_cases h2 : n < 2
        · exact .inl h2
        · by_cases hn : InR n 1 7
          · refine .inr (.inr ⟨?_, ?_, h2⟩)
            · obtain ⟨k, rfl⟩ : ∃ k : Nat, n = (k : Int) := ⟨n.toNat, by omega⟩
              rw [pt_yes hn]
              unfold InR at hn
              exact (pts_facts (by omega) (by omega)).pos
            · apply Classical.byContradiction
              intro h
              exact hq ⟨hn, by unfold InR; omega⟩
          · exact .inr (.inl ⟨pt_no hn, h2⟩)
      clear hq
      generalize ptV n = list at *
      rcases hcase with h2 | ⟨rfl, h2⟩ | ⟨h0, h3, h2⟩
      · have hg1 : decide (n < 2) = true := decide_eq_true h2
        have HC := Lib.hid (HCI.out w1)
        go_wp2_with fail
        refine HC.out.mono ?_
        rintro e w2 ⟨rfl, hb⟩
        have B_2 := Lib.hid (below_up B1.out hb)
        clear hb HC B1
        have hal := below_alloc w2 (.cells #[.int .i64 0, .int .i64 0] 39)
        have B_2b := Lib.hid (below_up B_2.out hal)
        have P0 := Lib.hid (blk_cell (blk_new w2 39 #[.int .i64 0, .int .i64 0]) (i := 0) (v := .int .i64 0) rfl)
        have P1 := Lib.hid (blk_cell (blk_new w2 39 #[.int .i64 0, .int .i64 0]) (i := 1) (v := .int .i64 0) rfl)
        clear hal B_2
        have HC := Lib.hid (HCS.out (w2.alloc (.cells #[.int .i64 0, .int .i64 0] 39)))
        go_wp2_with fail
        generalize w2.alloc (.cells #[.int .i64 0, .int .i64 0] 39) = w2a at *
        generalize w2.heap.size = h2a at *
        refine HC.out.mono ?_
        rintro e w3 ⟨rfl, hb⟩
        have P0_3 := Lib.hid (Keep.below hb _ _ P0.out)
        have P1_3 := Lib.hid (Keep.below hb _ _ P1.out)
        have B_3 := Lib.hid (below_up B_2b.out hb)
        clear hb HC P0 P1 B_2b
        have hal := below_alloc w3 (.cells #[.int .i64 0, .int .i64 0] 39)
        have P0_3b := Lib.hid (Keep.below hal _ _ P0_3.out)
        have P1_3b := Lib.hid (Keep.below hal _ _ P1_3.out)
        have B_3b := Lib.hid (below_up B_3.out hal)
        have E0 := Lib.hid (blk_cell (blk_new w3 39 #[.int .i64 0, .int .i64 0]) (i := 0) (v := .int .i64 0) rfl)
        have E1 := Lib.hid (blk_cell (blk_new w3 39 #[.int .i64 0, .int .i64 0]) (i := 1) (v := .int .i64 0) rfl)
        clear hal P0_3 P1_3 B_3
        have HC := Lib.hid (HCP.out (w3.alloc (.cells #[.int .i64 0, .int .i64 0] 39)))
        have q_P0 := P0_3b.out
        have q_P1 := P1_3b.out
        have q_E0 := E0.out
        have q_E1 := E1.out
        go_wp2_with fail
        generalize w3.alloc (.cells #[.int .i64 0, .int .i64 0] 39) = w3a at *
        generalize w3.heap.size = h3a at *
        refine HC.out.mono ?_
        rintro e w4 ⟨Al, nl, cl, gl, rfl, hnl, ho, hb⟩
        have P0_4 := Lib.hid (Keep.below hb _ _ P0_3b.out)
        have P1_4 := Lib.hid (Keep.below hb _ _ P1_3b.out)
        have E0_4 := Lib.hid (Keep.below hb _ _ E0.out)
        have E1_4 := Lib.hid (Keep.below hb _ _ E1.out)
        have B_4 := Lib.hid (below_up B_3b.out hb)
        subst hnl
        have T := Lib.hid ho
        have HLO := Lib.hid (And.intro hb.size hb.size)
        clear ho
        clear hb HC P0_3b P1_3b E0 E1 B_3b q_P0 q_P1 q_E0 q_E1
        go_wp2
        go_ret
        exact ⟨rfl, B_4.out⟩
      · have hg1 : decide (n < 2) = false := decide_eq_false h2
        have HC := Lib.hid (HCI.out w1)
        go_wp2_with fail
        refine HC.out.mono ?_
        rintro e w2 ⟨rfl, hb⟩
        have B_2 := Lib.hid (below_up B1.out hb)
        clear hb HC B1
        have hal := below_alloc w2 (.cells #[.int .i64 0, .int .i64 0] 39)
        have B_2b := Lib.hid (below_up B_2.out hal)
        have P0 := Lib.hid (blk_cell (blk_new w2 39 #[.int .i64 0, .int .i64 0]) (i := 0) (v := .int .i64 0) rfl)
        have P1 := Lib.hid (blk_cell (blk_new w2 39 #[.int .i64 0, .int .i64 0]) (i := 1) (v := .int .i64 0) rfl)
        clear hal B_2
        have HC := Lib.hid (HCS.out (w2.alloc (.cells #[.int .i64 0, .int .i64 0] 39)))
        go_wp2_with fail
        generalize w2.alloc (.cells #[.int .i64 0, .int .i64 0] 39) = w2a at *
        generalize w2.heap.size = h2a at *
        refine HC.out.mono ?_
        rintro e w3 ⟨rfl, hb⟩
        have P0_3 := Lib.hid (Keep.below hb _ _ P0.out)
        have P1_3 := Lib.hid (Keep.below hb _ _ P1.out)
        have B_3 := Lib.hid (below_up B_2b.out hb)
        clear hb HC P0 P1 B_2b
        have hal := below_alloc w3 (.cells #[.int .i64 0, .int .i64 0] 39)
        have P0_3b := Lib.hid (Keep.below hal _ _ P0_3.out)
        have P1_3b := Lib.hid (Keep.below hal _ _ P1_3.out)
        have B_3b := Lib.hid (below_up B_3.out hal)
        have E0 := Lib.hid (blk_cell (blk_new w3 39 #[.int .i64 0, .int .i64 0]) (i := 0) (v := .int .i64 0) rfl)
        have E1 := Lib.hid (blk_cell (blk_new w3 39 #[.int .i64 0, .int .i64 0]) (i := 1) (v := .int .i64 0) rfl)
        clear hal P0_3 P1_3 B_3
        have HC := Lib.hid (HCP.out (w3.alloc (.cells #[.int .i64 0, .int .i64 0] 39)))
        have q_P0 := P0_3b.out
        have q_P1 := P1_3b.out
        have q_E0 := E0.out
        have q_E1 := E1.out
        go_wp2_with fail
        generalize w3.alloc (.cells #[.int .i64 0, .int .i64 0] 39) = w3a at *
        generalize w3.heap.size = h3a at *
        refine HC.out.mono ?_
        rintro e w4 ⟨Al, nl, cl, gl, rfl, hnl, ho, hb⟩
        have P0_4 := Lib.hid (Keep.below hb _ _ P0_3b.out)
        have P1_4 := Lib.hid (Keep.below hb _ _ P1_3b.out)
        have E0_4 := Lib.hid (Keep.below hb _ _ E0.out)
        have E1_4 := Lib.hid (Keep.below hb _ _ E1.out)
        have B_4 := Lib.hid (below_up B_3b.out hb)
        subst hnl
        have T := Lib.hid ho
        have HLO := Lib.hid (And.intro hb.size hb.size)
        clear ho
        clear hb HC P0_3b P1_3b E0 E1 B_3b q_P0 q_P1 q_E0 q_E1
        go_wp2
        go_ret
        exact ⟨rfl, B_4.out⟩
      · have hg1 : decide (n < 2) = false := decide_eq_false h2
        have hl1 : ((list.length : Int) == 0) = false := beq_eq_false_iff_ne.2 (by omega)
        by_cases h4 : f < 1
        · have hg2 : decide (f < 1) = true := decide_eq_true h4
          have HC := Lib.hid (HCI.out w1)
          go_wp2_with fail
          refine HC.out.mono ?_
          rintro e w2 ⟨rfl, hb⟩
          have B_2 := Lib.hid (below_up B1.out hb)
          clear hb HC B1
          have hal := below_alloc w2 (.cells #[.int .i64 0, .int .i64 0] 39)
          have B_2b := Lib.hid (below_up B_2.out hal)
          have P0 := Lib.hid (blk_cell (blk_new w2 39 #[.int .i64 0, .int .i64 0]) (i := 0) (v := .int .i64 0) rfl)
          have P1 := Lib.hid (blk_cell (blk_new w2 39 #[.int .i64 0, .int .i64 0]) (i := 1) (v := .int .i64 0) rfl)
          clear hal B_2
          have HC := Lib.hid (HCS.out (w2.alloc (.cells #[.int .i64 0, .int .i64 0] 39)))
          go_wp2_with fail
          generalize w2.alloc (.cells #[.int .i64 0, .int .i64 0] 39) = w2a at *
          generalize w2.heap.size = h2a at *
          refine HC.out.mono ?_
          rintro e w3 ⟨rfl, hb⟩
          have P0_3 := Lib.hid (Keep.below hb _ _ P0.out)
          have P1_3 := Lib.hid (Keep.below hb _ _ P1.out)
          have B_3 := Lib.hid (below_up B_2b.out hb)
          clear hb HC P0 P1 B_2b
          have hal := below_alloc w3 (.cells #[.int .i64 0, .int .i64 0] 39)
          have P0_3b := Lib.hid (Keep.below hal _ _ P0_3.out)
          have P1_3b := Lib.hid (Keep.below hal _ _ P1_3.out)
          have B_3b := Lib.hid (below_up B_3.out hal)
          have E0 := Lib.hid (blk_cell (blk_new w3 39 #[.int .i64 0, .int .i64 0]) (i := 0) (v := .int .i64 0) rfl)
          have E1 := Lib.hid (blk_cell (blk_new w3 39 #[.int .i64 0, .int .i64 0]) (i := 1) (v := .int .i64 0) rfl)
          clear hal P0_3 P1_3 B_3
          have HC := Lib.hid (HCP.out (w3.alloc (.cells #[.int .i64 0, .int .i64 0] 39)))
          have q_P0 := P0_3b.out
          have q_P1 := P1_3b.out
          have q_E0 := E0.out
          have q_E1 := E1.out
          go_wp2_with fail
          generalize w3.alloc (.cells #[.int .i64 0, .int .i64 0] 39) = w3a at *
          generalize w3.heap.size = h3a at *
          refine HC.out.mono ?_
          rintro e w4 ⟨Al, nl, cl, gl, rfl, hnl, ho, hb⟩
          have P0_4 := Lib.hid (Keep.below hb _ _ P0_3b.out)
          have P1_4 := Lib.hid (Keep.below hb _ _ P1_3b.out)
          have E0_4 := Lib.hid (Keep.below hb _ _ E0.out)
          have E1_4 := Lib.hid (Keep.below hb _ _ E1.out)
          have B_4 := Lib.hid (below_up B_3b.out hb)
          subst hnl
          have T := Lib.hid ho
          have HLO := Lib.hid (And.intro hb.size hb.size)
          clear ho
          clear hb HC P0_3b P1_3b E0 E1 B_3b q_P0 q_P1 q_E0 q_E1
          go_wp2
          go_ret
          exact ⟨rfl, B_4.out⟩
        · have hg2 : decide (f < 1) = false := decide_eq_false h4
          have hg3 : decide (6 < f) = true := decide_eq_true (by omega)
          have hg3' : 6 < f := by omega
          have HC := Lib.hid (HCI.out w1)
          go_wp2_with fail
          refine HC.out.mono ?_
          rintro e w2 ⟨rfl, hb⟩
          have B_2 := Lib.hid (below_up B1.out hb)
          clear hb HC B1
          have hal := below_alloc w2 (.cells #[.int .i64 0, .int .i64 0] 39)
          have B_2b := Lib.hid (below_up B_2.out hal)
          have P0 := Lib.hid (blk_cell (blk_new w2 39 #[.int .i64 0, .int .i64 0]) (i := 0) (v := .int .i64 0) rfl)
          have P1 := Lib.hid (blk_cell (blk_new w2 39 #[.int .i64 0, .int .i64 0]) (i := 1) (v := .int .i64 0) rfl)
          clear hal B_2
          have HC := Lib.hid (HCS.out (w2.alloc (.cells #[.int .i64 0, .int .i64 0] 39)))
          go_wp2_with fail
          generalize w2.alloc (.cells #[.int .i64 0, .int .i64 0] 39) = w2a at *
          generalize w2.heap.size = h2a at *
          refine HC.out.mono ?_
          rintro e w3 ⟨rfl, hb⟩
          have P0_3 := Lib.hid (Keep.below hb _ _ P0.out)
          have P1_3 := Lib.hid (Keep.below hb _ _ P1.out)
          have B_3 := Lib.hid (below_up B_2b.out hb)
          clear hb HC P0 P1 B_2b
          have hal := below_alloc w3 (.cells #[.int .i64 0, .int .i64 0] 39)
          have P0_3b := Lib.hid (Keep.below hal _ _ P0_3.out)
          have P1_3b := Lib.hid (Keep.below hal _ _ P1_3.out)
          have B_3b := Lib.hid (below_up B_3.out hal)
          have E0 := Lib.hid (blk_cell (blk_new w3 39 #[.int .i64 0, .int .i64 0]) (i := 0) (v := .int .i64 0) rfl)
          have E1 := Lib.hid (blk_cell (blk_new w3 39 #[.int .i64 0, .int .i64 0]) (i := 1) (v := .int .i64 0) rfl)
          clear hal P0_3 P1_3 B_3
          have HC := Lib.hid (HCP.out (w3.alloc (.cells #[.int .i64 0, .int .i64 0] 39)))
          have q_P0 := P0_3b.out
          have q_P1 := P1_3b.out
          have q_E0 := E0.out
          have q_E1 := E1.out
          go_wp2_with fail
          generalize w3.alloc (.cells #[.int .i64 0, .int .i64 0] 39) = w3a at *
          generalize w3.heap.size = h3a at *
          refine HC.out.mono ?_
          rintro e w4 ⟨Al, nl, cl, gl, rfl, hnl, ho, hb⟩
          have P0_4 := Lib.hid (Keep.below hb _ _ P0_3b.out)
          have P1_4 := Lib.hid (Keep.below hb _ _ P1_3b.out)
          have E0_4 := Lib.hid (Keep.below hb _ _ E0.out)
          have E1_4 := Lib.hid (Keep.below hb _ _ E1.out)
          have B_4 := Lib.hid (below_up B_3b.out hb)
          subst hnl
          have T := Lib.hid ho
          have HLO := Lib.hid (And.intro hb.size hb.size)
          clear ho
          clear hb HC P0_3b P1_3b E0 E1 B_3b q_P0 q_P1 q_E0 q_E1
          go_wp2
          go_ret
          exact ⟨rfl, B_4.out⟩

set_option maxRecDepth 100000 in
theorem hFnTwoAreAlike_lifted (os : Os) (started : os.Started) (H : Type) (enc : TypeId × Value → H) :
    ReturnsInHanded {} Try.checked os 9 .any (Rows.fnTwoAreAlikeSpec.pre6 enc Try.prog Try.f9 Rows.fnTwoAreAlikeRow.domain false) (Rows.fnTwoAreAlikeSpec.post enc Try.prog Try.f9 false true false false) := by
  refine returnsInHanded_of_change_sized (C := Try.checked) Try.own started (by kernel_rfl) Try.func9
    (ChangeSpec.witness6 (enc := enc) (C := Try.checked) false ⟨#[], #[.slice none 0 0], []⟩ 8 (by kernel_rfl) (by kernel_rfl) (by kernel_rfl) (by kernel_rfl)) ?_
  intro W base args ds gs before hval0 hW _ hwt _
  have hval : ∀ (j : Nat) t v, Try.f9.params[j]? = some t → args[j]? = some v → Value.okWide Try.prog W .any base t v := hval0
  have hA : ∃ p, DataW.TrodAll enc Try.prog W 0 (fun _ => true) true Try.f9.params.toList args.toList ds p := by obtain ⟨p, q, hA0, _⟩ := hW; exact ⟨p, hA0⟩
  obtain ⟨p, hA⟩ := hA
  have hwt' := weights_arg hwt (j := 0) (t := 22) (by rw [Try.params9]; rfl) (d := ds.getD 0 .nil)
  rw [Try.params9] at hA hval
  obtain ⟨v0, d0, rfl, rfl, h0⟩ := trodAll_one hA
  obtain ⟨A, n, c, rfl, hx⟩ := open_bytes (hval 0 22 v0 rfl rfl) h0 (hwt' rfl)
  refine (fnTwoAreAlike_calls A n c W hx).mono fun e W' ⟨he, hb⟩ => ?_
  subst he
  exact ⟨_, rfl, law_post (F := Try.f9) rfl rfl (by rw [Try.params9]; simp only [List.mem_cons, List.not_mem_nil, or_false, forall_eq]; exact ⟨by kernel_rfl, of_decide_eq_true (by kernel_rfl)⟩) hW (fun h => by subst h; rfl) hb⟩

theorem hFnTwoAreAlike_holds : Rows.FnTwoAreAlikeSaid :=
  OpenClaim.holds_of_wide 9 Try.f9 rfl rfl rfl rfl rfl rfl rfl ⟨rfl, rfl, rfl, rfl, rfl⟩ rfl rfl rfl rfl rfl (by kernel_rfl) Try.func9
    (by unfold joinedFacts; simp only [Bool.and_eq_true]; (repeat' apply And.intro) <;> (first | (with_reducible exact prog_enters) | ((with_reducible refine prog_lifts ?_); rfl) | ((with_reducible refine prog_make ?_); rfl) | kernel_rfl))
    (of_decide_eq_true (by kernel_rfl)) (by unfold Func.isWrapper; first | (rw [if_pos (by decide +kernel)]; kernel_rfl) | (rw [if_neg (by decide +kernel)]; exact ⟨rfl, rfl⟩))
    (fun os started H enc _ => hFnTwoAreAlike_lifted os started H enc)

end Go.Proofs.Ytpchnoalamdhkaa
