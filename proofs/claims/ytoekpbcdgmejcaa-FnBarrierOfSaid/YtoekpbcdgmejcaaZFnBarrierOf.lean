/- The law FnBarrierOf holds: for every code, of what it draws, the program tells the barrier as the model does, and at a barrier between 0 and 1 both strategies have as much, a little ahead of it the first one more. No condition. -/
import Derived.Test.YtoekpbcdgmejcaaQ10
namespace Go.Proofs.Ytoekpbcdgmejcaa
open Go.ChangeShapes Go.WideShapes Go.ChangeAt Go.RowKit Go.Deep

set_option maxRecDepth 100000 in
set_option maxHeartbeats 3200000 in
theorem fnBarrierOf_calls (A : Option Addr) (n c : Nat) (w : World) (hx : Bytes w A n c) :
    Calls Try.prog 5 #[.slice A n c] w fun e w' => e = .returned (.bool true) ∧ Below w.heap.size w w' := by
  have hmx := hx.max
  have H0 := Lib.hid (DrawBarrierOf_any A n c w hx)
  clear hx
  by_cases hs : 1048576 < n
  · go_enter Try.func5, Try.ntmps5
    go_wp2
    go_ret
    exact ⟨rfl, Below.refl _ _⟩
  · go_enter Try.func5, Try.ntmps5
    go_wp2_with fail
    refine H0.out.mono ?_
    rintro e w1 ⟨Av, k, cv, gg, xss, i, j, rfl, hsm, hown, hib, hjb, hb⟩
    have HS := Lib.hid hsm
    have HR := Lib.hid hown.rows
    have B1 := Lib.hid hb
    have LX := Lib.hid hown.rows.len
    obtain ⟨i1, i2⟩ := hib
    obtain ⟨j1, j2⟩ := hjb
    clear hsm hown hb H0
    by_cases hok : BOk xss i j
    · have hv := hok.q
      have hk : 0 < k := by rw [← LX.out]; exact hv.1.n1
      have hk3 : k ≤ 3 := by rw [← LX.out]; exact hv.1.n3
      obtain ⟨i, rfl⟩ : ∃ q : Nat, i = (q : Int) := ⟨i.toNat, by have := hok.ri; unfold InR at this; omega⟩
      obtain ⟨j, rfl⟩ : ∃ q : Nat, j = (q : Int) := ⟨j.toNat, by have := hok.rj; unfold InR at this; omega⟩
      have hi : i < k := by have := hok.ri; unfold InR at this; rw [LX.out] at this; omega
      have hj : j < k := by have := hok.rj; unfold InR at this; rw [LX.out] at this; omega
      have hij : i ≠ j := fun e => hok.ne (by rw [e])
      have HBF := Lib.hid (show barF xss (i : Int) (j : Int) = .agg #[.int .i64 (frU (barU (leadI xss i j) (leadJ xss i j)) (barD (leadI xss i j) (leadJ xss i j))), .int .i64 (frD (barU (leadI xss i j) (leadJ xss i j)) (barD (leadI xss i j) (leadJ xss i j)))] by
        rw [barF_yes hok, Int.toNat_natCast, Int.toNat_natCast]; rfl)
      have hlb := lead_bd hv LX.out hi hj
      have hbf := bar_frac hlb.1 hlb.2
      have HPT := Lib.hid (pb_true hok)
      have HVV := Lib.hid hv
      have HIJ := Lib.hid hij
      clear hok hv hlb hij
      generalize frU (barU (leadI xss i j) (leadJ xss i j)) (barD (leadI xss i j) (leadJ xss i j)) = U at *
      generalize frD (barU (leadI xss i j) (leadJ xss i j)) (barD (leadI xss i j) (leadJ xss i j)) = D at *
      obtain ⟨⟨d1, d2⟩, u1, u2, hcs⟩ := hbf
      have HCS := Lib.hid hcs
      clear hcs
      have hin : (i : Int) < (k : Int) := by omega
      have hjn : (j : Int) < (k : Int) := by omega
      have hgl : (gr xss 0).length = k := by rw [← HVV.out.2, LX.out]
      have HPAY := Lib.hid (fun (X : Int) (r : Nat) (hr : r < k) (h0 : 0 ≤ X) (h1 : X ≤ 72) (h2 : 0 < X + U) => show ∃ p q, payF xss (onl k r) (prS k i j X U) = .agg #[.int .i64 p, .int .i64 q] ∧ pb (POk xss (onl k r) (prS k i j X U)) = true ∧ p = frU (g2 xss r i * X + g2 xss r j * U) (X + U) ∧ q = frD (g2 xss r i * X + g2 xss r j * U) (X + U) ∧ (-1000 ≤ p ∧ p ≤ 1000) ∧ 1 ≤ q ∧ q ≤ 200 from by
        have hvs := pr_VS (X := X) (Y := U) HIJ.out hi hj (by omega) (by omega) h2
        have hok : POk xss (onl k r) (prS k i j X U) := ⟨HVV.out.1, by rw [LX.out]; exact onl_VS hr, by rw [hgl]; exact hvs⟩
        have b1 := HVV.out.1.bd (i := r) (j := i) (by rw [LX.out]; exact hr) (by rw [hgl]; exact hi)
        have b2 := HVV.out.1.bd (i := r) (j := j) (by rw [LX.out]; exact hr) (by rw [hgl]; exact hj)
        have m1 := mulbd (x := g2 xss r i) (y := X) (A := 9) (B := 72) (by omega) (by omega)
        have m2 := mulbd (x := g2 xss r j) (y := U) (A := 9) (B := 36) (by omega) (by omega)
        refine ⟨_, _, ?_, pb_true hok, rfl, rfl, ?_, ?_⟩
        · rw [payF_yes hok, hgl, LX.out, payU_alone _ _ _ _ _ hr, tot_onl hr, Int.one_mul, tot_pr HIJ.out hi hj, dotr_pr HIJ.out hi hj]; rfl
        · have := frU_bd (u := g2 xss r i * X + g2 xss r j * U) (d := X + U) (B := 1000) h2 (by omega); exact this
        · have := frD_bd (u := g2 xss r i * X + g2 xss r j * U) (d := X + U) (B := 200) h2 (by omega); exact this)
      obtain ⟨p1, p2, hp, hpk, hp1, hp2, ⟨pb1, pb2⟩, pb3, pb4⟩ := HPAY.out (D - U) i hi (by omega) (by omega) (by omega)
      obtain ⟨q1, q2, hq, hqk, hq1, hq2, ⟨qb1, qb2⟩, qb3, qb4⟩ := HPAY.out (D - U) j hj (by omega) (by omega) (by omega)
      have HPF := Lib.hid hp
      have HPK := Lib.hid hpk
      have HQF := Lib.hid hq
      have HQK := Lib.hid hqk
      have HP1 := Lib.hid hp1
      have HP2 := Lib.hid hp2
      have HQ1 := Lib.hid hq1
      have HQ2 := Lib.hid hq2
      clear hp hpk hq hqk hp1 hp2 hq1 hq2 hgl
      have HC := Lib.hid (BarrierOf_impl _ _ _ xss (i : Int) (j : Int) w1 HR.out ⟨by omega, by omega⟩ ⟨by omega, by omega⟩)
      rw [HBF.out, HPT.out] at HC
      go_wp2_with fail
      refine HC.out.mono ?_
      rintro e w2 ⟨rfl, hb⟩
      have HR_2 := Lib.hid (HR.out.keep (Keep.below hb))
      have B_2 := Lib.hid (below_up B1.out hb)
      clear hb HC HR B1
      have hal := below_alloc w2 (.cells #[.int .i64 U, .int .i64 D] 37)
      have HR_2b := Lib.hid (HR_2.out.keep (Keep.below hal))
      have B_2b := Lib.hid (below_up B_2.out hal)
      have V0 := Lib.hid (blk_cell (blk_new w2 37 #[.int .i64 U, .int .i64 D]) (i := 0) (v := .int .i64 U) rfl)
      have V1 := Lib.hid (blk_cell (blk_new w2 37 #[.int .i64 U, .int .i64 D]) (i := 1) (v := .int .i64 D) rfl)
      clear hal HR_2 B_2
      have HC := Lib.hid (BarrierOf_spec _ _ _ xss (i : Int) (j : Int) (w2.alloc (.cells #[.int .i64 U, .int .i64 D] 37)) HR_2b.out ⟨by omega, by omega⟩ ⟨by omega, by omega⟩)
      rw [HBF.out, HPT.out] at HC
      go_wp2_with fail
      generalize w2.alloc (.cells #[.int .i64 U, .int .i64 D] 37) = w2a at *
      generalize w2.heap.size = h2a at *
      refine HC.out.mono ?_
      rintro e w3 ⟨rfl, hb⟩
      have HR_3 := Lib.hid (HR_2b.out.keep (Keep.below hb))
      have V0_3 := Lib.hid (Keep.below hb _ _ V0.out)
      have V1_3 := Lib.hid (Keep.below hb _ _ V1.out)
      have B_3 := Lib.hid (below_up B_2b.out hb)
      clear hb HC HR_2b V0 V1 B_2b
      have hal := below_alloc w3 (.cells #[.int .i64 U, .int .i64 D] 37)
      have HR_3b := Lib.hid (HR_3.out.keep (Keep.below hal))
      have V0_3b := Lib.hid (Keep.below hal _ _ V0_3.out)
      have V1_3b := Lib.hid (Keep.below hal _ _ V1_3.out)
      have B_3b := Lib.hid (below_up B_3.out hal)
      have E0 := Lib.hid (blk_cell (blk_new w3 37 #[.int .i64 U, .int .i64 D]) (i := 0) (v := .int .i64 U) rfl)
      have E1 := Lib.hid (blk_cell (blk_new w3 37 #[.int .i64 U, .int .i64 D]) (i := 1) (v := .int .i64 D) rfl)
      clear hal HR_3 V0_3 V1_3 B_3
      have HC := Lib.hid (pairShares_any k i j (D - U) U (w3.alloc (.cells #[.int .i64 U, .int .i64 D] 37)) (by omega) hi hj (by omega) (by omega))
      have q_V0 := V0_3b.out
      have q_V1 := V1_3b.out
      have q_E0 := E0.out
      have q_E1 := E1.out
      go_wp2_with fail
      generalize w3.alloc (.cells #[.int .i64 U, .int .i64 D] 37) = w3a at *
      generalize w3.heap.size = h3a at *
      refine HC.out.mono ?_
      rintro e w4 ⟨A7, n7, c7, g7, rfl, hn7, ho, hb⟩
      have HR_4 := Lib.hid (HR_3b.out.keep (Keep.below hb))
      have V0_4 := Lib.hid (Keep.below hb _ _ V0_3b.out)
      have V1_4 := Lib.hid (Keep.below hb _ _ V1_3b.out)
      have E0_4 := Lib.hid (Keep.below hb _ _ E0.out)
      have E1_4 := Lib.hid (Keep.below hb _ _ E1.out)
      have B_4 := Lib.hid (below_up B_3b.out hb)
      have HSH := Lib.hid ho.ints
      clear ho
      obtain rfl : n7 = k := by rw [hn7, prS_len]
      clear hn7
      clear hb HC HR_3b V0_3b V1_3b E0 E1 B_3b q_V0 q_V1 q_E0 q_E1
      clear E0_4
      clear E1_4
      have HC := Lib.hid (onlyOne_any n7 i w4 (by omega) hi)
      go_wp2_with fail
      refine HC.out.mono ?_
      rintro e w5 ⟨rfl, ho, hb⟩
      have HR_5 := Lib.hid (HR_4.out.keep (Keep.below hb))
      have V0_5 := Lib.hid (Keep.below hb _ _ V0_4.out)
      have V1_5 := Lib.hid (Keep.below hb _ _ V1_4.out)
      have HSH_5 := Lib.hid (HSH.out.keep (Keep.below hb))
      have B_5 := Lib.hid (below_up B_4.out hb)
      have HO5 := Lib.hid ho.ints
      clear ho
      clear hb HC HR_4 V0_4 V1_4 HSH B_4
      have HC := Lib.hid (PayOf_impl _ _ _ _ _ _ _ _ _ xss (onl n7 i) (prS n7 i j (D - U) U) w5 HR_5.out HO5.out HSH_5.out)
      rw [HPF.out, HPK.out] at HC
      go_wp2_with fail
      refine HC.out.mono ?_
      rintro e w6 ⟨rfl, hb⟩
      have HR_6 := Lib.hid (HR_5.out.keep (Keep.below hb))
      have V0_6 := Lib.hid (Keep.below hb _ _ V0_5.out)
      have V1_6 := Lib.hid (Keep.below hb _ _ V1_5.out)
      have HSH_6 := Lib.hid (HSH_5.out.keep (Keep.below hb))
      have HOX_6 := Lib.hid (HO5.out.keep (Keep.below hb))
      have B_6 := Lib.hid (below_up B_5.out hb)
      clear hb HC HR_5 V0_5 V1_5 HSH_5 HO5 B_5
      clear HOX_6
      have hal := below_alloc w6 (.cells #[.int .i64 p1, .int .i64 p2] 37)
      have HR_6b := Lib.hid (HR_6.out.keep (Keep.below hal))
      have V0_6b := Lib.hid (Keep.below hal _ _ V0_6.out)
      have V1_6b := Lib.hid (Keep.below hal _ _ V1_6.out)
      have HSH_6b := Lib.hid (HSH_6.out.keep (Keep.below hal))
      have B_6b := Lib.hid (below_up B_6.out hal)
      have P0 := Lib.hid (blk_cell (blk_new w6 37 #[.int .i64 p1, .int .i64 p2]) (i := 0) (v := .int .i64 p1) rfl)
      have P1 := Lib.hid (blk_cell (blk_new w6 37 #[.int .i64 p1, .int .i64 p2]) (i := 1) (v := .int .i64 p2) rfl)
      clear hal HR_6 V0_6 V1_6 HSH_6 B_6
      have HC := Lib.hid (onlyOne_any n7 j (w6.alloc (.cells #[.int .i64 p1, .int .i64 p2] 37)) (by omega) hj)
      go_wp2_with fail
      generalize w6.alloc (.cells #[.int .i64 p1, .int .i64 p2] 37) = w6a at *
      generalize w6.heap.size = h6a at *
      refine HC.out.mono ?_
      rintro e w7 ⟨rfl, ho, hb⟩
      have HR_7 := Lib.hid (HR_6b.out.keep (Keep.below hb))
      have V0_7 := Lib.hid (Keep.below hb _ _ V0_6b.out)
      have V1_7 := Lib.hid (Keep.below hb _ _ V1_6b.out)
      have HSH_7 := Lib.hid (HSH_6b.out.keep (Keep.below hb))
      have P0_7 := Lib.hid (Keep.below hb _ _ P0.out)
      have P1_7 := Lib.hid (Keep.below hb _ _ P1.out)
      have B_7 := Lib.hid (below_up B_6b.out hb)
      have HO7 := Lib.hid ho.ints
      clear ho
      clear hb HC HR_6b V0_6b V1_6b HSH_6b P0 P1 B_6b
      have HC := Lib.hid (PayOf_impl _ _ _ _ _ _ _ _ _ xss (onl n7 j) (prS n7 i j (D - U) U) w7 HR_7.out HO7.out HSH_7.out)
      rw [HQF.out, HQK.out] at HC
      go_wp2_with fail
      refine HC.out.mono ?_
      rintro e w8 ⟨rfl, hb⟩
      have HR_8 := Lib.hid (HR_7.out.keep (Keep.below hb))
      have V0_8 := Lib.hid (Keep.below hb _ _ V0_7.out)
      have V1_8 := Lib.hid (Keep.below hb _ _ V1_7.out)
      have HSH_8 := Lib.hid (HSH_7.out.keep (Keep.below hb))
      have P0_8 := Lib.hid (Keep.below hb _ _ P0_7.out)
      have P1_8 := Lib.hid (Keep.below hb _ _ P1_7.out)
      have HOX_8 := Lib.hid (HO7.out.keep (Keep.below hb))
      have B_8 := Lib.hid (below_up B_7.out hb)
      clear hb HC HR_7 V0_7 V1_7 HSH_7 P0_7 P1_7 HO7 B_7
      clear HOX_8
      have hal := below_alloc w8 (.cells #[.int .i64 q1, .int .i64 q2] 37)
      have HR_8b := Lib.hid (HR_8.out.keep (Keep.below hal))
      have V0_8b := Lib.hid (Keep.below hal _ _ V0_8.out)
      have V1_8b := Lib.hid (Keep.below hal _ _ V1_8.out)
      have HSH_8b := Lib.hid (HSH_8.out.keep (Keep.below hal))
      have P0_8b := Lib.hid (Keep.below hal _ _ P0_8.out)
      have P1_8b := Lib.hid (Keep.below hal _ _ P1_8.out)
      have B_8b := Lib.hid (below_up B_8.out hal)
      have Q0 := Lib.hid (blk_cell (blk_new w8 37 #[.int .i64 q1, .int .i64 q2]) (i := 0) (v := .int .i64 q1) rfl)
      have Q1 := Lib.hid (blk_cell (blk_new w8 37 #[.int .i64 q1, .int .i64 q2]) (i := 1) (v := .int .i64 q2) rfl)
      clear hal HR_8 V0_8 V1_8 HSH_8 P0_8 P1_8 B_8
      clear HSH_8b
      rcases HCS.out with ⟨hz1, hz2⟩ | ⟨ho1, ho2, _, _⟩ | ⟨G, hg, hg1, hg2, hg3, hg4, hg5, hg6⟩
      · have e0 : (U == 0) = true := by rw [beq_iff_eq]; exact hz1
        have e1 : (D == 1) = true := by rw [beq_iff_eq]; exact hz2
        clear hz1 hz2 HCS
        have q_V0 := V0_8b.out
        have q_V1 := V1_8b.out
        have q_P0 := P0_8b.out
        have q_P1 := P1_8b.out
        have q_Q0 := Q0.out
        have q_Q1 := Q1.out
        go_wp2
        go_ret
        exact ⟨by first | rfl | exact ret_bool e1, B_8b.out⟩
      · have e0 : (U == 0) = false := by rw [beq_eq_false_iff_ne]; omega
        have e1 : (D == 1) = true := by rw [beq_iff_eq]; exact ho2
        have e2 : (U == D) = true := by rw [beq_iff_eq]; omega
        clear ho1 ho2 HCS
        have q_V0 := V0_8b.out
        have q_V1 := V1_8b.out
        have q_P0 := P0_8b.out
        have q_P1 := P1_8b.out
        have q_Q0 := Q0.out
        have q_Q1 := Q1.out
        go_wp2
        go_ret
        exact ⟨by first | rfl | exact ret_bool e1, B_8b.out⟩
      · have e0 : (U == 0) = false := by rw [beq_eq_false_iff_ne]; omega
        have e2 : (U == D) = false := by rw [beq_eq_false_iff_ne]; omega
        have hsame := bar_at hg hg1 hg2
        have hah := bar_ahead (a := xss) (i := i) (j := j) (U := U) (D := D) (.inr ⟨G, hg, hg1, hg2, hg3, hg4⟩)
        obtain rfl : q1 = p1 := by rw [HQ1.out, HP1.out, hsame]
        obtain rfl : q2 = p2 := by rw [HQ2.out, HP2.out, hsame]
        obtain ⟨r1, r2, hr, hrk, hr1, hr2, ⟨rb1, rb2⟩, rb3, rb4⟩ := HPAY.out (2 * D - U) i hi (by omega) (by omega) (by omega)
        obtain ⟨s1, s2, hs_, hsk, hs1, hs2, ⟨sb1, sb2⟩, sb3, sb4⟩ := HPAY.out (2 * D - U) j hj (by omega) (by omega) (by omega)
        have HLS := Lib.hid (show lessB s1 s2 r1 r2 = true from by
          unfold lessB
          rw [decide_eq_true_iff, hr1, hr2, hs1, hs2, fr_lt (by omega) (by omega)]
          exact Int.mul_lt_mul_of_pos_right hah (by omega))
        have HRF := Lib.hid hr
        have HRK := Lib.hid hrk
        have HSF := Lib.hid hs_
        have HSK := Lib.hid hsk
        clear hr hrk hr1 hr2 hs_ hsk hs1 hs2 hsame hah hg hg1 hg2 hg3 hg4 HCS HPAY HPF HPK HQF HQK HP1 HP2 HQ1 HQ2
        have HC := Lib.hid (pairShares_any n7 i j (2 * D - U) U (w8.alloc (.cells #[.int .i64 q1, .int .i64 q2] 37)) (by omega) hi hj (by omega) (by omega))
        have q_V0 := V0_8b.out
        have q_V1 := V1_8b.out
        go_wp2_with fail
        generalize w8.alloc (.cells #[.int .i64 q1, .int .i64 q2] 37) = w8a at *
        generalize w8.heap.size = h8a at *
        refine HC.out.mono ?_
        rintro e w9 ⟨A8, n8, c8, g8, rfl, hn8, ho, hb⟩
        have HR_9 := Lib.hid (HR_8b.out.keep (Keep.below hb))
        have V0_9 := Lib.hid (Keep.below hb _ _ V0_8b.out)
        have V1_9 := Lib.hid (Keep.below hb _ _ V1_8b.out)
        have P0_9 := Lib.hid (Keep.below hb _ _ P0_8b.out)
        have P1_9 := Lib.hid (Keep.below hb _ _ P1_8b.out)
        have Q0_9 := Lib.hid (Keep.below hb _ _ Q0.out)
        have Q1_9 := Lib.hid (Keep.below hb _ _ Q1.out)
        have B_9 := Lib.hid (below_up B_8b.out hb)
        have HSN := Lib.hid ho.ints
        clear ho
        obtain rfl : n8 = n7 := by rw [hn8, prS_len]
        clear hn8
        clear hb HC HR_8b V0_8b V1_8b P0_8b P1_8b Q0 Q1 B_8b q_V0 q_V1
        have HC := Lib.hid (onlyOne_any n8 i w9 (by omega) hi)
        go_wp2_with fail
        refine HC.out.mono ?_
        rintro e w10 ⟨rfl, ho, hb⟩
        have HR_10 := Lib.hid (HR_9.out.keep (Keep.below hb))
        have V0_10 := Lib.hid (Keep.below hb _ _ V0_9.out)
        have V1_10 := Lib.hid (Keep.below hb _ _ V1_9.out)
        have P0_10 := Lib.hid (Keep.below hb _ _ P0_9.out)
        have P1_10 := Lib.hid (Keep.below hb _ _ P1_9.out)
        have Q0_10 := Lib.hid (Keep.below hb _ _ Q0_9.out)
        have Q1_10 := Lib.hid (Keep.below hb _ _ Q1_9.out)
        have HSN_10 := Lib.hid (HSN.out.keep (Keep.below hb))
        have B_10 := Lib.hid (below_up B_9.out hb)
        have HO10 := Lib.hid ho.ints
        clear ho
        clear hb HC HR_9 V0_9 V1_9 P0_9 P1_9 Q0_9 Q1_9 HSN B_9
        have HC := Lib.hid (PayOf_impl _ _ _ _ _ _ _ _ _ xss (onl n8 i) (prS n8 i j (2 * D - U) U) w10 HR_10.out HO10.out HSN_10.out)
        rw [HRF.out, HRK.out] at HC
        go_wp2_with fail
        refine HC.out.mono ?_
        rintro e w11 ⟨rfl, hb⟩
        have HR_11 := Lib.hid (HR_10.out.keep (Keep.below hb))
        have V0_11 := Lib.hid (Keep.below hb _ _ V0_10.out)
        have V1_11 := Lib.hid (Keep.below hb _ _ V1_10.out)
        have P0_11 := Lib.hid (Keep.below hb _ _ P0_10.out)
        have P1_11 := Lib.hid (Keep.below hb _ _ P1_10.out)
        have Q0_11 := Lib.hid (Keep.below hb _ _ Q0_10.out)
        have Q1_11 := Lib.hid (Keep.below hb _ _ Q1_10.out)
        have HSN_11 := Lib.hid (HSN_10.out.keep (Keep.below hb))
        have HOX_11 := Lib.hid (HO10.out.keep (Keep.below hb))
        have B_11 := Lib.hid (below_up B_10.out hb)
        clear hb HC HR_10 V0_10 V1_10 P0_10 P1_10 Q0_10 Q1_10 HSN_10 HO10 B_10
        clear HOX_11
        have hal := below_alloc w11 (.cells #[.int .i64 r1, .int .i64 r2] 37)
        have HR_11b := Lib.hid (HR_11.out.keep (Keep.below hal))
        have V0_11b := Lib.hid (Keep.below hal _ _ V0_11.out)
        have V1_11b := Lib.hid (Keep.below hal _ _ V1_11.out)
        have P0_11b := Lib.hid (Keep.below hal _ _ P0_11.out)
        have P1_11b := Lib.hid (Keep.below hal _ _ P1_11.out)
        have Q0_11b := Lib.hid (Keep.below hal _ _ Q0_11.out)
        have Q1_11b := Lib.hid (Keep.below hal _ _ Q1_11.out)
        have HSN_11b := Lib.hid (HSN_11.out.keep (Keep.below hal))
        have B_11b := Lib.hid (below_up B_11.out hal)
        have R0 := Lib.hid (blk_cell (blk_new w11 37 #[.int .i64 r1, .int .i64 r2]) (i := 0) (v := .int .i64 r1) rfl)
        have R1 := Lib.hid (blk_cell (blk_new w11 37 #[.int .i64 r1, .int .i64 r2]) (i := 1) (v := .int .i64 r2) rfl)
        clear hal HR_11 V0_11 V1_11 P0_11 P1_11 Q0_11 Q1_11 HSN_11 B_11
        have HC := Lib.hid (onlyOne_any n8 j (w11.alloc (.cells #[.int .i64 r1, .int .i64 r2] 37)) (by omega) hj)
        go_wp2_with fail
        generalize w11.alloc (.cells #[.int .i64 r1, .int .i64 r2] 37) = w11a at *
        generalize w11.heap.size = h11a at *
        refine HC.out.mono ?_
        rintro e w12 ⟨rfl, ho, hb⟩
        have HR_12 := Lib.hid (HR_11b.out.keep (Keep.below hb))
        have V0_12 := Lib.hid (Keep.below hb _ _ V0_11b.out)
        have V1_12 := Lib.hid (Keep.below hb _ _ V1_11b.out)
        have P0_12 := Lib.hid (Keep.below hb _ _ P0_11b.out)
        have P1_12 := Lib.hid (Keep.below hb _ _ P1_11b.out)
        have Q0_12 := Lib.hid (Keep.below hb _ _ Q0_11b.out)
        have Q1_12 := Lib.hid (Keep.below hb _ _ Q1_11b.out)
        have HSN_12 := Lib.hid (HSN_11b.out.keep (Keep.below hb))
        have R0_12 := Lib.hid (Keep.below hb _ _ R0.out)
        have R1_12 := Lib.hid (Keep.below hb _ _ R1.out)
        have B_12 := Lib.hid (below_up B_11b.out hb)
        have HO12 := Lib.hid ho.ints
        clear ho
        clear hb HC HR_11b V0_11b V1_11b P0_11b P1_11b Q0_11b Q1_11b HSN_11b R0 R1 B_11b
        have HC := Lib.hid (PayOf_impl _ _ _ _ _ _ _ _ _ xss (onl n8 j) (prS n8 i j (2 * D - U) U) w12 HR_12.out HO12.out HSN_12.out)
        rw [HSF.out, HSK.out] at HC
        go_wp2_with fail
        refine HC.out.mono ?_
        rintro e w13 ⟨rfl, hb⟩
        have HR_13 := Lib.hid (HR_12.out.keep (Keep.below hb))
        have V0_13 := Lib.hid (Keep.below hb _ _ V0_12.out)
        have V1_13 := Lib.hid (Keep.below hb _ _ V1_12.out)
        have P0_13 := Lib.hid (Keep.below hb _ _ P0_12.out)
        have P1_13 := Lib.hid (Keep.below hb _ _ P1_12.out)
        have Q0_13 := Lib.hid (Keep.below hb _ _ Q0_12.out)
        have Q1_13 := Lib.hid (Keep.below hb _ _ Q1_12.out)
        have HSN_13 := Lib.hid (HSN_12.out.keep (Keep.below hb))
        have R0_13 := Lib.hid (Keep.below hb _ _ R0_12.out)
        have R1_13 := Lib.hid (Keep.below hb _ _ R1_12.out)
        have HOX_13 := Lib.hid (HO12.out.keep (Keep.below hb))
        have B_13 := Lib.hid (below_up B_12.out hb)
        clear hb HC HR_12 V0_12 V1_12 P0_12 P1_12 Q0_12 Q1_12 HSN_12 R0_12 R1_12 HO12 B_12
        clear HOX_13
        have hal := below_alloc w13 (.cells #[.int .i64 s1, .int .i64 s2] 37)
        have HR_13b := Lib.hid (HR_13.out.keep (Keep.below hal))
        have V0_13b := Lib.hid (Keep.below hal _ _ V0_13.out)
        have V1_13b := Lib.hid (Keep.below hal _ _ V1_13.out)
        have P0_13b := Lib.hid (Keep.below hal _ _ P0_13.out)
        have P1_13b := Lib.hid (Keep.below hal _ _ P1_13.out)
        have Q0_13b := Lib.hid (Keep.below hal _ _ Q0_13.out)
        have Q1_13b := Lib.hid (Keep.below hal _ _ Q1_13.out)
        have HSN_13b := Lib.hid (HSN_13.out.keep (Keep.below hal))
        have R0_13b := Lib.hid (Keep.below hal _ _ R0_13.out)
        have R1_13b := Lib.hid (Keep.below hal _ _ R1_13.out)
        have B_13b := Lib.hid (below_up B_13.out hal)
        have S0 := Lib.hid (blk_cell (blk_new w13 37 #[.int .i64 s1, .int .i64 s2]) (i := 0) (v := .int .i64 s1) rfl)
        have S1 := Lib.hid (blk_cell (blk_new w13 37 #[.int .i64 s1, .int .i64 s2]) (i := 1) (v := .int .i64 s2) rfl)
        clear hal HR_13 V0_13 V1_13 P0_13 P1_13 Q0_13 Q1_13 HSN_13 R0_13 R1_13 B_13
        have HC := Lib.hid (HLS.out ▸ lessOf_any s1 s2 r1 r2 (w13.alloc (.cells #[.int .i64 s1, .int .i64 s2] 37)) (by omega) (by omega) (by omega) (by omega))
        have q_P0 := P0_13b.out
        have q_P1 := P1_13b.out
        have q_Q0 := Q0_13b.out
        have q_Q1 := Q1_13b.out
        have q_R0 := R0_13b.out
        have q_R1 := R1_13b.out
        have q_S0 := S0.out
        have q_S1 := S1.out
        go_wp2_with fail
        generalize w13.alloc (.cells #[.int .i64 s1, .int .i64 s2] 37) = w13a at *
        generalize w13.heap.size = h13a at *
        refine HC.out.mono ?_
        rintro e w14 ⟨rfl, hb⟩
        have HR_14 := Lib.hid (HR_13b.out.keep (Keep.below hb))
        have V0_14 := Lib.hid (Keep.below hb _ _ V0_13b.out)
        have V1_14 := Lib.hid (Keep.below hb _ _ V1_13b.out)
        have P0_14 := Lib.hid (Keep.below hb _ _ P0_13b.out)
        have P1_14 := Lib.hid (Keep.below hb _ _ P1_13b.out)
        have Q0_14 := Lib.hid (Keep.below hb _ _ Q0_13b.out)
        have Q1_14 := Lib.hid (Keep.below hb _ _ Q1_13b.out)
        have HSN_14 := Lib.hid (HSN_13b.out.keep (Keep.below hb))
        have R0_14 := Lib.hid (Keep.below hb _ _ R0_13b.out)
        have R1_14 := Lib.hid (Keep.below hb _ _ R1_13b.out)
        have S0_14 := Lib.hid (Keep.below hb _ _ S0.out)
        have S1_14 := Lib.hid (Keep.below hb _ _ S1.out)
        have B_14 := Lib.hid (below_up B_13b.out hb)
        clear hb HC HR_13b V0_13b V1_13b P0_13b P1_13b Q0_13b Q1_13b HSN_13b R0_13b R1_13b S0 S1 B_13b q_P0 q_P1 q_Q0 q_Q1 q_R0 q_R1 q_S0 q_S1
        have q_V0 := V0_14.out
        have q_V1 := V1_14.out
        go_wp2
        go_ret
        exact ⟨rfl, B_14.out⟩
    · have HNO := Lib.hid (show barF xss i j = .agg #[.int .i64 0, .int .i64 0] ∧ pb (BOk xss i j) = false from ⟨barF_no hok, pb_false hok⟩)
      clear hok
      have HC := Lib.hid (BarrierOf_impl _ _ _ xss i j w1 HR.out ⟨by omega, by omega⟩ ⟨by omega, by omega⟩)
      rw [HNO.out.1, HNO.out.2] at HC
      go_wp2_with fail
      refine HC.out.mono ?_
      rintro e w2 ⟨rfl, hb⟩
      have HR_2 := Lib.hid (HR.out.keep (Keep.below hb))
      have B_2 := Lib.hid (below_up B1.out hb)
      clear hb HC HR B1
      have hal := below_alloc w2 (.cells #[.int .i64 0, .int .i64 0] 37)
      have HR_2b := Lib.hid (HR_2.out.keep (Keep.below hal))
      have B_2b := Lib.hid (below_up B_2.out hal)
      have V0 := Lib.hid (blk_cell (blk_new w2 37 #[.int .i64 0, .int .i64 0]) (i := 0) (v := .int .i64 0) rfl)
      have V1 := Lib.hid (blk_cell (blk_new w2 37 #[.int .i64 0, .int .i64 0]) (i := 1) (v := .int .i64 0) rfl)
      clear hal HR_2 B_2
      have HC := Lib.hid (BarrierOf_spec _ _ _ xss i j (w2.alloc (.cells #[.int .i64 0, .int .i64 0] 37)) HR_2b.out ⟨by omega, by omega⟩ ⟨by omega, by omega⟩)
      rw [HNO.out.1, HNO.out.2] at HC
      go_wp2_with fail
      generalize w2.alloc (.cells #[.int .i64 0, .int .i64 0] 37) = w2a at *
      generalize w2.heap.size = h2a at *
      refine HC.out.mono ?_
      rintro e w3 ⟨rfl, hb⟩
      have HR_3 := Lib.hid (HR_2b.out.keep (Keep.below hb))
      have V0_3 := Lib.hid (Keep.below hb _ _ V0.out)
      have V1_3 := Lib.hid (Keep.below hb _ _ V1.out)
      have B_3 := Lib.hid (below_up B_2b.out hb)
      clear hb HC HR_2b V0 V1 B_2b
      have hal := below_alloc w3 (.cells #[.int .i64 0, .int .i64 0] 37)
      have HR_3b := Lib.hid (HR_3.out.keep (Keep.below hal))
      have V0_3b := Lib.hid (Keep.below hal _ _ V0_3.out)
      have V1_3b := Lib.hid (Keep.below hal _ _ V1_3.out)
      have B_3b := Lib.hid (below_up B_3.out hal)
      have E0 := Lib.hid (blk_cell (blk_new w3 37 #[.int .i64 0, .int .i64 0]) (i := 0) (v := .int .i64 0) rfl)
      have E1 := Lib.hid (blk_cell (blk_new w3 37 #[.int .i64 0, .int .i64 0]) (i := 1) (v := .int .i64 0) rfl)
      clear hal HR_3 V0_3 V1_3 B_3
      have q_V0 := V0_3b.out
      have q_V1 := V1_3b.out
      have q_E0 := E0.out
      have q_E1 := E1.out
      go_wp2
      go_ret
      exact ⟨rfl, B_3b.out⟩

set_option maxRecDepth 100000 in
theorem hFnBarrierOf_lifted (os : Os) (started : os.Started) (H : Type) (enc : TypeId × Value → H) :
    ReturnsInHanded {} Try.checked os 5 .any (Rows.fnBarrierOfSpec.pre6 enc Try.prog Try.f5 Rows.fnBarrierOfRow.domain false) (Rows.fnBarrierOfSpec.post enc Try.prog Try.f5 false true false false) := by
  refine returnsInHanded_of_change_sized (C := Try.checked) Try.own started (by kernel_rfl) Try.func5
    (ChangeSpec.witness6 (enc := enc) (C := Try.checked) false ⟨#[], #[.slice none 0 0], []⟩ 8 (by kernel_rfl) (by kernel_rfl) (by kernel_rfl) (by kernel_rfl)) ?_
  intro W base args ds gs before hval0 hW _ hwt _
  have hval : ∀ (j : Nat) t v, Try.f5.params[j]? = some t → args[j]? = some v → Value.okWide Try.prog W .any base t v := hval0
  have hA : ∃ p, DataW.TrodAll enc Try.prog W 0 (fun _ => true) true Try.f5.params.toList args.toList ds p := by obtain ⟨p, q, hA0, _⟩ := hW; exact ⟨p, hA0⟩
  obtain ⟨p, hA⟩ := hA
  have hwt' := weights_arg hwt (j := 0) (t := 22) (by rw [Try.params5]; rfl) (d := ds.getD 0 .nil)
  rw [Try.params5] at hA hval
  obtain ⟨v0, d0, rfl, rfl, h0⟩ := trodAll_one hA
  obtain ⟨A, n, c, rfl, hx⟩ := open_bytes (hval 0 22 v0 rfl rfl) h0 (hwt' rfl)
  refine (fnBarrierOf_calls A n c W hx).mono fun e W' ⟨he, hb⟩ => ?_
  subst he
  exact ⟨_, rfl, law_post (F := Try.f5) rfl rfl (by rw [Try.params5]; simp only [List.mem_cons, List.not_mem_nil, or_false, forall_eq]; exact ⟨by kernel_rfl, of_decide_eq_true (by kernel_rfl)⟩) hW (fun h => by subst h; rfl) hb⟩

theorem hFnBarrierOf_holds : Rows.FnBarrierOfSaid :=
  OpenClaim.holds_of_wide 5 Try.f5 rfl rfl rfl rfl rfl rfl rfl ⟨rfl, rfl, rfl, rfl, rfl⟩ rfl rfl rfl rfl rfl (by kernel_rfl) Try.func5
    (by unfold joinedFacts; simp only [Bool.and_eq_true]; (repeat' apply And.intro) <;> (first | (with_reducible exact prog_enters) | ((with_reducible refine prog_lifts ?_); rfl) | ((with_reducible refine prog_make ?_); rfl) | kernel_rfl))
    (of_decide_eq_true (by kernel_rfl)) (by unfold Func.isWrapper; first | (rw [if_pos (by decide +kernel)]; kernel_rfl) | (rw [if_neg (by decide +kernel)]; exact ⟨rfl, rfl⟩))
    (fun os started H enc _ => hFnBarrierOf_lifted os started H enc)

end Go.Proofs.Ytoekpbcdgmejcaa
