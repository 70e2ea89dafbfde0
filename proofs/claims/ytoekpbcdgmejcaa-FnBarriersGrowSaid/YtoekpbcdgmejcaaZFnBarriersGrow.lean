/- The law FnBarriersGrow holds: for every code, of what it draws, the program tells the barrier as the model does, and with a share of half the barrier the first strategy grows by more than 1, the other one by less. No condition. -/
import Derived.Test.YtoekpbcdgmejcaaQ10
import Derived.Deep.RegionHeld3
namespace Go.Proofs.Ytoekpbcdgmejcaa
open Go.ChangeShapes Go.WideShapes Go.ChangeAt Go.RowKit Go.Deep

set_option maxRecDepth 100000 in
set_option maxHeartbeats 3200000 in
theorem fnBarriersGrow_calls (A : Option Addr) (n c : Nat) (w : World) (hx : Bytes w A n c) :
    Calls Try.prog 10 #[.slice A n c] w fun e w' => e = .returned (.bool true) ∧ Below w.heap.size w w' := by
  have hmx := hx.max
  have H0 := Lib.hid (DrawBarrierOf_any A n c w hx)
  clear hx
  by_cases hs : 1048576 < n
  · go_enter Try.func10, Try.ntmps10
    go_wp2
    go_ret
    exact ⟨rfl, Below.refl _ _⟩
  · go_enter Try.func10, Try.ntmps10
    go_wp2_with fail
    refine H0.out.mono ?_
    rintro e w1 ⟨Av, k, cv, gg, xss, i, j, rfl, hsm, hown, hib, hjb, hb⟩
    have HS := Lib.hid hsm
    have HR := Lib.hid hown.rows
    have B1 := Lib.hid hb
    have LX := Lib.hid hown.rows.len
    obtain ⟨i1, i2⟩ := hib
    obtain ⟨j1, j2⟩ := hjb
    clear hsm hown hb H0
    by_cases hok : BOk xss i j
    · have hv := hok.q
      have hk : 0 < k := by rw [← LX.out]; exact hv.1.n1
      have hk3 : k ≤ 3 := by rw [← LX.out]; exact hv.1.n3
      obtain ⟨i, rfl⟩ : ∃ q : Nat, i = (q : Int) := ⟨i.toNat, by have := hok.ri; unfold InR at this; omega⟩
      obtain ⟨j, rfl⟩ : ∃ q : Nat, j = (q : Int) := ⟨j.toNat, by have := hok.rj; unfold InR at this; omega⟩
      have hi : i < k := by have := hok.ri; unfold InR at this; rw [LX.out] at this; omega
      have hj : j < k := by have := hok.rj; unfold InR at this; rw [LX.out] at this; omega
      have hij : i ≠ j := fun e => hok.ne (by rw [e])
      have HBF := Lib.hid (show barF xss (i : Int) (j : Int) = .agg #[.int .i64 (frU (barU (leadI xss i j) (leadJ xss i j)) (barD (leadI xss i j) (leadJ xss i j))), .int .i64 (frD (barU (leadI xss i j) (leadJ xss i j)) (barD (leadI xss i j) (leadJ xss i j)))] by
        rw [barF_yes hok, Int.toNat_natCast, Int.toNat_natCast]; rfl)
      have hlb := lead_bd hv LX.out hi hj
      have hbf := bar_frac hlb.1 hlb.2
      have HPT := Lib.hid (pb_true hok)
      have HVV := Lib.hid hv
      have HIJ := Lib.hid hij
      clear hok hv hlb hij
      generalize frU (barU (leadI xss i j) (leadJ xss i j)) (barD (leadI xss i j) (leadJ xss i j)) = U at *
      generalize frD (barU (leadI xss i j) (leadJ xss i j)) (barD (leadI xss i j) (leadJ xss i j)) = D at *
      obtain ⟨⟨d1, d2⟩, u1, u2, hcs⟩ := hbf
      have HCS := Lib.hid hcs
      clear hcs
      have hin : (i : Int) < (k : Int) := by omega
      have hjn : (j : Int) < (k : Int) := by omega
      have HC := Lib.hid (BarrierOf_impl _ _ _ xss (i : Int) (j : Int) w1 HR.out ⟨by omega, by omega⟩ ⟨by omega, by omega⟩)
      rw [HBF.out, HPT.out] at HC
      go_wp2_with fail
      refine HC.out.mono ?_
      rintro e w2 ⟨rfl, hb⟩
      have HR_2 := Lib.hid (HR.out.keep (Keep.below hb))
      have B_2 := Lib.hid (below_up B1.out hb)
      clear hb HC HR B1
      have hal := below_alloc w2 (.cells #[.int .i64 U, .int .i64 D] 37)
      have HR_2b := Lib.hid (HR_2.out.keep (Keep.below hal))
      have B_2b := Lib.hid (below_up B_2.out hal)
      have G0 := Lib.hid (blk_cell (blk_new w2 37 #[.int .i64 U, .int .i64 D]) (i := 0) (v := .int .i64 U) rfl)
      have G1 := Lib.hid (blk_cell (blk_new w2 37 #[.int .i64 U, .int .i64 D]) (i := 1) (v := .int .i64 D) rfl)
      clear hal HR_2 B_2
      have HC := Lib.hid (BarrierOf_spec _ _ _ xss (i : Int) (j : Int) (w2.alloc (.cells #[.int .i64 U, .int .i64 D] 37)) HR_2b.out ⟨by omega, by omega⟩ ⟨by omega, by omega⟩)
      rw [HBF.out, HPT.out] at HC
      go_wp2_with fail
      generalize w2.alloc (.cells #[.int .i64 U, .int .i64 D] 37) = w2a at *
      generalize w2.heap.size = h2a at *
      refine HC.out.mono ?_
      rintro e w3 ⟨rfl, hb⟩
      have HR_3 := Lib.hid (HR_2b.out.keep (Keep.below hb))
      have G0_3 := Lib.hid (Keep.below hb _ _ G0.out)
      have G1_3 := Lib.hid (Keep.below hb _ _ G1.out)
      have B_3 := Lib.hid (below_up B_2b.out hb)
      clear hb HC HR_2b G0 G1 B_2b
      have hal := below_alloc w3 (.cells #[.int .i64 U, .int .i64 D] 37)
      have HR_3b := Lib.hid (HR_3.out.keep (Keep.below hal))
      have G0_3b := Lib.hid (Keep.below hal _ _ G0_3.out)
      have G1_3b := Lib.hid (Keep.below hal _ _ G1_3.out)
      have B_3b := Lib.hid (below_up B_3.out hal)
      have E0 := Lib.hid (blk_cell (blk_new w3 37 #[.int .i64 U, .int .i64 D]) (i := 0) (v := .int .i64 U) rfl)
      have E1 := Lib.hid (blk_cell (blk_new w3 37 #[.int .i64 U, .int .i64 D]) (i := 1) (v := .int .i64 D) rfl)
      clear hal HR_3 G0_3 G1_3 B_3
      have HC := Lib.hid (BarrierOf_impl _ _ _ xss (i : Int) (j : Int) (w3.alloc (.cells #[.int .i64 U, .int .i64 D] 37)) HR_3b.out ⟨by omega, by omega⟩ ⟨by omega, by omega⟩)
      rw [HBF.out, HPT.out] at HC
      have q_G0 := G0_3b.out
      have q_G1 := G1_3b.out
      have q_E0 := E0.out
      have q_E1 := E1.out
      go_wp2_with fail
      generalize w3.alloc (.cells #[.int .i64 U, .int .i64 D] 37) = w3a at *
      generalize w3.heap.size = h3a at *
      refine HC.out.mono ?_
      rintro e w4 ⟨rfl, hb⟩
      have HR_4 := Lib.hid (HR_3b.out.keep (Keep.below hb))
      have G0_4 := Lib.hid (Keep.below hb _ _ G0_3b.out)
      have G1_4 := Lib.hid (Keep.below hb _ _ G1_3b.out)
      have E0_4 := Lib.hid (Keep.below hb _ _ E0.out)
      have E1_4 := Lib.hid (Keep.below hb _ _ E1.out)
      have B_4 := Lib.hid (below_up B_3b.out hb)
      clear hb HC HR_3b G0_3b G1_3b E0 E1 B_3b q_G0 q_G1 q_E0 q_E1
      clear G0_4
      clear G1_4
      clear E0_4
      clear E1_4
      have hal := below_alloc w4 (.cells #[.int .i64 U, .int .i64 D] 37)
      have HR_4b := Lib.hid (HR_4.out.keep (Keep.below hal))
      have B_4b := Lib.hid (below_up B_4.out hal)
      have V0 := Lib.hid (blk_cell (blk_new w4 37 #[.int .i64 U, .int .i64 D]) (i := 0) (v := .int .i64 U) rfl)
      have V1 := Lib.hid (blk_cell (blk_new w4 37 #[.int .i64 U, .int .i64 D]) (i := 1) (v := .int .i64 D) rfl)
      clear hal HR_4 B_4
      by_cases hu0 : U = 0
      · have hu0' : (U == 0) = true := by rw [beq_iff_eq]; exact hu0
        clear hu0
        have q_V0 := V0.out
        have q_V1 := V1.out
        go_wp2
        go_ret
        exact ⟨rfl, B_4b.out⟩
      · have hu0' : (U == 0) = false := by rw [beq_eq_false_iff_ne]; exact hu0
        have HGO := Lib.hid (show (U = 1 ∧ D = 1 ∧ HoldL (leadI xss i j) (leadJ xss i j) ∧ 0 ≤ leadJ xss i j) ∨ (∃ k, 0 < k ∧ U * k = leadI xss i j ∧ D * k = leadI xss i j - leadJ xss i j ∧ 0 < leadI xss i j ∧ leadJ xss i j < 0) by
          rcases HCS.out with h | h | ⟨q, h1, h2, h3, h4, h5, _, _⟩
          · exact absurd h.1 hu0
          · exact .inl h
          · exact .inr ⟨q, h1, h2, h3, h4, h5⟩)
        have hup : 0 < U := by omega
        clear hu0 HCS
        have HC := Lib.hid (ValidField_impl _ _ _ xss (w4.alloc (.cells #[.int .i64 U, .int .i64 D] 37)) HR_4b.out)
        by_cases hf : VF xss
        · rw [pb_true hf] at HC
          have hT : 0 < (2 * D - U) + U := by omega
          have hvs := pr_VS (X := 2 * D - U) (Y := U) HIJ.out hi hj (by omega) (by omega) hT
          have hfs := FS.of (x := prS k i j (2 * D - U) U) LX.out hf hvs
          have HGF := Lib.hid (grF_yes hfs)
          have HAH := Lib.hid (bar_ahead (a := xss) (i := i) (j := j) HGO.out)
          have hdi := dotr_pr (a := xss) (X := 2 * D - U) (Y := U) HIJ.out hi hj i
          have hdj := dotr_pr (a := xss) (X := 2 * D - U) (Y := U) HIJ.out hi hj j
          have htt := tot_pr (X := 2 * D - U) (Y := U) HIJ.out hi hj
          have HP := Lib.hid (show gP xss (prS k i j (2 * D - U) U) k = (2 * D - U) * dotr xss (prS k i j (2 * D - U) U) i k + U * dotr xss (prS k i j (2 * D - U) U) j k from by
            unfold gP
            rw [payU_pr HIJ.out hi hj])
          have gu1 := hfs.gu hi
          have gu2 := hfs.gu hj
          have gpb := hfs.gp
          have HL1 := Lib.hid (show lessB 1 1 (frU (gU xss (prS k i j (2 * D - U) U) k i) (gP xss (prS k i j (2 * D - U) U) k)) (frD (gU xss (prS k i j (2 * D - U) U) k i) (gP xss (prS k i j (2 * D - U) U) k)) = true from by
            have h := fr_lt (u := 1) (d := 1) (v := gU xss (prS k i j (2 * D - U) U) k i) (e := gP xss (prS k i j (2 * D - U) U) k) (by omega) (by omega)
            rw [(fr_one 1).1, (fr_one 1).2] at h
            unfold lessB; rw [decide_eq_true_iff, h, HP.out]
            unfold gU
            rw [htt, hdi, hdj]
            have := HAH.out
            have hm := Int.mul_lt_mul_of_pos_left this hup
            generalize g2 xss i i * (2 * D - U) + g2 xss i j * U = x at *
            generalize g2 xss j i * (2 * D - U) + g2 xss j j * U = y at *
            grind)
          have HL2 := Lib.hid (show lessB (frU (gU xss (prS k i j (2 * D - U) U) k j) (gP xss (prS k i j (2 * D - U) U) k)) (frD (gU xss (prS k i j (2 * D - U) U) k j) (gP xss (prS k i j (2 * D - U) U) k)) 1 1 = true from by
            have h := fr_lt (u := gU xss (prS k i j (2 * D - U) U) k j) (d := gP xss (prS k i j (2 * D - U) U) k) (v := 1) (e := 1) (by omega) (by omega)
            rw [(fr_one 1).1, (fr_one 1).2] at h
            unfold lessB; rw [decide_eq_true_iff, h, HP.out]
            unfold gU
            rw [htt, hdi, hdj]
            have := HAH.out
            have hm := Int.mul_lt_mul_of_pos_left this (show 0 < 2 * D - U by omega)
            generalize g2 xss i i * (2 * D - U) + g2 xss i j * U = x at *
            generalize g2 xss j i * (2 * D - U) + g2 xss j j * U = y at *
            grind)
          have bu1 := frU_bd (u := gU xss (prS k i j (2 * D - U) U) k i) (d := gP xss (prS k i j (2 * D - U) U) k) (B := 81000000) (by omega) (by omega)
          have bd1 := frD_bd (u := gU xss (prS k i j (2 * D - U) U) k i) (d := gP xss (prS k i j (2 * D - U) U) k) (B := 81000000) (by omega) (by omega)
          have bu2 := frU_bd (u := gU xss (prS k i j (2 * D - U) U) k j) (d := gP xss (prS k i j (2 * D - U) U) k) (B := 81000000) (by omega) (by omega)
          have bd2 := frD_bd (u := gU xss (prS k i j (2 * D - U) U) k j) (d := gP xss (prS k i j (2 * D - U) U) k) (B := 81000000) (by omega) (by omega)
          have HG1 := Lib.hid (gi_grL xss (prS k i j (2 * D - U) U) k (k := k) hi)
          have HG2 := Lib.hid (gi_grL xss (prS k i j (2 * D - U) U) k (k := k) hj)
          have HGL := Lib.hid (grL_len xss (prS k i j (2 * D - U) U) k k)
          clear hf hvs hfs HAH hdi hdj htt HP gu1 gu2 gpb HGO
          generalize frU (gU xss (prS k i j (2 * D - U) U) k i) (gP xss (prS k i j (2 * D - U) U) k) = p1 at *
          generalize frD (gU xss (prS k i j (2 * D - U) U) k i) (gP xss (prS k i j (2 * D - U) U) k) = p2 at *
          generalize frU (gU xss (prS k i j (2 * D - U) U) k j) (gP xss (prS k i j (2 * D - U) U) k) = q1 at *
          generalize frD (gU xss (prS k i j (2 * D - U) U) k j) (gP xss (prS k i j (2 * D - U) U) k) = q2 at *
          obtain ⟨bu11, bu12⟩ := bu1
          obtain ⟨bd11, bd12⟩ := bd1
          obtain ⟨bu21, bu22⟩ := bu2
          obtain ⟨bd21, bd22⟩ := bd2
          have q_V0 := V0.out
          have q_V1 := V1.out
          go_wp2_with fail
          generalize w4.alloc (.cells #[.int .i64 U, .int .i64 D] 37) = w4a at *
          generalize w4.heap.size = h4a at *
          refine HC.out.mono ?_
          rintro e w5 ⟨rfl, hb⟩
          have HR_5 := Lib.hid (HR_4b.out.keep (Keep.below hb))
          have V0_5 := Lib.hid (Keep.below hb _ _ V0.out)
          have V1_5 := Lib.hid (Keep.below hb _ _ V1.out)
          have B_5 := Lib.hid (below_up B_4b.out hb)
          clear hb HC q_V0 q_V1 HR_4b V0 V1 B_4b
          have HC := Lib.hid (pairShares_any k i j (2 * D - U) U w5 (by omega) hi hj (by omega) (by omega))
          have q_V0 := V0_5.out
          have q_V1 := V1_5.out
          go_wp2_with fail
          refine HC.out.mono ?_
          rintro e w6 ⟨A7, n7, c7, g7, rfl, hn7, ho, hb⟩
          have HR_6 := Lib.hid (HR_5.out.keep (Keep.below hb))
          have V0_6 := Lib.hid (Keep.below hb _ _ V0_5.out)
          have V1_6 := Lib.hid (Keep.below hb _ _ V1_5.out)
          have B_6 := Lib.hid (below_up B_5.out hb)
          have HSH := Lib.hid ho.ints
          clear ho hn7
          clear hb HC HR_5 V0_5 V1_5 B_5 q_V0 q_V1
          have HC := Lib.hid (GrowthOf_impl _ _ _ xss _ _ _ (prS k i j (2 * D - U) U) w6 HR_6.out HSH.out)
          go_wp2_with fail
          refine HC.out.mono ?_
          rintro e w7 ⟨A8, n8, c8, g8, rfl, hl8, ho, hb⟩
          have HR_7 := Lib.hid (HR_6.out.keep (Keep.below hb))
          have V0_7 := Lib.hid (Keep.below hb _ _ V0_6.out)
          have V1_7 := Lib.hid (Keep.below hb _ _ V1_6.out)
          have HSH_7 := Lib.hid (HSH.out.keep (Keep.below hb))
          have B_7 := Lib.hid (below_up B_6.out hb)
          have HFR := Lib.hid ho.frs
          clear ho
          clear hb HC HR_6 V0_6 V1_6 HSH B_6
          rw [HGF.out] at HFR hl8
          obtain rfl : n8 = k := by have := HGL.out; omega
          clear hl8
          obtain ⟨bg, og, rfl, hcg⟩ := HFR.out.at_ hk
          have a0 := hcg (i * 2) (by omega)
          have a1 := (show w7.cell? ⟨bg, og + i * 2 + 1, none⟩ = some (.int .i64 (gi (grL xss (prS n8 i j (2 * D - U) U) n8 n8) (i * 2 + 1))) from hcg (i * 2 + 1) (by omega))
          have b0 := hcg (j * 2) (by omega)
          have b1 := (show w7.cell? ⟨bg, og + j * 2 + 1, none⟩ = some (.int .i64 (gi (grL xss (prS n8 i j (2 * D - U) U) n8 n8) (j * 2 + 1))) from hcg (j * 2 + 1) (by omega))
          rw [HG1.out.1] at a0
          rw [HG1.out.2] at a1
          rw [HG2.out.1] at b0
          rw [HG2.out.2] at b1
          have HKA := Lib.hid (And.intro (And.intro a0 a1) (And.intro b0 b1))
          clear hcg a0 a1 b0 b1 HFR
          have HK0 := Lib.hid (show Keep w7 w7.drew from Keep.drewN w7 1)
          have hkz : ((n8 : Int) == 0) = false := by simp; omega
          have a0 := HKA.out.1.1
          have a1 := HKA.out.1.2
          have b0 := HKA.out.2.1
          have b1 := HKA.out.2.2
          have HBX := Lib.hid B_7.out
          clear B_7
          go_wp2
          go_region_held3 (fun W => (W.cell? ⟨bg, og + i * 2, none⟩ = some (.int .i64 p1) ∧ W.cell? ⟨bg, og + i * 2 + 1, none⟩ = some (.int .i64 p2)) ∧ (W.cell? ⟨bg, og + j * 2, none⟩ = some (.int .i64 q1) ∧ W.cell? ⟨bg, og + j * 2 + 1, none⟩ = some (.int .i64 q2)))
            (first | exact S4.out | exact S3.out | exact S2.out | exact S1.out | exact HKA.out | go_keep)
            (first
            | (go_at_call 34; (with_reducible refine (fracOfL_any 1 1 _ (by unfold Mid; omega) (by unfold Mid; omega) (by omega)).mono ?_); rintro e v1 ⟨he, hb⟩; rw [frV_one 1] at he; subst he; have D1 := Lib.hid (below_up HBX.out.drew hb); have S1 := Lib.hid (And.intro (And.intro (Keep.below hb _ _ HKA.out.1.1) (Keep.below hb _ _ HKA.out.1.2)) (And.intro (Keep.below hb _ _ HKA.out.2.1) (Keep.below hb _ _ HKA.out.2.2))); clear hb)
            | (go_at_call 29; (with_reducible refine (HL1.out ▸ lessOf_any 1 1 p1 p2 _ (by omega) (by omega) (by omega) (by omega)).mono ?_); rintro e v2 ⟨rfl, hb⟩; have D2 := Lib.hid (below_up D1.out hb); have S2 := Lib.hid (And.intro (And.intro (Keep.below hb _ _ S1.out.1.1) (Keep.below hb _ _ S1.out.1.2)) (And.intro (Keep.below hb _ _ S1.out.2.1) (Keep.below hb _ _ S1.out.2.2))); clear hb)
            | (go_at_call 34; (with_reducible refine (fracOfL_any 1 1 _ (by unfold Mid; omega) (by unfold Mid; omega) (by omega)).mono ?_); rintro e v3 ⟨he, hb⟩; rw [frV_one 1] at he; subst he; have D3 := Lib.hid (below_up D2.out hb); have S3 := Lib.hid (And.intro (And.intro (Keep.below hb _ _ S2.out.1.1) (Keep.below hb _ _ S2.out.1.2)) (And.intro (Keep.below hb _ _ S2.out.2.1) (Keep.below hb _ _ S2.out.2.2))); clear hb)
            | (go_at_call 29; (with_reducible refine (HL2.out ▸ lessOf_any q1 q2 1 1 _ (by omega) (by omega) (by omega) (by omega)).mono ?_); rintro e v4 ⟨rfl, hb⟩; have D4 := Lib.hid (below_up D3.out hb); have S4 := Lib.hid (And.intro (And.intro (Keep.below hb _ _ S3.out.1.1) (Keep.below hb _ _ S3.out.1.2)) (And.intro (Keep.below hb _ _ S3.out.2.1) (Keep.below hb _ _ S3.out.2.2))); clear hb))
          all_goals
            clear a0 a1 b0 b1
            go_wp2
            go_ret
            exact ⟨rfl, D4.out⟩
        · rw [pb_false hf] at HC
          clear hf HGO
          have q_V0 := V0.out
          have q_V1 := V1.out
          go_wp2_with fail
          generalize w4.alloc (.cells #[.int .i64 U, .int .i64 D] 37) = w4a at *
          generalize w4.heap.size = h4a at *
          refine HC.out.mono ?_
          rintro e w5 ⟨rfl, hb⟩
          have HR_5 := Lib.hid (HR_4b.out.keep (Keep.below hb))
          have V0_5 := Lib.hid (Keep.below hb _ _ V0.out)
          have V1_5 := Lib.hid (Keep.below hb _ _ V1.out)
          have B_5 := Lib.hid (below_up B_4b.out hb)
          clear hb HC q_V0 q_V1 HR_4b V0 V1 B_4b
          go_wp2
          go_ret
          exact ⟨rfl, B_5.out⟩
    · have HNO := Lib.hid (show barF xss i j = .agg #[.int .i64 0, .int .i64 0] ∧ pb (BOk xss i j) = false from ⟨barF_no hok, pb_false hok⟩)
      clear hok
      have HC := Lib.hid (BarrierOf_impl _ _ _ xss i j w1 HR.out ⟨by omega, by omega⟩ ⟨by omega, by omega⟩)
      rw [HNO.out.1, HNO.out.2] at HC
      go_wp2_with fail
      refine HC.out.mono ?_
      rintro e w2 ⟨rfl, hb⟩
      have HR_2 := Lib.hid (HR.out.keep (Keep.below hb))
      have B_2 := Lib.hid (below_up B1.out hb)
      clear hb HC HR B1
      have hal := below_alloc w2 (.cells #[.int .i64 0, .int .i64 0] 37)
      have HR_2b := Lib.hid (HR_2.out.keep (Keep.below hal))
      have B_2b := Lib.hid (below_up B_2.out hal)
      have G0 := Lib.hid (blk_cell (blk_new w2 37 #[.int .i64 0, .int .i64 0]) (i := 0) (v := .int .i64 0) rfl)
      have G1 := Lib.hid (blk_cell (blk_new w2 37 #[.int .i64 0, .int .i64 0]) (i := 1) (v := .int .i64 0) rfl)
      clear hal HR_2 B_2
      have HC := Lib.hid (BarrierOf_spec _ _ _ xss i j (w2.alloc (.cells #[.int .i64 0, .int .i64 0] 37)) HR_2b.out ⟨by omega, by omega⟩ ⟨by omega, by omega⟩)
      rw [HNO.out.1, HNO.out.2] at HC
      go_wp2_with fail
      generalize w2.alloc (.cells #[.int .i64 0, .int .i64 0] 37) = w2a at *
      generalize w2.heap.size = h2a at *
      refine HC.out.mono ?_
      rintro e w3 ⟨rfl, hb⟩
      have HR_3 := Lib.hid (HR_2b.out.keep (Keep.below hb))
      have G0_3 := Lib.hid (Keep.below hb _ _ G0.out)
      have G1_3 := Lib.hid (Keep.below hb _ _ G1.out)
      have B_3 := Lib.hid (below_up B_2b.out hb)
      clear hb HC HR_2b G0 G1 B_2b
      have hal := below_alloc w3 (.cells #[.int .i64 0, .int .i64 0] 37)
      have HR_3b := Lib.hid (HR_3.out.keep (Keep.below hal))
      have G0_3b := Lib.hid (Keep.below hal _ _ G0_3.out)
      have G1_3b := Lib.hid (Keep.below hal _ _ G1_3.out)
      have B_3b := Lib.hid (below_up B_3.out hal)
      have E0 := Lib.hid (blk_cell (blk_new w3 37 #[.int .i64 0, .int .i64 0]) (i := 0) (v := .int .i64 0) rfl)
      have E1 := Lib.hid (blk_cell (blk_new w3 37 #[.int .i64 0, .int .i64 0]) (i := 1) (v := .int .i64 0) rfl)
      clear hal HR_3 G0_3 G1_3 B_3
      have HC := Lib.hid (BarrierOf_impl _ _ _ xss i j (w3.alloc (.cells #[.int .i64 0, .int .i64 0] 37)) HR_3b.out ⟨by omega, by omega⟩ ⟨by omega, by omega⟩)
      rw [HNO.out.1, HNO.out.2] at HC
      have q_G0 := G0_3b.out
      have q_G1 := G1_3b.out
      have q_E0 := E0.out
      have q_E1 := E1.out
      go_wp2_with fail
      generalize w3.alloc (.cells #[.int .i64 0, .int .i64 0] 37) = w3a at *
      generalize w3.heap.size = h3a at *
      refine HC.out.mono ?_
      rintro e w4 ⟨rfl, hb⟩
      have HR_4 := Lib.hid (HR_3b.out.keep (Keep.below hb))
      have G0_4 := Lib.hid (Keep.below hb _ _ G0_3b.out)
      have G1_4 := Lib.hid (Keep.below hb _ _ G1_3b.out)
      have E0_4 := Lib.hid (Keep.below hb _ _ E0.out)
      have E1_4 := Lib.hid (Keep.below hb _ _ E1.out)
      have B_4 := Lib.hid (below_up B_3b.out hb)
      clear hb HC HR_3b G0_3b G1_3b E0 E1 B_3b q_G0 q_G1 q_E0 q_E1
      clear G0_4
      clear G1_4
      clear E0_4
      clear E1_4
      have hal := below_alloc w4 (.cells #[.int .i64 0, .int .i64 0] 37)
      have HR_4b := Lib.hid (HR_4.out.keep (Keep.below hal))
      have B_4b := Lib.hid (below_up B_4.out hal)
      have V0 := Lib.hid (blk_cell (blk_new w4 37 #[.int .i64 0, .int .i64 0]) (i := 0) (v := .int .i64 0) rfl)
      have V1 := Lib.hid (blk_cell (blk_new w4 37 #[.int .i64 0, .int .i64 0]) (i := 1) (v := .int .i64 0) rfl)
      clear hal HR_4 B_4
      have q_V0 := V0.out
      have q_V1 := V1.out
      go_wp2
      go_ret
      exact ⟨rfl, B_4b.out⟩

set_option maxRecDepth 100000 in
theorem hFnBarriersGrow_lifted (os : Os) (started : os.Started) (H : Type) (enc : TypeId × Value → H) :
    ReturnsInHanded {} Try.checked os 10 .any (Rows.fnBarriersGrowSpec.pre6 enc Try.prog Try.f10 Rows.fnBarriersGrowRow.domain false) (Rows.fnBarriersGrowSpec.post enc Try.prog Try.f10 false true false false) := by
  refine returnsInHanded_of_change_sized (C := Try.checked) Try.own started (by kernel_rfl) Try.func10
    (ChangeSpec.witness6 (enc := enc) (C := Try.checked) false ⟨#[], #[.slice none 0 0], []⟩ 8 (by kernel_rfl) (by kernel_rfl) (by kernel_rfl) (by kernel_rfl)) ?_
  intro W base args ds gs before hval0 hW _ hwt _
  have hval : ∀ (j : Nat) t v, Try.f10.params[j]? = some t → args[j]? = some v → Value.okWide Try.prog W .any base t v := hval0
  have hA : ∃ p, DataW.TrodAll enc Try.prog W 0 (fun _ => true) true Try.f10.params.toList args.toList ds p := by obtain ⟨p, q, hA0, _⟩ := hW; exact ⟨p, hA0⟩
  obtain ⟨p, hA⟩ := hA
  have hwt' := weights_arg hwt (j := 0) (t := 22) (by rw [Try.params10]; rfl) (d := ds.getD 0 .nil)
  rw [Try.params10] at hA hval
  obtain ⟨v0, d0, rfl, rfl, h0⟩ := trodAll_one hA
  obtain ⟨A, n, c, rfl, hx⟩ := open_bytes (hval 0 22 v0 rfl rfl) h0 (hwt' rfl)
  refine (fnBarriersGrow_calls A n c W hx).mono fun e W' ⟨he, hb⟩ => ?_
  subst he
  exact ⟨_, rfl, law_post (F := Try.f10) rfl rfl (by rw [Try.params10]; simp only [List.mem_cons, List.not_mem_nil, or_false, forall_eq]; exact ⟨by kernel_rfl, of_decide_eq_true (by kernel_rfl)⟩) hW (fun h => by subst h; rfl) hb⟩

theorem hFnBarriersGrow_holds : Rows.FnBarriersGrowSaid :=
  OpenClaim.holds_of_wide 10 Try.f10 rfl rfl rfl rfl rfl rfl rfl ⟨rfl, rfl, rfl, rfl, rfl⟩ rfl rfl rfl rfl rfl (by kernel_rfl) Try.func10
    (by unfold joinedFacts; simp only [Bool.and_eq_true]; (repeat' apply And.intro) <;> (first | (with_reducible exact prog_enters) | ((with_reducible refine prog_lifts ?_); rfl) | ((with_reducible refine prog_make ?_); rfl) | kernel_rfl))
    (of_decide_eq_true (by kernel_rfl)) (by unfold Func.isWrapper; first | (rw [if_pos (by decide +kernel)]; kernel_rfl) | (rw [if_neg (by decide +kernel)]; exact ⟨rfl, rfl⟩))
    (fun os started H enc _ => hFnBarriersGrow_lifted os started H enc)

end Go.Proofs.Ytoekpbcdgmejcaa
