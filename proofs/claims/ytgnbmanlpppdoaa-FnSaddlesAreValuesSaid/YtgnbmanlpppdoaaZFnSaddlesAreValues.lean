/- The law FnSaddlesAreValues holds: for every code, of the table that it draws, the program's ValueOf answers as the model's, the number at each pure rest of the table and it with the other signs is the value, and there is one exactly if both make the same sure. No condition. -/
import Derived.Test.YtgnbmanlpppdoaaQ8
import Derived.Deep.RegionHeld3
namespace Go.Proofs.Ytgnbmanlpppdoaa
open Go.ChangeShapes Go.WideShapes Go.ChangeAt Go.RowKit Go.Deep

set_option maxRecDepth 100000 in
set_option maxHeartbeats 3200000 in
theorem fnSaddlesAreValues_calls (A : Option Addr) (n c : Nat) (w : World) (hx : Bytes w A n c) :
    Calls Try.prog 9 #[.slice A n c] w fun e w' => e = .returned (.bool true) ∧ Below w.heap.size w w' := by
  have hmx := hx.max
  have H0 := Lib.hid (DrawValueOf_any A n c w hx)
  clear hx
  by_cases hs : 1048576 < n
  · go_enter Try.func9, Try.ntmps9
    go_wp2
    go_ret
    exact ⟨rfl, Below.refl _ _⟩
  · go_enter Try.func9, Try.ntmps9
    go_wp2_with fail
    refine H0.out.mono ?_
    rintro e w1 ⟨Av, k, cv, gg, xss, rfl, hsm, hown, hb⟩
    have HS := Lib.hid hsm
    have HR := Lib.hid hown.rows
    have B1 := Lib.hid hb
    have LX := Lib.hid hown.rows.len
    clear hsm hown hb H0
    obtain ⟨U, D, hUD⟩ : ∃ U D, vF xss = (U, D) := ⟨_, _, rfl⟩
    have HUD := Lib.hid hUD
    have HUV := Lib.hid (wstV_eq _ hUD)
    clear hUD
    by_cases hv : VT xss
    · have HV := Lib.hid hv
      have HTV := Lib.hid (pb_true hv)
      have hk : 0 < k := by rw [← LX.out]; exact hv.n1
      have hk3 : k ≤ 3 := by rw [← LX.out]; exact hv.n3
      have hm1 := hv.m1
      have hm3 := hv.m3
      have HRT := Lib.hid (fun q (hq : q < (pureR xss (oth xss)).length) => show ∃ i j, i < k ∧ j < (gr xss 0).length ∧ gr (pureR xss (oth xss)) q = [(i : Int), (j : Int)] ∧ g2 xss i j = U ∧ D = 1 by
        obtain ⟨i, j, h1, h2, h3, h4⟩ := (pureR_oth hv).1 (gr_mem hq)
        have h5 := sad_value hv h1 h2 h4
        rw [HUD.out] at h5
        exact ⟨i, j, by rw [← LX.out]; exact h1, h2, h3, (Prod.mk.inj h5).1.symm, (Prod.mk.inj h5).2⟩)
      have hbd := vF_bd hv
      rw [HUD.out] at hbd
      obtain ⟨⟨u1, u2⟩, d1, d2⟩ := hbd
      simp only at u1 u2 d1 d2
      have HFIN := Lib.hid (saddles hv)
      have HVN := Lib.hid (pb_true hv.ntab)
      have hob : -9 ≤ srNum (ntab xss) ∧ srNum (ntab xss) ≤ 9 := by rw [srNum_yes hv.ntab]; exact lst_bd9 hv.ntab (bst_lt' hv.ntab)
      obtain ⟨b, oo, rb, ro, cc, rfl, tab⟩ := HR.out.tab hv
      have TB := Lib.hid tab
      have hlen : (pureR xss (oth xss)).length ≤ 9 := by
        have h1 := allRests_len xss (oth xss) xss.length (gr xss 0).length hv.m3 xss.length
        have h2 := hv.n3
        unfold pureR; rw [if_pos (pb_true hv.oth_game)]; omega
      clear tab hv
      have HC := Lib.hid (ValueOf_impl _ k cv xss w1 HR.out)
      rw [HUV.out, HTV.out] at HC
      go_wp2_with fail
      refine HC.out.mono ?_
      rintro e w2 ⟨rfl, hb⟩
      have HR_2 := Lib.hid (HR.out.keep (Keep.below hb))
      have TB_2 := Lib.hid (TB.out.keep (Keep.below hb))
      have B_2 := Lib.hid (below_up B1.out hb)
      clear hb HC HR TB B1
      have hal := below_alloc w2 (.cells #[.int .i64 U, .int .i64 D] 28)
      have HR_2b := Lib.hid (HR_2.out.keep (Keep.below hal))
      have TB_2b := Lib.hid (TB_2.out.keep (Keep.below hal))
      have B_2b := Lib.hid (below_up B_2.out hal)
      have G0 := Lib.hid (blk_cell (blk_new w2 28 #[.int .i64 U, .int .i64 D]) (i := 0) (v := .int .i64 U) rfl)
      have G1 := Lib.hid (blk_cell (blk_new w2 28 #[.int .i64 U, .int .i64 D]) (i := 1) (v := .int .i64 D) rfl)
      clear hal HR_2 TB_2 B_2
      have HC := Lib.hid (ValueOf_spec _ k cv xss (w2.alloc (.cells #[.int .i64 U, .int .i64 D] 28)) HR_2b.out)
      rw [HUV.out, HTV.out] at HC
      go_wp2_with fail
      generalize w2.alloc (.cells #[.int .i64 U, .int .i64 D] 28) = w2a at *
      generalize w2.heap.size = h2a at *
      refine HC.out.mono ?_
      rintro e w3 ⟨rfl, hb⟩
      have HR_3 := Lib.hid (HR_2b.out.keep (Keep.below hb))
      have TB_3 := Lib.hid (TB_2b.out.keep (Keep.below hb))
      have G0_3 := Lib.hid (Keep.below hb _ _ G0.out)
      have G1_3 := Lib.hid (Keep.below hb _ _ G1.out)
      have B_3 := Lib.hid (below_up B_2b.out hb)
      clear hb HC HR_2b TB_2b G0 G1 B_2b
      have hal := below_alloc w3 (.cells #[.int .i64 U, .int .i64 D] 28)
      have HR_3b := Lib.hid (HR_3.out.keep (Keep.below hal))
      have TB_3b := Lib.hid (TB_3.out.keep (Keep.below hal))
      have G0_3b := Lib.hid (Keep.below hal _ _ G0_3.out)
      have G1_3b := Lib.hid (Keep.below hal _ _ G1_3.out)
      have B_3b := Lib.hid (below_up B_3.out hal)
      have E0 := Lib.hid (blk_cell (blk_new w3 28 #[.int .i64 U, .int .i64 D]) (i := 0) (v := .int .i64 U) rfl)
      have E1 := Lib.hid (blk_cell (blk_new w3 28 #[.int .i64 U, .int .i64 D]) (i := 1) (v := .int .i64 D) rfl)
      clear hal HR_3 TB_3 G0_3 G1_3 B_3
      have HC := Lib.hid (ValueOf_impl _ k cv xss (w3.alloc (.cells #[.int .i64 U, .int .i64 D] 28)) HR_3b.out)
      rw [HUV.out, HTV.out] at HC
      have q_G0 := G0_3b.out
      have q_G1 := G1_3b.out
      have q_E0 := E0.out
      have q_E1 := E1.out
      go_wp2_with fail
      generalize w3.alloc (.cells #[.int .i64 U, .int .i64 D] 28) = w3a at *
      generalize w3.heap.size = h3a at *
      refine HC.out.mono ?_
      rintro e w4 ⟨rfl, hb⟩
      have HR_4 := Lib.hid (HR_3b.out.keep (Keep.below hb))
      have TB_4 := Lib.hid (TB_3b.out.keep (Keep.below hb))
      have G0_4 := Lib.hid (Keep.below hb _ _ G0_3b.out)
      have G1_4 := Lib.hid (Keep.below hb _ _ G1_3b.out)
      have E0_4 := Lib.hid (Keep.below hb _ _ E0.out)
      have E1_4 := Lib.hid (Keep.below hb _ _ E1.out)
      have B_4 := Lib.hid (below_up B_3b.out hb)
      clear hb HC HR_3b TB_3b G0_3b G1_3b E0 E1 B_3b q_G0 q_G1 q_E0 q_E1
      clear G0_4
      clear G1_4
      clear E0_4
      clear E1_4
      have hal := below_alloc w4 (.cells #[.int .i64 U, .int .i64 D] 28)
      have HR_4b := Lib.hid (HR_4.out.keep (Keep.below hal))
      have TB_4b := Lib.hid (TB_4.out.keep (Keep.below hal))
      have B_4b := Lib.hid (below_up B_4.out hal)
      have V0 := Lib.hid (blk_cell (blk_new w4 28 #[.int .i64 U, .int .i64 D]) (i := 0) (v := .int .i64 U) rfl)
      have V1 := Lib.hid (blk_cell (blk_new w4 28 #[.int .i64 U, .int .i64 D]) (i := 1) (v := .int .i64 D) rfl)
      clear hal HR_4 TB_4 B_4
      have HC := Lib.hid (minusOf_any _ k cv xss (w4.alloc (.cells #[.int .i64 U, .int .i64 D] 28)) HR_4b.out HS.out)
      go_wp2_with fail
      generalize w4.alloc (.cells #[.int .i64 U, .int .i64 D] 28) = w4a at *
      generalize w4.heap.size = h4a at *
      refine HC.out.mono ?_
      rintro e w5 ⟨A3, n3, cc3, gg3, rfl, -, ho, hb⟩
      have HR_5 := Lib.hid (HR_4b.out.keep (Keep.below hb))
      have TB_5 := Lib.hid (TB_4b.out.keep (Keep.below hb))
      have V0_5 := Lib.hid (Keep.below hb _ _ V0.out)
      have V1_5 := Lib.hid (Keep.below hb _ _ V1.out)
      have B_5 := Lib.hid (below_up B_4b.out hb)
      have HN := Lib.hid (show IntRows w5 A3 n3 cc3 (oth xss) from ho.rows)
      clear ho
      clear hb HC HR_4b TB_4b V0 V1 B_4b
      have HC := Lib.hid (PureRests_impl _ A3 k cv n3 cc3 xss (oth xss) w5 HR_5.out HN.out)
      go_wp2_with fail
      refine HC.out.mono ?_
      rintro e w6 ⟨Ar, nr, cr, gR, rfl, rfl, ho, hb⟩
      have HR_6 := Lib.hid (HR_5.out.keep (Keep.below hb))
      have TB_6 := Lib.hid (TB_5.out.keep (Keep.below hb))
      have V0_6 := Lib.hid (Keep.below hb _ _ V0_5.out)
      have V1_6 := Lib.hid (Keep.below hb _ _ V1_5.out)
      have HN_6 := Lib.hid (HN.out.keep (Keep.below hb))
      have B_6 := Lib.hid (below_up B_5.out hb)
      have HP := Lib.hid ho.rows
      clear ho
      clear hb HC HR_5 TB_5 V0_5 V1_5 HN B_5
      clear HN_6
      have hLN := hlen
      generalize hRS : pureR xss (oth xss) = rs at *
      clear hRS
      go_wp2
      go_loopw [11] (fun j wr => ∃ q : Nat, q ≤ rs.length ∧ j = .int .i64 q ∧ Hid (Below w6.heap.size w6 wr)) (fun j _ => rs.length - (intOf j).toNat)
      case atStart => exact ⟨0, Nat.zero_le _, rfl, Lib.hid (Below.refl _ _)⟩
      case round =>
        obtain ⟨q, hq, rfl, HQ⟩ := hrel
        by_cases hlt : q < rs.length
        · obtain ⟨i, j, hi, hj, hr, hU, rfl⟩ := HRT.out q hlt
          have tb := TB_6.out.keep (Keep.below HQ.out)
          have c1 := tb.row i hi
          have c2 := tb.cell i j hi hj
          rw [hU] at c2
          have v0 := Keep.below HQ.out _ _ V0_6.out
          have v1 := Keep.below HQ.out _ _ V1_6.out
          obtain ⟨rb', ro', rfl, hc⟩ := (HP.out.keep (Keep.below HQ.out)).at_ (by omega)
          obtain ⟨R, cR, hrow, hin⟩ := hc q hlt
          rw [hr] at hrow hin
          obtain ⟨rc, rd, rfl, hcell⟩ := hin.at_ (by simp)
          have r0 := hcell 0 (by simp)
          have r1 := hcell 1 (by simp)
          simp only [gi, Nat.add_zero, List.getD_cons_zero, List.getD_cons_succ, List.length_cons, List.length_nil, Nat.zero_add] at r0 r1 hrow
          have HKK := Lib.hid (And.intro hrow (And.intro r0 (And.intro r1 (And.intro c1 (And.intro c2 (And.intro v0 v1))))))
          clear hc hcell hin hr hU tb
          have hik : (i : Int) < (k : Int) := by omega
          have hjm : (j : Int) < ((gr xss 0).length : Int) := by omega
          have HMO := Lib.hid (frV_one U)
          go_wp2
          go_region_held3 (fun W => W.cell? ⟨rb', ro' + q, none⟩ = some (.slice (some ⟨rc, rd, none⟩) 2 cR) ∧ W.cell? ⟨rc, rd, none⟩ = some (.int .i64 i) ∧ W.cell? ⟨rc, rd + 1, none⟩ = some (.int .i64 j) ∧ W.cell? ⟨b, oo + i, none⟩ = some (.slice (some ⟨rb i, ro i, none⟩) (gr xss 0).length (cc i)) ∧ W.cell? ⟨rb i, ro i + j, none⟩ = some (.int .i64 U) ∧ W.cell? ⟨h4a, 0, none⟩ = some (.int .i64 U) ∧ W.cell? ⟨h4a, 1, none⟩ = some (.int .i64 1))
            (first | exact S1.out | exact HKK.out | go_keep)
            ((go_at_call 21; (with_reducible refine (HMO.out ▸ fracOfL_any U 1 _ (by unfold Mid; omega) (by unfold Mid; omega) (by omega)).mono ?_); rintro e v2 ⟨rfl, hb⟩; have S1 := Lib.hid (And.intro (Keep.below hb _ _ HKK.out.1) (And.intro (Keep.below hb _ _ HKK.out.2.1) (And.intro (Keep.below hb _ _ HKK.out.2.2.1) (And.intro (Keep.below hb _ _ HKK.out.2.2.2.1) (And.intro (Keep.below hb _ _ HKK.out.2.2.2.2.1) (And.intro (Keep.below hb _ _ HKK.out.2.2.2.2.2.1) (Keep.below hb _ _ HKK.out.2.2.2.2.2.2))))))); have D1 := Lib.hid (below_up HQ.out.drew hb); clear hb))
          go_wp2
          go_roundw
          case rel => exact ⟨q + 1, by omega, by go_num, D1⟩
          case measure => simp [intOf]; omega
        · obtain rfl : q = rs.length := by omega
          have hq' := HQ.out
          clear HRT
          clear V0_6
          clear V1_6
          clear TB_6
          clear HP
          have HR_r := Lib.hid (HR_6.out.keep (Keep.below hq'))
          have B_r := Lib.hid (below_up B_6.out hq')
          clear hq' HR_6 B_6
          have HC := Lib.hid (SafeRow_impl' _ k cv xss wr HR_r.out)
          rw [HTV.out] at HC
          go_wp2_with fail
          refine HC.out.mono ?_
          rintro e w7 ⟨rfl, hq⟩
          have hb := hq.below (B := wr.heap.size)
          have HR_7 := Lib.hid (HR_r.out.keep (Keep.below hb))
          have B_7 := Lib.hid (below_up B_r.out hb)
          clear hb HC hq HR_r B_r
          have HC := Lib.hid (flipped_any _ k cv (gr xss 0).length xss w7 HR_7.out HS.out hk HV.out.even)
          go_wp2_with fail
          refine HC.out.mono ?_
          rintro e w8 ⟨A4, n4, cc4, gg4, rfl, -, ho, hb⟩
          have HR_8 := Lib.hid (HR_7.out.keep (Keep.below hb))
          have B_8 := Lib.hid (below_up B_7.out hb)
          rw [← LX.out] at ho
          have HF_ := Lib.hid ho.rows
          clear ho
          clear hb HC HR_7 B_7
          have HC := Lib.hid (minusOf_any A4 n4 cc4 _ w8 HF_.out (small_ntab HV.out))
          go_wp2_with fail
          refine HC.out.mono ?_
          rintro e w9 ⟨A5, n5, cc5, gg5, rfl, -, ho, hb⟩
          have HR_9 := Lib.hid (HR_8.out.keep (Keep.below hb))
          have HF__9 := Lib.hid (HF_.out.keep (Keep.below hb))
          have B_9 := Lib.hid (below_up B_8.out hb)
          have HN := Lib.hid (show IntRows w9 A5 n5 cc5 (ntab xss) from ho.rows)
          clear ho
          clear hb HC HR_8 HF_ B_8
          clear HF__9
          have HC := Lib.hid (SafeRow_impl' A5 n5 cc5 (ntab xss) w9 HN.out)
          rw [HVN.out] at HC
          go_wp2_with fail
          refine HC.out.mono ?_
          rintro e w10 ⟨rfl, hq⟩
          have hb := hq.below (B := w9.heap.size)
          have HR_10 := Lib.hid (HR_9.out.keep (Keep.below hb))
          have HN_10 := Lib.hid (HN.out.keep (Keep.below hb))
          have B_10 := Lib.hid (below_up B_9.out hb)
          clear hb HC hq HR_9 HN B_9
          generalize srNum (ntab xss) = O at *
          have hwn : IntKind.i64.wrap (-O) = -O := wrapIn (by omega)
          have HF1 := HFIN.out
          generalize srNum xss = N at *
          cases hc : (N == -O)
          · rw [hc] at HF1
            have hl0 : ¬ (0 : Int) < (rs.length : Int) := of_decide_eq_false HF1
            have hl1 : ¬ 0 < rs.length := by omega
            go_wp2
            go_ret
            refine ⟨?_, B_10.out⟩
            simp
          · rw [hc] at HF1
            have hl0 : (0 : Int) < (rs.length : Int) := of_decide_eq_true HF1
            have hl1 : 0 < rs.length := by omega
            go_wp2
            go_ret
            refine ⟨?_, B_10.out⟩
            simp
    · have HTV := Lib.hid (pb_false hv)
      have hno := vF_no hv
      rw [HUD.out] at hno
      obtain ⟨rfl, rfl⟩ := Prod.mk.inj hno
      clear hv hno
      have HC := Lib.hid (ValueOf_impl _ k cv xss w1 HR.out)
      rw [HUV.out, HTV.out] at HC
      go_wp2_with fail
      refine HC.out.mono ?_
      rintro e w2 ⟨rfl, hb⟩
      have HR_2 := Lib.hid (HR.out.keep (Keep.below hb))
      have B_2 := Lib.hid (below_up B1.out hb)
      clear hb HC HR B1
      have hal := below_alloc w2 (.cells #[.int .i64 0, .int .i64 0] 28)
      have HR_2b := Lib.hid (HR_2.out.keep (Keep.below hal))
      have B_2b := Lib.hid (below_up B_2.out hal)
      have G0 := Lib.hid (blk_cell (blk_new w2 28 #[.int .i64 0, .int .i64 0]) (i := 0) (v := .int .i64 0) rfl)
      have G1 := Lib.hid (blk_cell (blk_new w2 28 #[.int .i64 0, .int .i64 0]) (i := 1) (v := .int .i64 0) rfl)
      clear hal HR_2 B_2
      have HC := Lib.hid (ValueOf_spec _ k cv xss (w2.alloc (.cells #[.int .i64 0, .int .i64 0] 28)) HR_2b.out)
      rw [HUV.out, HTV.out] at HC
      go_wp2_with fail
      generalize w2.alloc (.cells #[.int .i64 0, .int .i64 0] 28) = w2a at *
      generalize w2.heap.size = h2a at *
      refine HC.out.mono ?_
      rintro e w3 ⟨rfl, hb⟩
      have HR_3 := Lib.hid (HR_2b.out.keep (Keep.below hb))
      have G0_3 := Lib.hid (Keep.below hb _ _ G0.out)
      have G1_3 := Lib.hid (Keep.below hb _ _ G1.out)
      have B_3 := Lib.hid (below_up B_2b.out hb)
      clear hb HC HR_2b G0 G1 B_2b
      have hal := below_alloc w3 (.cells #[.int .i64 0, .int .i64 0] 28)
      have HR_3b := Lib.hid (HR_3.out.keep (Keep.below hal))
      have G0_3b := Lib.hid (Keep.below hal _ _ G0_3.out)
      have G1_3b := Lib.hid (Keep.below hal _ _ G1_3.out)
      have B_3b := Lib.hid (below_up B_3.out hal)
      have E0 := Lib.hid (blk_cell (blk_new w3 28 #[.int .i64 0, .int .i64 0]) (i := 0) (v := .int .i64 0) rfl)
      have E1 := Lib.hid (blk_cell (blk_new w3 28 #[.int .i64 0, .int .i64 0]) (i := 1) (v := .int .i64 0) rfl)
      clear hal HR_3 G0_3 G1_3 B_3
      have HC := Lib.hid (ValueOf_impl _ k cv xss (w3.alloc (.cells #[.int .i64 0, .int .i64 0] 28)) HR_3b.out)
      rw [HUV.out, HTV.out] at HC
      have q_G0 := G0_3b.out
      have q_G1 := G1_3b.out
      have q_E0 := E0.out
      have q_E1 := E1.out
      go_wp2_with fail
      generalize w3.alloc (.cells #[.int .i64 0, .int .i64 0] 28) = w3a at *
      generalize w3.heap.size = h3a at *
      refine HC.out.mono ?_
      rintro e w4 ⟨rfl, hb⟩
      have HR_4 := Lib.hid (HR_3b.out.keep (Keep.below hb))
      have G0_4 := Lib.hid (Keep.below hb _ _ G0_3b.out)
      have G1_4 := Lib.hid (Keep.below hb _ _ G1_3b.out)
      have E0_4 := Lib.hid (Keep.below hb _ _ E0.out)
      have E1_4 := Lib.hid (Keep.below hb _ _ E1.out)
      have B_4 := Lib.hid (below_up B_3b.out hb)
      clear hb HC HR_3b G0_3b G1_3b E0 E1 B_3b q_G0 q_G1 q_E0 q_E1
      clear G0_4
      clear G1_4
      clear E0_4
      clear E1_4
      have hal := below_alloc w4 (.cells #[.int .i64 0, .int .i64 0] 28)
      have HR_4b := Lib.hid (HR_4.out.keep (Keep.below hal))
      have B_4b := Lib.hid (below_up B_4.out hal)
      have V0 := Lib.hid (blk_cell (blk_new w4 28 #[.int .i64 0, .int .i64 0]) (i := 0) (v := .int .i64 0) rfl)
      have V1 := Lib.hid (blk_cell (blk_new w4 28 #[.int .i64 0, .int .i64 0]) (i := 1) (v := .int .i64 0) rfl)
      clear hal HR_4 B_4
      have q_V0 := V0.out
      have q_V1 := V1.out
      go_wp2
      go_ret
      exact ⟨rfl, B_4b.out⟩

theorem hFnSaddlesAreValues_lifted (os : Os) (started : os.Started) (H : Type) (enc : TypeId × Value → H) :
    ReturnsInHanded {} Try.checked os 9 .any (Rows.fnSaddlesAreValuesSpec.pre6 enc Try.prog Try.f9 Rows.fnSaddlesAreValuesRow.domain false) (Rows.fnSaddlesAreValuesSpec.post enc Try.prog Try.f9 false true false false) := by
  refine returnsInHanded_of_change_sized (C := Try.checked) Try.own started (by kernel_rfl) Try.func9
    (ChangeSpec.witness6 (enc := enc) (C := Try.checked) false ⟨#[], #[.slice none 0 0], []⟩ 8 (by kernel_rfl) (by kernel_rfl) (by kernel_rfl) (by kernel_rfl)) ?_
  intro W base args ds gs before hval0 hW _ hwt _
  have hval : ∀ (j : Nat) t v, Try.f9.params[j]? = some t → args[j]? = some v → Value.okWide Try.prog W .any base t v := hval0
  have hA : ∃ p, DataW.TrodAll enc Try.prog W 0 (fun _ => true) true Try.f9.params.toList args.toList ds p := by obtain ⟨p, q, hA0, _⟩ := hW; exact ⟨p, hA0⟩
  obtain ⟨p, hA⟩ := hA
  have hwt' := weights_arg hwt (j := 0) (t := 22) (by rw [Try.params9]; rfl) (d := ds.getD 0 .nil)
  rw [Try.params9] at hA hval
  obtain ⟨v0, d0, rfl, rfl, h0⟩ := trodAll_one hA
  obtain ⟨A, n, c, rfl, hx⟩ := open_bytes (hval 0 22 v0 rfl rfl) h0 (hwt' rfl)
  refine (fnSaddlesAreValues_calls A n c W hx).mono fun e W' ⟨he, hb⟩ => ?_
  subst he
  exact ⟨_, rfl, law_post (F := Try.f9) rfl rfl (by rw [Try.params9]; simp only [List.mem_cons, List.not_mem_nil, or_false, forall_eq]; exact ⟨by kernel_rfl, of_decide_eq_true (by kernel_rfl)⟩) hW (fun h => by subst h; rfl) hb⟩

theorem hFnSaddlesAreValues_holds : Rows.FnSaddlesAreValuesSaid :=
  OpenClaim.holds_of_wide 9 Try.f9 rfl rfl rfl rfl rfl rfl rfl ⟨rfl, rfl, rfl, rfl, rfl⟩ rfl rfl rfl rfl rfl (by kernel_rfl) Try.func9
    (by unfold joinedFacts; simp only [Bool.and_eq_true]; (repeat' apply And.intro) <;> (first | (with_reducible exact prog_enters) | ((with_reducible refine prog_lifts ?_); rfl) | ((with_reducible refine prog_make ?_); rfl) | kernel_rfl))
    (of_decide_eq_true (by kernel_rfl)) (by unfold Func.isWrapper; first | (rw [if_pos (by decide +kernel)]; kernel_rfl) | (rw [if_neg (by decide +kernel)]; exact ⟨rfl, rfl⟩))
    (fun os started H enc _ => hFnSaddlesAreValues_lifted os started H enc)

end Go.Proofs.Ytgnbmanlpppdoaa
