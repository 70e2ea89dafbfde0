/- The law FnMeanPay holds: for every code, of what it draws, the program tells the mean as the model does, it is PayOf, and where the table is even the mean of the next shares is no less. No condition. -/
import Derived.Test.YtoekpbcdgmejcaaQ10
namespace Go.Proofs.Ytoekpbcdgmejcaa
open Go.ChangeShapes Go.WideShapes Go.ChangeAt Go.RowKit Go.Deep

set_option maxRecDepth 100000 in
set_option maxHeartbeats 3200000 in
theorem fnMeanPay_calls (A : Option Addr) (n c : Nat) (w : World) (hx : Bytes w A n c) :
    Calls Try.prog 7 #[.slice A n c] w fun e w' => e = .returned (.bool true) ∧ Below w.heap.size w w' := by
  have hmx := hx.max
  have H0 := Lib.hid (DrawMeanPay_any A n c w hx)
  clear hx
  by_cases hs : 1048576 < n
  · go_enter Try.func7, Try.ntmps7
    go_wp2
    go_ret
    exact ⟨rfl, Below.refl _ _⟩
  · go_enter Try.func7, Try.ntmps7
    go_wp2_with fail
    refine H0.out.mono ?_
    rintro e w1 ⟨Av, k, cv, gg, xss, Bv, m, cb, ys, rfl, hsm, hown, hi, hb⟩
    have HS := Lib.hid hsm
    have HR := Lib.hid hown.rows
    have HY := Lib.hid hi
    have B1 := Lib.hid hb
    have LX := Lib.hid hown.rows.len
    have LY := Lib.hid hi.len
    clear hsm hown hi hb H0
    by_cases hok : POk xss ys ys
    · have hv : VQ xss := ((POk_sq xss ys).1 hok).1
      have hs0 : VS ys xss.length := ((POk_sq xss ys).1 hok).2
      have hk : 0 < k := by rw [← LX.out]; exact hv.1.n1
      have hk3 : k ≤ 3 := by rw [← LX.out]; exact hv.1.n3
      have hgl : (gr xss 0).length = k := by rw [← hv.2, LX.out]
      have hs : VS ys (k : Int) := by rw [← LX.out]; exact hs0
      have HPT := Lib.hid (pb_true hok)
      have HPB := Lib.hid (show PB xss ys ys k k from by have h := hv.1.pb_ hok.x hok.y; rw [LX.out, hgl] at h; exact h)
      have hT := hs.bd (by omega)
      have HT2 := Lib.hid (show 1 ≤ tot ys * tot ys ∧ tot ys * tot ys ≤ 9000000 by
        have h1 : 1 * 1 ≤ tot ys * tot ys := Int.mul_le_mul (by omega) (by omega) (by omega) (by omega)
        have h2 : tot ys * tot ys ≤ 3000 * 3000 := Int.mul_le_mul hT.2 hT.2 (by omega) (by omega)
        omega)
      have HPU := Lib.hid (payU_bd HPB.out hk3 (Nat.le_refl k))
      have HMF := Lib.hid (show payF xss ys ys = .agg #[.int .i64 (frU (payU xss ys ys k k) (tot ys * tot ys)), .int .i64 (frD (payU xss ys ys k k) (tot ys * tot ys))] from by
        rw [payF_yes hok, hgl, LX.out]; rfl)
      have hub := frU_bd (u := payU xss ys ys k k) (d := tot ys * tot ys) (B := 81000000) (by have := HT2.out; omega) (by have := HPU.out; omega)
      have hdb := frD_bd (u := payU xss ys ys k k) (d := tot ys * tot ys) (B := 9000000) (by have := HT2.out; omega) (by have := HT2.out; omega)
      -- the next shares, if they are shares
      have HNX := Lib.hid (show POk xss (nsF xss ys) (nsF xss ys) → ∃ u v, payF xss (nsF xss ys) (nsF xss ys) = .agg #[.int .i64 u, .int .i64 v] ∧ (-81000000 ≤ u ∧ u ≤ 81000000) ∧ (1 ≤ v ∧ v ≤ 9000000) ∧
          (EvP xss → lessB u v (frU (payU xss ys ys k k) (tot ys * tot ys)) (frD (payU xss ys ys k k) (tot ys * tot ys)) = false) from fun h => by
        have hs1 : VS (nsF xss ys) xss.length := h.x
        have hs2 : VS (nsF xss ys) (k : Int) := by rw [← LX.out]; exact hs1
        have hf : VF xss ∧ VS ys xss.length := by
          apply Classical.byContradiction; intro hn
          rw [nsF_no hn] at hs1
          have := hs1.1; have := hv.1.n1; simp at *; omega
        have hFS := FS.of LX.out hf.1 hs
        have hPB : PB xss (nsF xss ys) (nsF xss ys) k k := by have h := hv.1.pb_ h.x h.y; rw [LX.out, hgl] at h; exact h
        have hT' := hs2.bd (by omega)
        have hTT : 1 ≤ tot (nsF xss ys) * tot (nsF xss ys) ∧ tot (nsF xss ys) * tot (nsF xss ys) ≤ 9000000 := by
          have h1 : 1 * 1 ≤ tot (nsF xss ys) * tot (nsF xss ys) := Int.mul_le_mul (by omega) (by omega) (by omega) (by omega)
          have h2 : tot (nsF xss ys) * tot (nsF xss ys) ≤ 3000 * 3000 := Int.mul_le_mul hT'.2 hT'.2 (by omega) (by omega)
          omega
        have hPU := payU_bd hPB hk3 (Nat.le_refl k)
        refine ⟨frU (payU xss (nsF xss ys) (nsF xss ys) k k) (tot (nsF xss ys) * tot (nsF xss ys)), frD (payU xss (nsF xss ys) (nsF xss ys) k k) (tot (nsF xss ys) * tot (nsF xss ys)), by rw [payF_yes h, hgl, LX.out]; rfl, frU_bd (by omega) (by omega), frD_bd (by omega) (by omega), fun he => ?_⟩
        unfold lessB
        have hT2 := HT2.out
        rw [decide_eq_false_iff_not, fr_lt (by omega) (by omega)]
        have := Mean.mean_grow hFS he
        omega)
      clear hok hs hs0 hgl
      generalize hU : frU (payU xss ys ys k k) (tot ys * tot ys) = U at *
      generalize hD : frD (payU xss ys ys k k) (tot ys * tot ys) = D at *
      obtain ⟨u1, u2⟩ := hub
      obtain ⟨d1, d2⟩ := hdb
      clear hU hD hT hv
      have HNL : Hid (nsF xss ys = nsF xss ys) := Lib.hid rfl
      clear HNL
      have HC := Lib.hid (MeanPay_impl _ _ _ xss _ _ _ ys w1 HR.out HY.out)
      rw [HMF.out, HPT.out] at HC
      go_wp2_with fail
      refine HC.out.mono ?_
      rintro e w2 ⟨rfl, hb⟩
      have HR_2 := Lib.hid (HR.out.keep (Keep.below hb))
      have HY_2 := Lib.hid (HY.out.keep (Keep.below hb))
      have B_2 := Lib.hid (below_up B1.out hb)
      clear hb HC HR HY B1
      have hal := below_alloc w2 (.cells #[.int .i64 U, .int .i64 D] 37)
      have HR_2b := Lib.hid (HR_2.out.keep (Keep.below hal))
      have HY_2b := Lib.hid (HY_2.out.keep (Keep.below hal))
      have B_2b := Lib.hid (below_up B_2.out hal)
      have X0 := Lib.hid (blk_cell (blk_new w2 37 #[.int .i64 U, .int .i64 D]) (i := 0) (v := .int .i64 U) rfl)
      have X1 := Lib.hid (blk_cell (blk_new w2 37 #[.int .i64 U, .int .i64 D]) (i := 1) (v := .int .i64 D) rfl)
      clear hal HR_2 HY_2 B_2
      have HC := Lib.hid (MeanPay_spec _ _ _ xss _ _ _ ys (w2.alloc (.cells #[.int .i64 U, .int .i64 D] 37)) HR_2b.out HY_2b.out)
      rw [HMF.out, HPT.out] at HC
      go_wp2_with fail
      generalize w2.alloc (.cells #[.int .i64 U, .int .i64 D] 37) = w2a at *
      generalize w2.heap.size = h2a at *
      refine HC.out.mono ?_
      rintro e w3 ⟨rfl, hb⟩
      have HR_3 := Lib.hid (HR_2b.out.keep (Keep.below hb))
      have HY_3 := Lib.hid (HY_2b.out.keep (Keep.below hb))
      have X0_3 := Lib.hid (Keep.below hb _ _ X0.out)
      have X1_3 := Lib.hid (Keep.below hb _ _ X1.out)
      have B_3 := Lib.hid (below_up B_2b.out hb)
      clear hb HC HR_2b HY_2b X0 X1 B_2b
      have hal := below_alloc w3 (.cells #[.int .i64 U, .int .i64 D] 37)
      have HR_3b := Lib.hid (HR_3.out.keep (Keep.below hal))
      have HY_3b := Lib.hid (HY_3.out.keep (Keep.below hal))
      have X0_3b := Lib.hid (Keep.below hal _ _ X0_3.out)
      have X1_3b := Lib.hid (Keep.below hal _ _ X1_3.out)
      have B_3b := Lib.hid (below_up B_3.out hal)
      have E0 := Lib.hid (blk_cell (blk_new w3 37 #[.int .i64 U, .int .i64 D]) (i := 0) (v := .int .i64 U) rfl)
      have E1 := Lib.hid (blk_cell (blk_new w3 37 #[.int .i64 U, .int .i64 D]) (i := 1) (v := .int .i64 D) rfl)
      clear hal HR_3 HY_3 X0_3 X1_3 B_3
      have HC := Lib.hid (PayOf_impl _ _ _ _ _ _ _ _ _ xss ys ys (w3.alloc (.cells #[.int .i64 U, .int .i64 D] 37)) HR_3b.out HY_3b.out HY_3b.out)
      rw [HMF.out, HPT.out] at HC
      have q_X0 := X0_3b.out
      have q_X1 := X1_3b.out
      have q_E0 := E0.out
      have q_E1 := E1.out
      go_wp2_with fail
      generalize w3.alloc (.cells #[.int .i64 U, .int .i64 D] 37) = w3a at *
      generalize w3.heap.size = h3a at *
      refine HC.out.mono ?_
      rintro e w4 ⟨rfl, hb⟩
      have HR_4 := Lib.hid (HR_3b.out.keep (Keep.below hb))
      have HY_4 := Lib.hid (HY_3b.out.keep (Keep.below hb))
      have X0_4 := Lib.hid (Keep.below hb _ _ X0_3b.out)
      have X1_4 := Lib.hid (Keep.below hb _ _ X1_3b.out)
      have E0_4 := Lib.hid (Keep.below hb _ _ E0.out)
      have E1_4 := Lib.hid (Keep.below hb _ _ E1.out)
      have B_4 := Lib.hid (below_up B_3b.out hb)
      clear hb HC HR_3b HY_3b X0_3b X1_3b E0 E1 B_3b q_X0 q_X1 q_E0 q_E1
      clear E0_4
      clear E1_4
      have hal := below_alloc w4 (.cells #[.int .i64 U, .int .i64 D] 37)
      have HR_4b := Lib.hid (HR_4.out.keep (Keep.below hal))
      have HY_4b := Lib.hid (HY_4.out.keep (Keep.below hal))
      have X0_4b := Lib.hid (Keep.below hal _ _ X0_4.out)
      have X1_4b := Lib.hid (Keep.below hal _ _ X1_4.out)
      have B_4b := Lib.hid (below_up B_4.out hal)
      have P0 := Lib.hid (blk_cell (blk_new w4 37 #[.int .i64 U, .int .i64 D]) (i := 0) (v := .int .i64 U) rfl)
      have P1 := Lib.hid (blk_cell (blk_new w4 37 #[.int .i64 U, .int .i64 D]) (i := 1) (v := .int .i64 D) rfl)
      clear hal HR_4 HY_4 X0_4 X1_4 B_4
      have HC := Lib.hid (NextShares_impl _ _ _ xss _ _ _ ys (w4.alloc (.cells #[.int .i64 U, .int .i64 D] 37)) HR_4b.out HY_4b.out)
      go_wp2_with fail
      generalize w4.alloc (.cells #[.int .i64 U, .int .i64 D] 37) = w4a at *
      generalize w4.heap.size = h4a at *
      refine HC.out.mono ?_
      rintro e w5 ⟨A5, n5, c5, g5, rfl, hn5, ho, hb⟩
      have HR_5 := Lib.hid (HR_4b.out.keep (Keep.below hb))
      have HY_5 := Lib.hid (HY_4b.out.keep (Keep.below hb))
      have X0_5 := Lib.hid (Keep.below hb _ _ X0_4b.out)
      have X1_5 := Lib.hid (Keep.below hb _ _ X1_4b.out)
      have P0_5 := Lib.hid (Keep.below hb _ _ P0.out)
      have P1_5 := Lib.hid (Keep.below hb _ _ P1.out)
      have B_5 := Lib.hid (below_up B_4b.out hb)
      have HL := Lib.hid ho.ints
      clear ho hn5
      clear hb HC HR_4b HY_4b X0_4b X1_4b P0 P1 B_4b
      have HC := Lib.hid (MeanPay_impl _ _ _ xss _ _ _ (nsF xss ys) w5 HR_5.out HL.out)
      by_cases hok2 : POk xss (nsF xss ys) (nsF xss ys)
      · obtain ⟨u, v, hf, hu, hv2, hle⟩ := HNX.out hok2
        have HPK := Lib.hid (pb_true hok2)
        have HLE := Lib.hid hle
        rw [hf, HPK.out] at HC
        obtain ⟨hu1, hu2⟩ := hu
        obtain ⟨hv1, hv2⟩ := hv2
        clear hf hok2 HNX HPK hle
        go_wp2_with fail
        refine HC.out.mono ?_
        rintro e w6 ⟨rfl, hb⟩
        have HR_6 := Lib.hid (HR_5.out.keep (Keep.below hb))
        have HY_6 := Lib.hid (HY_5.out.keep (Keep.below hb))
        have X0_6 := Lib.hid (Keep.below hb _ _ X0_5.out)
        have X1_6 := Lib.hid (Keep.below hb _ _ X1_5.out)
        have P0_6 := Lib.hid (Keep.below hb _ _ P0_5.out)
        have P1_6 := Lib.hid (Keep.below hb _ _ P1_5.out)
        have HL_6 := Lib.hid (HL.out.keep (Keep.below hb))
        have B_6 := Lib.hid (below_up B_5.out hb)
        clear hb HC HR_5 HY_5 X0_5 X1_5 P0_5 P1_5 HL B_5
        have hal := below_alloc w6 (.cells #[.int .i64 u, .int .i64 v] 37)
        have HR_6b := Lib.hid (HR_6.out.keep (Keep.below hal))
        have HY_6b := Lib.hid (HY_6.out.keep (Keep.below hal))
        have X0_6b := Lib.hid (Keep.below hal _ _ X0_6.out)
        have X1_6b := Lib.hid (Keep.below hal _ _ X1_6.out)
        have P0_6b := Lib.hid (Keep.below hal _ _ P0_6.out)
        have P1_6b := Lib.hid (Keep.below hal _ _ P1_6.out)
        have HL_6b := Lib.hid (HL_6.out.keep (Keep.below hal))
        have B_6b := Lib.hid (below_up B_6.out hal)
        have Y0 := Lib.hid (blk_cell (blk_new w6 37 #[.int .i64 u, .int .i64 v]) (i := 0) (v := .int .i64 u) rfl)
        have Y1 := Lib.hid (blk_cell (blk_new w6 37 #[.int .i64 u, .int .i64 v]) (i := 1) (v := .int .i64 v) rfl)
        clear hal HR_6 HY_6 X0_6 X1_6 P0_6 P1_6 HL_6 B_6
        have HC := Lib.hid (IsEven_impl _ _ _ xss (w6.alloc (.cells #[.int .i64 u, .int .i64 v] 37)) HR_6b.out)
        by_cases he : EvP xss
        · rw [pb_true he] at HC
          have HLF := Lib.hid (HLE.out he)
          clear he HLE
          have q_P0 := P0_6b.out
          have q_P1 := P1_6b.out
          have q_X0 := X0_6b.out
          have q_X1 := X1_6b.out
          go_wp2_with fail
          generalize w6.alloc (.cells #[.int .i64 u, .int .i64 v] 37) = w6a at *
          generalize w6.heap.size = h6a at *
          refine HC.out.mono ?_
          rintro e w7 ⟨rfl, hb⟩
          have HR_7 := Lib.hid (HR_6b.out.keep (Keep.below hb))
          have HY_7 := Lib.hid (HY_6b.out.keep (Keep.below hb))
          have X0_7 := Lib.hid (Keep.below hb _ _ X0_6b.out)
          have X1_7 := Lib.hid (Keep.below hb _ _ X1_6b.out)
          have P0_7 := Lib.hid (Keep.below hb _ _ P0_6b.out)
          have P1_7 := Lib.hid (Keep.below hb _ _ P1_6b.out)
          have HL_7 := Lib.hid (HL_6b.out.keep (Keep.below hb))
          have Y0_7 := Lib.hid (Keep.below hb _ _ Y0.out)
          have Y1_7 := Lib.hid (Keep.below hb _ _ Y1.out)
          have B_7 := Lib.hid (below_up B_6b.out hb)
          clear hb HC q_P0 q_P1 q_X0 q_X1 HR_6b HY_6b X0_6b X1_6b P0_6b P1_6b HL_6b Y0 Y1 B_6b
          have HC := Lib.hid (HLF.out ▸ lessOf_any u v U D w7 (by omega) (by omega) (by omega) (by omega))
          have q_Y0 := Y0_7.out
          have q_Y1 := Y1_7.out
          have q_X0 := X0_7.out
          have q_X1 := X1_7.out
          go_wp2_with fail
          refine HC.out.mono ?_
          rintro e w8 ⟨rfl, hb⟩
          have HR_8 := Lib.hid (HR_7.out.keep (Keep.below hb))
          have HY_8 := Lib.hid (HY_7.out.keep (Keep.below hb))
          have X0_8 := Lib.hid (Keep.below hb _ _ X0_7.out)
          have X1_8 := Lib.hid (Keep.below hb _ _ X1_7.out)
          have P0_8 := Lib.hid (Keep.below hb _ _ P0_7.out)
          have P1_8 := Lib.hid (Keep.below hb _ _ P1_7.out)
          have HL_8 := Lib.hid (HL_7.out.keep (Keep.below hb))
          have Y0_8 := Lib.hid (Keep.below hb _ _ Y0_7.out)
          have Y1_8 := Lib.hid (Keep.below hb _ _ Y1_7.out)
          have B_8 := Lib.hid (below_up B_7.out hb)
          clear hb HC HR_7 HY_7 X0_7 X1_7 P0_7 P1_7 HL_7 Y0_7 Y1_7 B_7 q_Y0 q_Y1 q_X0 q_X1
          go_wp2
          go_ret
          exact ⟨rfl, B_8.out⟩
        · rw [pb_false he] at HC
          clear he HLE
          have q_P0 := P0_6b.out
          have q_P1 := P1_6b.out
          have q_X0 := X0_6b.out
          have q_X1 := X1_6b.out
          go_wp2_with fail
          generalize w6.alloc (.cells #[.int .i64 u, .int .i64 v] 37) = w6a at *
          generalize w6.heap.size = h6a at *
          refine HC.out.mono ?_
          rintro e w7 ⟨rfl, hb⟩
          have HR_7 := Lib.hid (HR_6b.out.keep (Keep.below hb))
          have HY_7 := Lib.hid (HY_6b.out.keep (Keep.below hb))
          have X0_7 := Lib.hid (Keep.below hb _ _ X0_6b.out)
          have X1_7 := Lib.hid (Keep.below hb _ _ X1_6b.out)
          have P0_7 := Lib.hid (Keep.below hb _ _ P0_6b.out)
          have P1_7 := Lib.hid (Keep.below hb _ _ P1_6b.out)
          have HL_7 := Lib.hid (HL_6b.out.keep (Keep.below hb))
          have Y0_7 := Lib.hid (Keep.below hb _ _ Y0.out)
          have Y1_7 := Lib.hid (Keep.below hb _ _ Y1.out)
          have B_7 := Lib.hid (below_up B_6b.out hb)
          clear hb HC q_P0 q_P1 q_X0 q_X1 HR_6b HY_6b X0_6b X1_6b P0_6b P1_6b HL_6b Y0 Y1 B_6b
          go_wp2
          go_ret
          exact ⟨rfl, B_7.out⟩
      · obtain ⟨u, v, hf⟩ := payF_form xss (nsF xss ys) (nsF xss ys)
        rw [hf, pb_false hok2] at HC
        clear hf hok2 HNX
        go_wp2_with fail
        refine HC.out.mono ?_
        rintro e w6 ⟨rfl, hb⟩
        have HR_6 := Lib.hid (HR_5.out.keep (Keep.below hb))
        have HY_6 := Lib.hid (HY_5.out.keep (Keep.below hb))
        have X0_6 := Lib.hid (Keep.below hb _ _ X0_5.out)
        have X1_6 := Lib.hid (Keep.below hb _ _ X1_5.out)
        have P0_6 := Lib.hid (Keep.below hb _ _ P0_5.out)
        have P1_6 := Lib.hid (Keep.below hb _ _ P1_5.out)
        have HL_6 := Lib.hid (HL.out.keep (Keep.below hb))
        have B_6 := Lib.hid (below_up B_5.out hb)
        clear hb HC HR_5 HY_5 X0_5 X1_5 P0_5 P1_5 HL B_5
        have hal := below_alloc w6 (.cells #[.int .i64 u, .int .i64 v] 37)
        have HR_6b := Lib.hid (HR_6.out.keep (Keep.below hal))
        have HY_6b := Lib.hid (HY_6.out.keep (Keep.below hal))
        have X0_6b := Lib.hid (Keep.below hal _ _ X0_6.out)
        have X1_6b := Lib.hid (Keep.below hal _ _ X1_6.out)
        have P0_6b := Lib.hid (Keep.below hal _ _ P0_6.out)
        have P1_6b := Lib.hid (Keep.below hal _ _ P1_6.out)
        have HL_6b := Lib.hid (HL_6.out.keep (Keep.below hal))
        have B_6b := Lib.hid (below_up B_6.out hal)
        have Y0 := Lib.hid (blk_cell (blk_new w6 37 #[.int .i64 u, .int .i64 v]) (i := 0) (v := .int .i64 u) rfl)
        have Y1 := Lib.hid (blk_cell (blk_new w6 37 #[.int .i64 u, .int .i64 v]) (i := 1) (v := .int .i64 v) rfl)
        clear hal HR_6 HY_6 X0_6 X1_6 P0_6 P1_6 HL_6 B_6
        have q_P0 := P0_6b.out
        have q_P1 := P1_6b.out
        have q_X0 := X0_6b.out
        have q_X1 := X1_6b.out
        go_wp2
        go_ret
        exact ⟨rfl, B_6b.out⟩
    · have HNO := Lib.hid (show payF xss ys ys = .agg #[.int .i64 0, .int .i64 0] ∧ pb (POk xss ys ys) = false from ⟨payF_no hok, pb_false hok⟩)
      clear hok
      have HC := Lib.hid (MeanPay_impl _ _ _ xss _ _ _ ys w1 HR.out HY.out)
      rw [HNO.out.1, HNO.out.2] at HC
      go_wp2_with fail
      refine HC.out.mono ?_
      rintro e w2 ⟨rfl, hb⟩
      have HR_2 := Lib.hid (HR.out.keep (Keep.below hb))
      have HY_2 := Lib.hid (HY.out.keep (Keep.below hb))
      have B_2 := Lib.hid (below_up B1.out hb)
      clear hb HC HR HY B1
      have hal := below_alloc w2 (.cells #[.int .i64 0, .int .i64 0] 37)
      have HR_2b := Lib.hid (HR_2.out.keep (Keep.below hal))
      have HY_2b := Lib.hid (HY_2.out.keep (Keep.below hal))
      have B_2b := Lib.hid (below_up B_2.out hal)
      have X0 := Lib.hid (blk_cell (blk_new w2 37 #[.int .i64 0, .int .i64 0]) (i := 0) (v := .int .i64 0) rfl)
      have X1 := Lib.hid (blk_cell (blk_new w2 37 #[.int .i64 0, .int .i64 0]) (i := 1) (v := .int .i64 0) rfl)
      clear hal HR_2 HY_2 B_2
      have HC := Lib.hid (MeanPay_spec _ _ _ xss _ _ _ ys (w2.alloc (.cells #[.int .i64 0, .int .i64 0] 37)) HR_2b.out HY_2b.out)
      rw [HNO.out.1, HNO.out.2] at HC
      go_wp2_with fail
      generalize w2.alloc (.cells #[.int .i64 0, .int .i64 0] 37) = w2a at *
      generalize w2.heap.size = h2a at *
      refine HC.out.mono ?_
      rintro e w3 ⟨rfl, hb⟩
      have HR_3 := Lib.hid (HR_2b.out.keep (Keep.below hb))
      have HY_3 := Lib.hid (HY_2b.out.keep (Keep.below hb))
      have X0_3 := Lib.hid (Keep.below hb _ _ X0.out)
      have X1_3 := Lib.hid (Keep.below hb _ _ X1.out)
      have B_3 := Lib.hid (below_up B_2b.out hb)
      clear hb HC HR_2b HY_2b X0 X1 B_2b
      have hal := below_alloc w3 (.cells #[.int .i64 0, .int .i64 0] 37)
      have HR_3b := Lib.hid (HR_3.out.keep (Keep.below hal))
      have HY_3b := Lib.hid (HY_3.out.keep (Keep.below hal))
      have X0_3b := Lib.hid (Keep.below hal _ _ X0_3.out)
      have X1_3b := Lib.hid (Keep.below hal _ _ X1_3.out)
      have B_3b := Lib.hid (below_up B_3.out hal)
      have E0 := Lib.hid (blk_cell (blk_new w3 37 #[.int .i64 0, .int .i64 0]) (i := 0) (v := .int .i64 0) rfl)
      have E1 := Lib.hid (blk_cell (blk_new w3 37 #[.int .i64 0, .int .i64 0]) (i := 1) (v := .int .i64 0) rfl)
      clear hal HR_3 HY_3 X0_3 X1_3 B_3
      have q_X0 := X0_3b.out
      have q_X1 := X1_3b.out
      have q_E0 := E0.out
      have q_E1 := E1.out
      go_wp2
      go_ret
      exact ⟨rfl, B_3b.out⟩

set_option maxRecDepth 100000 in
theorem hFnMeanPay_lifted (os : Os) (started : os.Started) (H : Type) (enc : TypeId × Value → H) :
    ReturnsInHanded {} Try.checked os 7 .any (Rows.fnMeanPaySpec.pre6 enc Try.prog Try.f7 Rows.fnMeanPayRow.domain false) (Rows.fnMeanPaySpec.post enc Try.prog Try.f7 false true false false) := by
  refine returnsInHanded_of_change_sized (C := Try.checked) Try.own started (by kernel_rfl) Try.func7
    (ChangeSpec.witness6 (enc := enc) (C := Try.checked) false ⟨#[], #[.slice none 0 0], []⟩ 8 (by kernel_rfl) (by kernel_rfl) (by kernel_rfl) (by kernel_rfl)) ?_
  intro W base args ds gs before hval0 hW _ hwt _
  have hval : ∀ (j : Nat) t v, Try.f7.params[j]? = some t → args[j]? = some v → Value.okWide Try.prog W .any base t v := hval0
  have hA : ∃ p, DataW.TrodAll enc Try.prog W 0 (fun _ => true) true Try.f7.params.toList args.toList ds p := by obtain ⟨p, q, hA0, _⟩ := hW; exact ⟨p, hA0⟩
  obtain ⟨p, hA⟩ := hA
  have hwt' := weights_arg hwt (j := 0) (t := 22) (by rw [Try.params7]; rfl) (d := ds.getD 0 .nil)
  rw [Try.params7] at hA hval
  obtain ⟨v0, d0, rfl, rfl, h0⟩ := trodAll_one hA
  obtain ⟨A, n, c, rfl, hx⟩ := open_bytes (hval 0 22 v0 rfl rfl) h0 (hwt' rfl)
  refine (fnMeanPay_calls A n c W hx).mono fun e W' ⟨he, hb⟩ => ?_
  subst he
  exact ⟨_, rfl, law_post (F := Try.f7) rfl rfl (by rw [Try.params7]; simp only [List.mem_cons, List.not_mem_nil, or_false, forall_eq]; exact ⟨by kernel_rfl, of_decide_eq_true (by kernel_rfl)⟩) hW (fun h => by subst h; rfl) hb⟩

theorem hFnMeanPay_holds : Rows.FnMeanPaySaid :=
  OpenClaim.holds_of_wide 7 Try.f7 rfl rfl rfl rfl rfl rfl rfl ⟨rfl, rfl, rfl, rfl, rfl⟩ rfl rfl rfl rfl rfl (by kernel_rfl) Try.func7
    (by unfold joinedFacts; simp only [Bool.and_eq_true]; (repeat' apply And.intro) <;> (first | (with_reducible exact prog_enters) | ((with_reducible refine prog_lifts ?_); rfl) | ((with_reducible refine prog_make ?_); rfl) | kernel_rfl))
    (of_decide_eq_true (by kernel_rfl)) (by unfold Func.isWrapper; first | (rw [if_pos (by decide +kernel)]; kernel_rfl) | (rw [if_neg (by decide +kernel)]; exact ⟨rfl, rfl⟩))
    (fun os started H enc _ => hFnMeanPay_lifted os started H enc)

end Go.Proofs.Ytoekpbcdgmejcaa
