/- The law FnIsRest holds: for every code, of what it draws, the program tells rests as the model does, and shares rest exactly if no strategy has more than the mean, and each one with a share has it. No condition. -/
import Derived.Test.YtmhknknapciebaaQ10
namespace Go.Proofs.Ytmhknknapciebaa
open Go.ChangeShapes Go.WideShapes Go.ChangeAt Go.RowKit Go.Deep

set_option maxRecDepth 100000 in
set_option maxHeartbeats 3200000 in
theorem fnIsRest_calls (A : Option Addr) (n c : Nat) (w : World) (hx : Bytes w A n c) :
    Calls Try.prog 9 #[.slice A n c] w fun e w' => e = .returned (.bool true) ∧ Below w.heap.size w w' := by
  have hmx := hx.max
  have H0 := Lib.hid (DrawIsRest_any A n c w hx)
  clear hx
  by_cases hs : 1048576 < n
  · go_enter Try.func9, Try.ntmps9
    go_wp2
    go_ret
    exact ⟨rfl, Below.refl _ _⟩
  · go_enter Try.func9, Try.ntmps9
    go_wp2_with fail
    refine H0.out.mono ?_
    rintro e w1 ⟨Av, k, cv, gg, xss, Bv, m, cb, ys, rfl, hsm, hown, hi, hb⟩
    have HS := Lib.hid hsm
    have HR := Lib.hid hown.rows
    have HY := Lib.hid hi
    have B1 := Lib.hid hb
    have LX := Lib.hid hown.rows.len
    have LY := Lib.hid hi.len
    clear hsm hown hi hb H0
    have hbe : ∀ b : Bool, (b != b) = false ∧ (b == b) = true := by simp
    have HBE := Lib.hid hbe
    clear hbe
    generalize hgr : pb (RQ xss ys) = rr
    have HGR := Lib.hid hgr
    have hrr := (HBE.out rr).1
    have hrr2 := (HBE.out rr).2
    clear hgr
    by_cases hv : VQ xss
    · have hk : 0 < k := by rw [← LX.out]; exact hv.1.n1
      have hk3 : k ≤ 3 := by rw [← LX.out]; exact hv.1.n3
      have HVQ := Lib.hid (pb_true hv)
      have HVS := Lib.hid (show pb (VS ys (k : Int)) = pb (VSn ys (k : Int)) by rw [← LX.out]; exact (hv.1.vsn ys).symm)
      by_cases hs : VS ys (k : Int)
      · have hm : m = k := by rw [← LY.out]; have := hs.1; omega
        subst hm
        have HVT := Lib.hid (HVS.out.symm.trans (pb_true hs))
        have HQM := Lib.hid (show RQ xss ys ↔ ∀ i, i < m → MeanOk xss ys m i from by
          rw [← rest_mean hs]
          exact ⟨fun h => by have := h.r; rw [LX.out] at this; exact this, fun h => ⟨hv, by rw [LX.out]; exact hs, by rw [LX.out]; exact h⟩⟩)
        have hgl : (gr xss 0).length = m := by rw [← hv.2, LX.out]
        have HOY := Lib.hid (show POk xss ys ys from ⟨hv.1, by rw [LX.out]; exact hs, by rw [hgl]; exact hs⟩)
        have HOI := Lib.hid (fun i (hi : i < m) => show POk xss (onl m i) ys from ⟨hv.1, by rw [LX.out]; exact onl_VS hi, by rw [hgl]; exact hs⟩)
        have HPB := Lib.hid (show PB xss ys ys m m from by have h := hv.1.pb_ HOY.out.x HOY.out.y; rw [LX.out, hgl] at h; exact h)
        have hT := hs.bd (by omega)
        have HT2 := Lib.hid (show 1 ≤ tot ys * tot ys ∧ tot ys * tot ys ≤ 9000000 by
          have h1 : 1 * 1 ≤ tot ys * tot ys := Int.mul_le_mul (by omega) (by omega) (by omega) (by omega)
          have h2 : tot ys * tot ys ≤ 3000 * 3000 := Int.mul_le_mul hT.2 hT.2 (by omega) (by omega)
          omega)
        have HPU := Lib.hid (payU_bd HPB.out hk3 (Nat.le_refl m))
        have HDB := Lib.hid (fun i (hi : i < m) => show -27000 ≤ dotr xss ys i m ∧ dotr xss ys i m ≤ 27000 from by
          have h := dotr_bd (a := xss) (w := ys) (i := i) (m := m) (fun j hj => HPB.out.a i j hi hj) (fun j hj => HPB.out.y j hj) (j := m) (Nat.le_refl m)
          omega)
        have HMF := Lib.hid (show payF xss ys ys = .agg #[.int .i64 (frU (payU xss ys ys m m) (tot ys * tot ys)), .int .i64 (frD (payU xss ys ys m m) (tot ys * tot ys))] from by
          rw [payF_yes HOY.out, hgl, LX.out]; rfl)
        have HIF := Lib.hid (fun i (hi : i < m) => show payF xss (onl m i) ys = .agg #[.int .i64 (frU (dotr xss ys i m) (tot ys)), .int .i64 (frD (dotr xss ys i m) (tot ys))] from by
          rw [payF_yes (HOI.out i hi), hgl, LX.out, payU_alone _ _ _ _ _ hi, tot_onl hi, Int.one_mul]; rfl)
        have HFR := Lib.hid (fun i (hi : i < m) => mean_frac (P := payU xss ys ys m m) (d := dotr xss ys i m) (T := tot ys) (by omega))
        have HPT := Lib.hid (pb_true HOY.out)
        have hub := frU_bd (u := payU xss ys ys m m) (d := tot ys * tot ys) (B := 81000000) (by have := HT2.out; omega) (by have := HPU.out; omega)
        have hdb := frD_bd (u := payU xss ys ys m m) (d := tot ys * tot ys) (B := 9000000) (by have := HT2.out; omega) (by have := HT2.out; omega)
        have HMO := Lib.hid (fun i => show MeanOk xss ys m i ↔ ¬ payU xss ys ys m m < dotr xss ys i m * tot ys ∧ (0 < gi ys i → dotr xss ys i m * tot ys = payU xss ys ys m m) from Iff.rfl)
        clear hv hs hgl
        generalize hU : frU (payU xss ys ys m m) (tot ys * tot ys) = U at *
        generalize hD : frD (payU xss ys ys m m) (tot ys * tot ys) = D at *
        obtain ⟨u1, u2⟩ := hub
        obtain ⟨d1, d2⟩ := hdb
        obtain ⟨t1, t2⟩ := hT
        clear hU hD
        obtain ⟨by_, oy, rfl, -⟩ := HY.out.at_ hk
        have HC := Lib.hid (HGR.out ▸ IsRest_impl _ _ _ xss _ _ _ ys w1 HR.out HY.out)
        go_wp2_with fail
        refine HC.out.mono ?_
        rintro e w2 ⟨rfl, hb⟩
        have HR_2 := Lib.hid (HR.out.keep (Keep.below hb))
        have HY_2 := Lib.hid (HY.out.keep (Keep.below hb))
        have B_2 := Lib.hid (below_up B1.out hb)
        clear hb HC HR HY B1
        have HC := Lib.hid (HGR.out ▸ IsRest_spec _ _ _ xss _ _ _ ys w2 HR_2.out HY_2.out)
        go_wp2_with fail
        refine HC.out.mono ?_
        rintro e w3 ⟨rfl, hb⟩
        have HR_3 := Lib.hid (HR_2.out.keep (Keep.below hb))
        have HY_3 := Lib.hid (HY_2.out.keep (Keep.below hb))
        have B_3 := Lib.hid (below_up B_2.out hb)
        clear hb HC HR_2 HY_2 B_2
        have HC := Lib.hid (HVQ.out ▸ ValidSquare_impl _ _ _ _ w3 HR_3.out)
        go_wp2_with fail
        refine HC.out.mono ?_
        rintro e w4 ⟨rfl, hq⟩
        have hb := hq.below (B := w3.heap.size)
        have HR_4 := Lib.hid (HR_3.out.keep (Keep.below hb))
        have HY_4 := Lib.hid (HY_3.out.keep (Keep.below hb))
        have B_4 := Lib.hid (below_up B_3.out hb)
        clear hb HC hq HR_3 HY_3 B_3
        have HC := Lib.hid (HVT.out ▸ ValidShares_impl _ m cb ys (m : Int) w4 HY_4.out)
        go_wp2_with fail
        refine HC.out.mono ?_
        rintro e w5 ⟨rfl, hq⟩
        have hb := hq.below (B := w4.heap.size)
        have HR_5 := Lib.hid (HR_4.out.keep (Keep.below hb))
        have HY_5 := Lib.hid (HY_4.out.keep (Keep.below hb))
        have B_5 := Lib.hid (below_up B_4.out hb)
        clear hb HC hq HR_4 HY_4 B_4
        have HC := Lib.hid (MeanPay_impl _ _ _ xss _ _ _ ys w5 HR_5.out HY_5.out)
        rw [HMF.out] at HC
        go_wp2_with fail
        refine HC.out.mono ?_
        rintro e w6 ⟨rfl, hb⟩
        have HR_6 := Lib.hid (HR_5.out.keep (Keep.below hb))
        have HY_6 := Lib.hid (HY_5.out.keep (Keep.below hb))
        have B_6 := Lib.hid (below_up B_5.out hb)
        clear hb HC HR_5 HY_5 B_5
        have hal := below_alloc w6 (.cells #[.int .i64 U, .int .i64 D] 26)
        have HR_6b := Lib.hid (HR_6.out.keep (Keep.below hal))
        have HY_6b := Lib.hid (HY_6.out.keep (Keep.below hal))
        have B_6b := Lib.hid (below_up B_6.out hal)
        have M0 := Lib.hid (blk_cell (blk_new w6 26 #[.int .i64 U, .int .i64 D]) (i := 0) (v := .int .i64 U) rfl)
        have M1 := Lib.hid (blk_cell (blk_new w6 26 #[.int .i64 U, .int .i64 D]) (i := 1) (v := .int .i64 D) rfl)
        clear hal HR_6 HY_6 B_6
        have q_0 := M0.out
        have q_1 := M1.out
        have HB0 := Lib.hid (B_6b.out)
        go_wp2
        generalize w6.alloc (.cells #[.int .i64 U, .int .i64 D] 26) = wb at *
        generalize w6.heap.size = hM at *
        clear q_0 q_1
        go_loopw [8, 9] (fun r j wr => ∃ (i : Nat) (bb : Bool), i ≤ m ∧ j = .int .i64 i ∧ r = .bool bb ∧ Hid (pb (∀ q, q < i → MeanOk xss ys m q) = bb) ∧ Hid (Below wb.heap.size wb wr)) (fun _ j _ => m - (intOf j).toNat)
        case atStart => exact ⟨0, true, Nat.zero_le _, rfl, rfl, Lib.hid (pb_true (fun _ h => absurd h (by omega))), Lib.hid (Below.refl _ _)⟩
        case round =>
          obtain ⟨i, bb, hi, rfl, rfl, HB, HQ⟩ := hrel
          by_cases hlt : i < m
          · have HC := Lib.hid (onlyOne_any m i wr (by omega) hlt)
            have HDI := Lib.hid (HDB.out i hlt)
            have HF1 := Lib.hid (HFR.out i hlt).1
            have HF2 := Lib.hid (HFR.out i hlt).2
            have HIP := Lib.hid (HIF.out i hlt)
            have HOP := Lib.hid (pb_true (HOI.out i hlt))
            have ub := frU_bd (u := dotr xss ys i m) (d := tot ys) (B := 27000) (by omega) (by have := HDI.out; omega)
            have db := frD_bd (u := dotr xss ys i m) (d := tot ys) (B := 3000) (by omega) (by omega)
            have HMI := Lib.hid (HMO.out i)
            have HNO := Lib.hid (fun (h : ¬ MeanOk xss ys m i) => pb_false (p := ∀ q, q < i + 1 → MeanOk xss ys m q) (fun hall => h (hall i (by omega))))
            have HYES := Lib.hid (fun (h : MeanOk xss ys m i) => show pb (∀ q, q < i + 1 → MeanOk xss ys m q) = bb from by
              rw [← HB.out]
              exact pb_congr ⟨fun hall q hq => hall q (by omega), fun hall q hq => by
                by_cases e : q = i
                · subst e; exact h
                · exact hall q (by omega)⟩)
            generalize frU (dotr xss ys i m) (tot ys) = u at *
            generalize frD (dotr xss ys i m) (tot ys) = v at *
            obtain ⟨ub1, ub2⟩ := ub
            obtain ⟨db1, db2⟩ := db
            go_wp2_with fail
            refine HC.out.mono ?_
            rintro e v1 ⟨rfl, ho, hb⟩
            have HQ1 := Lib.hid (below_up HQ.out hb)
            have HO1 := Lib.hid ho.ints
            clear ho hb HC HQ HB
            have HC := Lib.hid (PayOf_impl _ _ _ _ _ _ _ _ _ xss (onl m i) ys v1 (HR_6b.out.keep (Keep.below HQ1.out)) HO1.out (HY_6b.out.keep (Keep.below HQ1.out)))
            rw [HIP.out, HOP.out] at HC
            go_wp2_with fail
            refine HC.out.mono ?_
            rintro e v2 ⟨rfl, hb⟩
            have HQ2 := Lib.hid (below_up HQ1.out hb)
            clear hb HC HQ1 HO1
            have HQ3 := Lib.hid (below_up HQ2.out (below_alloc v2 (.cells #[.int .i64 u, .int .i64 v] 26)))
            have HG0 := Lib.hid (blk_cell (blk_new v2 26 #[.int .i64 u, .int .i64 v]) (i := 0) (v := .int .i64 u) rfl)
            have HG1 := Lib.hid (blk_cell (blk_new v2 26 #[.int .i64 u, .int .i64 v]) (i := 1) (v := .int .i64 v) rfl)
            have HC := Lib.hid (lessOf_any U D u v (v2.alloc (.cells #[.int .i64 u, .int .i64 v] 26)) (by omega) (by omega) (by omega) (by omega))
            rw [HF1.out] at HC
            have g0 := HG0.out
            have g1 := HG1.out
            have m0 := Keep.below HQ3.out _ _ M0.out
            have m1 := Keep.below HQ3.out _ _ M1.out
            clear HQ2
            obtain ⟨by2, oy2, hBv, hc⟩ := HY_6b.out.at_ (by omega)
            obtain ⟨rfl, rfl⟩ : by_ = by2 ∧ oy = oy2 := by injection hBv with h; injection h with h1 h2; exact ⟨h1, h2⟩
            have HYC := Lib.hid (hc i hlt)
            clear hc hBv
            by_cases hls : payU xss ys ys m m < dotr xss ys i m * tot ys
            · have HN := Lib.hid (HNO.out (fun h => by have := (HMI.out.1 h).1; omega))
              rw [decide_eq_true hls] at HC
              clear hls HNO HYES HF2 HYC
              go_wp2_with fail
              generalize v2.alloc (.cells #[.int .i64 u, .int .i64 v] 26) = v3 at *
              generalize v2.heap.size = h3 at *
              refine HC.out.mono ?_
              rintro e v4 ⟨rfl, hb⟩
              have HQ4 := Lib.hid (below_up HQ3.out hb)
              clear hb HC HQ3 g0 g1 m0 m1
              go_wp2
              go_roundw
              case rel => exact ⟨i + 1, false, by omega, by go_num, rfl, HN, HQ4⟩
              case measure => simp [intOf]; omega
            · rw [decide_eq_false hls] at HC
              have HLS := Lib.hid hls
              clear hls
              go_wp2_with fail
              generalize v2.alloc (.cells #[.int .i64 u, .int .i64 v] 26) = v3 at *
              generalize v2.heap.size = h3 at *
              refine HC.out.mono ?_
              rintro e v4 ⟨rfl, hb⟩
              have HQ4 := Lib.hid (below_up HQ3.out hb)
              have c1 := Keep.below HQ4.out _ _ HYC.out
              have k0 := Keep.below hb _ _ HG0.out
              have k1 := Keep.below hb _ _ HG1.out
              have k2 := Keep.below HQ4.out _ _ M0.out
              have k3 := Keep.below HQ4.out _ _ M1.out
              clear hb HC HQ3 g0 g1 m0 m1
              generalize hgy : gi ys i = s at *
              by_cases hp : 0 < s
              · by_cases he : dotr xss ys i m * tot ys = payU xss ys ys m m
                · have HN := Lib.hid (HYES.out (HMI.out.2 ⟨HLS.out, fun _ => he⟩))
                  obtain ⟨rfl, rfl⟩ := HF2.out.2 he
                  clear he hgy HNO HYES HMI HF1 HF2 HIP
                  go_wp2
                  go_roundw
                  case rel => exact ⟨i + 1, bb, by omega, by go_num, rfl, HN, HQ4⟩
                  case measure => simp [intOf]; omega
                · have HN := Lib.hid (HNO.out (fun h => he ((HMI.out.1 h).2 hp)))
                  have hne : ¬ (u = U ∧ v = D) := fun h => he (HF2.out.1 h)
                  clear he hgy HNO HYES HMI HF1 HF2 HIP
                  by_cases e1 : u = U
                  · have e2 : (v == D) = false := by rw [beq_eq_false_iff_ne]; exact fun h => hne ⟨e1, h⟩
                    subst e1
                    clear hne
                    go_wp2
                    go_roundw
                    case rel => exact ⟨i + 1, false, by omega, by go_num, rfl, HN, HQ4⟩
                    case measure => simp [intOf]; omega
                  · have e2 : (u == U) = false := by rw [beq_eq_false_iff_ne]; exact e1
                    clear hne e1
                    go_wp2
                    go_roundw
                    case rel => exact ⟨i + 1, false, by omega, by go_num, rfl, HN, HQ4⟩
                    case measure => simp [intOf]; omega
              · have HN := Lib.hid (HYES.out (HMI.out.2 ⟨HLS.out, fun h => absurd h (by first | exact hp | (rw [hgy]; exact hp))⟩))
                have hd : decide (0 < s) = false := decide_eq_false hp
                clear hgy HNO HYES HMI HF1 HF2 HIP
                go_wp2
                go_roundw
                case rel => exact ⟨i + 1, bb, by omega, by go_num, rfl, HN, HQ4⟩
                case measure => simp [intOf]; omega
          · obtain rfl : i = m := by omega
            have HQB := Lib.hid (below_up HB0.out HQ.out)
            have hbb : rr = bb := by rw [← HB.out, ← HGR.out]; exact pb_congr HQM.out
            subst hbb
            go_wp2
            go_ret
            first
            | exact ⟨rfl, HQB.out⟩
            | exact ⟨ret_bool hrr2, HQB.out⟩
      · have HVT := Lib.hid (HVS.out.symm.trans (pb_false hs))
        clear hv hs
        have HC := Lib.hid (HGR.out ▸ IsRest_impl _ _ _ xss _ _ _ ys w1 HR.out HY.out)
        go_wp2_with fail
        refine HC.out.mono ?_
        rintro e w2 ⟨rfl, hb⟩
        have HR_2 := Lib.hid (HR.out.keep (Keep.below hb))
        have HY_2 := Lib.hid (HY.out.keep (Keep.below hb))
        have B_2 := Lib.hid (below_up B1.out hb)
        clear hb HC HR HY B1
        have HC := Lib.hid (HGR.out ▸ IsRest_spec _ _ _ xss _ _ _ ys w2 HR_2.out HY_2.out)
        go_wp2_with fail
        refine HC.out.mono ?_
        rintro e w3 ⟨rfl, hb⟩
        have HR_3 := Lib.hid (HR_2.out.keep (Keep.below hb))
        have HY_3 := Lib.hid (HY_2.out.keep (Keep.below hb))
        have B_3 := Lib.hid (below_up B_2.out hb)
        clear hb HC HR_2 HY_2 B_2
        have HC := Lib.hid (HVQ.out ▸ ValidSquare_impl _ _ _ _ w3 HR_3.out)
        go_wp2_with fail
        refine HC.out.mono ?_
        rintro e w4 ⟨rfl, hq⟩
        have hb := hq.below (B := w3.heap.size)
        have HR_4 := Lib.hid (HR_3.out.keep (Keep.below hb))
        have HY_4 := Lib.hid (HY_3.out.keep (Keep.below hb))
        have B_4 := Lib.hid (below_up B_3.out hb)
        clear hb HC hq HR_3 HY_3 B_3
        have HC := Lib.hid (HVT.out ▸ ValidShares_impl _ m cb ys (k : Int) w4 HY_4.out)
        go_wp2_with fail
        refine HC.out.mono ?_
        rintro e w5 ⟨rfl, hq⟩
        have hb := hq.below (B := w4.heap.size)
        have HR_5 := Lib.hid (HR_4.out.keep (Keep.below hb))
        have HY_5 := Lib.hid (HY_4.out.keep (Keep.below hb))
        have B_5 := Lib.hid (below_up B_4.out hb)
        clear hb HC hq HR_4 HY_4 B_4
        have HC := Lib.hid (HGR.out ▸ IsRest_spec _ _ _ xss _ _ _ ys w5 HR_5.out HY_5.out)
        go_wp2_with fail
        refine HC.out.mono ?_
        rintro e w6 ⟨rfl, hb⟩
        have HR_6 := Lib.hid (HR_5.out.keep (Keep.below hb))
        have HY_6 := Lib.hid (HY_5.out.keep (Keep.below hb))
        have B_6 := Lib.hid (below_up B_5.out hb)
        clear hb HC HR_5 HY_5 B_5
        go_wp2
        go_ret
        first
        | exact ⟨rfl, B_6.out⟩
        | exact ⟨ret_bool hrr2, B_6.out⟩
    · have HVQ := Lib.hid (pb_false hv)
      clear hv
      have HC := Lib.hid (HGR.out ▸ IsRest_impl _ _ _ xss _ _ _ ys w1 HR.out HY.out)
      go_wp2_with fail
      refine HC.out.mono ?_
      rintro e w2 ⟨rfl, hb⟩
      have HR_2 := Lib.hid (HR.out.keep (Keep.below hb))
      have HY_2 := Lib.hid (HY.out.keep (Keep.below hb))
      have B_2 := Lib.hid (below_up B1.out hb)
      clear hb HC HR HY B1
      have HC := Lib.hid (HGR.out ▸ IsRest_spec _ _ _ xss _ _ _ ys w2 HR_2.out HY_2.out)
      go_wp2_with fail
      refine HC.out.mono ?_
      rintro e w3 ⟨rfl, hb⟩
      have HR_3 := Lib.hid (HR_2.out.keep (Keep.below hb))
      have HY_3 := Lib.hid (HY_2.out.keep (Keep.below hb))
      have B_3 := Lib.hid (below_up B_2.out hb)
      clear hb HC HR_2 HY_2 B_2
      have HC := Lib.hid (HVQ.out ▸ ValidSquare_impl _ _ _ _ w3 HR_3.out)
      go_wp2_with fail
      refine HC.out.mono ?_
      rintro e w4 ⟨rfl, hq⟩
      have hb := hq.below (B := w3.heap.size)
      have HR_4 := Lib.hid (HR_3.out.keep (Keep.below hb))
      have HY_4 := Lib.hid (HY_3.out.keep (Keep.below hb))
      have B_4 := Lib.hid (below_up B_3.out hb)
      clear hb HC hq HR_3 HY_3 B_3
      have HC := Lib.hid (HGR.out ▸ IsRest_spec _ _ _ xss _ _ _ ys w4 HR_4.out HY_4.out)
      go_wp2_with fail
      refine HC.out.mono ?_
      rintro e w5 ⟨rfl, hb⟩
      have HR_5 := Lib.hid (HR_4.out.keep (Keep.below hb))
      have HY_5 := Lib.hid (HY_4.out.keep (Keep.below hb))
      have B_5 := Lib.hid (below_up B_4.out hb)
      clear hb HC HR_4 HY_4 B_4
      go_wp2
      go_ret
      first
      | exact ⟨rfl, B_5.out⟩
      | exact ⟨ret_bool hrr2, B_5.out⟩

set_option maxRecDepth 100000 in
theorem hFnIsRest_lifted (os : Os) (started : os.Started) (H : Type) (enc : TypeId × Value → H) :
    ReturnsInHanded {} Try.checked os 9 .any (Rows.fnIsRestSpec.pre6 enc Try.prog Try.f9 Rows.fnIsRestRow.domain false) (Rows.fnIsRestSpec.post enc Try.prog Try.f9 false true false false) := by
  refine returnsInHanded_of_change_sized (C := Try.checked) Try.own started (by kernel_rfl) Try.func9
    (ChangeSpec.witness6 (enc := enc) (C := Try.checked) false ⟨#[], #[.slice none 0 0], []⟩ 8 (by kernel_rfl) (by kernel_rfl) (by kernel_rfl) (by kernel_rfl)) ?_
  intro W base args ds gs before hval0 hW _ hwt _
  have hval : ∀ (j : Nat) t v, Try.f9.params[j]? = some t → args[j]? = some v → Value.okWide Try.prog W .any base t v := hval0
  have hA : ∃ p, DataW.TrodAll enc Try.prog W 0 (fun _ => true) true Try.f9.params.toList args.toList ds p := by obtain ⟨p, q, hA0, _⟩ := hW; exact ⟨p, hA0⟩
  obtain ⟨p, hA⟩ := hA
  have hwt' := weights_arg hwt (j := 0) (t := 37) (by rw [Try.params9]; rfl) (d := ds.getD 0 .nil)
  rw [Try.params9] at hA hval
  obtain ⟨v0, d0, rfl, rfl, h0⟩ := trodAll_one hA
  obtain ⟨A, n, c, rfl, hx⟩ := open_bytes (hval 0 37 v0 rfl rfl) h0 (hwt' rfl)
  refine (fnIsRest_calls A n c W hx).mono fun e W' ⟨he, hb⟩ => ?_
  subst he
  exact ⟨_, rfl, law_post (F := Try.f9) rfl rfl (by rw [Try.params9]; simp only [List.mem_cons, List.not_mem_nil, or_false, forall_eq]; exact ⟨by kernel_rfl, of_decide_eq_true (by kernel_rfl)⟩) hW (fun h => by subst h; rfl) hb⟩

theorem hFnIsRest_holds : Rows.FnIsRestSaid :=
  OpenClaim.holds_of_wide 9 Try.f9 rfl rfl rfl rfl rfl rfl rfl ⟨rfl, rfl, rfl, rfl, rfl⟩ rfl rfl rfl rfl rfl (by kernel_rfl) Try.func9
    (by unfold joinedFacts; simp only [Bool.and_eq_true]; (repeat' apply And.intro) <;> (first | (with_reducible exact prog_enters) | ((with_reducible refine prog_lifts ?_); rfl) | ((with_reducible refine prog_make ?_); rfl) | kernel_rfl))
    (of_decide_eq_true (by kernel_rfl)) (by unfold Func.isWrapper; first | (rw [if_pos (by decide +kernel)]; kernel_rfl) | (rw [if_neg (by decide +kernel)]; exact ⟨rfl, rfl⟩))
    (fun os started H enc _ => hFnIsRest_lifted os started H enc)

end Go.Proofs.Ytmhknknapciebaa
