/- The law FnPayOf holds: for every code, of the table and the shares that it draws, the program's PayOf answers as the model's, in lowest terms, and it is the mean of the means of each row alone. No condition. -/
import Derived.Test.YtgnbmanlpppdoaaQ8
namespace Go.Proofs.Ytgnbmanlpppdoaa
open Go.ChangeShapes Go.WideShapes Go.ChangeAt Go.RowKit Go.Deep

theorem frV_eta (u d : Int) : frV u d = .agg #[.int .i64 (frU u d), .int .i64 (frD u d)] := rfl
theorem pay_onl {a : List (List Int)} {y : List Int} (v : VT a) (hy : VS y (gr a 0).length) {i : Nat} (hi : i < a.length) : payF a (onl a.length i) y = frV (rowY a y (gr a 0).length i) (tot y) := by
  rw [payF_yes ⟨v, onl_VS hi, hy⟩, payU_onl a y _ (Nat.le_refl _), if_pos hi, tot_onl hi, Int.one_mul]

set_option maxRecDepth 100000 in
set_option maxHeartbeats 3200000 in
theorem fnPayOf_calls (A : Option Addr) (n c : Nat) (w : World) (hx : Bytes w A n c) :
    Calls Try.prog 4 #[.slice A n c] w fun e w' => e = .returned (.bool true) ∧ Below w.heap.size w w' := by
  have hmx := hx.max
  have H0 := Lib.hid (DrawPayOf_any A n c w hx)
  clear hx
  by_cases hs : 1048576 < n
  · go_enter Try.func4, Try.ntmps4
    go_wp2
    go_ret
    exact ⟨rfl, Below.refl _ _⟩
  · go_enter Try.func4, Try.ntmps4
    go_wp2_with fail
    refine H0.out.mono ?_
    rintro e w1 ⟨Av, k, cv, gg, xss, Bv, kb, cb, xs, Cv, kc, cc_, ys, rfl, hsm, hown, hix, hiy, hb⟩
    have HR := Lib.hid hown.rows
    have HX := Lib.hid hix
    have HY := Lib.hid hiy
    have B1 := Lib.hid hb
    have LX := Lib.hid hown.rows.len
    have LB := Lib.hid hix.len
    clear hsm hown hix hiy hb H0
    by_cases hok : POk xss xs ys
    · have HV := Lib.hid hok.v
      have HVX := Lib.hid hok.x
      have HVY := Lib.hid hok.y
      have HTP := Lib.hid (pb_true hok)
      have hn3 := hok.v.n3
      have hn1 := hok.v.n1
      have hm3 := hok.v.m3
      have HKB := Lib.hid (show kb = xss.length by rw [← LB.out]; have := hok.x.1; omega)
      have HPB := Lib.hid (hok.v.pb_ hok.x hok.y)
      have hT1 : 1 ≤ tot xs ∧ tot xs ≤ 3000 := by have := hok.x.bd (by omega); omega
      have hT2 : 1 ≤ tot ys ∧ tot ys ≤ 3000 := by have := hok.y.bd (by omega); omega
      obtain ⟨t11, t12⟩ := hT1
      obtain ⟨t21, t22⟩ := hT2
      have HPF := Lib.hid (show payF xss xs ys = .agg #[.int .i64 (frU (payU xss xs ys (gr xss 0).length xss.length) (tot xs * tot ys)), .int .i64 (frD (payU xss xs ys (gr xss 0).length xss.length) (tot xs * tot ys))] by rw [payF_yes hok]; rfl)
      have HUB := payU_bd HPB.out hm3 (i := xss.length) (Nat.le_refl _)
      have HTT : 1 ≤ tot xs * tot ys ∧ tot xs * tot ys ≤ 9000000 := by
        have h1 : 1 * 1 ≤ tot xs * tot ys := Int.mul_le_mul t11 t21 (by omega) (by omega)
        have h2 : tot xs * tot ys ≤ 3000 * 3000 := Int.mul_le_mul t12 t22 (by omega) (by omega)
        omega
      have hub := frU_bd (u := payU xss xs ys (gr xss 0).length xss.length) (d := tot xs * tot ys) (B := 81000000) (by omega) (by omega)
      have hdb := frD_bd (u := payU xss xs ys (gr xss 0).length xss.length) (d := tot xs * tot ys) (B := 9000000) (by omega) (by omega)
      have HGC := Lib.hid (show gcdI (frU (payU xss xs ys (gr xss 0).length xss.length) (tot xs * tot ys)) (frD (payU xss xs ys (gr xss 0).length xss.length) (tot xs * tot ys)) = 1 by unfold gcdI; rw [fr_coprime _ _ (by omega)]; rfl)
      have HZ := Lib.hid (show frV 0 1 = .agg #[.int .i64 (frU (payU xss xs ys (gr xss 0).length 0) (tot xs * tot ys)), .int .i64 (frD (payU xss xs ys (gr xss 0).length 0) (tot xs * tot ys))] by
        obtain ⟨e1, e2⟩ := fr_eq (u := 0) (d := 1) (v := payU xss xs ys (gr xss 0).length 0) (e := tot xs * tot ys) (by omega) (by omega) (by simp [payU])
        unfold frV; rw [e1, e2])
      clear hok HUB
      obtain ⟨sU, hsU⟩ : ∃ f : Nat → Int, ∀ q, f q = frU (payU xss xs ys (gr xss 0).length q) (tot xs * tot ys) := ⟨_, fun _ => rfl⟩
      obtain ⟨sD, hsD⟩ : ∃ f : Nat → Int, ∀ q, f q = frD (payU xss xs ys (gr xss 0).length q) (tot xs * tot ys) := ⟨_, fun _ => rfl⟩
      have HSU := Lib.hid hsU
      have HSD := Lib.hid hsD
      rw [← hsU, ← hsD] at HPF HGC
      rw [← hsU] at hub
      rw [← hsD] at hdb
      rw [← hsU, ← hsD] at HZ
      clear hsU hsD
      obtain ⟨u1, u2⟩ := hub
      obtain ⟨d1, d2⟩ := hdb
      rw [← HKB.out] at HPF HGC u1 u2 d1 d2 hn1 hn3
      have HC := Lib.hid (PayOf_impl _ _ _ k cv kb cb kc cc_ xss xs ys w1 HR.out HX.out HY.out)
      rw [HPF.out, HTP.out] at HC
      go_wp2_with fail
      refine HC.out.mono ?_
      rintro e w2 ⟨rfl, hb⟩
      have HR_2 := Lib.hid (HR.out.keep (Keep.below hb))
      have HX_2 := Lib.hid (HX.out.keep (Keep.below hb))
      have HY_2 := Lib.hid (HY.out.keep (Keep.below hb))
      have B_2 := Lib.hid (below_up B1.out hb)
      clear hb HC HR HX HY B1
      have hal := below_alloc w2 (.cells #[.int .i64 (sU kb), .int .i64 (sD kb)] 28)
      have HR_2b := Lib.hid (HR_2.out.keep (Keep.below hal))
      have HX_2b := Lib.hid (HX_2.out.keep (Keep.below hal))
      have HY_2b := Lib.hid (HY_2.out.keep (Keep.below hal))
      have B_2b := Lib.hid (below_up B_2.out hal)
      have F0 := Lib.hid (blk_cell (blk_new w2 28 #[.int .i64 (sU kb), .int .i64 (sD kb)]) (i := 0) (v := .int .i64 (sU kb)) rfl)
      have F1 := Lib.hid (blk_cell (blk_new w2 28 #[.int .i64 (sU kb), .int .i64 (sD kb)]) (i := 1) (v := .int .i64 (sD kb)) rfl)
      clear hal HR_2 HX_2 HY_2 B_2
      have HC := Lib.hid (PayOf_spec _ _ _ k cv kb cb kc cc_ xss xs ys (w2.alloc (.cells #[.int .i64 (sU kb), .int .i64 (sD kb)] 28)) HR_2b.out HX_2b.out HY_2b.out)
      rw [HPF.out, HTP.out] at HC
      go_wp2_with fail
      generalize w2.alloc (.cells #[.int .i64 (sU kb), .int .i64 (sD kb)] 28) = w2a at *
      generalize w2.heap.size = h2a at *
      refine HC.out.mono ?_
      rintro e w3 ⟨rfl, hb⟩
      have HR_3 := Lib.hid (HR_2b.out.keep (Keep.below hb))
      have HX_3 := Lib.hid (HX_2b.out.keep (Keep.below hb))
      have HY_3 := Lib.hid (HY_2b.out.keep (Keep.below hb))
      have F0_3 := Lib.hid (Keep.below hb _ _ F0.out)
      have F1_3 := Lib.hid (Keep.below hb _ _ F1.out)
      have B_3 := Lib.hid (below_up B_2b.out hb)
      clear hb HC HR_2b HX_2b HY_2b F0 F1 B_2b
      have hal := below_alloc w3 (.cells #[.int .i64 (sU kb), .int .i64 (sD kb)] 28)
      have HR_3b := Lib.hid (HR_3.out.keep (Keep.below hal))
      have HX_3b := Lib.hid (HX_3.out.keep (Keep.below hal))
      have HY_3b := Lib.hid (HY_3.out.keep (Keep.below hal))
      have F0_3b := Lib.hid (Keep.below hal _ _ F0_3.out)
      have F1_3b := Lib.hid (Keep.below hal _ _ F1_3.out)
      have B_3b := Lib.hid (below_up B_3.out hal)
      have G0 := Lib.hid (blk_cell (blk_new w3 28 #[.int .i64 (sU kb), .int .i64 (sD kb)]) (i := 0) (v := .int .i64 (sU kb)) rfl)
      have G1 := Lib.hid (blk_cell (blk_new w3 28 #[.int .i64 (sU kb), .int .i64 (sD kb)]) (i := 1) (v := .int .i64 (sD kb)) rfl)
      clear hal HR_3 HX_3 HY_3 F0_3 F1_3 B_3
      have HC := Lib.hid (HZ.out ▸ fracOfL_any 0 1 (w3.alloc (.cells #[.int .i64 (sU kb), .int .i64 (sD kb)] 28)) (by unfold Mid; omega) (by unfold Mid; omega) (by omega))
      have q_F0 := F0_3b.out
      have q_F1 := F1_3b.out
      have q_G0 := G0.out
      have q_G1 := G1.out
      go_wp2_with fail
      generalize w3.alloc (.cells #[.int .i64 (sU kb), .int .i64 (sD kb)] 28) = w3a at *
      generalize w3.heap.size = h3a at *
      refine HC.out.mono ?_
      rintro e w4 ⟨rfl, hb⟩
      have HR_4 := Lib.hid (HR_3b.out.keep (Keep.below hb))
      have HX_4 := Lib.hid (HX_3b.out.keep (Keep.below hb))
      have HY_4 := Lib.hid (HY_3b.out.keep (Keep.below hb))
      have F0_4 := Lib.hid (Keep.below hb _ _ F0_3b.out)
      have F1_4 := Lib.hid (Keep.below hb _ _ F1_3b.out)
      have G0_4 := Lib.hid (Keep.below hb _ _ G0.out)
      have G1_4 := Lib.hid (Keep.below hb _ _ G1.out)
      have B_4 := Lib.hid (below_up B_3b.out hb)
      clear hb HC HR_3b HX_3b HY_3b F0_3b F1_3b G0 G1 B_3b q_F0 q_F1 q_G0 q_G1
      clear G0_4
      clear G1_4
      have HBK := Lib.hid (blk_new w4 28 #[.int .i64 (sU 0), .int .i64 (sD 0)])
      have HBL := Lib.hid (below_alloc w4 (.cells #[.int .i64 (sU 0), .int .i64 (sD 0)] 28))
      go_wp2
      generalize w4.alloc (.cells #[.int .i64 (sU 0), .int .i64 (sD 0)] 28) = W0 at *
      go_loopw [11] (fun j wr => ∃ q : Nat, q ≤ kb ∧ j = .int .i64 q ∧ Hid (Blk wr w4.heap.size 28 #[.int .i64 (sU q), .int .i64 (sD q)]) ∧ Hid (Below w4.heap.size w4 wr)) (fun j _ => kb - (intOf j).toNat)
      case atStart => exact ⟨0, Nat.zero_le _, rfl, HBK, HBL⟩
      case round =>
        clear HBK HBL
        obtain ⟨q, hq, rfl, HBK, HBI⟩ := hrel
        have HR_r := Lib.hid (HR_4.out.keep (Keep.below HBI.out))
        have HX_r := Lib.hid (HX_4.out.keep (Keep.below HBI.out))
        have HY_r := Lib.hid (HY_4.out.keep (Keep.below HBI.out))
        have F0_r := Lib.hid (Keep.below HBI.out _ _ F0_4.out)
        have F1_r := Lib.hid (Keep.below HBI.out _ _ F1_4.out)
        by_cases hlt : q < kb
        · have hqx : q < xss.length := by rw [← HKB.out]; exact hlt
          have HPO := Lib.hid (show payF xss (onl kb q) ys = .agg #[.int .i64 (frU (rowY xss ys (gr xss 0).length q) (tot ys)), .int .i64 (frD (rowY xss ys (gr xss 0).length q) (tot ys))] by rw [HKB.out, pay_onl HV.out HVY.out hqx]; rfl)
          have HPT := Lib.hid (show pb (POk xss (onl kb q) ys) = true from pb_true ⟨HV.out, by rw [HKB.out]; exact onl_VS hqx, HVY.out⟩)
          have hrb := rowY_bd HPB.out hm3 hqx
          have hxb := HPB.out.x q hqx
          have hsb := payU_bd HPB.out hm3 (i := q) (by omega)
          have hsb2 : -54000000 ≤ payU xss xs ys (gr xss 0).length q ∧ payU xss xs ys (gr xss 0).length q ≤ 54000000 := by omega
          obtain ⟨hm1, hm2, hm4, hm5, hm6⟩ := sum_mid (S := payU xss xs ys (gr xss 0).length q) (R := rowY xss ys (gr xss 0).length q) (X := gi xs q) ⟨t11, t12⟩ ⟨t21, t22⟩ hsb2 hrb hxb
          obtain ⟨e1, e2⟩ := mean_step (S := payU xss xs ys (gr xss 0).length q) (R := rowY xss ys (gr xss 0).length q) (X := gi xs q) (T1 := tot xs) (T2 := tot ys) (by omega) (by omega)
          rw [← payU_succ] at e1 e2
          obtain ⟨g1, g2⟩ := fr_mul (u := rowY xss ys (gr xss 0).length q) (d := tot ys) (v := gi xs q) (e := tot xs) (by omega) (by omega)
          rw [← HSU.out] at hm1 hm2 e1 e2
          rw [← HSD.out] at hm1 hm4 e1 e2
          rw [← HSU.out] at e1
          rw [← HSD.out] at e2
          have b1 := frU_bd (u := rowY xss ys (gr xss 0).length q) (d := tot ys) (B := 27000) (by omega) hrb
          have b2 := frD_bd (u := rowY xss ys (gr xss 0).length q) (d := tot ys) (B := 3000) (by omega) t22
          have b3 := frU_bd (u := gi xs q) (d := tot xs) (B := 1000) (by omega) (by omega)
          have b4 := frD_bd (u := gi xs q) (d := tot xs) (B := 3000) (by omega) t12
          have HF1 := Lib.hid (frV_eta (gi xs q) (tot xs))
          have HF2 := Lib.hid (show frV (frU (rowY xss ys (gr xss 0).length q) (tot ys) * frU (gi xs q) (tot xs)) (frD (rowY xss ys (gr xss 0).length q) (tot ys) * frD (gi xs q) (tot xs)) = .agg #[.int .i64 (frU (rowY xss ys (gr xss 0).length q * gi xs q) (tot ys * tot xs)), .int .i64 (frD (rowY xss ys (gr xss 0).length q * gi xs q) (tot ys * tot xs))] by unfold frV; rw [g1, g2])
          have HF3 := Lib.hid (show frV (sU q * frD (rowY xss ys (gr xss 0).length q * gi xs q) (tot ys * tot xs) + frU (rowY xss ys (gr xss 0).length q * gi xs q) (tot ys * tot xs) * sD q) (sD q * frD (rowY xss ys (gr xss 0).length q * gi xs q) (tot ys * tot xs)) = .agg #[.int .i64 (sU (q + 1)), .int .i64 (sD (q + 1))] by unfold frV; rw [e1, e2])
          clear e1 e2 g1 g2 hsb hsb2
          obtain ⟨bx, ox, rfl, hcx⟩ := HX_r.out.at_ (by omega)
          have HCX := Lib.hid (hcx q hlt)
          clear hcx
          generalize frU (rowY xss ys (gr xss 0).length q) (tot ys) = ru at *
          generalize frD (rowY xss ys (gr xss 0).length q) (tot ys) = rd at *
          generalize frU (gi xs q) (tot xs) = xu at *
          generalize frD (gi xs q) (tot xs) = xd at *
          generalize frU (rowY xss ys (gr xss 0).length q * gi xs q) (tot ys * tot xs) = tu at *
          generalize frD (rowY xss ys (gr xss 0).length q * gi xs q) (tot ys * tot xs) = td at *
          generalize gi xs q = x at *
          generalize sU q = su at *
          generalize sD q = sd at *
          have HMM := Lib.hid hm1
          have HE1 := Lib.hid (And.intro hm2 (And.intro hm4 (And.intro hm5 hm6)))
          have HE2 := Lib.hid (And.intro (And.intro b1 b2) (And.intro b3 b4))
          have HE3 := Lib.hid hxb
          clear hm1 hm2 hm4 hm5 hm6 b1 b2 b3 b4 hrb hxb
          have HSO := Lib.hid (show SumOk xs from HVX.out.sumOk (by have := HV.out.n3; omega))
          have HC := Lib.hid (onlyOne_any kb q wr (by omega) hlt)
          go_wp2_with fail
          refine HC.out.mono ?_
          rintro e w101 ⟨rfl, ho, hb⟩
          have HR_101 := Lib.hid (HR_r.out.keep (Keep.below hb))
          have HX_101 := Lib.hid (HX_r.out.keep (Keep.below hb))
          have HY_101 := Lib.hid (HY_r.out.keep (Keep.below hb))
          have F0_101 := Lib.hid (Keep.below hb _ _ F0_r.out)
          have F1_101 := Lib.hid (Keep.below hb _ _ F1_r.out)
          have HCX_101 := Lib.hid (Keep.below hb _ _ HCX.out)
          have B_101 := Lib.hid (below_up HBI.out hb)
          have HO := Lib.hid ho.ints
          have HBK_101 := Lib.hid (blk_below HBK.out hb)
          clear ho HBK
          clear hb HC HR_r HX_r HY_r F0_r F1_r HCX HBI
          have HC := Lib.hid (PayOf_impl _ _ _ k cv _ _ kc cc_ xss (onl kb q) ys w101 HR_101.out HO.out HY_101.out)
          rw [HPO.out, HPT.out] at HC
          go_wp2_with fail
          refine HC.out.mono ?_
          rintro e w102 ⟨rfl, hb⟩
          have HR_102 := Lib.hid (HR_101.out.keep (Keep.below hb))
          have HX_102 := Lib.hid (HX_101.out.keep (Keep.below hb))
          have HY_102 := Lib.hid (HY_101.out.keep (Keep.below hb))
          have F0_102 := Lib.hid (Keep.below hb _ _ F0_101.out)
          have F1_102 := Lib.hid (Keep.below hb _ _ F1_101.out)
          have HCX_102 := Lib.hid (Keep.below hb _ _ HCX_101.out)
          have HO_102 := Lib.hid (HO.out.keep (Keep.below hb))
          have B_102 := Lib.hid (below_up B_101.out hb)
          have HBK_102 := Lib.hid (blk_below HBK_101.out hb)
          clear HBK_101
          clear hb HC HR_101 HX_101 HY_101 F0_101 F1_101 HCX_101 HO B_101
          clear HO_102
          have HBK_p := Lib.hid (blk_below HBK_102.out (below_alloc w102 (.cells #[.int .i64 ru, .int .i64 rd] 28)))
          clear HBK_102
          have hal := below_alloc w102 (.cells #[.int .i64 ru, .int .i64 rd] 28)
          have HR_102b := Lib.hid (HR_102.out.keep (Keep.below hal))
          have HX_102b := Lib.hid (HX_102.out.keep (Keep.below hal))
          have HY_102b := Lib.hid (HY_102.out.keep (Keep.below hal))
          have F0_102b := Lib.hid (Keep.below hal _ _ F0_102.out)
          have F1_102b := Lib.hid (Keep.below hal _ _ F1_102.out)
          have HCX_102b := Lib.hid (Keep.below hal _ _ HCX_102.out)
          have B_102b := Lib.hid (below_up B_102.out hal)
          have P0 := Lib.hid (blk_cell (blk_new w102 28 #[.int .i64 ru, .int .i64 rd]) (i := 0) (v := .int .i64 ru) rfl)
          have P1 := Lib.hid (blk_cell (blk_new w102 28 #[.int .i64 ru, .int .i64 rd]) (i := 1) (v := .int .i64 rd) rfl)
          clear hal HR_102 HX_102 HY_102 F0_102 F1_102 HCX_102 B_102
          have HBW := Lib.hid B_102b.out
          have HXK := Lib.hid HX_102b.out
          have z0 := blk_cell HBK_p.out (i := 0) (v := .int .i64 su) rfl
          have z1 := blk_cell HBK_p.out (i := 1) (v := .int .i64 sd) rfl
          have z2 := P0.out
          have z3 := P1.out
          have z4 := HCX_102b.out
          have HZA := Lib.hid (And.intro (And.intro z0 z1) (And.intro (And.intro z2 z3) z4))
          go_wp2
          generalize w102.alloc (.cells #[.int .i64 ru, .int .i64 rd] 28) = w102a at *
          generalize w102.heap.size = h102a at *
          have HBK2 := HBK_p
          clear HBK_p
          go_region_law ((first
            | (go_simp; go_at_call 28; refine (total_any _ _ _ xs _ (HXK.out.keep (Keep.drewN _ 1)) HSO.out).mono ?_; rintro e v1 ⟨rfl, hqq⟩; have D1 := Lib.hid (show Below w102a.heap.size w102a v1 from below_quiet (Below.refl _ _).drew hqq); have y0 := Keep.below D1.out _ _ HZA.out.1.1; have y1 := Keep.below D1.out _ _ HZA.out.1.2; have y2 := Keep.below D1.out _ _ HZA.out.2.1.1; have y3 := Keep.below D1.out _ _ HZA.out.2.1.2; have y4 := Keep.below D1.out _ _ HZA.out.2.2; clear hqq)
            | (go_simp; go_at_call 21; refine (HF1.out ▸ fracOfL_any x (tot xs) _ (by have := HE3.out; unfold Mid; omega) (by unfold Mid; omega) t11).mono ?_; rintro e v2 ⟨rfl, hb⟩; have D2 := Lib.hid (below_up D1.out hb); have y0 := Keep.below D2.out _ _ HZA.out.1.1; have y1 := Keep.below D2.out _ _ HZA.out.1.2; have y2 := Keep.below D2.out _ _ HZA.out.2.1.1; have y3 := Keep.below D2.out _ _ HZA.out.2.1.2; clear hb D1)
            | (go_simp; go_at_call 27; refine (HF2.out ▸ timesOf_any ru rd xu xd _ (by have := HE2.out; omega) (by have := HE2.out; omega) (by have := HE2.out; omega) (by have := HE2.out; omega)).mono ?_; rintro e v3 ⟨rfl, hb⟩; have D3 := Lib.hid (below_up D2.out hb); have y0 := Keep.below D3.out _ _ HZA.out.1.1; have y1 := Keep.below D3.out _ _ HZA.out.1.2; clear hb D2)
            | (go_simp; go_at_call 26; refine (HF3.out ▸ plusOf_any su sd tu td _ (by have := HE1.out; omega) (by have := HE1.out; omega) (by have := HE1.out; omega) (by have := HE1.out; omega) HMM.out).mono ?_; rintro e v4 ⟨rfl, hb⟩; have D4 := Lib.hid (below_up D3.out hb); have HK4 := Lib.hid (blk_below HBK2.out D4.out); have y0 := blk_cell HK4.out (i := 0) (v := .int .i64 su) rfl; have y1 := blk_cell HK4.out (i := 1) (v := .int .i64 sd) rfl; have f0 := blk_frozen HK4.out 0; have f1 := blk_frozen HK4.out 1; clear hb D3)))
          all_goals
            clear z0 z1 z2 z3 z4 y0 y1 f0 f1
            go_wp2
            go_roundw
            case rel => exact ⟨q + 1, by omega, by go_num, Lib.hid (blk_set (blk_set HK4.out 0 (.int .i64 (sU (q + 1)))) 1 (.int .i64 (sD (q + 1)))), Lib.hid (((below_up HBW.out D4.out).setCell (p := ⟨w4.heap.size, 0, none⟩) (Nat.le_refl _) _).setCell (p := ⟨w4.heap.size, 1, none⟩) (Nat.le_refl _) _)⟩
            case measure => simp [intOf]; omega
        · obtain rfl : q = kb := by omega
          have HBT := Lib.hid (below_up B_4.out HBI.out)
          have HS0 := Lib.hid (blk_cell HBK.out (i := 0) (v := .int .i64 (sU q)) rfl)
          have HS1 := Lib.hid (blk_cell HBK.out (i := 1) (v := .int .i64 (sD q)) rfl)
          clear HBK
          have HC := Lib.hid (HGC.out ▸ divisor_any (sU q) (sD q) wr (by unfold Mid; omega) (by unfold Mid; omega))
          have q_F0 := F0_r.out
          have q_F1 := F1_r.out
          have q_HS0 := HS0.out
          have q_HS1 := HS1.out
          go_wp2_with fail
          refine HC.out.mono ?_
          rintro e w201 ⟨rfl, hq⟩
          have hb := hq.below (B := wr.heap.size)
          have HR_201 := Lib.hid (HR_r.out.keep (Keep.below hb))
          have HX_201 := Lib.hid (HX_r.out.keep (Keep.below hb))
          have HY_201 := Lib.hid (HY_r.out.keep (Keep.below hb))
          have F0_201 := Lib.hid (Keep.below hb _ _ F0_r.out)
          have F1_201 := Lib.hid (Keep.below hb _ _ F1_r.out)
          have HS0_201 := Lib.hid (Keep.below hb _ _ HS0.out)
          have HS1_201 := Lib.hid (Keep.below hb _ _ HS1.out)
          have B_201 := Lib.hid (below_up HBT.out hb)
          clear hb HC hq HR_r HX_r HY_r F0_r F1_r HS0 HS1 HBT q_F0 q_F1 q_HS0 q_HS1
          have q_F0 := F0_201.out
          have q_F1 := F1_201.out
          have q_HS0 := HS0_201.out
          have q_HS1 := HS1_201.out
          go_wp2
          go_ret
          exact ⟨rfl, B_201.out⟩
    · have HTP := Lib.hid (pb_false hok)
      have HPF := Lib.hid (payF_no hok)
      clear hok
      have HC := Lib.hid (PayOf_impl _ _ _ k cv kb cb kc cc_ xss xs ys w1 HR.out HX.out HY.out)
      rw [HPF.out, HTP.out] at HC
      go_wp2_with fail
      refine HC.out.mono ?_
      rintro e w2 ⟨rfl, hb⟩
      have HR_2 := Lib.hid (HR.out.keep (Keep.below hb))
      have HX_2 := Lib.hid (HX.out.keep (Keep.below hb))
      have HY_2 := Lib.hid (HY.out.keep (Keep.below hb))
      have B_2 := Lib.hid (below_up B1.out hb)
      clear hb HC HR HX HY B1
      have hal := below_alloc w2 (.cells #[.int .i64 0, .int .i64 0] 28)
      have HR_2b := Lib.hid (HR_2.out.keep (Keep.below hal))
      have HX_2b := Lib.hid (HX_2.out.keep (Keep.below hal))
      have HY_2b := Lib.hid (HY_2.out.keep (Keep.below hal))
      have B_2b := Lib.hid (below_up B_2.out hal)
      have F0 := Lib.hid (blk_cell (blk_new w2 28 #[.int .i64 0, .int .i64 0]) (i := 0) (v := .int .i64 0) rfl)
      have F1 := Lib.hid (blk_cell (blk_new w2 28 #[.int .i64 0, .int .i64 0]) (i := 1) (v := .int .i64 0) rfl)
      clear hal HR_2 HX_2 HY_2 B_2
      have HC := Lib.hid (PayOf_spec _ _ _ k cv kb cb kc cc_ xss xs ys (w2.alloc (.cells #[.int .i64 0, .int .i64 0] 28)) HR_2b.out HX_2b.out HY_2b.out)
      rw [HPF.out, HTP.out] at HC
      go_wp2_with fail
      generalize w2.alloc (.cells #[.int .i64 0, .int .i64 0] 28) = w2a at *
      generalize w2.heap.size = h2a at *
      refine HC.out.mono ?_
      rintro e w3 ⟨rfl, hb⟩
      have HR_3 := Lib.hid (HR_2b.out.keep (Keep.below hb))
      have HX_3 := Lib.hid (HX_2b.out.keep (Keep.below hb))
      have HY_3 := Lib.hid (HY_2b.out.keep (Keep.below hb))
      have F0_3 := Lib.hid (Keep.below hb _ _ F0.out)
      have F1_3 := Lib.hid (Keep.below hb _ _ F1.out)
      have B_3 := Lib.hid (below_up B_2b.out hb)
      clear hb HC HR_2b HX_2b HY_2b F0 F1 B_2b
      have hal := below_alloc w3 (.cells #[.int .i64 0, .int .i64 0] 28)
      have HR_3b := Lib.hid (HR_3.out.keep (Keep.below hal))
      have HX_3b := Lib.hid (HX_3.out.keep (Keep.below hal))
      have HY_3b := Lib.hid (HY_3.out.keep (Keep.below hal))
      have F0_3b := Lib.hid (Keep.below hal _ _ F0_3.out)
      have F1_3b := Lib.hid (Keep.below hal _ _ F1_3.out)
      have B_3b := Lib.hid (below_up B_3.out hal)
      have G0 := Lib.hid (blk_cell (blk_new w3 28 #[.int .i64 0, .int .i64 0]) (i := 0) (v := .int .i64 0) rfl)
      have G1 := Lib.hid (blk_cell (blk_new w3 28 #[.int .i64 0, .int .i64 0]) (i := 1) (v := .int .i64 0) rfl)
      clear hal HR_3 HX_3 HY_3 F0_3 F1_3 B_3
      have q_F0 := F0_3b.out
      have q_F1 := F1_3b.out
      have q_G0 := G0.out
      have q_G1 := G1.out
      go_wp2
      go_ret
      exact ⟨rfl, B_3b.out⟩

theorem hFnPayOf_lifted (os : Os) (started : os.Started) (H : Type) (enc : TypeId × Value → H) :
    ReturnsInHanded {} Try.checked os 4 .any (Rows.fnPayOfSpec.pre6 enc Try.prog Try.f4 Rows.fnPayOfRow.domain false) (Rows.fnPayOfSpec.post enc Try.prog Try.f4 false true false false) := by
  refine returnsInHanded_of_change_sized (C := Try.checked) Try.own started (by kernel_rfl) Try.func4
    (ChangeSpec.witness6 (enc := enc) (C := Try.checked) false ⟨#[], #[.slice none 0 0], []⟩ 8 (by kernel_rfl) (by kernel_rfl) (by kernel_rfl) (by kernel_rfl)) ?_
  intro W base args ds gs before hval0 hW _ hwt _
  have hval : ∀ (j : Nat) t v, Try.f4.params[j]? = some t → args[j]? = some v → Value.okWide Try.prog W .any base t v := hval0
  have hA : ∃ p, DataW.TrodAll enc Try.prog W 0 (fun _ => true) true Try.f4.params.toList args.toList ds p := by obtain ⟨p, q, hA0, _⟩ := hW; exact ⟨p, hA0⟩
  obtain ⟨p, hA⟩ := hA
  have hwt' := weights_arg hwt (j := 0) (t := 22) (by rw [Try.params4]; rfl) (d := ds.getD 0 .nil)
  rw [Try.params4] at hA hval
  obtain ⟨v0, d0, rfl, rfl, h0⟩ := trodAll_one hA
  obtain ⟨A, n, c, rfl, hx⟩ := open_bytes (hval 0 22 v0 rfl rfl) h0 (hwt' rfl)
  refine (fnPayOf_calls A n c W hx).mono fun e W' ⟨he, hb⟩ => ?_
  subst he
  exact ⟨_, rfl, law_post (F := Try.f4) rfl rfl (by rw [Try.params4]; simp only [List.mem_cons, List.not_mem_nil, or_false, forall_eq]; exact ⟨by kernel_rfl, of_decide_eq_true (by kernel_rfl)⟩) hW (fun h => by subst h; rfl) hb⟩

theorem hFnPayOf_holds : Rows.FnPayOfSaid :=
  OpenClaim.holds_of_wide 4 Try.f4 rfl rfl rfl rfl rfl rfl rfl ⟨rfl, rfl, rfl, rfl, rfl⟩ rfl rfl rfl rfl rfl (by kernel_rfl) Try.func4
    (by unfold joinedFacts; simp only [Bool.and_eq_true]; (repeat' apply And.intro) <;> (first | (with_reducible exact prog_enters) | ((with_reducible refine prog_lifts ?_); rfl) | ((with_reducible refine prog_make ?_); rfl) | kernel_rfl))
    (of_decide_eq_true (by kernel_rfl)) (by unfold Func.isWrapper; first | (rw [if_pos (by decide +kernel)]; kernel_rfl) | (rw [if_neg (by decide +kernel)]; exact ⟨rfl, rfl⟩))
    (fun os started H enc _ => hFnPayOf_lifted os started H enc)

end Go.Proofs.Ytgnbmanlpppdoaa
