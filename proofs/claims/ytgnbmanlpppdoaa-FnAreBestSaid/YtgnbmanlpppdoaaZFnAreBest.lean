/- The law FnAreBest holds: for every code, of the table and the shares that it draws, the program's AreBest answers as the model's, and that both make the value sure and no more. No condition. -/
import Derived.Test.YtgnbmanlpppdoaaQ8
namespace Go.Proofs.Ytgnbmanlpppdoaa
open Go.ChangeShapes Go.WideShapes Go.ChangeAt Go.RowKit Go.Deep

set_option maxRecDepth 100000 in
set_option maxHeartbeats 3200000 in
theorem fnAreBest_calls (A : Option Addr) (n c : Nat) (w : World) (hx : Bytes w A n c) :
    Calls Try.prog 7 #[.slice A n c] w fun e w' => e = .returned (.bool true) ∧ Below w.heap.size w w' := by
  have hmx := hx.max
  have H0 := Lib.hid (DrawAreBest_any A n c w hx)
  clear hx
  by_cases hs : 1048576 < n
  · go_enter Try.func7, Try.ntmps7
    go_wp2
    go_ret
    exact ⟨rfl, Below.refl _ _⟩
  · go_enter Try.func7, Try.ntmps7
    go_wp2_with fail
    refine H0.out.mono ?_
    rintro e w1 ⟨Av, k, cv, gg, xss, Bv, kb, cb, xs, Cv, kc, cc_, ys, rfl, hsm, hown, hix, hiy, hb⟩
    have HS := Lib.hid hsm
    have HR := Lib.hid hown.rows
    have HX := Lib.hid hix
    have HY := Lib.hid hiy
    have B1 := Lib.hid hb
    have LX := Lib.hid hown.rows.len
    clear hsm hown hix hiy hb H0
    by_cases hv : VT xss
    · have HTV := Lib.hid (pb_true hv)
      have HV := Lib.hid hv
      have hn1 := hv.n1
      have hn3 := hv.n3
      rw [LX.out] at hn1 hn3
      have hk : 0 < k := by omega
      have hk' : (0 : Int) < (k : Int) := by omega
      obtain ⟨b, oo, rb, ro, cc, rfl, tab⟩ := HR.out.tab hv
      have hrow := tab.row 0 (by omega)
      simp only [Nat.add_zero] at hrow
      have HROW := Lib.hid hrow
      clear tab hrow hv
      by_cases hvx : VS xs xss.length
      · have HVX := Lib.hid hvx
        have HTX := Lib.hid (show pb (VSn xs (k : Int)) = true by rw [← LX.out, HV.out.vsn]; exact pb_true hvx)
        clear hvx
        by_cases hvy : VS ys (gr xss 0).length
        · have HVY := Lib.hid hvy
          have HTY := Lib.hid (show pb (VSn ys ((gr xss 0).length : Int)) = true by rw [HV.out.vsm]; exact pb_true hvy)
          have HVYN := Lib.hid (show VS ys (ntab xss).length by rw [ntab_len]; exact hvy)
          clear hvy
          have hbd := vF_bd HV.out
          have hbp := wlast_bd HV.out HVX.out
          have hbq := wlast_bd HV.out.ntab HVYN.out
          have HBI := Lib.hid (best_iff HV.out HVX.out HVY.out)
          obtain ⟨U, D, hUD⟩ : ∃ U D, vF xss = (U, D) := ⟨_, _, rfl⟩
          obtain ⟨P, Q, hPQ⟩ : ∃ P Q, wlast xss xs = (P, Q) := ⟨_, _, rfl⟩
          obtain ⟨E, F, hEF⟩ : ∃ E F, wlast (ntab xss) ys = (E, F) := ⟨_, _, rfl⟩
          have HUV := Lib.hid (wstV_eq _ hUD)
          have HPV := Lib.hid (show wstV (worF xss xs) = .agg #[.int .i64 P, .int .i64 Q] by rw [worF_yes ⟨HV.out, HVX.out⟩]; exact wstV_eq _ hPQ)
          have HEV := Lib.hid (show wstV (worF (ntab xss) ys) = .agg #[.int .i64 E, .int .i64 F] by rw [worF_yes ⟨HV.out.ntab, HVYN.out⟩]; exact wstV_eq _ hEF)
          have HTP := Lib.hid (show pb (WOk xss xs) = true from pb_true ⟨HV.out, HVX.out⟩)
          have HTQ := Lib.hid (show pb (WOk (ntab xss) ys) = true from pb_true ⟨HV.out.ntab, HVYN.out⟩)
          rw [hUD, hPQ, hEF] at HBI
          rw [hUD] at hbd
          rw [hPQ] at hbp
          rw [hEF] at hbq
          clear hUD hPQ hEF
          obtain ⟨⟨u1, u2⟩, d1, d2⟩ := hbd
          simp only at u1 u2 d1 d2
          have HB2 : Hid (pb (BestP xss xs ys) = ((decide (P = U) && decide (Q = D)) && (decide (E = -U) && decide (F = D)))) := Lib.hid (by
            have h := HBI.out
            by_cases hb : BestP xss xs ys
            · obtain ⟨h1, h2⟩ := h.1 hb
              obtain ⟨rfl, rfl⟩ := Prod.mk.inj h1
              obtain ⟨rfl, rfl⟩ := Prod.mk.inj h2
              rw [pb_true hb]; simp
            · rw [pb_false hb]
              symm
              apply Bool.eq_false_iff.2
              intro hc
              simp only [Bool.and_eq_true, decide_eq_true_eq] at hc
              obtain ⟨⟨rfl, rfl⟩, rfl, rfl⟩ := hc
              exact hb (h.2 ⟨rfl, rfl⟩))
          clear HBI hbp hbq
          generalize hbb : pb (BestP xss xs ys) = bb at *
          have HBB := Lib.hid hbb
          clear hbb
          have HC := Lib.hid (AreBest_impl _ _ _ k cv kb cb kc cc_ xss xs ys w1 HR.out HX.out HY.out)
          rw [HBB.out] at HC
          go_wp2_with fail
          refine HC.out.mono ?_
          rintro e w2 ⟨rfl, hb⟩
          have HR_2 := Lib.hid (HR.out.keep (Keep.below hb))
          have HX_2 := Lib.hid (HX.out.keep (Keep.below hb))
          have HY_2 := Lib.hid (HY.out.keep (Keep.below hb))
          have HROW_2 := Lib.hid (Keep.below hb _ _ HROW.out)
          have B_2 := Lib.hid (below_up B1.out hb)
          clear hb HC HR HX HY HROW B1
          have HC := Lib.hid (AreBest_spec _ _ _ k cv kb cb kc cc_ xss xs ys w2 HR_2.out HX_2.out HY_2.out)
          rw [HBB.out] at HC
          go_wp2_with fail
          refine HC.out.mono ?_
          rintro e w3 ⟨rfl, hb⟩
          have HR_3 := Lib.hid (HR_2.out.keep (Keep.below hb))
          have HX_3 := Lib.hid (HX_2.out.keep (Keep.below hb))
          have HY_3 := Lib.hid (HY_2.out.keep (Keep.below hb))
          have HROW_3 := Lib.hid (Keep.below hb _ _ HROW_2.out)
          have B_3 := Lib.hid (below_up B_2.out hb)
          clear hb HC HR_2 HX_2 HY_2 HROW_2 B_2
          have hbx : (bb != bb) = false := by cases bb <;> rfl
          have HC := Lib.hid (HTV.out ▸ ValidTable_impl _ k cv xss w3 HR_3.out)
          go_wp2_with fail
          refine HC.out.mono ?_
          rintro e w4 ⟨rfl, hq⟩
          have hb := hq.below (B := w3.heap.size)
          have HR_4 := Lib.hid (HR_3.out.keep (Keep.below hb))
          have HX_4 := Lib.hid (HX_3.out.keep (Keep.below hb))
          have HY_4 := Lib.hid (HY_3.out.keep (Keep.below hb))
          have HROW_4 := Lib.hid (Keep.below hb _ _ HROW_3.out)
          have B_4 := Lib.hid (below_up B_3.out hb)
          clear hb HC hq HR_3 HX_3 HY_3 HROW_3 B_3
          have HC := Lib.hid (HTX.out ▸ ValidShares_any' _ kb cb xs (k : Int) w4 HX_4.out (by omega))
          go_wp2_with fail
          refine HC.out.mono ?_
          rintro e w5 ⟨rfl, hq⟩
          have hb := hq.below (B := w4.heap.size)
          have HR_5 := Lib.hid (HR_4.out.keep (Keep.below hb))
          have HX_5 := Lib.hid (HX_4.out.keep (Keep.below hb))
          have HY_5 := Lib.hid (HY_4.out.keep (Keep.below hb))
          have HROW_5 := Lib.hid (Keep.below hb _ _ HROW_4.out)
          have B_5 := Lib.hid (below_up B_4.out hb)
          clear hb HC hq HR_4 HX_4 HY_4 HROW_4 B_4
          have hrow := HROW_5.out
          have HC := Lib.hid (HTY.out ▸ ValidShares_any' _ kc cc_ ys ((gr xss 0).length : Int) w5 HY_5.out (by have := HV.out.m3; omega))
          go_wp2_with fail
          refine HC.out.mono ?_
          rintro e w6 ⟨rfl, hq⟩
          have hb := hq.below (B := w5.heap.size)
          have HR_6 := Lib.hid (HR_5.out.keep (Keep.below hb))
          have HX_6 := Lib.hid (HX_5.out.keep (Keep.below hb))
          have HY_6 := Lib.hid (HY_5.out.keep (Keep.below hb))
          have HROW_6 := Lib.hid (Keep.below hb _ _ HROW_5.out)
          have B_6 := Lib.hid (below_up B_5.out hb)
          clear hb HC hq HR_5 HX_5 HY_5 HROW_5 B_5
          clear hrow hbx
          have HC := Lib.hid (ValueOf_impl _ k cv xss w6 HR_6.out)
          rw [HUV.out, HTV.out] at HC
          go_wp2_with fail
          refine HC.out.mono ?_
          rintro e w7 ⟨rfl, hb⟩
          have HR_7 := Lib.hid (HR_6.out.keep (Keep.below hb))
          have HX_7 := Lib.hid (HX_6.out.keep (Keep.below hb))
          have HY_7 := Lib.hid (HY_6.out.keep (Keep.below hb))
          have HROW_7 := Lib.hid (Keep.below hb _ _ HROW_6.out)
          have B_7 := Lib.hid (below_up B_6.out hb)
          clear hb HC HR_6 HX_6 HY_6 HROW_6 B_6
          have hal := below_alloc w7 (.cells #[.int .i64 U, .int .i64 D] 28)
          have HR_7b := Lib.hid (HR_7.out.keep (Keep.below hal))
          have HX_7b := Lib.hid (HX_7.out.keep (Keep.below hal))
          have HY_7b := Lib.hid (HY_7.out.keep (Keep.below hal))
          have HROW_7b := Lib.hid (Keep.below hal _ _ HROW_7.out)
          have B_7b := Lib.hid (below_up B_7.out hal)
          have V0 := Lib.hid (blk_cell (blk_new w7 28 #[.int .i64 U, .int .i64 D]) (i := 0) (v := .int .i64 U) rfl)
          have V1 := Lib.hid (blk_cell (blk_new w7 28 #[.int .i64 U, .int .i64 D]) (i := 1) (v := .int .i64 D) rfl)
          clear hal HR_7 HX_7 HY_7 HROW_7 B_7
          have HC := Lib.hid (WorstOf_impl _ _ k cv kb cb xss xs (w7.alloc (.cells #[.int .i64 U, .int .i64 D] 28)) HR_7b.out HX_7b.out)
          rw [HPV.out, HTP.out] at HC
          go_wp2_with fail
          generalize w7.alloc (.cells #[.int .i64 U, .int .i64 D] 28) = w7a at *
          generalize w7.heap.size = h7a at *
          refine HC.out.mono ?_
          rintro e w8 ⟨rfl, hb⟩
          have HR_8 := Lib.hid (HR_7b.out.keep (Keep.below hb))
          have HX_8 := Lib.hid (HX_7b.out.keep (Keep.below hb))
          have HY_8 := Lib.hid (HY_7b.out.keep (Keep.below hb))
          have HROW_8 := Lib.hid (Keep.below hb _ _ HROW_7b.out)
          have V0_8 := Lib.hid (Keep.below hb _ _ V0.out)
          have V1_8 := Lib.hid (Keep.below hb _ _ V1.out)
          have B_8 := Lib.hid (below_up B_7b.out hb)
          clear hb HC HR_7b HX_7b HY_7b HROW_7b V0 V1 B_7b
          have hal := below_alloc w8 (.cells #[.int .i64 P, .int .i64 Q] 28)
          have HR_8b := Lib.hid (HR_8.out.keep (Keep.below hal))
          have HX_8b := Lib.hid (HX_8.out.keep (Keep.below hal))
          have HY_8b := Lib.hid (HY_8.out.keep (Keep.below hal))
          have HROW_8b := Lib.hid (Keep.below hal _ _ HROW_8.out)
          have V0_8b := Lib.hid (Keep.below hal _ _ V0_8.out)
          have V1_8b := Lib.hid (Keep.below hal _ _ V1_8.out)
          have B_8b := Lib.hid (below_up B_8.out hal)
          have P0 := Lib.hid (blk_cell (blk_new w8 28 #[.int .i64 P, .int .i64 Q]) (i := 0) (v := .int .i64 P) rfl)
          have P1 := Lib.hid (blk_cell (blk_new w8 28 #[.int .i64 P, .int .i64 Q]) (i := 1) (v := .int .i64 Q) rfl)
          clear hal HR_8 HX_8 HY_8 HROW_8 V0_8 V1_8 B_8
          have HC := Lib.hid (flipped_any _ k cv (gr xss 0).length xss (w8.alloc (.cells #[.int .i64 P, .int .i64 Q] 28)) HR_8b.out HS.out hk HV.out.even)
          go_wp2_with fail
          generalize w8.alloc (.cells #[.int .i64 P, .int .i64 Q] 28) = w8a at *
          generalize w8.heap.size = h8a at *
          refine HC.out.mono ?_
          rintro e w9 ⟨A2, n2, cc2, gg2, rfl, -, ho, hb⟩
          have HR_9 := Lib.hid (HR_8b.out.keep (Keep.below hb))
          have HX_9 := Lib.hid (HX_8b.out.keep (Keep.below hb))
          have HY_9 := Lib.hid (HY_8b.out.keep (Keep.below hb))
          have HROW_9 := Lib.hid (Keep.below hb _ _ HROW_8b.out)
          have V0_9 := Lib.hid (Keep.below hb _ _ V0_8b.out)
          have V1_9 := Lib.hid (Keep.below hb _ _ V1_8b.out)
          have P0_9 := Lib.hid (Keep.below hb _ _ P0.out)
          have P1_9 := Lib.hid (Keep.below hb _ _ P1.out)
          have B_9 := Lib.hid (below_up B_8b.out hb)
          rw [← LX.out] at ho
          have HF_ := Lib.hid ho.rows
          clear ho
          clear hb HC HR_8b HX_8b HY_8b HROW_8b V0_8b V1_8b P0 P1 B_8b
          have HC := Lib.hid (minusOf_any A2 n2 cc2 _ w9 HF_.out (small_ntab HV.out))
          go_wp2_with fail
          refine HC.out.mono ?_
          rintro e w10 ⟨A3, n3, cc3, gg3, rfl, -, ho, hb⟩
          have HR_10 := Lib.hid (HR_9.out.keep (Keep.below hb))
          have HX_10 := Lib.hid (HX_9.out.keep (Keep.below hb))
          have HY_10 := Lib.hid (HY_9.out.keep (Keep.below hb))
          have HROW_10 := Lib.hid (Keep.below hb _ _ HROW_9.out)
          have V0_10 := Lib.hid (Keep.below hb _ _ V0_9.out)
          have V1_10 := Lib.hid (Keep.below hb _ _ V1_9.out)
          have P0_10 := Lib.hid (Keep.below hb _ _ P0_9.out)
          have P1_10 := Lib.hid (Keep.below hb _ _ P1_9.out)
          have HF__10 := Lib.hid (HF_.out.keep (Keep.below hb))
          have B_10 := Lib.hid (below_up B_9.out hb)
          have HN := Lib.hid (show IntRows w10 A3 n3 cc3 (ntab xss) from ho.rows)
          clear ho
          clear hb HC HR_9 HX_9 HY_9 HROW_9 V0_9 V1_9 P0_9 P1_9 HF_ B_9
          clear HF__10
          have HC := Lib.hid (WorstOf_impl A3 _ n3 cc3 kc cc_ (ntab xss) ys w10 HN.out HY_10.out)
          rw [HEV.out, HTQ.out] at HC
          go_wp2_with fail
          refine HC.out.mono ?_
          rintro e w11 ⟨rfl, hb⟩
          have HR_11 := Lib.hid (HR_10.out.keep (Keep.below hb))
          have HX_11 := Lib.hid (HX_10.out.keep (Keep.below hb))
          have HY_11 := Lib.hid (HY_10.out.keep (Keep.below hb))
          have HROW_11 := Lib.hid (Keep.below hb _ _ HROW_10.out)
          have V0_11 := Lib.hid (Keep.below hb _ _ V0_10.out)
          have V1_11 := Lib.hid (Keep.below hb _ _ V1_10.out)
          have P0_11 := Lib.hid (Keep.below hb _ _ P0_10.out)
          have P1_11 := Lib.hid (Keep.below hb _ _ P1_10.out)
          have HN_11 := Lib.hid (HN.out.keep (Keep.below hb))
          have B_11 := Lib.hid (below_up B_10.out hb)
          clear hb HC HR_10 HX_10 HY_10 HROW_10 V0_10 V1_10 P0_10 P1_10 HN B_10
          clear HN_11
          have hal := below_alloc w11 (.cells #[.int .i64 E, .int .i64 F] 28)
          have HR_11b := Lib.hid (HR_11.out.keep (Keep.below hal))
          have HX_11b := Lib.hid (HX_11.out.keep (Keep.below hal))
          have HY_11b := Lib.hid (HY_11.out.keep (Keep.below hal))
          have HROW_11b := Lib.hid (Keep.below hal _ _ HROW_11.out)
          have V0_11b := Lib.hid (Keep.below hal _ _ V0_11.out)
          have V1_11b := Lib.hid (Keep.below hal _ _ V1_11.out)
          have P0_11b := Lib.hid (Keep.below hal _ _ P0_11.out)
          have P1_11b := Lib.hid (Keep.below hal _ _ P1_11.out)
          have B_11b := Lib.hid (below_up B_11.out hal)
          have E0 := Lib.hid (blk_cell (blk_new w11 28 #[.int .i64 E, .int .i64 F]) (i := 0) (v := .int .i64 E) rfl)
          have E1 := Lib.hid (blk_cell (blk_new w11 28 #[.int .i64 E, .int .i64 F]) (i := 1) (v := .int .i64 F) rfl)
          clear hal HR_11 HX_11 HY_11 HROW_11 V0_11 V1_11 P0_11 P1_11 B_11
          have HFIN := HB2
          clear HB2 HBB
          have q_V0 := V0_11b.out
          have q_V1 := V1_11b.out
          have q_P0 := P0_11b.out
          have q_P1 := P1_11b.out
          have q_E0 := E0.out
          have q_E1 := E1.out
          by_cases e1 : P = U
          · subst e1
            by_cases e2 : Q = D
            · subst e2
              by_cases e3 : E = -P
              · subst e3
                by_cases e4 : F = Q
                · subst e4
                  have hbb : bb = true := by rw [HFIN.out]; simp
                  subst hbb
                  go_wp2
                  go_ret
                  exact ⟨rfl, B_11b.out⟩
                · have hbb : bb = false := by rw [HFIN.out]; simp [e4]
                  have hq : (F == Q) = false := by simpa using e4
                  subst hbb
                  go_wp2
                  go_ret
                  exact ⟨rfl, B_11b.out⟩
              · have hbb : bb = false := by rw [HFIN.out]; simp [e3]
                have hq : (E == -P) = false := by simpa using e3
                subst hbb
                go_wp2
                go_ret
                exact ⟨rfl, B_11b.out⟩
            · have hbb : bb = false := by rw [HFIN.out]; simp [e2]
              have hq : (Q == D) = false := by simpa using e2
              subst hbb
              go_wp2
              go_ret
              exact ⟨rfl, B_11b.out⟩
          · have hbb : bb = false := by rw [HFIN.out]; simp [e1]
            have hq : (P == U) = false := by simpa using e1
            subst hbb
            go_wp2
            go_ret
            exact ⟨rfl, B_11b.out⟩
        · have HTY := Lib.hid (show pb (VSn ys ((gr xss 0).length : Int)) = false by rw [HV.out.vsm]; exact pb_false hvy)
          have HNB := Lib.hid (pb_false (p := BestP xss xs ys) (fun h => hvy h.ok.y))
          have HC := Lib.hid (AreBest_impl _ _ _ k cv kb cb kc cc_ xss xs ys w1 HR.out HX.out HY.out)
          rw [HNB.out] at HC
          go_wp2_with fail
          refine HC.out.mono ?_
          rintro e w2 ⟨rfl, hb⟩
          have HR_2 := Lib.hid (HR.out.keep (Keep.below hb))
          have HX_2 := Lib.hid (HX.out.keep (Keep.below hb))
          have HY_2 := Lib.hid (HY.out.keep (Keep.below hb))
          have HROW_2 := Lib.hid (Keep.below hb _ _ HROW.out)
          have B_2 := Lib.hid (below_up B1.out hb)
          clear hb HC HR HX HY HROW B1
          have HC := Lib.hid (AreBest_spec _ _ _ k cv kb cb kc cc_ xss xs ys w2 HR_2.out HX_2.out HY_2.out)
          rw [HNB.out] at HC
          go_wp2_with fail
          refine HC.out.mono ?_
          rintro e w3 ⟨rfl, hb⟩
          have HR_3 := Lib.hid (HR_2.out.keep (Keep.below hb))
          have HX_3 := Lib.hid (HX_2.out.keep (Keep.below hb))
          have HY_3 := Lib.hid (HY_2.out.keep (Keep.below hb))
          have HROW_3 := Lib.hid (Keep.below hb _ _ HROW_2.out)
          have B_3 := Lib.hid (below_up B_2.out hb)
          clear hb HC HR_2 HX_2 HY_2 HROW_2 B_2
          have HC := Lib.hid (HTV.out ▸ ValidTable_impl _ k cv xss w3 HR_3.out)
          go_wp2_with fail
          refine HC.out.mono ?_
          rintro e w4 ⟨rfl, hq⟩
          have hb := hq.below (B := w3.heap.size)
          have HR_4 := Lib.hid (HR_3.out.keep (Keep.below hb))
          have HX_4 := Lib.hid (HX_3.out.keep (Keep.below hb))
          have HY_4 := Lib.hid (HY_3.out.keep (Keep.below hb))
          have HROW_4 := Lib.hid (Keep.below hb _ _ HROW_3.out)
          have B_4 := Lib.hid (below_up B_3.out hb)
          clear hb HC hq HR_3 HX_3 HY_3 HROW_3 B_3
          have HC := Lib.hid (HTX.out ▸ ValidShares_any' _ kb cb xs (k : Int) w4 HX_4.out (by omega))
          go_wp2_with fail
          refine HC.out.mono ?_
          rintro e w5 ⟨rfl, hq⟩
          have hb := hq.below (B := w4.heap.size)
          have HR_5 := Lib.hid (HR_4.out.keep (Keep.below hb))
          have HX_5 := Lib.hid (HX_4.out.keep (Keep.below hb))
          have HY_5 := Lib.hid (HY_4.out.keep (Keep.below hb))
          have HROW_5 := Lib.hid (Keep.below hb _ _ HROW_4.out)
          have B_5 := Lib.hid (below_up B_4.out hb)
          clear hb HC hq HR_4 HX_4 HY_4 HROW_4 B_4
          have hrow := HROW_5.out
          have HC := Lib.hid (HTY.out ▸ ValidShares_any' _ kc cc_ ys ((gr xss 0).length : Int) w5 HY_5.out (by have := HV.out.m3; omega))
          go_wp2_with fail
          refine HC.out.mono ?_
          rintro e w6 ⟨rfl, hq⟩
          have hb := hq.below (B := w5.heap.size)
          have HR_6 := Lib.hid (HR_5.out.keep (Keep.below hb))
          have HX_6 := Lib.hid (HX_5.out.keep (Keep.below hb))
          have HY_6 := Lib.hid (HY_5.out.keep (Keep.below hb))
          have HROW_6 := Lib.hid (Keep.below hb _ _ HROW_5.out)
          have B_6 := Lib.hid (below_up B_5.out hb)
          clear hb HC hq HR_5 HX_5 HY_5 HROW_5 B_5
          clear hrow
          have HC := Lib.hid (AreBest_spec _ _ _ k cv kb cb kc cc_ xss xs ys w6 HR_6.out HX_6.out HY_6.out)
          rw [HNB.out] at HC
          go_wp2_with fail
          refine HC.out.mono ?_
          rintro e w7 ⟨rfl, hb⟩
          have HR_7 := Lib.hid (HR_6.out.keep (Keep.below hb))
          have HX_7 := Lib.hid (HX_6.out.keep (Keep.below hb))
          have HY_7 := Lib.hid (HY_6.out.keep (Keep.below hb))
          have HROW_7 := Lib.hid (Keep.below hb _ _ HROW_6.out)
          have B_7 := Lib.hid (below_up B_6.out hb)
          clear hb HC HR_6 HX_6 HY_6 HROW_6 B_6
          go_wp2
          go_ret
          exact ⟨rfl, B_7.out⟩
      · have HTX := Lib.hid (show pb (VSn xs (k : Int)) = false by rw [← LX.out, HV.out.vsn]; exact pb_false hvx)
        have HNB := Lib.hid (pb_false (p := BestP xss xs ys) (fun h => hvx h.ok.x))
        have HC := Lib.hid (AreBest_impl _ _ _ k cv kb cb kc cc_ xss xs ys w1 HR.out HX.out HY.out)
        rw [HNB.out] at HC
        go_wp2_with fail
        refine HC.out.mono ?_
        rintro e w2 ⟨rfl, hb⟩
        have HR_2 := Lib.hid (HR.out.keep (Keep.below hb))
        have HX_2 := Lib.hid (HX.out.keep (Keep.below hb))
        have HY_2 := Lib.hid (HY.out.keep (Keep.below hb))
        have HROW_2 := Lib.hid (Keep.below hb _ _ HROW.out)
        have B_2 := Lib.hid (below_up B1.out hb)
        clear hb HC HR HX HY HROW B1
        have HC := Lib.hid (AreBest_spec _ _ _ k cv kb cb kc cc_ xss xs ys w2 HR_2.out HX_2.out HY_2.out)
        rw [HNB.out] at HC
        go_wp2_with fail
        refine HC.out.mono ?_
        rintro e w3 ⟨rfl, hb⟩
        have HR_3 := Lib.hid (HR_2.out.keep (Keep.below hb))
        have HX_3 := Lib.hid (HX_2.out.keep (Keep.below hb))
        have HY_3 := Lib.hid (HY_2.out.keep (Keep.below hb))
        have HROW_3 := Lib.hid (Keep.below hb _ _ HROW_2.out)
        have B_3 := Lib.hid (below_up B_2.out hb)
        clear hb HC HR_2 HX_2 HY_2 HROW_2 B_2
        have HC := Lib.hid (HTV.out ▸ ValidTable_impl _ k cv xss w3 HR_3.out)
        go_wp2_with fail
        refine HC.out.mono ?_
        rintro e w4 ⟨rfl, hq⟩
        have hb := hq.below (B := w3.heap.size)
        have HR_4 := Lib.hid (HR_3.out.keep (Keep.below hb))
        have HX_4 := Lib.hid (HX_3.out.keep (Keep.below hb))
        have HY_4 := Lib.hid (HY_3.out.keep (Keep.below hb))
        have HROW_4 := Lib.hid (Keep.below hb _ _ HROW_3.out)
        have B_4 := Lib.hid (below_up B_3.out hb)
        clear hb HC hq HR_3 HX_3 HY_3 HROW_3 B_3
        have HC := Lib.hid (HTX.out ▸ ValidShares_any' _ kb cb xs (k : Int) w4 HX_4.out (by omega))
        go_wp2_with fail
        refine HC.out.mono ?_
        rintro e w5 ⟨rfl, hq⟩
        have hb := hq.below (B := w4.heap.size)
        have HR_5 := Lib.hid (HR_4.out.keep (Keep.below hb))
        have HX_5 := Lib.hid (HX_4.out.keep (Keep.below hb))
        have HY_5 := Lib.hid (HY_4.out.keep (Keep.below hb))
        have HROW_5 := Lib.hid (Keep.below hb _ _ HROW_4.out)
        have B_5 := Lib.hid (below_up B_4.out hb)
        clear hb HC hq HR_4 HX_4 HY_4 HROW_4 B_4
        have HC := Lib.hid (AreBest_spec _ _ _ k cv kb cb kc cc_ xss xs ys w5 HR_5.out HX_5.out HY_5.out)
        rw [HNB.out] at HC
        go_wp2_with fail
        refine HC.out.mono ?_
        rintro e w6 ⟨rfl, hb⟩
        have HR_6 := Lib.hid (HR_5.out.keep (Keep.below hb))
        have HX_6 := Lib.hid (HX_5.out.keep (Keep.below hb))
        have HY_6 := Lib.hid (HY_5.out.keep (Keep.below hb))
        have HROW_6 := Lib.hid (Keep.below hb _ _ HROW_5.out)
        have B_6 := Lib.hid (below_up B_5.out hb)
        clear hb HC HR_5 HX_5 HY_5 HROW_5 B_5
        go_wp2
        go_ret
        exact ⟨rfl, B_6.out⟩
    · have HTV := Lib.hid (pb_false hv)
      have HNB := Lib.hid (pb_false (p := BestP xss xs ys) (fun h => hv h.ok.v))
      have HC := Lib.hid (AreBest_impl _ _ _ k cv kb cb kc cc_ xss xs ys w1 HR.out HX.out HY.out)
      rw [HNB.out] at HC
      go_wp2_with fail
      refine HC.out.mono ?_
      rintro e w2 ⟨rfl, hb⟩
      have HR_2 := Lib.hid (HR.out.keep (Keep.below hb))
      have HX_2 := Lib.hid (HX.out.keep (Keep.below hb))
      have HY_2 := Lib.hid (HY.out.keep (Keep.below hb))
      have B_2 := Lib.hid (below_up B1.out hb)
      clear hb HC HR HX HY B1
      have HC := Lib.hid (AreBest_spec _ _ _ k cv kb cb kc cc_ xss xs ys w2 HR_2.out HX_2.out HY_2.out)
      rw [HNB.out] at HC
      go_wp2_with fail
      refine HC.out.mono ?_
      rintro e w3 ⟨rfl, hb⟩
      have HR_3 := Lib.hid (HR_2.out.keep (Keep.below hb))
      have HX_3 := Lib.hid (HX_2.out.keep (Keep.below hb))
      have HY_3 := Lib.hid (HY_2.out.keep (Keep.below hb))
      have B_3 := Lib.hid (below_up B_2.out hb)
      clear hb HC HR_2 HX_2 HY_2 B_2
      have HC := Lib.hid (HTV.out ▸ ValidTable_impl _ k cv xss w3 HR_3.out)
      go_wp2_with fail
      refine HC.out.mono ?_
      rintro e w4 ⟨rfl, hq⟩
      have hb := hq.below (B := w3.heap.size)
      have HR_4 := Lib.hid (HR_3.out.keep (Keep.below hb))
      have HX_4 := Lib.hid (HX_3.out.keep (Keep.below hb))
      have HY_4 := Lib.hid (HY_3.out.keep (Keep.below hb))
      have B_4 := Lib.hid (below_up B_3.out hb)
      clear hb HC hq HR_3 HX_3 HY_3 B_3
      have HC := Lib.hid (AreBest_spec _ _ _ k cv kb cb kc cc_ xss xs ys w4 HR_4.out HX_4.out HY_4.out)
      rw [HNB.out] at HC
      go_wp2_with fail
      refine HC.out.mono ?_
      rintro e w5 ⟨rfl, hb⟩
      have HR_5 := Lib.hid (HR_4.out.keep (Keep.below hb))
      have HX_5 := Lib.hid (HX_4.out.keep (Keep.below hb))
      have HY_5 := Lib.hid (HY_4.out.keep (Keep.below hb))
      have B_5 := Lib.hid (below_up B_4.out hb)
      clear hb HC HR_4 HX_4 HY_4 B_4
      go_wp2
      go_ret
      exact ⟨rfl, B_5.out⟩

theorem hFnAreBest_lifted (os : Os) (started : os.Started) (H : Type) (enc : TypeId × Value → H) :
    ReturnsInHanded {} Try.checked os 7 .any (Rows.fnAreBestSpec.pre6 enc Try.prog Try.f7 Rows.fnAreBestRow.domain false) (Rows.fnAreBestSpec.post enc Try.prog Try.f7 false true false false) := by
  refine returnsInHanded_of_change_sized (C := Try.checked) Try.own started (by kernel_rfl) Try.func7
    (ChangeSpec.witness6 (enc := enc) (C := Try.checked) false ⟨#[], #[.slice none 0 0], []⟩ 8 (by kernel_rfl) (by kernel_rfl) (by kernel_rfl) (by kernel_rfl)) ?_
  intro W base args ds gs before hval0 hW _ hwt _
  have hval : ∀ (j : Nat) t v, Try.f7.params[j]? = some t → args[j]? = some v → Value.okWide Try.prog W .any base t v := hval0
  have hA : ∃ p, DataW.TrodAll enc Try.prog W 0 (fun _ => true) true Try.f7.params.toList args.toList ds p := by obtain ⟨p, q, hA0, _⟩ := hW; exact ⟨p, hA0⟩
  obtain ⟨p, hA⟩ := hA
  have hwt' := weights_arg hwt (j := 0) (t := 22) (by rw [Try.params7]; rfl) (d := ds.getD 0 .nil)
  rw [Try.params7] at hA hval
  obtain ⟨v0, d0, rfl, rfl, h0⟩ := trodAll_one hA
  obtain ⟨A, n, c, rfl, hx⟩ := open_bytes (hval 0 22 v0 rfl rfl) h0 (hwt' rfl)
  refine (fnAreBest_calls A n c W hx).mono fun e W' ⟨he, hb⟩ => ?_
  subst he
  exact ⟨_, rfl, law_post (F := Try.f7) rfl rfl (by rw [Try.params7]; simp only [List.mem_cons, List.not_mem_nil, or_false, forall_eq]; exact ⟨by kernel_rfl, of_decide_eq_true (by kernel_rfl)⟩) hW (fun h => by subst h; rfl) hb⟩

theorem hFnAreBest_holds : Rows.FnAreBestSaid :=
  OpenClaim.holds_of_wide 7 Try.f7 rfl rfl rfl rfl rfl rfl rfl ⟨rfl, rfl, rfl, rfl, rfl⟩ rfl rfl rfl rfl rfl (by kernel_rfl) Try.func7
    (by unfold joinedFacts; simp only [Bool.and_eq_true]; (repeat' apply And.intro) <;> (first | (with_reducible exact prog_enters) | ((with_reducible refine prog_lifts ?_); rfl) | ((with_reducible refine prog_make ?_); rfl) | kernel_rfl))
    (of_decide_eq_true (by kernel_rfl)) (by unfold Func.isWrapper; first | (rw [if_pos (by decide +kernel)]; kernel_rfl) | (rw [if_neg (by decide +kernel)]; exact ⟨rfl, rfl⟩))
    (fun os started H enc _ => hFnAreBest_lifted os started H enc)

end Go.Proofs.Ytgnbmanlpppdoaa
