/- The law FnWorstOf holds: for every code, of the table and the shares that it draws, the program's WorstOf answers as the model's, no column alone has a lesser mean, and the value is no less. No condition. -/
import Derived.Test.YtgnbmanlpppdoaaQ8
namespace Go.Proofs.Ytgnbmanlpppdoaa
open Go.ChangeShapes Go.WideShapes Go.ChangeAt Go.RowKit Go.Deep

theorem wlast_least {a : List (List Int)} {x : List Int} (v : VT a) (hx : VS x a.length) {j : Nat} (hj : j < (gr a 0).length) :
    lessB (frU (colU a x a.length (gr a 0).length j) (tot x)) (frD (colU a x a.length (gr a 0).length j) (tot x)) (wlast a x).1 (wlast a x).2 = false := by
  have m1 := v.m1
  obtain ⟨i, _, e, hl⟩ := wst_least a x a.length (gr a 0).length hx.2.2 ((gr a 0).length - 1)
  rw [wlast_n, e]
  unfold lessB
  rw [decide_eq_false_iff_not]
  intro h
  have h1 := (fr_lt hx.2.2 hx.2.2).1 h
  have h2 := hl j (by omega)
  have h3 := Int.mul_le_mul_of_nonneg_right h2 (Int.le_of_lt hx.2.2)
  omega
theorem lessB_le {p q : Int × Int} (h : leF p q) : lessB q.1 q.2 p.1 p.2 = false := by
  unfold lessB; unfold leF at h; rw [decide_eq_false_iff_not]; omega
theorem colF_bd {a : List (List Int)} {x : List Int} (v : VT a) (hx : VS x a.length) (j : Nat) :
    (-81000000 ≤ frU (colU a x a.length (gr a 0).length j) (tot x) ∧ frU (colU a x a.length (gr a 0).length j) (tot x) ≤ 81000000) ∧ 1 ≤ frD (colU a x a.length (gr a 0).length j) (tot x) ∧ frD (colU a x a.length (gr a 0).length j) (tot x) ≤ 3000 := by
  have h := VT.pbx v hx
  have n3 := v.n3
  have := tot_bd (x := x) (n := a.length) n3 (by have := hx.1; omega) h.x
  exact ⟨frU_bd hx.2.2 (col_bd h n3 v.m3 j), frD_bd hx.2.2 this.2⟩

set_option maxRecDepth 100000 in
set_option maxHeartbeats 3200000 in
theorem fnWorstOf_calls (A : Option Addr) (n c : Nat) (w : World) (hx : Bytes w A n c) :
    Calls Try.prog 5 #[.slice A n c] w fun e w' => e = .returned (.bool true) ∧ Below w.heap.size w w' := by
  have hmx := hx.max
  have H0 := Lib.hid (DrawWorstOf_any A n c w hx)
  clear hx
  by_cases hs : 1048576 < n
  · go_enter Try.func5, Try.ntmps5
    go_wp2
    go_ret
    exact ⟨rfl, Below.refl _ _⟩
  · go_enter Try.func5, Try.ntmps5
    go_wp2_with fail
    refine H0.out.mono ?_
    rintro e w1 ⟨Av, k, cv, gg, xss, Bv, kb, cb, ys, rfl, hsm, hown, hiy, hb⟩
    have HR := Lib.hid hown.rows
    have HY := Lib.hid hiy
    have B1 := Lib.hid hb
    have LX := Lib.hid hown.rows.len
    clear hsm hown hiy hb H0
    obtain ⟨U, D, hUD⟩ : ∃ U D, worF xss ys = (U, D) := ⟨_, _, rfl⟩
    have HUV := Lib.hid (wstV_eq _ hUD)
    have HUD := Lib.hid hUD
    clear hUD
    by_cases hok : WOk xss ys
    · have HOK := Lib.hid hok
      have HV := Lib.hid hok.v
      have HVX := Lib.hid hok.x
      have HTW := Lib.hid (pb_true hok)
      have HTV := Lib.hid (pb_true hok.v)
      have HWL := Lib.hid (show wlast xss ys = (U, D) by rw [← worF_yes hok]; exact HUD.out)
      have hbd := wlast_bd hok.v hok.x
      rw [HWL.out] at hbd
      obtain ⟨⟨u1, u2⟩, d1, d2⟩ := hbd
      have hvb := vF_bd hok.v
      have HLV := Lib.hid (lessB_le (le_value hok.v hok.x))
      rw [HWL.out] at HLV
      obtain ⟨P, Q, hPQ⟩ : ∃ P Q, vF xss = (P, Q) := ⟨_, _, rfl⟩
      have HPV := Lib.hid (wstV_eq _ hPQ)
      rw [hPQ] at hvb HLV
      clear hPQ
      obtain ⟨⟨p1, p2⟩, r1, r2⟩ := hvb
      simp only at u1 u2 d1 d2 p1 p2 r1 r2
      have HLJ := Lib.hid (fun j (hj : j < (gr xss 0).length) => wlast_least hok.v hok.x hj)
      rw [HWL.out] at HLJ
      have hm1 := hok.v.m1
      have hm3 := hok.v.m3
      have hn1 := hok.v.n1
      rw [LX.out] at hn1
      have hk0 : 0 < k := by omega
      have hk0' : (0 : Int) < (k : Int) := by omega
      obtain ⟨b, oo, rb, ro, cc, rfl, tab⟩ := HR.out.tab hok.v
      have hrow := tab.row 0 (by omega)
      simp only [Nat.add_zero] at hrow
      have HROW := Lib.hid hrow
      clear tab hrow hok
      have HC := Lib.hid (WorstOf_impl _ Bv k cv kb cb xss ys w1 HR.out HY.out)
      rw [HUV.out, HTW.out] at HC
      go_wp2_with fail
      refine HC.out.mono ?_
      rintro e w2 ⟨rfl, hb⟩
      have HR_2 := Lib.hid (HR.out.keep (Keep.below hb))
      have HY_2 := Lib.hid (HY.out.keep (Keep.below hb))
      have HROW_2 := Lib.hid (Keep.below hb _ _ HROW.out)
      have B_2 := Lib.hid (below_up B1.out hb)
      clear hb HC HR HY HROW B1
      have hal := below_alloc w2 (.cells #[.int .i64 U, .int .i64 D] 28)
      have HR_2b := Lib.hid (HR_2.out.keep (Keep.below hal))
      have HY_2b := Lib.hid (HY_2.out.keep (Keep.below hal))
      have HROW_2b := Lib.hid (Keep.below hal _ _ HROW_2.out)
      have B_2b := Lib.hid (below_up B_2.out hal)
      have X0 := Lib.hid (blk_cell (blk_new w2 28 #[.int .i64 U, .int .i64 D]) (i := 0) (v := .int .i64 U) rfl)
      have X1 := Lib.hid (blk_cell (blk_new w2 28 #[.int .i64 U, .int .i64 D]) (i := 1) (v := .int .i64 D) rfl)
      clear hal HR_2 HY_2 HROW_2 B_2
      have HC := Lib.hid (WorstOf_spec _ Bv k cv kb cb xss ys (w2.alloc (.cells #[.int .i64 U, .int .i64 D] 28)) HR_2b.out HY_2b.out)
      rw [HUV.out, HTW.out] at HC
      go_wp2_with fail
      generalize w2.alloc (.cells #[.int .i64 U, .int .i64 D] 28) = w2a at *
      generalize w2.heap.size = h2a at *
      refine HC.out.mono ?_
      rintro e w3 ⟨rfl, hb⟩
      have HR_3 := Lib.hid (HR_2b.out.keep (Keep.below hb))
      have HY_3 := Lib.hid (HY_2b.out.keep (Keep.below hb))
      have HROW_3 := Lib.hid (Keep.below hb _ _ HROW_2b.out)
      have X0_3 := Lib.hid (Keep.below hb _ _ X0.out)
      have X1_3 := Lib.hid (Keep.below hb _ _ X1.out)
      have B_3 := Lib.hid (below_up B_2b.out hb)
      clear hb HC HR_2b HY_2b HROW_2b X0 X1 B_2b
      have hal := below_alloc w3 (.cells #[.int .i64 U, .int .i64 D] 28)
      have HR_3b := Lib.hid (HR_3.out.keep (Keep.below hal))
      have HY_3b := Lib.hid (HY_3.out.keep (Keep.below hal))
      have HROW_3b := Lib.hid (Keep.below hal _ _ HROW_3.out)
      have X0_3b := Lib.hid (Keep.below hal _ _ X0_3.out)
      have X1_3b := Lib.hid (Keep.below hal _ _ X1_3.out)
      have B_3b := Lib.hid (below_up B_3.out hal)
      have Y0 := Lib.hid (blk_cell (blk_new w3 28 #[.int .i64 U, .int .i64 D]) (i := 0) (v := .int .i64 U) rfl)
      have Y1 := Lib.hid (blk_cell (blk_new w3 28 #[.int .i64 U, .int .i64 D]) (i := 1) (v := .int .i64 D) rfl)
      clear hal HR_3 HY_3 HROW_3 X0_3 X1_3 B_3
      have HC := Lib.hid (ValueOf_impl _ k cv xss (w3.alloc (.cells #[.int .i64 U, .int .i64 D] 28)) HR_3b.out)
      rw [HPV.out, HTV.out] at HC
      have q_X0 := X0_3b.out
      have q_X1 := X1_3b.out
      have q_Y0 := Y0.out
      have q_Y1 := Y1.out
      go_wp2_with fail
      generalize w3.alloc (.cells #[.int .i64 U, .int .i64 D] 28) = w3a at *
      generalize w3.heap.size = h3a at *
      refine HC.out.mono ?_
      rintro e w4 ⟨rfl, hb⟩
      have HR_4 := Lib.hid (HR_3b.out.keep (Keep.below hb))
      have HY_4 := Lib.hid (HY_3b.out.keep (Keep.below hb))
      have HROW_4 := Lib.hid (Keep.below hb _ _ HROW_3b.out)
      have X0_4 := Lib.hid (Keep.below hb _ _ X0_3b.out)
      have X1_4 := Lib.hid (Keep.below hb _ _ X1_3b.out)
      have Y0_4 := Lib.hid (Keep.below hb _ _ Y0.out)
      have Y1_4 := Lib.hid (Keep.below hb _ _ Y1.out)
      have B_4 := Lib.hid (below_up B_3b.out hb)
      clear hb HC HR_3b HY_3b HROW_3b X0_3b X1_3b Y0 Y1 B_3b q_X0 q_X1 q_Y0 q_Y1
      clear Y0_4
      clear Y1_4
      have hal := below_alloc w4 (.cells #[.int .i64 P, .int .i64 Q] 28)
      have HR_4b := Lib.hid (HR_4.out.keep (Keep.below hal))
      have HY_4b := Lib.hid (HY_4.out.keep (Keep.below hal))
      have HROW_4b := Lib.hid (Keep.below hal _ _ HROW_4.out)
      have X0_4b := Lib.hid (Keep.below hal _ _ X0_4.out)
      have X1_4b := Lib.hid (Keep.below hal _ _ X1_4.out)
      have B_4b := Lib.hid (below_up B_4.out hal)
      have V0 := Lib.hid (blk_cell (blk_new w4 28 #[.int .i64 P, .int .i64 Q]) (i := 0) (v := .int .i64 P) rfl)
      have V1 := Lib.hid (blk_cell (blk_new w4 28 #[.int .i64 P, .int .i64 Q]) (i := 1) (v := .int .i64 Q) rfl)
      clear hal HR_4 HY_4 HROW_4 X0_4 X1_4 B_4
      go_wp2
      generalize w4.alloc (.cells #[.int .i64 P, .int .i64 Q] 28) = w4a at *
      generalize w4.heap.size = h4a at *
      go_loopw [11] (fun j wr => ∃ q : Nat, q ≤ (gr xss 0).length ∧ j = .int .i64 q ∧ Hid (Below w4a.heap.size w4a wr)) (fun j _ => (gr xss 0).length - (intOf j).toNat)
      case atStart => exact ⟨0, Nat.zero_le _, rfl, Lib.hid (Below.refl _ _)⟩
      case round =>
        obtain ⟨q, hq, rfl, HBI⟩ := hrel
        have HR_r := Lib.hid (HR_4b.out.keep (Keep.below HBI.out))
        have HY_r := Lib.hid (HY_4b.out.keep (Keep.below HBI.out))
        have HROW_r := Lib.hid (Keep.below HBI.out _ _ HROW_4b.out)
        have X0_r := Lib.hid (Keep.below HBI.out _ _ X0_4b.out)
        have X1_r := Lib.hid (Keep.below HBI.out _ _ X1_4b.out)
        have V0_r := Lib.hid (Keep.below HBI.out _ _ V0.out)
        have V1_r := Lib.hid (Keep.below HBI.out _ _ V1.out)
        have q_row := HROW_r.out
        by_cases hlt : q < (gr xss 0).length
        · have HCB := Lib.hid (colF_bd HV.out HVX.out q)
          have HPP := Lib.hid (POk.mk HV.out HVX.out (onl_VS hlt))
          have HPF := Lib.hid (show payF xss ys (onl (gr xss 0).length q) = .agg #[.int .i64 (frU (colU xss ys xss.length (gr xss 0).length q) (tot ys)), .int .i64 (frD (colU xss ys xss.length (gr xss 0).length q) (tot ys))] by rw [payF_yes HPP.out, frV_onl _ _ hlt]; rfl)
          have HLQ := Lib.hid (HLJ.out q hlt)
          have hcb := HCB.out
          generalize frU (colU xss ys xss.length (gr xss 0).length q) (tot ys) = E at *
          generalize frD (colU xss ys xss.length (gr xss 0).length q) (tot ys) = F at *
          obtain ⟨⟨c1, c2⟩, c3, c4⟩ := hcb
          have HC := Lib.hid (onlyOne_any (gr xss 0).length q wr (by omega) hlt)
          go_wp2_with fail
          refine HC.out.mono ?_
          rintro e w101 ⟨rfl, ho, hb⟩
          have HR_101 := Lib.hid (HR_r.out.keep (Keep.below hb))
          have HY_101 := Lib.hid (HY_r.out.keep (Keep.below hb))
          have HROW_101 := Lib.hid (Keep.below hb _ _ HROW_r.out)
          have X0_101 := Lib.hid (Keep.below hb _ _ X0_r.out)
          have X1_101 := Lib.hid (Keep.below hb _ _ X1_r.out)
          have V0_101 := Lib.hid (Keep.below hb _ _ V0_r.out)
          have V1_101 := Lib.hid (Keep.below hb _ _ V1_r.out)
          have B_101 := Lib.hid (below_up HBI.out hb)
          have HO := Lib.hid ho.ints
          clear ho q_row
          clear hb HC HR_r HY_r HROW_r X0_r X1_r V0_r V1_r HBI
          have HC := Lib.hid (PayOf_impl _ Bv _ k cv kb cb _ _ xss ys (onl (gr xss 0).length q) w101 HR_101.out HY_101.out HO.out)
          rw [HPF.out, pb_true HPP.out] at HC
          go_wp2_with fail
          refine HC.out.mono ?_
          rintro e w102 ⟨rfl, hb⟩
          have HR_102 := Lib.hid (HR_101.out.keep (Keep.below hb))
          have HY_102 := Lib.hid (HY_101.out.keep (Keep.below hb))
          have HROW_102 := Lib.hid (Keep.below hb _ _ HROW_101.out)
          have X0_102 := Lib.hid (Keep.below hb _ _ X0_101.out)
          have X1_102 := Lib.hid (Keep.below hb _ _ X1_101.out)
          have V0_102 := Lib.hid (Keep.below hb _ _ V0_101.out)
          have V1_102 := Lib.hid (Keep.below hb _ _ V1_101.out)
          have HO_102 := Lib.hid (HO.out.keep (Keep.below hb))
          have B_102 := Lib.hid (below_up B_101.out hb)
          clear hb HC HR_101 HY_101 HROW_101 X0_101 X1_101 V0_101 V1_101 HO B_101
          clear HO_102
          have hal := below_alloc w102 (.cells #[.int .i64 E, .int .i64 F] 28)
          have HR_102b := Lib.hid (HR_102.out.keep (Keep.below hal))
          have HY_102b := Lib.hid (HY_102.out.keep (Keep.below hal))
          have HROW_102b := Lib.hid (Keep.below hal _ _ HROW_102.out)
          have X0_102b := Lib.hid (Keep.below hal _ _ X0_102.out)
          have X1_102b := Lib.hid (Keep.below hal _ _ X1_102.out)
          have V0_102b := Lib.hid (Keep.below hal _ _ V0_102.out)
          have V1_102b := Lib.hid (Keep.below hal _ _ V1_102.out)
          have B_102b := Lib.hid (below_up B_102.out hal)
          have P0 := Lib.hid (blk_cell (blk_new w102 28 #[.int .i64 E, .int .i64 F]) (i := 0) (v := .int .i64 E) rfl)
          have P1 := Lib.hid (blk_cell (blk_new w102 28 #[.int .i64 E, .int .i64 F]) (i := 1) (v := .int .i64 F) rfl)
          clear hal HR_102 HY_102 HROW_102 X0_102 X1_102 V0_102 V1_102 B_102
          have HC := Lib.hid (HLQ.out ▸ lessOf_any E F U D (w102.alloc (.cells #[.int .i64 E, .int .i64 F] 28)) (by omega) (by omega) (by omega) (by omega))
          have q_P0 := P0.out
          have q_P1 := P1.out
          have q_X0 := X0_102b.out
          have q_X1 := X1_102b.out
          go_wp2_with fail
          generalize w102.alloc (.cells #[.int .i64 E, .int .i64 F] 28) = w102a at *
          generalize w102.heap.size = h102a at *
          refine HC.out.mono ?_
          rintro e w103 ⟨rfl, hb⟩
          have HR_103 := Lib.hid (HR_102b.out.keep (Keep.below hb))
          have HY_103 := Lib.hid (HY_102b.out.keep (Keep.below hb))
          have HROW_103 := Lib.hid (Keep.below hb _ _ HROW_102b.out)
          have X0_103 := Lib.hid (Keep.below hb _ _ X0_102b.out)
          have X1_103 := Lib.hid (Keep.below hb _ _ X1_102b.out)
          have V0_103 := Lib.hid (Keep.below hb _ _ V0_102b.out)
          have V1_103 := Lib.hid (Keep.below hb _ _ V1_102b.out)
          have P0_103 := Lib.hid (Keep.below hb _ _ P0.out)
          have P1_103 := Lib.hid (Keep.below hb _ _ P1.out)
          have B_103 := Lib.hid (below_up B_102b.out hb)
          clear hb HC HR_102b HY_102b HROW_102b X0_102b X1_102b V0_102b V1_102b P0 P1 B_102b q_P0 q_P1 q_X0 q_X1
          go_wp2
          go_roundw
          case rel => exact ⟨q + 1, by omega, by go_num, B_103⟩
          case measure => simp [intOf]; omega
        · obtain rfl : q = (gr xss 0).length := by omega
          have HBT := Lib.hid (below_up B_4b.out HBI.out)
          clear q_row
          have q_row := HROW_r.out
          have HC := Lib.hid (HLV.out ▸ lessOf_any P Q U D wr (by omega) (by omega) (by omega) (by omega))
          have q_V0 := V0_r.out
          have q_V1 := V1_r.out
          have q_X0 := X0_r.out
          have q_X1 := X1_r.out
          go_wp2_with fail
          refine HC.out.mono ?_
          rintro e w201 ⟨rfl, hb⟩
          have HR_201 := Lib.hid (HR_r.out.keep (Keep.below hb))
          have HY_201 := Lib.hid (HY_r.out.keep (Keep.below hb))
          have HROW_201 := Lib.hid (Keep.below hb _ _ HROW_r.out)
          have X0_201 := Lib.hid (Keep.below hb _ _ X0_r.out)
          have X1_201 := Lib.hid (Keep.below hb _ _ X1_r.out)
          have V0_201 := Lib.hid (Keep.below hb _ _ V0_r.out)
          have V1_201 := Lib.hid (Keep.below hb _ _ V1_r.out)
          have B_201 := Lib.hid (below_up HBT.out hb)
          clear hb HC HR_r HY_r HROW_r X0_r X1_r V0_r V1_r HBT q_V0 q_V1 q_X0 q_X1
          go_wp2
          go_ret
          exact ⟨rfl, B_201.out⟩
    · have HTW := Lib.hid (pb_false hok)
      clear hok
      have HC := Lib.hid (WorstOf_impl Av Bv k cv kb cb xss ys w1 HR.out HY.out)
      rw [HUV.out, HTW.out] at HC
      go_wp2_with fail
      refine HC.out.mono ?_
      rintro e w2 ⟨rfl, hb⟩
      have HR_2 := Lib.hid (HR.out.keep (Keep.below hb))
      have HY_2 := Lib.hid (HY.out.keep (Keep.below hb))
      have B_2 := Lib.hid (below_up B1.out hb)
      clear hb HC HR HY B1
      have hal := below_alloc w2 (.cells #[.int .i64 U, .int .i64 D] 28)
      have HR_2b := Lib.hid (HR_2.out.keep (Keep.below hal))
      have HY_2b := Lib.hid (HY_2.out.keep (Keep.below hal))
      have B_2b := Lib.hid (below_up B_2.out hal)
      have X0 := Lib.hid (blk_cell (blk_new w2 28 #[.int .i64 U, .int .i64 D]) (i := 0) (v := .int .i64 U) rfl)
      have X1 := Lib.hid (blk_cell (blk_new w2 28 #[.int .i64 U, .int .i64 D]) (i := 1) (v := .int .i64 D) rfl)
      clear hal HR_2 HY_2 B_2
      have HC := Lib.hid (WorstOf_spec Av Bv k cv kb cb xss ys (w2.alloc (.cells #[.int .i64 U, .int .i64 D] 28)) HR_2b.out HY_2b.out)
      rw [HUV.out, HTW.out] at HC
      go_wp2_with fail
      generalize w2.alloc (.cells #[.int .i64 U, .int .i64 D] 28) = w2a at *
      generalize w2.heap.size = h2a at *
      refine HC.out.mono ?_
      rintro e w3 ⟨rfl, hb⟩
      have HR_3 := Lib.hid (HR_2b.out.keep (Keep.below hb))
      have HY_3 := Lib.hid (HY_2b.out.keep (Keep.below hb))
      have X0_3 := Lib.hid (Keep.below hb _ _ X0.out)
      have X1_3 := Lib.hid (Keep.below hb _ _ X1.out)
      have B_3 := Lib.hid (below_up B_2b.out hb)
      clear hb HC HR_2b HY_2b X0 X1 B_2b
      have hal := below_alloc w3 (.cells #[.int .i64 U, .int .i64 D] 28)
      have HR_3b := Lib.hid (HR_3.out.keep (Keep.below hal))
      have HY_3b := Lib.hid (HY_3.out.keep (Keep.below hal))
      have X0_3b := Lib.hid (Keep.below hal _ _ X0_3.out)
      have X1_3b := Lib.hid (Keep.below hal _ _ X1_3.out)
      have B_3b := Lib.hid (below_up B_3.out hal)
      have Y0 := Lib.hid (blk_cell (blk_new w3 28 #[.int .i64 U, .int .i64 D]) (i := 0) (v := .int .i64 U) rfl)
      have Y1 := Lib.hid (blk_cell (blk_new w3 28 #[.int .i64 U, .int .i64 D]) (i := 1) (v := .int .i64 D) rfl)
      clear hal HR_3 HY_3 X0_3 X1_3 B_3
      have q_X0 := X0_3b.out
      have q_X1 := X1_3b.out
      have q_Y0 := Y0.out
      have q_Y1 := Y1.out
      go_wp2
      go_ret
      exact ⟨rfl, B_3b.out⟩

theorem hFnWorstOf_lifted (os : Os) (started : os.Started) (H : Type) (enc : TypeId × Value → H) :
    ReturnsInHanded {} Try.checked os 5 .any (Rows.fnWorstOfSpec.pre6 enc Try.prog Try.f5 Rows.fnWorstOfRow.domain false) (Rows.fnWorstOfSpec.post enc Try.prog Try.f5 false true false false) := by
  refine returnsInHanded_of_change_sized (C := Try.checked) Try.own started (by kernel_rfl) Try.func5
    (ChangeSpec.witness6 (enc := enc) (C := Try.checked) false ⟨#[], #[.slice none 0 0], []⟩ 8 (by kernel_rfl) (by kernel_rfl) (by kernel_rfl) (by kernel_rfl)) ?_
  intro W base args ds gs before hval0 hW _ hwt _
  have hval : ∀ (j : Nat) t v, Try.f5.params[j]? = some t → args[j]? = some v → Value.okWide Try.prog W .any base t v := hval0
  have hA : ∃ p, DataW.TrodAll enc Try.prog W 0 (fun _ => true) true Try.f5.params.toList args.toList ds p := by obtain ⟨p, q, hA0, _⟩ := hW; exact ⟨p, hA0⟩
  obtain ⟨p, hA⟩ := hA
  have hwt' := weights_arg hwt (j := 0) (t := 22) (by rw [Try.params5]; rfl) (d := ds.getD 0 .nil)
  rw [Try.params5] at hA hval
  obtain ⟨v0, d0, rfl, rfl, h0⟩ := trodAll_one hA
  obtain ⟨A, n, c, rfl, hx⟩ := open_bytes (hval 0 22 v0 rfl rfl) h0 (hwt' rfl)
  refine (fnWorstOf_calls A n c W hx).mono fun e W' ⟨he, hb⟩ => ?_
  subst he
  exact ⟨_, rfl, law_post (F := Try.f5) rfl rfl (by rw [Try.params5]; simp only [List.mem_cons, List.not_mem_nil, or_false, forall_eq]; exact ⟨by kernel_rfl, of_decide_eq_true (by kernel_rfl)⟩) hW (fun h => by subst h; rfl) hb⟩

theorem hFnWorstOf_holds : Rows.FnWorstOfSaid :=
  OpenClaim.holds_of_wide 5 Try.f5 rfl rfl rfl rfl rfl rfl rfl ⟨rfl, rfl, rfl, rfl, rfl⟩ rfl rfl rfl rfl rfl (by kernel_rfl) Try.func5
    (by unfold joinedFacts; simp only [Bool.and_eq_true]; (repeat' apply And.intro) <;> (first | (with_reducible exact prog_enters) | ((with_reducible refine prog_lifts ?_); rfl) | ((with_reducible refine prog_make ?_); rfl) | kernel_rfl))
    (of_decide_eq_true (by kernel_rfl)) (by unfold Func.isWrapper; first | (rw [if_pos (by decide +kernel)]; kernel_rfl) | (rw [if_neg (by decide +kernel)]; exact ⟨rfl, rfl⟩))
    (fun os started H enc _ => hFnWorstOf_lifted os started H enc)

end Go.Proofs.Ytgnbmanlpppdoaa
