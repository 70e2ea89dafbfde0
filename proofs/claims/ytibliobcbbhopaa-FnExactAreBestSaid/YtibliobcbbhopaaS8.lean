/- The least mean over columns alone, by the model. -/
import Derived.Test.YtibliobcbbhopaaS7
namespace Go.Proofs.Ytibliobcbbhopaa
open Go.RowKit

theorem PB.onl {a x y n m} (h : PB a x y n m) (j : Nat) : PB a x (onl m j) n m :=
  ⟨h.a, h.x, fun k hk => by have := onl_bd (n := m) (i := j) hk; omega⟩
theorem col_bd {a x y n m} (h : PB a x y n m) (hn : n ≤ 3) (hm : m ≤ 3) (j : Nat) : -81000000 ≤ colU a x n m j ∧ colU a x n m j ≤ 81000000 := by
  have := payU_bd (h.onl j) hm (Nat.le_refl n)
  unfold colU
  omega
theorem wst_bd {a x y n m} (h : PB a x y n m) (hn : n ≤ 3) (hm : m ≤ 3) (tx : 0 < tot x) (tx3 : tot x ≤ 3000) : ∀ k, (-81000000 ≤ (wst a x n m k).1 ∧ (wst a x n m k).1 ≤ 81000000) ∧ 1 ≤ (wst a x n m k).2 ∧ (wst a x n m k).2 ≤ 3000
  | 0 => ⟨frU_bd tx (col_bd h hn hm 0), frD_bd tx tx3⟩
  | k + 1 => by
    simp only [wst]
    split
    · exact ⟨frU_bd tx (col_bd h hn hm (k + 1)), frD_bd tx tx3⟩
    · exact wst_bd h hn hm tx tx3 k
theorem wst_yes {a x n m k} (h : lessB (frU (colU a x n m (k + 1)) (tot x)) (frD (colU a x n m (k + 1)) (tot x)) (wst a x n m k).1 (wst a x n m k).2 = true) :
    wst a x n m (k + 1) = (frU (colU a x n m (k + 1)) (tot x), frD (colU a x n m (k + 1)) (tot x)) := by
  unfold lessB at h
  simp only [decide_eq_true_eq] at h
  simp only [wst]
  rw [if_pos h]
theorem wst_no {a x n m k} (h : lessB (frU (colU a x n m (k + 1)) (tot x)) (frD (colU a x n m (k + 1)) (tot x)) (wst a x n m k).1 (wst a x n m k).2 = false) : wst a x n m (k + 1) = wst a x n m k := by
  unfold lessB at h
  simp only [decide_eq_false_iff_not] at h
  simp only [wst]
  rw [if_neg h]

/-- The boxes of the result and of what is the least so far. -/
structure WO (w W : World) (U D : Int) : Prop where
  b0 : Blk W w.heap.size 53 #[.int .i64 0, .int .i64 0]
  b1 : Blk W (w.heap.size + 1) 53 #[.int .i64 U, .int .i64 D]
  below : Below w.heap.size w W
theorem WO.up {w W W' U D} (h : WO w W U D) (k : Below W.heap.size W W') : WO w W' U D := ⟨blk_below h.b0 k, blk_below h.b1 k, below_up h.below k⟩
theorem WO.keep {w W U D} (h : WO w W U D) : Keep w W := Keep.below h.below
theorem WO.start (w : World) : WO w ((w.alloc (.cells #[.int .i64 0, .int .i64 0] 53)).alloc (.cells #[.int .i64 0, .int .i64 0] 53)) 0 0 := by
  have h := blk_new (w.alloc (.cells #[.int .i64 0, .int .i64 0] 53)) 53 #[.int .i64 0, .int .i64 0]
  rw [World.size_alloc] at h
  exact ⟨blk_old (blk_new _ _ _) _, h, below_up (below_alloc _ _) (below_alloc _ _)⟩
theorem WO.set {w W U D} (h : WO w W U D) (U' D' : Int) : WO w ((W.setCell ⟨w.heap.size + 1, 0, none⟩ (.int .i64 U')).setCell ⟨w.heap.size + 1, 1, none⟩ (.int .i64 D')) U' D' :=
  ⟨blk_other (blk_other h.b0 (p := ⟨w.heap.size + 1, 0, none⟩) (by show w.heap.size ≠ w.heap.size + 1; omega) _) (p := ⟨w.heap.size + 1, 1, none⟩) (by show w.heap.size ≠ w.heap.size + 1; omega) _,
   blk_set (blk_set h.b1 0 (.int .i64 U')) 1 (.int .i64 D'),
   (h.below.setCell (p := ⟨w.heap.size + 1, 0, none⟩) (by show w.heap.size ≤ w.heap.size + 1; omega) _).setCell (p := ⟨w.heap.size + 1, 1, none⟩) (by show w.heap.size ≤ w.heap.size + 1; omega) _⟩

set_option maxRecDepth 100000 in
set_option maxHeartbeats 3200000 in
theorem worst_any (b o : Nat) (rb ro cc : Nat → Nat) (n m c cx : Nat) (X : Option Addr) (a : List (List Int)) (x y : List Int) (w : World) (h : Tab w b o rb ro cc n m a) (hx : Ints w X n cx x) (hp : PB a x y n m) (tx : 0 < tot x) :
    Calls Try.prog 82 #[.slice (some ⟨b, o, none⟩) n c, .slice X n cx] w (Ret (.agg #[.int .i64 (wst a x n m (m - 1)).1, .int .i64 (wst a x n m (m - 1)).2]) w) := by
  have HT := Lib.hid h
  have hn1 := h.n1
  have hn3 := h.n3
  have hm1 := h.m1
  have hm3 := h.m3
  have hbx := tot_bd hn3 hx.len hp.x
  have HSX := Lib.hid (show SumOk x from ⟨by rw [hx.len]; omega, fun j hj => by have := hp.x j (by rw [← hx.len]; exact hj); omega⟩)
  have HX := Lib.hid hx
  have HP := Lib.hid hp
  have HW := Lib.hid (wst_bd hp hn3 hm3 tx hbx.2)
  have HST := Lib.hid (WO.start w)
  have hrow := h.row 0 (by omega)
  simp only [Nat.add_zero] at hrow
  have HROW := Lib.hid hrow
  clear h hx hp hrow
  go_enter Try.func82, Try.ntmps82
  go_wp2
  go_loopw [6] (fun i wr => ∃ (j : Nat) (U D : Int), j ≤ m ∧ i = .int .i64 j ∧ Hid (WO w wr U D) ∧ Hid ((U, D) = if j = 0 then (0, 0) else wst a x n m (j - 1))) (fun i _ => m - (intOf i).toNat)
  case atStart => exact ⟨0, 0, 0, Nat.zero_le _, rfl, HST, Lib.hid rfl⟩
  case round =>
    clear HST
    obtain ⟨j, U, D, hj, rfl, HO, HUD⟩ := hrel
    have hrow := HO.out.keep _ _ HROW.out
    by_cases hlt : j < m
    · have HA := Lib.hid (alone_spec m j wr (by omega) hlt)
      go_wp2_with fail
      refine HA.out.mono ?_
      rintro e w1 ⟨rfl, ho, hb⟩
      have HO1 := Lib.hid (HO.out.up hb)
      have HY := Lib.hid ho.ints
      clear ho hb HA HO hrow
      have HA := Lib.hid (payUp_any b o rb ro cc n m c cx m X _ a x (onl m j) w1 (HT.out.keep HO1.out.keep) (HX.out.keep HO1.out.keep) HY.out (HP.out.onl j))
      go_wp2_with fail
      refine HA.out.mono ?_
      rintro e w2 ⟨rfl, hq⟩
      have HO2 := Lib.hid (HO1.out.up hq.below)
      clear hq HA HO1 HY
      have HA := Lib.hid (sum_any _ _ _ _ w2 (HX.out.keep HO2.out.keep) HSX.out)
      go_wp2_with fail
      refine HA.out.mono ?_
      rintro e w3 ⟨rfl, hq⟩
      have HO3 := Lib.hid (HO2.out.up hq.below)
      clear hq HA HO2
      have HCB := Lib.hid (col_bd HP.out hn3 hm3 j)
      have HA := Lib.hid (frac_any (payU a x (onl m j) m n) (tot x) w3 (by have := HCB.out; unfold colU at this; unfold Mid; omega) (by unfold Mid; omega) (by omega))
      go_wp2_with fail
      refine HA.out.mono ?_
      rintro e w4 ⟨rfl, hb⟩
      have HO4 := Lib.hid (HO3.out.up hb)
      clear hb HA HO3
      have HFU := Lib.hid (frU_bd tx HCB.out)
      have HFD := Lib.hid (frD_bd (u := colU a x n m j) tx hbx.2)
      have HPQ : Hid ((frU (colU a x n m j) (tot x), frD (colU a x n m j) (tot x)) = (frU (payU a x (onl m j) m n) (tot x), frD (payU a x (onl m j) m n) (tot x))) := Lib.hid rfl
      have HFV : Hid (frV (payU a x (onl m j) m n) (tot x) = .agg #[.int .i64 (frU (payU a x (onl m j) m n) (tot x)), .int .i64 (frD (payU a x (onl m j) m n) (tot x))]) := Lib.hid rfl
      rw [HFV.out]
      clear HFV
      generalize frU (payU a x (onl m j) m n) (tot x) = u at *
      generalize frD (payU a x (onl m j) m n) (tot x) = d at *
      have HE := Lib.hid (show frU (colU a x n m j) (tot x) = u from (Prod.ext_iff.1 HPQ.out).1)
      have HE2 := Lib.hid (show frD (colU a x n m j) (tot x) = d from (Prod.ext_iff.1 HPQ.out).2)
      have hub := HFU.out
      have hdb := HFD.out
      rw [HE.out] at hub
      rw [HE2.out] at hdb
      clear HFU HFD
      have hz4 : w.heap.size + 1 < w4.heap.size := blk_lt HO4.out.b1
      have HO5 := Lib.hid (HO4.out.up (below_alloc w4 (.cells #[.int .i64 u, .int .i64 d] 53)))
      have HB5 := Lib.hid (blk_new w4 53 #[.int .i64 u, .int .i64 d])
      have c1 := blk_cell HO5.out.b1 (i := 1) (v := .int .i64 D) rfl
      by_cases hj0 : j = 0
      · have HUD2 := Lib.hid (show U = 0 ∧ D = 0 by have := HUD.out; rw [if_pos hj0] at this; exact Prod.mk.inj this)
        have HJ := Lib.hid hj0
        clear hj0
        obtain ⟨rfl, rfl⟩ := HUD2.out
        have e0 := blk_cell HO4.out.b1 (i := 0) (v := .int .i64 0) rfl
        have e1 := blk_cell HO4.out.b1 (i := 1) (v := .int .i64 0) rfl
        have f0 := blk_frozen HO4.out.b1 0
        have f1 := blk_frozen HO4.out.b1 1
        have HO6 := Lib.hid ((HO4.out.set u d).up (below_alloc _ (.cells #[.int .i64 u, .int .i64 d] 53)))
        go_wp2
        go_roundw
        case rel => exact ⟨j + 1, u, d, by omega, by go_num, HO6, Lib.hid (by rw [if_neg (by omega), Nat.add_sub_cancel, ← HE.out, ← HE2.out, HJ.out, wst])⟩
        case measure => simp [intOf]; omega
      · clear HO4
        have c0 := blk_cell HO5.out.b1 (i := 0) (v := .int .i64 U) rfl
        have k0 := blk_cell HB5.out (i := 0) (v := .int .i64 u) rfl
        have k1 := blk_cell HB5.out (i := 1) (v := .int .i64 d) rfl
        have HUD2 := Lib.hid (show U = (wst a x n m (j - 1)).1 ∧ D = (wst a x n m (j - 1)).2 by have := HUD.out; rw [if_neg hj0] at this; exact ⟨(Prod.ext_iff.1 this).1, (Prod.ext_iff.1 this).2⟩)
        have hWB := HW.out (j - 1)
        rw [← HUD2.out.1, ← HUD2.out.2] at hWB
        obtain ⟨⟨wb1, wb2⟩, wb3, wb4⟩ := hWB
        have hD0 : (D == 0) = false := by simp; omega
        have HL := Lib.hid (less_spec u d U D (w4.alloc (.cells #[.int .i64 u, .int .i64 d] 53)) (by omega) (by omega) (by omega) (by omega))
        go_wp2_with fail
        refine HL.out.mono ?_
        rintro e w6 ⟨rfl, hb⟩
        have HO6 := Lib.hid (HO5.out.up hb)
        have HB6 := Lib.hid (blk_below HB5.out hb)
        clear hb HL c0 c1 k0 k1 HO5 HB5
        have c0 := blk_cell HO6.out.b1 (i := 0) (v := .int .i64 U) rfl
        have c1 := blk_cell HO6.out.b1 (i := 1) (v := .int .i64 D) rfl
        have f0 := blk_frozen HO6.out.b1 0
        have f1 := blk_frozen HO6.out.b1 1
        have k0 := blk_cell HB6.out (i := 0) (v := .int .i64 u) rfl
        have k1 := blk_cell HB6.out (i := 1) (v := .int .i64 d) rfl
        have HO7 := Lib.hid (HO6.out.set u d)
        have hjj : j - 1 + 1 = j := by omega
        by_cases hless : lessB u d U D = true
        · have HN : Hid (wst a x n m j = (u, d)) := Lib.hid (by
            have := wst_yes (a := a) (x := x) (n := n) (m := m) (k := j - 1) (by rw [hjj, HE.out, HE2.out, ← HUD2.out.1, ← HUD2.out.2]; exact hless)
            rw [hjj, HE.out, HE2.out] at this
            exact this)
          go_wp2
          go_roundw
          case rel => exact ⟨j + 1, u, d, by omega, by go_num, HO7, Lib.hid (by rw [if_neg (by omega), Nat.add_sub_cancel, HN.out])⟩
          case measure => simp [intOf]; omega
        · have hless' : lessB u d U D = false := by simpa using hless
          have HN : Hid (wst a x n m j = (U, D)) := Lib.hid (by
            have := wst_no (a := a) (x := x) (n := n) (m := m) (k := j - 1) (by rw [hjj, HE.out, HE2.out, ← HUD2.out.1, ← HUD2.out.2]; exact hless')
            rw [hjj] at this
            rw [this, HUD2.out.1, HUD2.out.2])
          clear hless
          go_wp2
          go_roundw
          case rel => exact ⟨j + 1, U, D, by omega, by go_num, HO6, Lib.hid (by rw [if_neg (by omega), Nat.add_sub_cancel, HN.out])⟩
          case measure => simp [intOf]; omega
    · obtain rfl : j = m := by omega
      have HUD2 := Lib.hid (show (U, D) = wst a x n j (j - 1) by rw [HUD.out, if_neg (by omega)])
      have HR := Lib.hid (show (wst a x n j (j - 1)).1 = U ∧ (wst a x n j (j - 1)).2 = D by rw [← HUD2.out]; exact ⟨rfl, rfl⟩)
      have c0 := blk_cell HO.out.b1 (i := 0) (v := .int .i64 U) rfl
      have c1 := blk_cell HO.out.b1 (i := 1) (v := .int .i64 D) rfl
      have d0 := blk_cell HO.out.b0 (i := 0) (v := .int .i64 0) rfl
      have d1 := blk_cell HO.out.b0 (i := 1) (v := .int .i64 0) rfl
      have f0 := blk_frozen HO.out.b0 0
      have f1 := blk_frozen HO.out.b0 1
      go_wp2
      clear c0 c1 d0 d1 f0 f1
      have B1 := blk_set (blk_set HO.out.b0 0 (.int .i64 U)) 1 (.int .i64 D)
      have r0 := blk_cell B1 (i := 0) (v := .int .i64 U) rfl
      have r1 := blk_cell B1 (i := 1) (v := .int .i64 D) rfl
      have HBX := Lib.hid ((HO.out.below.setCell (p := ⟨w.heap.size, 0, none⟩) (Nat.le_refl _) (.int .i64 U)).setCell (p := ⟨w.heap.size, 1, none⟩) (Nat.le_refl _) (.int .i64 D))
      clear B1 HO
      generalize (wr.setCell ⟨w.heap.size, 0, none⟩ (.int .i64 U)).setCell ⟨w.heap.size, 1, none⟩ (.int .i64 D) = WE at *
      refine bodyPost_ret (v := .agg #[.int .i64 U, .int .i64 D]) (by simp [results, Try.results82, go_sem, r0, r1]) rfl ?_
      exact ⟨by rw [HR.out.1, HR.out.2], HBX.out⟩
end Go.Proofs.Ytibliobcbbhopaa
