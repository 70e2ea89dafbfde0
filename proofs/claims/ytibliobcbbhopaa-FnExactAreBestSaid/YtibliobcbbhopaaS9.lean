/- The worst mean of shares, by both programs. -/
import Derived.Test.YtibliobcbbhopaaS8
namespace Go.Proofs.Ytibliobcbbhopaa
open Go.RowKit

structure WOk (a : List (List Int)) (x : List Int) : Prop where
  v : VT a
  x : VS x a.length
def wstV (p : Int × Int) : Value := .agg #[.int .i64 p.1, .int .i64 p.2]
def wlast (a : List (List Int)) (x : List Int) : Int × Int := wst a x a.length (gr a 0).length ((gr a 0).length - 1)
noncomputable def worF (a : List (List Int)) (x : List Int) : Int × Int := if pb (WOk a x) = true then wlast a x else (0, 0)
theorem worF_yes {a x} (h : WOk a x) : worF a x = wlast a x := by rw [worF, if_pos (pb_true h)]
theorem worF_no {a x} (h : ¬ WOk a x) : worF a x = (0, 0) := by rw [worF, if_neg (by rw [pb_false h]; decide)]
theorem wstV_form (p : Int × Int) : ∃ U D, wstV p = .agg #[.int .i64 U, .int .i64 D] := ⟨_, _, rfl⟩
theorem VT.pbx {a : List (List Int)} {x : List Int} (v : VT a) (hx : VS x a.length) : PB a x (onl (gr a 0).length 0) a.length (gr a 0).length :=
  ⟨fun i j hi hj => v.bd hi hj, fun i hi => hx.2.1 i (by have := hx.1; omega), fun j hj => by have := onl_bd (n := (gr a 0).length) (i := 0) hj; omega⟩

/-- The boxes of the result and of what is the least so far, at h. -/
structure WP (w W : World) (h : Nat) (U D : Int) : Prop where
  b0 : Blk W w.heap.size 53 #[.int .i64 0, .int .i64 0]
  b1 : Blk W h 53 #[.int .i64 U, .int .i64 D]
  lt : w.heap.size < h
  below : Below w.heap.size w W
theorem WP.up {w W W' h U D} (p : WP w W h U D) (k : Below W.heap.size W W') : WP w W' h U D := ⟨blk_below p.b0 k, blk_below p.b1 k, p.lt, below_up p.below k⟩
theorem WP.keep {w W h U D} (p : WP w W h U D) : Keep w W := Keep.below p.below
theorem WP.start {w W : World} (p : PF w W) (U D : Int) : WP w (W.alloc (.cells #[.int .i64 U, .int .i64 D] 53)) W.heap.size U D :=
  ⟨blk_old p.box _, blk_new _ _ _, blk_lt p.box, below_up p.below (below_alloc _ _)⟩
theorem WP.set {w W h U D} (p : WP w W h U D) (U' D' : Int) : WP w ((W.setCell ⟨h, 0, none⟩ (.int .i64 U')).setCell ⟨h, 1, none⟩ (.int .i64 D')) h U' D' := by
  have hl := p.lt
  exact ⟨blk_other (blk_other p.b0 (p := ⟨h, 0, none⟩) (by show w.heap.size ≠ h; omega) _) (p := ⟨h, 1, none⟩) (by show w.heap.size ≠ h; omega) _,
   blk_set (blk_set p.b1 0 (.int .i64 U')) 1 (.int .i64 D'), hl,
   (p.below.setCell (p := ⟨h, 0, none⟩) (by show w.heap.size ≤ h; omega) _).setCell (p := ⟨h, 1, none⟩) (by show w.heap.size ≤ h; omega) _⟩
theorem frV_onl (u : Int) (x : List Int) {m j : Nat} (h : j < m) : frV u (tot x * tot (onl m j)) = .agg #[.int .i64 (frU u (tot x)), .int .i64 (frD u (tot x))] := by
  rw [tot_onl h, Int.mul_one]; rfl

set_option maxRecDepth 100000 in
set_option maxHeartbeats 3200000 in
theorem WorstOf_spec (A X : Option Addr) (n c nx cx : Nat) (a : List (List Int)) (x : List Int) (w : World) (ha : IntRows w A n c a) (hx : Ints w X nx cx x) :
    Calls Try.prog 49 #[.slice A n c, .slice X nx cx] w (Ret (.tuple #[wstV (worF a x), .bool (pb (WOk a x))]) w) := by
  have HA := Lib.hid ha
  have HX := Lib.hid hx
  have HPF := Lib.hid (PF.start w)
  clear ha hx
  by_cases hv : VT a
  · have HV := Lib.hid hv
    have hn1 := hv.n1
    have hn3 := hv.n3
    have hm1 := hv.m1
    have hm3 := hv.m3
    rw [HA.out.len] at hn1 hn3
    have HC := Lib.hid (pb_true hv ▸ validTable_any _ _ _ _ _ (HA.out.keep HPF.out.keep))
    clear hv
    have HLEN := Lib.hid HA.out.len
    by_cases hvx : VS x a.length
    · have HVX := Lib.hid hvx
      have hq := fun W (k : Keep w W) => validShares_any' _ _ _ _ (n : Int) W (HX.out.keep k) (by omega)
      rw [show pb (VS x (n : Int)) = true by rw [← HLEN.out]; exact pb_true hvx] at hq
      have HQ := Lib.hid hq
      clear hvx hq
      have HP := Lib.hid (WOk.mk HV.out HVX.out)
      have HPB := Lib.hid (HV.out.pbx HVX.out)
      have tx := HVX.out.2.2
      have h1 : n = nx := by have := HVX.out.1; have := HX.out.len; have := HLEN.out; omega
      subst h1
      obtain ⟨b, o, rb, ro, cc, rfl, tab⟩ := HA.out.tab HV.out
      have HT := Lib.hid tab
      clear tab
      rw [worF_yes HP.out, pb_true HP.out, wlast, HLEN.out]
      rw [HLEN.out] at HPB
      generalize (gr a 0).length = m at *
      have hrow := HT.out.row 0 (by omega)
      simp only [Nat.add_zero] at hrow
      have HROW := Lib.hid hrow
      have hbx := tot_bd hn3 HX.out.len HPB.out.x
      have HW := Lib.hid (wst_bd HPB.out hn3 hm3 tx hbx.2)
      clear hrow
      go_enter Try.func49, Try.ntmps49
      go_wp2_with fail
      refine HC.out.mono ?_
      rintro e w1 ⟨rfl, hq⟩
      have HPF1 := Lib.hid (HPF.out.up hq.below)
      clear hq HC HPF
      go_wp2_with fail
      refine (HQ.out _ HPF1.out.keep).mono ?_
      rintro e w2 ⟨rfl, hq⟩
      have HPF := Lib.hid (HPF1.out.up hq.below)
      clear hq HQ HPF1
      have HMP := Lib.hid (worst_any b o rb ro cc n m c cx X a x _ w2 (HT.out.keep HPF.out.keep) (HX.out.keep HPF.out.keep) HPB.out tx)
      go_wp2_with fail
      refine HMP.out.mono ?_
      rintro e w3 ⟨rfl, hb⟩
      have HPF1 := Lib.hid (HPF.out.up hb)
      clear hb HMP HPF
      have HPF := HPF1
      clear HPF1
      have HFV : Hid (wstV (wst a x n m (m - 1)) = .agg #[.int .i64 (wst a x n m (m - 1)).1, .int .i64 (wst a x n m (m - 1)).2]) := Lib.hid rfl
      rw [HFV.out]
      clear HW
      generalize (wst a x n m (m - 1)).1 = U at *
      generalize (wst a x n m (m - 1)).2 = D at *
      have c0 := blk_cell HPF.out.box (i := 0) rfl
      have c1 := blk_cell HPF.out.box (i := 1) rfl
      have f0 := blk_frozen HPF.out.box 0
      have f1 := blk_frozen HPF.out.box 1
      go_wp2
      clear c0 c1 f0 f1
      have B1 := blk_set (blk_set HPF.out.box 0 (.int .i64 U)) 1 (.int .i64 D)
      have r0 := blk_cell B1 (i := 0) (v := .int .i64 U) rfl
      have r1 := blk_cell B1 (i := 1) (v := .int .i64 D) rfl
      have HBX := Lib.hid ((HPF.out.below.setCell (p := ⟨w.heap.size, 0, none⟩) (Nat.le_refl _) (.int .i64 U)).setCell (p := ⟨w.heap.size, 1, none⟩) (Nat.le_refl _) (.int .i64 D))
      clear B1 HPF
      generalize (w3.setCell ⟨w.heap.size, 0, none⟩ (.int .i64 U)).setCell ⟨w.heap.size, 1, none⟩ (.int .i64 D) = WE at *
      refine bodyPost_ret (v := .tuple #[.agg #[.int .i64 U, .int .i64 D], .bool true]) (by simp [results, Try.results49, go_sem, r0, r1]) rfl ?_
      exact ⟨by rw [HFV.out], HBX.out⟩
    · have hq := fun W (k : Keep w W) => validShares_any' _ _ _ _ (n : Int) W (HX.out.keep k) (by omega)
      rw [show pb (VS x (n : Int)) = false by rw [← HLEN.out]; exact pb_false hvx] at hq
      have HQ := Lib.hid hq
      have HNO := Lib.hid (show worF a x = (0, 0) ∧ pb (WOk a x) = false from ⟨worF_no fun h => hvx h.x, pb_false fun h => hvx h.x⟩)
      clear hvx hq
      go_enter Try.func49, Try.ntmps49
      go_wp2_with fail
      refine HC.out.mono ?_
      rintro e w1 ⟨rfl, hq⟩
      have HPF1 := Lib.hid (HPF.out.up hq.below)
      clear hq HC HPF
      go_wp2_with fail
      refine (HQ.out _ HPF1.out.keep).mono ?_
      rintro e w2 ⟨rfl, hq⟩
      have HPF := Lib.hid (HPF1.out.up hq.below)
      clear hq HQ HPF1
      have c0 := blk_cell HPF.out.box (i := 0) rfl
      have c1 := blk_cell HPF.out.box (i := 1) rfl
      have f0 := blk_frozen HPF.out.box 0
      have f1 := blk_frozen HPF.out.box 1
      go_wp2
      clear c0 c1 f0 f1
      have B1 := blk_set (blk_set HPF.out.box 0 (.int .i64 0)) 1 (.int .i64 0)
      have r0 := blk_cell B1 (i := 0) (v := .int .i64 0) rfl
      have r1 := blk_cell B1 (i := 1) (v := .int .i64 0) rfl
      have HBX := Lib.hid ((HPF.out.below.setCell (p := ⟨w.heap.size, 0, none⟩) (Nat.le_refl _) (.int .i64 0)).setCell (p := ⟨w.heap.size, 1, none⟩) (Nat.le_refl _) (.int .i64 0))
      clear B1 HPF
      generalize (w2.setCell ⟨w.heap.size, 0, none⟩ (.int .i64 0)).setCell ⟨w.heap.size, 1, none⟩ (.int .i64 0) = WE at *
      refine bodyPost_ret (v := .tuple #[.agg #[.int .i64 0, .int .i64 0], .bool false]) (by simp [results, Try.results49, go_sem, r0, r1]) rfl ?_
      exact ⟨by rw [HNO.out.1, HNO.out.2]; rfl, HBX.out⟩
  · have HC := Lib.hid (pb_false hv ▸ validTable_any _ _ _ _ _ (HA.out.keep HPF.out.keep))
    have HNO := Lib.hid (show worF a x = (0, 0) ∧ pb (WOk a x) = false from ⟨worF_no fun h => hv h.v, pb_false fun h => hv h.v⟩)
    clear hv
    go_enter Try.func49, Try.ntmps49
    go_wp2_with fail
    refine HC.out.mono ?_
    rintro e w1 ⟨rfl, hq⟩
    have HPF1 := Lib.hid (HPF.out.up hq.below)
    clear hq HC HPF
    have HPF := HPF1
    clear HPF1
    have c0 := blk_cell HPF.out.box (i := 0) rfl
    have c1 := blk_cell HPF.out.box (i := 1) rfl
    have f0 := blk_frozen HPF.out.box 0
    have f1 := blk_frozen HPF.out.box 1
    go_wp2
    clear c0 c1 f0 f1
    have B1 := blk_set (blk_set HPF.out.box 0 (.int .i64 0)) 1 (.int .i64 0)
    have r0 := blk_cell B1 (i := 0) (v := .int .i64 0) rfl
    have r1 := blk_cell B1 (i := 1) (v := .int .i64 0) rfl
    have HBX := Lib.hid ((HPF.out.below.setCell (p := ⟨w.heap.size, 0, none⟩) (Nat.le_refl _) (.int .i64 0)).setCell (p := ⟨w.heap.size, 1, none⟩) (Nat.le_refl _) (.int .i64 0))
    clear B1 HPF
    generalize (w1.setCell ⟨w.heap.size, 0, none⟩ (.int .i64 0)).setCell ⟨w.heap.size, 1, none⟩ (.int .i64 0) = WE at *
    refine bodyPost_ret (v := .tuple #[.agg #[.int .i64 0, .int .i64 0], .bool false]) (by simp [results, Try.results49, go_sem, r0, r1]) rfl ?_
    exact ⟨by rw [HNO.out.1, HNO.out.2]; rfl, HBX.out⟩

set_option maxRecDepth 100000 in
set_option maxHeartbeats 3200000 in
theorem WorstOf_impl (A X : Option Addr) (n c nx cx : Nat) (a : List (List Int)) (x : List Int) (w : World) (ha : IntRows w A n c a) (hx : Ints w X nx cx x) :
    Calls Try.prog 50 #[.slice A n c, .slice X nx cx] w (Ret (.tuple #[wstV (worF a x), .bool (pb (WOk a x))]) w) := by
  have HA := Lib.hid ha
  have HX := Lib.hid hx
  have HPF := Lib.hid (PF.start w)
  clear ha hx
  by_cases hv : VT a
  · have HV := Lib.hid hv
    have hn1 := hv.n1
    have hn3 := hv.n3
    have hm1 := hv.m1
    have hm3 := hv.m3
    rw [HA.out.len] at hn1 hn3
    have HC := Lib.hid (pb_true hv ▸ ValidTable_impl _ _ _ _ _ (HA.out.keep HPF.out.keep))
    clear hv
    have HLEN := Lib.hid HA.out.len
    by_cases hvx : VS x a.length
    · have HVX := Lib.hid hvx
      have hq := fun W (k : Keep w W) => ValidShares_any' _ _ _ _ (n : Int) W (HX.out.keep k) (by omega)
      rw [show pb (VSn x (n : Int)) = true by rw [← HLEN.out]; rw [HV.out.vsn]; exact pb_true hvx] at hq
      have HQ := Lib.hid hq
      clear hvx hq
      have HP := Lib.hid (WOk.mk HV.out HVX.out)
      have HPB := Lib.hid (HV.out.pbx HVX.out)
      have tx := HVX.out.2.2
      have h1 : n = nx := by have := HVX.out.1; have := HX.out.len; have := HLEN.out; omega
      subst h1
      obtain ⟨b, o, rb, ro, cc, rfl, tab⟩ := HA.out.tab HV.out
      have HT := Lib.hid tab
      clear tab
      rw [worF_yes HP.out, pb_true HP.out, wlast, HLEN.out]
      rw [HLEN.out] at HPB
      generalize (gr a 0).length = m at *
      have hrow := HT.out.row 0 (by omega)
      simp only [Nat.add_zero] at hrow
      have HROW := Lib.hid hrow
      have hbx := tot_bd hn3 HX.out.len HPB.out.x
      have HW := Lib.hid (wst_bd HPB.out hn3 hm3 tx hbx.2)
      clear hrow
      go_enter Try.func50, Try.ntmps50
      go_wp2_with fail
      refine HC.out.mono ?_
      rintro e w1 ⟨rfl, hq⟩
      have HPF1 := Lib.hid (HPF.out.up hq.below)
      clear hq HC HPF
      go_wp2_with fail
      refine (HQ.out _ HPF1.out.keep).mono ?_
      rintro e w2 ⟨rfl, hq⟩
      have HPF := Lib.hid (HPF1.out.up hq.below)
      clear hq HQ HPF1
      have hrow := HPF.out.keep _ _ HROW.out
      have HA0 := Lib.hid (alone_impl m 0 w2 (by omega) (by omega))
      go_wp2_with fail
      refine HA0.out.mono ?_
      rintro e w3 ⟨rfl, ho, hb⟩
      have HPF1 := Lib.hid (HPF.out.up hb)
      have HY := Lib.hid ho.ints
      clear ho hb HA0 HPF hrow
      have HMP := Lib.hid (meanPay_any b o rb ro cc n m c cx m X _ a x (onl m 0) w3 (HT.out.keep HPF1.out.keep) (HX.out.keep HPF1.out.keep) HY.out (HPB.out.onl 0) tx (by rw [tot_onl (by omega)]; omega))
      rw [frV_onl _ _ (by omega)] at HMP
      go_wp2_with fail
      refine HMP.out.mono ?_
      rintro e w4 ⟨rfl, hb⟩
      have HPF := Lib.hid (HPF1.out.up hb)
      clear hb HMP HPF1 HY
      have HU0 : Hid ((frU (payU a x (onl m 0) m n) (tot x), frD (payU a x (onl m 0) m n) (tot x)) = wst a x n m (0 - 1)) := Lib.hid rfl
      generalize frU (payU a x (onl m 0) m n) (tot x) = U at *
      generalize frD (payU a x (onl m 0) m n) (tot x) = D at *
      have HO := Lib.hid (WP.start HPF.out U D)
      have hrow := HO.out.keep _ _ HROW.out
      clear HPF
      go_wp2
      clear hrow
      generalize w4.alloc (.cells #[.int .i64 U, .int .i64 D] 53) = W4 at *
      generalize w4.heap.size = h at *
      go_loopw [32] (fun i wr => ∃ (j : Nat) (U D : Int), j ≤ m ∧ i = .int .i64 j ∧ Hid (WP w wr h U D) ∧ Hid ((U, D) = wst a x n m (j - 1))) (fun i _ => m - (intOf i).toNat)
      case atStart => exact ⟨0, U, D, Nat.zero_le _, rfl, HO, HU0⟩
      case round =>
        clear HO HU0
        obtain ⟨j, U, D, hj, rfl, HO, HUD⟩ := hrel
        have hrow := HO.out.keep _ _ HROW.out
        by_cases hlt : j < m
        · have HA0 := Lib.hid (alone_impl m j wr (by omega) hlt)
          go_wp2_with fail
          refine HA0.out.mono ?_
          rintro e w5 ⟨rfl, ho, hb⟩
          have HO1 := Lib.hid (HO.out.up hb)
          have HY := Lib.hid ho.ints
          clear ho hb HA0 HO hrow
          have HMP := Lib.hid (meanPay_any b o rb ro cc n m c cx m X _ a x (onl m j) w5 (HT.out.keep HO1.out.keep) (HX.out.keep HO1.out.keep) HY.out (HPB.out.onl j) tx (by rw [tot_onl hlt]; omega))
          rw [frV_onl _ _ hlt] at HMP
          go_wp2_with fail
          refine HMP.out.mono ?_
          rintro e w6 ⟨rfl, hb⟩
          have HO4 := Lib.hid (HO1.out.up hb)
          clear hb HMP HO1 HY
          have HCB := Lib.hid (col_bd HPB.out hn3 hm3 j)
          have HFU := Lib.hid (frU_bd tx HCB.out)
          have HFD := Lib.hid (frD_bd (u := colU a x n m j) tx hbx.2)
          have HPQ : Hid ((frU (colU a x n m j) (tot x), frD (colU a x n m j) (tot x)) = (frU (payU a x (onl m j) m n) (tot x), frD (payU a x (onl m j) m n) (tot x))) := Lib.hid rfl
          generalize frU (payU a x (onl m j) m n) (tot x) = u at *
          generalize frD (payU a x (onl m j) m n) (tot x) = d at *
          have HE := Lib.hid (show frU (colU a x n m j) (tot x) = u from (Prod.ext_iff.1 HPQ.out).1)
          have HE2 := Lib.hid (show frD (colU a x n m j) (tot x) = d from (Prod.ext_iff.1 HPQ.out).2)
          have hub := HFU.out
          have hdb := HFD.out
          rw [HE.out] at hub
          rw [HE2.out] at hdb
          clear HFU HFD
          have hz4 : h < w6.heap.size := blk_lt HO4.out.b1
          have HO5 := Lib.hid (HO4.out.up (below_alloc w6 (.cells #[.int .i64 u, .int .i64 d] 53)))
          have HB5 := Lib.hid (blk_new w6 53 #[.int .i64 u, .int .i64 d])
          have c0 := blk_cell HO5.out.b1 (i := 0) (v := .int .i64 U) rfl
          have c1 := blk_cell HO5.out.b1 (i := 1) (v := .int .i64 D) rfl
          have k0 := blk_cell HB5.out (i := 0) (v := .int .i64 u) rfl
          have k1 := blk_cell HB5.out (i := 1) (v := .int .i64 d) rfl
          clear HO4
          have HUD2 := Lib.hid (show U = (wst a x n m (j - 1)).1 ∧ D = (wst a x n m (j - 1)).2 from ⟨(Prod.ext_iff.1 HUD.out).1, (Prod.ext_iff.1 HUD.out).2⟩)
          have hWB := HW.out (j - 1)
          rw [← HUD2.out.1, ← HUD2.out.2] at hWB
          obtain ⟨⟨wb1, wb2⟩, wb3, wb4⟩ := hWB
          have HL := Lib.hid (less_impl u d U D (w6.alloc (.cells #[.int .i64 u, .int .i64 d] 53)) (by omega) (by omega) (by omega) (by omega))
          go_wp2_with fail
          refine HL.out.mono ?_
          rintro e w7 ⟨rfl, hb⟩
          have HO6 := Lib.hid (HO5.out.up hb)
          have HB6 := Lib.hid (blk_below HB5.out hb)
          clear hb HL c0 c1 k0 k1 HO5 HB5
          have c0 := blk_cell HO6.out.b1 (i := 0) (v := .int .i64 U) rfl
          have c1 := blk_cell HO6.out.b1 (i := 1) (v := .int .i64 D) rfl
          have f0 := blk_frozen HO6.out.b1 0
          have f1 := blk_frozen HO6.out.b1 1
          have k0 := blk_cell HB6.out (i := 0) (v := .int .i64 u) rfl
          have k1 := blk_cell HB6.out (i := 1) (v := .int .i64 d) rfl
          have HO7 := Lib.hid (HO6.out.set u d)
          have HS0 : Hid (j = 0 → wst a x n m j = (u, d)) := Lib.hid (fun e => by subst e; rw [wst, HE.out, HE2.out])
          have HJJ : Hid (j ≠ 0 → j - 1 + 1 = j) := Lib.hid (fun _ => by omega)
          by_cases hless : lessB u d U D = true
          · have HN : Hid (wst a x n m j = (u, d)) := Lib.hid (by
              by_cases e : j = 0
              · exact HS0.out e
              · have hjj := HJJ.out e
                have := wst_yes (a := a) (x := x) (n := n) (m := m) (k := j - 1) (by rw [hjj, HE.out, HE2.out, ← HUD2.out.1, ← HUD2.out.2]; exact hless)
                rw [hjj, HE.out, HE2.out] at this
                exact this)
            go_wp2
            go_roundw
            case rel => exact ⟨j + 1, u, d, by omega, by go_num, HO7, Lib.hid (by rw [Nat.add_sub_cancel, HN.out])⟩
            case measure => simp [intOf]; omega
          · have hless' : lessB u d U D = false := by simpa using hless
            have HN : Hid (wst a x n m j = (U, D)) := Lib.hid (by
              by_cases e : j = 0
              · rw [HUD.out, e]
              · have hjj := HJJ.out e
                have := wst_no (a := a) (x := x) (n := n) (m := m) (k := j - 1) (by rw [hjj, HE.out, HE2.out, ← HUD2.out.1, ← HUD2.out.2]; exact hless')
                rw [hjj] at this
                rw [this, HUD2.out.1, HUD2.out.2])
            clear hless
            go_wp2
            go_roundw
            case rel => exact ⟨j + 1, U, D, by omega, by go_num, HO6, Lib.hid (by rw [Nat.add_sub_cancel, HN.out])⟩
            case measure => simp [intOf]; omega
        · obtain rfl : j = m := by omega
          have HFV : Hid (wstV (wst a x n j (j - 1)) = .agg #[.int .i64 U, .int .i64 D]) := Lib.hid (by rw [← HUD.out]; rfl)
          rw [HFV.out]
          have k0 := blk_cell HO.out.b1 (i := 0) (v := .int .i64 U) rfl
          have k1 := blk_cell HO.out.b1 (i := 1) (v := .int .i64 D) rfl
          have HPF := Lib.hid (PF.mk HO.out.b0 HO.out.below)
          clear HO
          have c0 := blk_cell HPF.out.box (i := 0) rfl
          have c1 := blk_cell HPF.out.box (i := 1) rfl
          have f0 := blk_frozen HPF.out.box 0
          have f1 := blk_frozen HPF.out.box 1
          go_wp2
          clear c0 c1 f0 f1
          have B1 := blk_set (blk_set HPF.out.box 0 (.int .i64 U)) 1 (.int .i64 D)
          have r0 := blk_cell B1 (i := 0) (v := .int .i64 U) rfl
          have r1 := blk_cell B1 (i := 1) (v := .int .i64 D) rfl
          have HBX := Lib.hid ((HPF.out.below.setCell (p := ⟨w.heap.size, 0, none⟩) (Nat.le_refl _) (.int .i64 U)).setCell (p := ⟨w.heap.size, 1, none⟩) (Nat.le_refl _) (.int .i64 D))
          clear B1 HPF
          generalize (wr.setCell ⟨w.heap.size, 0, none⟩ (.int .i64 U)).setCell ⟨w.heap.size, 1, none⟩ (.int .i64 D) = WE at *
          refine bodyPost_ret (v := .tuple #[.agg #[.int .i64 U, .int .i64 D], .bool true]) (by simp [results, Try.results50, go_sem, r0, r1]) rfl ?_
          exact ⟨by rw [HFV.out], HBX.out⟩
    · have hq := fun W (k : Keep w W) => ValidShares_any' _ _ _ _ (n : Int) W (HX.out.keep k) (by omega)
      rw [show pb (VSn x (n : Int)) = false by rw [← HLEN.out]; rw [HV.out.vsn]; exact pb_false hvx] at hq
      have HQ := Lib.hid hq
      have HNO := Lib.hid (show worF a x = (0, 0) ∧ pb (WOk a x) = false from ⟨worF_no fun h => hvx h.x, pb_false fun h => hvx h.x⟩)
      clear hvx hq
      go_enter Try.func50, Try.ntmps50
      go_wp2_with fail
      refine HC.out.mono ?_
      rintro e w1 ⟨rfl, hq⟩
      have HPF1 := Lib.hid (HPF.out.up hq.below)
      clear hq HC HPF
      go_wp2_with fail
      refine (HQ.out _ HPF1.out.keep).mono ?_
      rintro e w2 ⟨rfl, hq⟩
      have HPF := Lib.hid (HPF1.out.up hq.below)
      clear hq HQ HPF1
      have c0 := blk_cell HPF.out.box (i := 0) rfl
      have c1 := blk_cell HPF.out.box (i := 1) rfl
      have f0 := blk_frozen HPF.out.box 0
      have f1 := blk_frozen HPF.out.box 1
      go_wp2
      clear c0 c1 f0 f1
      have B1 := blk_set (blk_set HPF.out.box 0 (.int .i64 0)) 1 (.int .i64 0)
      have r0 := blk_cell B1 (i := 0) (v := .int .i64 0) rfl
      have r1 := blk_cell B1 (i := 1) (v := .int .i64 0) rfl
      have HBX := Lib.hid ((HPF.out.below.setCell (p := ⟨w.heap.size, 0, none⟩) (Nat.le_refl _) (.int .i64 0)).setCell (p := ⟨w.heap.size, 1, none⟩) (Nat.le_refl _) (.int .i64 0))
      clear B1 HPF
      generalize (w2.setCell ⟨w.heap.size, 0, none⟩ (.int .i64 0)).setCell ⟨w.heap.size, 1, none⟩ (.int .i64 0) = WE at *
      refine bodyPost_ret (v := .tuple #[.agg #[.int .i64 0, .int .i64 0], .bool false]) (by simp [results, Try.results50, go_sem, r0, r1]) rfl ?_
      exact ⟨by rw [HNO.out.1, HNO.out.2]; rfl, HBX.out⟩
  · have HC := Lib.hid (pb_false hv ▸ ValidTable_impl _ _ _ _ _ (HA.out.keep HPF.out.keep))
    have HNO := Lib.hid (show worF a x = (0, 0) ∧ pb (WOk a x) = false from ⟨worF_no fun h => hv h.v, pb_false fun h => hv h.v⟩)
    clear hv
    go_enter Try.func50, Try.ntmps50
    go_wp2_with fail
    refine HC.out.mono ?_
    rintro e w1 ⟨rfl, hq⟩
    have HPF1 := Lib.hid (HPF.out.up hq.below)
    clear hq HC HPF
    have HPF := HPF1
    clear HPF1
    have c0 := blk_cell HPF.out.box (i := 0) rfl
    have c1 := blk_cell HPF.out.box (i := 1) rfl
    have f0 := blk_frozen HPF.out.box 0
    have f1 := blk_frozen HPF.out.box 1
    go_wp2
    clear c0 c1 f0 f1
    have B1 := blk_set (blk_set HPF.out.box 0 (.int .i64 0)) 1 (.int .i64 0)
    have r0 := blk_cell B1 (i := 0) (v := .int .i64 0) rfl
    have r1 := blk_cell B1 (i := 1) (v := .int .i64 0) rfl
    have HBX := Lib.hid ((HPF.out.below.setCell (p := ⟨w.heap.size, 0, none⟩) (Nat.le_refl _) (.int .i64 0)).setCell (p := ⟨w.heap.size, 1, none⟩) (Nat.le_refl _) (.int .i64 0))
    clear B1 HPF
    generalize (w1.setCell ⟨w.heap.size, 0, none⟩ (.int .i64 0)).setCell ⟨w.heap.size, 1, none⟩ (.int .i64 0) = WE at *
    refine bodyPost_ret (v := .tuple #[.agg #[.int .i64 0, .int .i64 0], .bool false]) (by simp [results, Try.results50, go_sem, r0, r1]) rfl ?_
    exact ⟨by rw [HNO.out.1, HNO.out.2]; rfl, HBX.out⟩

end Go.Proofs.Ytibliobcbbhopaa
