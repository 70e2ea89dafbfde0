/- Means of a table with shares, by both programs. -/
import Derived.Test.YtibliobcbbhopaaS4
import Derived.Test.YtibliobcbbhopaaB2
namespace Go.Proofs.Ytibliobcbbhopaa
open Go.RowKit

/-- The box of a fraction that a function returns, at its start. -/
structure PF (w W : World) : Prop where
  box : Blk W w.heap.size 53 #[.int .i64 0, .int .i64 0]
  below : Below w.heap.size w W
theorem PF.start (w : World) : PF w (w.alloc (.cells #[.int .i64 0, .int .i64 0] 53)) := ⟨blk_new _ _ _, below_alloc _ _⟩
theorem PF.up {w W W' : World} (h : PF w W) (k : Below W.heap.size W W') : PF w W' := ⟨blk_below h.box k, below_up h.below k⟩
theorem PF.keep {w W : World} (h : PF w W) : Keep w W := Keep.below h.below

theorem VT.vsn {a : List (List Int)} (v : VT a) (x : List Int) : pb (VSn x a.length) = pb (VS x a.length) :=
  pb_congr ⟨fun h => h.2.2, fun h => ⟨by have := v.n1; omega, by have := v.n3; omega, h⟩⟩
theorem VT.vsm {a : List (List Int)} (v : VT a) (x : List Int) : pb (VSn x (gr a 0).length) = pb (VS x (gr a 0).length) :=
  pb_congr ⟨fun h => h.2.2, fun h => ⟨by have := v.m1; omega, by have := v.m3; omega, h⟩⟩
theorem VT.pb_ {a : List (List Int)} {x y : List Int} (v : VT a) (hx : VS x a.length) (hy : VS y (gr a 0).length) : PB a x y a.length (gr a 0).length :=
  ⟨fun i j hi hj => v.bd hi hj, fun i hi => hx.2.1 i (by have := hx.1; omega), fun j hj => hy.2.1 j (by have := hy.1; omega)⟩
structure POk (a : List (List Int)) (x y : List Int) : Prop where
  v : VT a
  x : VS x a.length
  y : VS y (gr a 0).length
noncomputable def payF (a : List (List Int)) (x y : List Int) : Value := if pb (POk a x y) = true then frV (payU a x y (gr a 0).length a.length) (tot x * tot y) else .agg #[.int .i64 0, .int .i64 0]
theorem payF_yes {a x y} (h : POk a x y) : payF a x y = frV (payU a x y (gr a 0).length a.length) (tot x * tot y) := by rw [payF, if_pos (pb_true h)]
theorem payF_no {a x y} (h : ¬ POk a x y) : payF a x y = .agg #[.int .i64 0, .int .i64 0] := by rw [payF, if_neg (by rw [pb_false h]; decide)]

theorem validShares_any' (A : Option Addr) (n c : Nat) (xs : List Int) (m : Int) (w : World) (hx : Ints w A n c xs) (hm : m ≤ 3) :
    Calls Try.prog 71 #[.slice A n c, .int .i64 m] w fun e w' => e = .returned (.bool (pb (VS xs m))) ∧ Quiet w w' := validShares_any A n c xs m w hx hm
theorem ValidShares_any' (A : Option Addr) (n c : Nat) (xs : List Int) (m : Int) (w : World) (hx : Ints w A n c xs) (_ : m ≤ 3) :
    Calls Try.prog 28 #[.slice A n c, .int .i64 m] w fun e w' => e = .returned (.bool (pb (VSn xs m))) ∧ Quiet w w' := ValidShares_impl A n c xs m w hx

set_option maxRecDepth 100000 in
set_option maxHeartbeats 2000000 in
theorem PayOf_spec (A X Y : Option Addr) (n c nx cx ny cy : Nat) (a : List (List Int)) (x y : List Int) (w : World) (ha : IntRows w A n c a) (hx : Ints w X nx cx x) (hy : Ints w Y ny cy y) :
    Calls Try.prog 45 #[.slice A n c, .slice X nx cx, .slice Y ny cy] w (Ret (.tuple #[payF a x y, .bool (pb (POk a x y))]) w) := by
  have HA := Lib.hid ha
  have HX := Lib.hid hx
  have HY := Lib.hid hy
  have HPF := Lib.hid (PF.start w)
  clear ha hx hy
  by_cases hv : VT a
  · have HV := Lib.hid hv
    have hn1 := hv.n1
    have hn3 := hv.n3
    have hm1 := hv.m1
    have hm3 := hv.m3
    rw [HA.out.len] at hn1 hn3
    have HC := Lib.hid (pb_true hv ▸ validTable_any _ _ _ _ _ (HA.out.keep HPF.out.keep))
    clear hv
    have HLEN := Lib.hid HA.out.len
    by_cases hvx : VS x a.length
    · have HVX := Lib.hid hvx
      have hq := fun W (k : Keep w W) => validShares_any' _ _ _ _ (n : Int) W (HX.out.keep k) (by omega)
      rw [show pb (VS x (n : Int)) = true by rw [← HLEN.out]; exact pb_true hvx] at hq
      have HQ := Lib.hid hq
      clear hvx hq
      by_cases hvy : VS y (gr a 0).length
      · have HVY := Lib.hid hvy
        have hq := fun W (k : Keep w W) => validShares_any' _ _ _ _ ((gr a 0).length : Int) W (HY.out.keep k) (by omega)
        rw [show pb (VS y ((gr a 0).length : Int)) = true by exact pb_true hvy] at hq
        have HQ2 := Lib.hid hq
        have HP := Lib.hid (POk.mk HV.out HVX.out HVY.out)
        have HPB := Lib.hid (HV.out.pb_ HVX.out HVY.out)
        have tx := HVX.out.2.2
        have ty := HVY.out.2.2
        have h1 : n = nx := by have := HVX.out.1; have := HX.out.len; have := HLEN.out; omega
        have h2 : (gr a 0).length = ny := by have := HVY.out.1; have := HY.out.len; omega
        subst h1
        clear hvy hq
        obtain ⟨b, o, rb, ro, cc, rfl, tab⟩ := HA.out.tab HV.out
        have HT := Lib.hid tab
        have HM := Lib.hid h2
        clear tab h2
        have HN2 := Lib.hid HLEN.out
        rw [payF_yes HP.out, pb_true HP.out, HLEN.out, HM.out]
        rw [HM.out] at HT HPB
        rw [HLEN.out] at HPB
        rw [HM.out] at HQ2 hm1 hm3
        have hrow := HT.out.row 0 (by omega)
        simp only [Nat.add_zero] at hrow
        have HROW := Lib.hid hrow
        clear hrow
        go_enter Try.func45, Try.ntmps45
        go_wp2_with fail
        refine HC.out.mono ?_
        rintro e w1 ⟨rfl, hq⟩
        have HPF1 := Lib.hid (HPF.out.up hq.below)
        clear hq HC HPF
        go_wp2_with fail
        refine (HQ.out _ HPF1.out.keep).mono ?_
        rintro e w2 ⟨rfl, hq⟩
        have HPF := Lib.hid (HPF1.out.up hq.below)
        have hrow := HPF.out.keep _ _ HROW.out
        clear hq HQ HPF1
        go_wp2_with fail
        refine (HQ2.out _ HPF.out.keep).mono ?_
        rintro e w3 ⟨rfl, hq⟩
        have HPF1 := Lib.hid (HPF.out.up hq.below)
        clear hq HQ2 HPF hrow
        have hxy : 1 ≤ tot x * tot y ∧ tot x * tot y ≤ 9000000 := by
          have hbx := tot_bd hn3 HX.out.len HPB.out.x
          have hby := tot_bd hm3 HY.out.len HPB.out.y
          have h1 : 1 * 1 ≤ tot x * tot y := Int.mul_le_mul (by omega) (by omega) (by omega) (by omega)
          have h2 : tot x * tot y ≤ 3000 * 3000 := Int.mul_le_mul hbx.2 hby.2 hby.1 (by omega)
          omega
        obtain ⟨xy1, xy2⟩ := hxy
        have hpu := payU_bd HPB.out hm3 (Nat.le_refl n)
        go_wp2_with fail
        have HMP := Lib.hid (payUp_any b o rb ro cc n ny c cx cy X Y a x y w3 (HT.out.keep HPF1.out.keep) (HX.out.keep HPF1.out.keep) (HY.out.keep HPF1.out.keep) HPB.out)
        refine HMP.out.mono ?_
        rintro e w4 ⟨rfl, hb⟩
        have HPF := Lib.hid (HPF1.out.up hb.below)
        clear hb HMP HPF1
        go_wp2_with fail
        have HMP := Lib.hid (sum_any _ _ _ _ _ (HX.out.keep HPF.out.keep) (HVX.out.sumOk (by rw [HLEN.out]; omega)))
        refine HMP.out.mono ?_
        rintro e w5 ⟨rfl, hb⟩
        have HPF1 := Lib.hid (HPF.out.up hb.below)
        clear hb HMP HPF
        go_wp2_with fail
        have HMP := Lib.hid (sum_any _ _ _ _ _ (HY.out.keep HPF1.out.keep) (HVY.out.sumOk (by rw [HM.out]; omega)))
        refine HMP.out.mono ?_
        rintro e w6 ⟨rfl, hb⟩
        have HPF := Lib.hid (HPF1.out.up hb.below)
        clear hb HMP HPF1
        have HMP := Lib.hid (frac_any (payU a x y ny n) (tot x * tot y) w6 (by unfold Mid; omega) (by unfold Mid; omega) xy1)
        go_wp2_with fail
        refine HMP.out.mono ?_
        rintro e w7 ⟨rfl, hb⟩
        have HPF1 := Lib.hid (HPF.out.up hb)
        clear hb HMP HPF
        have HPF := HPF1
        clear HPF1
        have HFV : Hid (frV (payU a x y ny n) (tot x * tot y) = .agg #[.int .i64 (frU (payU a x y ny n) (tot x * tot y)), .int .i64 (frD (payU a x y ny n) (tot x * tot y))]) := Lib.hid rfl
        rw [HFV.out]
        generalize frU (payU a x y ny n) (tot x * tot y) = U at *
        generalize frD (payU a x y ny n) (tot x * tot y) = D at *
        have c0 := blk_cell HPF.out.box (i := 0) rfl
        have c1 := blk_cell HPF.out.box (i := 1) rfl
        have f0 := blk_frozen HPF.out.box 0
        have f1 := blk_frozen HPF.out.box 1
        go_wp2
        clear c0 c1 f0 f1
        have B1 := blk_set (blk_set HPF.out.box 0 (.int .i64 U)) 1 (.int .i64 D)
        have r0 := blk_cell B1 (i := 0) (v := .int .i64 U) rfl
        have r1 := blk_cell B1 (i := 1) (v := .int .i64 D) rfl
        have HBX := Lib.hid ((HPF.out.below.setCell (p := ⟨w.heap.size, 0, none⟩) (Nat.le_refl _) (.int .i64 U)).setCell (p := ⟨w.heap.size, 1, none⟩) (Nat.le_refl _) (.int .i64 D))
        clear B1 HPF
        generalize (w7.setCell ⟨w.heap.size, 0, none⟩ (.int .i64 U)).setCell ⟨w.heap.size, 1, none⟩ (.int .i64 D) = WE at *
        refine bodyPost_ret (v := .tuple #[.agg #[.int .i64 U, .int .i64 D], .bool true]) (by simp [results, Try.results45, go_sem, r0, r1]) rfl ?_
        exact ⟨by rw [HFV.out], HBX.out⟩
      · have hq := fun W (k : Keep w W) => validShares_any' _ _ _ _ ((gr a 0).length : Int) W (HY.out.keep k) (by omega)
        rw [show pb (VS y ((gr a 0).length : Int)) = false by exact pb_false hvy] at hq
        have HQ2 := Lib.hid hq
        have HNO := Lib.hid (show payF a x y = .agg #[.int .i64 0, .int .i64 0] ∧ pb (POk a x y) = false from ⟨payF_no fun h => hvy h.y, pb_false fun h => hvy h.y⟩)
        clear hvy hq
        obtain ⟨b, o, rfl, hr⟩ := HA.out.at_ (by omega)
        obtain ⟨R, c', hrow, -⟩ := hr 0 (by omega)
        simp only [Nat.add_zero] at hrow
        have HROW := Lib.hid hrow
        clear hr hrow
        go_enter Try.func45, Try.ntmps45
        go_wp2_with fail
        refine HC.out.mono ?_
        rintro e w1 ⟨rfl, hq⟩
        have HPF1 := Lib.hid (HPF.out.up hq.below)
        clear hq HC HPF
        go_wp2_with fail
        refine (HQ.out _ HPF1.out.keep).mono ?_
        rintro e w2 ⟨rfl, hq⟩
        have HPF := Lib.hid (HPF1.out.up hq.below)
        have hrow := HPF.out.keep _ _ HROW.out
        clear hq HQ HPF1
        go_wp2_with fail
        refine (HQ2.out _ HPF.out.keep).mono ?_
        rintro e w3 ⟨rfl, hq⟩
        have HPF1 := Lib.hid (HPF.out.up hq.below)
        clear hq HQ2 HPF hrow
        have HPF := HPF1
        clear HPF1
        have c0 := blk_cell HPF.out.box (i := 0) rfl
        have c1 := blk_cell HPF.out.box (i := 1) rfl
        have f0 := blk_frozen HPF.out.box 0
        have f1 := blk_frozen HPF.out.box 1
        go_wp2
        clear c0 c1 f0 f1
        have B1 := blk_set (blk_set HPF.out.box 0 (.int .i64 0)) 1 (.int .i64 0)
        have r0 := blk_cell B1 (i := 0) (v := .int .i64 0) rfl
        have r1 := blk_cell B1 (i := 1) (v := .int .i64 0) rfl
        have HBX := Lib.hid ((HPF.out.below.setCell (p := ⟨w.heap.size, 0, none⟩) (Nat.le_refl _) (.int .i64 0)).setCell (p := ⟨w.heap.size, 1, none⟩) (Nat.le_refl _) (.int .i64 0))
        clear B1 HPF
        generalize (w3.setCell ⟨w.heap.size, 0, none⟩ (.int .i64 0)).setCell ⟨w.heap.size, 1, none⟩ (.int .i64 0) = WE at *
        refine bodyPost_ret (v := .tuple #[.agg #[.int .i64 0, .int .i64 0], .bool false]) (by simp [results, Try.results45, go_sem, r0, r1]) rfl ?_
        exact ⟨by rw [HNO.out.1, HNO.out.2], HBX.out⟩
    · have hq := fun W (k : Keep w W) => validShares_any' _ _ _ _ (n : Int) W (HX.out.keep k) (by omega)
      rw [show pb (VS x (n : Int)) = false by rw [← HLEN.out]; exact pb_false hvx] at hq
      have HQ := Lib.hid hq
      have HNO := Lib.hid (show payF a x y = .agg #[.int .i64 0, .int .i64 0] ∧ pb (POk a x y) = false from ⟨payF_no fun h => hvx h.x, pb_false fun h => hvx h.x⟩)
      clear hvx hq
      go_enter Try.func45, Try.ntmps45
      go_wp2_with fail
      refine HC.out.mono ?_
      rintro e w1 ⟨rfl, hq⟩
      have HPF1 := Lib.hid (HPF.out.up hq.below)
      clear hq HC HPF
      go_wp2_with fail
      refine (HQ.out _ HPF1.out.keep).mono ?_
      rintro e w2 ⟨rfl, hq⟩
      have HPF := Lib.hid (HPF1.out.up hq.below)
      clear hq HQ HPF1
      have c0 := blk_cell HPF.out.box (i := 0) rfl
      have c1 := blk_cell HPF.out.box (i := 1) rfl
      have f0 := blk_frozen HPF.out.box 0
      have f1 := blk_frozen HPF.out.box 1
      go_wp2
      clear c0 c1 f0 f1
      have B1 := blk_set (blk_set HPF.out.box 0 (.int .i64 0)) 1 (.int .i64 0)
      have r0 := blk_cell B1 (i := 0) (v := .int .i64 0) rfl
      have r1 := blk_cell B1 (i := 1) (v := .int .i64 0) rfl
      have HBX := Lib.hid ((HPF.out.below.setCell (p := ⟨w.heap.size, 0, none⟩) (Nat.le_refl _) (.int .i64 0)).setCell (p := ⟨w.heap.size, 1, none⟩) (Nat.le_refl _) (.int .i64 0))
      clear B1 HPF
      generalize (w2.setCell ⟨w.heap.size, 0, none⟩ (.int .i64 0)).setCell ⟨w.heap.size, 1, none⟩ (.int .i64 0) = WE at *
      refine bodyPost_ret (v := .tuple #[.agg #[.int .i64 0, .int .i64 0], .bool false]) (by simp [results, Try.results45, go_sem, r0, r1]) rfl ?_
      exact ⟨by rw [HNO.out.1, HNO.out.2], HBX.out⟩
  · have HC := Lib.hid (pb_false hv ▸ validTable_any _ _ _ _ _ (HA.out.keep HPF.out.keep))
    have HNO := Lib.hid (show payF a x y = .agg #[.int .i64 0, .int .i64 0] ∧ pb (POk a x y) = false from ⟨payF_no fun h => hv h.v, pb_false fun h => hv h.v⟩)
    clear hv
    go_enter Try.func45, Try.ntmps45
    go_wp2_with fail
    refine HC.out.mono ?_
    rintro e w1 ⟨rfl, hq⟩
    have HPF1 := Lib.hid (HPF.out.up hq.below)
    clear hq HC HPF
    have HPF := HPF1
    clear HPF1
    have c0 := blk_cell HPF.out.box (i := 0) rfl
    have c1 := blk_cell HPF.out.box (i := 1) rfl
    have f0 := blk_frozen HPF.out.box 0
    have f1 := blk_frozen HPF.out.box 1
    go_wp2
    clear c0 c1 f0 f1
    have B1 := blk_set (blk_set HPF.out.box 0 (.int .i64 0)) 1 (.int .i64 0)
    have r0 := blk_cell B1 (i := 0) (v := .int .i64 0) rfl
    have r1 := blk_cell B1 (i := 1) (v := .int .i64 0) rfl
    have HBX := Lib.hid ((HPF.out.below.setCell (p := ⟨w.heap.size, 0, none⟩) (Nat.le_refl _) (.int .i64 0)).setCell (p := ⟨w.heap.size, 1, none⟩) (Nat.le_refl _) (.int .i64 0))
    clear B1 HPF
    generalize (w1.setCell ⟨w.heap.size, 0, none⟩ (.int .i64 0)).setCell ⟨w.heap.size, 1, none⟩ (.int .i64 0) = WE at *
    refine bodyPost_ret (v := .tuple #[.agg #[.int .i64 0, .int .i64 0], .bool false]) (by simp [results, Try.results45, go_sem, r0, r1]) rfl ?_
    exact ⟨by rw [HNO.out.1, HNO.out.2], HBX.out⟩

set_option maxRecDepth 100000 in
set_option maxHeartbeats 2000000 in
theorem PayOf_impl (A X Y : Option Addr) (n c nx cx ny cy : Nat) (a : List (List Int)) (x y : List Int) (w : World) (ha : IntRows w A n c a) (hx : Ints w X nx cx x) (hy : Ints w Y ny cy y) :
    Calls Try.prog 47 #[.slice A n c, .slice X nx cx, .slice Y ny cy] w (Ret (.tuple #[payF a x y, .bool (pb (POk a x y))]) w) := by
  have HA := Lib.hid ha
  have HX := Lib.hid hx
  have HY := Lib.hid hy
  have HPF := Lib.hid (PF.start w)
  clear ha hx hy
  by_cases hv : VT a
  · have HV := Lib.hid hv
    have hn1 := hv.n1
    have hn3 := hv.n3
    have hm1 := hv.m1
    have hm3 := hv.m3
    rw [HA.out.len] at hn1 hn3
    have HC := Lib.hid (pb_true hv ▸ ValidTable_impl _ _ _ _ _ (HA.out.keep HPF.out.keep))
    clear hv
    have HLEN := Lib.hid HA.out.len
    by_cases hvx : VS x a.length
    · have HVX := Lib.hid hvx
      have hq := fun W (k : Keep w W) => ValidShares_any' _ _ _ _ (n : Int) W (HX.out.keep k) (by omega)
      rw [show pb (VSn x (n : Int)) = true by rw [← HLEN.out]; rw [HV.out.vsn]; exact pb_true hvx] at hq
      have HQ := Lib.hid hq
      clear hvx hq
      by_cases hvy : VS y (gr a 0).length
      · have HVY := Lib.hid hvy
        have hq := fun W (k : Keep w W) => ValidShares_any' _ _ _ _ ((gr a 0).length : Int) W (HY.out.keep k) (by omega)
        rw [show pb (VSn y ((gr a 0).length : Int)) = true by rw [HV.out.vsm]; exact pb_true hvy] at hq
        have HQ2 := Lib.hid hq
        have HP := Lib.hid (POk.mk HV.out HVX.out HVY.out)
        have HPB := Lib.hid (HV.out.pb_ HVX.out HVY.out)
        have tx := HVX.out.2.2
        have ty := HVY.out.2.2
        have h1 : n = nx := by have := HVX.out.1; have := HX.out.len; have := HLEN.out; omega
        have h2 : (gr a 0).length = ny := by have := HVY.out.1; have := HY.out.len; omega
        subst h1
        clear hvy hq
        obtain ⟨b, o, rb, ro, cc, rfl, tab⟩ := HA.out.tab HV.out
        have HT := Lib.hid tab
        have HM := Lib.hid h2
        clear tab h2
        have HN2 := Lib.hid HLEN.out
        rw [payF_yes HP.out, pb_true HP.out, HLEN.out, HM.out]
        rw [HM.out] at HT HPB
        rw [HLEN.out] at HPB
        rw [HM.out] at HQ2 hm1 hm3
        have hrow := HT.out.row 0 (by omega)
        simp only [Nat.add_zero] at hrow
        have HROW := Lib.hid hrow
        clear hrow
        go_enter Try.func47, Try.ntmps47
        go_wp2_with fail
        refine HC.out.mono ?_
        rintro e w1 ⟨rfl, hq⟩
        have HPF1 := Lib.hid (HPF.out.up hq.below)
        clear hq HC HPF
        go_wp2_with fail
        refine (HQ.out _ HPF1.out.keep).mono ?_
        rintro e w2 ⟨rfl, hq⟩
        have HPF := Lib.hid (HPF1.out.up hq.below)
        have hrow := HPF.out.keep _ _ HROW.out
        clear hq HQ HPF1
        go_wp2_with fail
        refine (HQ2.out _ HPF.out.keep).mono ?_
        rintro e w3 ⟨rfl, hq⟩
        have HPF1 := Lib.hid (HPF.out.up hq.below)
        clear hq HQ2 HPF hrow
        go_wp2_with fail
        have HMP := Lib.hid (meanPay_any b o rb ro cc n ny c cx cy X Y a x y w3 (HT.out.keep HPF1.out.keep) (HX.out.keep HPF1.out.keep) (HY.out.keep HPF1.out.keep) HPB.out tx ty)
        refine HMP.out.mono ?_
        rintro e w7 ⟨rfl, hb⟩
        have HPF := Lib.hid (HPF1.out.up hb)
        clear hb HMP HPF1
        have HFV : Hid (frV (payU a x y ny n) (tot x * tot y) = .agg #[.int .i64 (frU (payU a x y ny n) (tot x * tot y)), .int .i64 (frD (payU a x y ny n) (tot x * tot y))]) := Lib.hid rfl
        rw [HFV.out]
        generalize frU (payU a x y ny n) (tot x * tot y) = U at *
        generalize frD (payU a x y ny n) (tot x * tot y) = D at *
        have c0 := blk_cell HPF.out.box (i := 0) rfl
        have c1 := blk_cell HPF.out.box (i := 1) rfl
        have f0 := blk_frozen HPF.out.box 0
        have f1 := blk_frozen HPF.out.box 1
        go_wp2
        clear c0 c1 f0 f1
        have B1 := blk_set (blk_set HPF.out.box 0 (.int .i64 U)) 1 (.int .i64 D)
        have r0 := blk_cell B1 (i := 0) (v := .int .i64 U) rfl
        have r1 := blk_cell B1 (i := 1) (v := .int .i64 D) rfl
        have HBX := Lib.hid ((HPF.out.below.setCell (p := ⟨w.heap.size, 0, none⟩) (Nat.le_refl _) (.int .i64 U)).setCell (p := ⟨w.heap.size, 1, none⟩) (Nat.le_refl _) (.int .i64 D))
        clear B1 HPF
        generalize (w7.setCell ⟨w.heap.size, 0, none⟩ (.int .i64 U)).setCell ⟨w.heap.size, 1, none⟩ (.int .i64 D) = WE at *
        refine bodyPost_ret (v := .tuple #[.agg #[.int .i64 U, .int .i64 D], .bool true]) (by simp [results, Try.results47, go_sem, r0, r1]) rfl ?_
        exact ⟨by rw [HFV.out], HBX.out⟩
      · have hq := fun W (k : Keep w W) => ValidShares_any' _ _ _ _ ((gr a 0).length : Int) W (HY.out.keep k) (by omega)
        rw [show pb (VSn y ((gr a 0).length : Int)) = false by rw [HV.out.vsm]; exact pb_false hvy] at hq
        have HQ2 := Lib.hid hq
        have HNO := Lib.hid (show payF a x y = .agg #[.int .i64 0, .int .i64 0] ∧ pb (POk a x y) = false from ⟨payF_no fun h => hvy h.y, pb_false fun h => hvy h.y⟩)
        clear hvy hq
        obtain ⟨b, o, rfl, hr⟩ := HA.out.at_ (by omega)
        obtain ⟨R, c', hrow, -⟩ := hr 0 (by omega)
        simp only [Nat.add_zero] at hrow
        have HROW := Lib.hid hrow
        clear hr hrow
        go_enter Try.func47, Try.ntmps47
        go_wp2_with fail
        refine HC.out.mono ?_
        rintro e w1 ⟨rfl, hq⟩
        have HPF1 := Lib.hid (HPF.out.up hq.below)
        clear hq HC HPF
        go_wp2_with fail
        refine (HQ.out _ HPF1.out.keep).mono ?_
        rintro e w2 ⟨rfl, hq⟩
        have HPF := Lib.hid (HPF1.out.up hq.below)
        have hrow := HPF.out.keep _ _ HROW.out
        clear hq HQ HPF1
        go_wp2_with fail
        refine (HQ2.out _ HPF.out.keep).mono ?_
        rintro e w3 ⟨rfl, hq⟩
        have HPF1 := Lib.hid (HPF.out.up hq.below)
        clear hq HQ2 HPF hrow
        have HPF := HPF1
        clear HPF1
        have c0 := blk_cell HPF.out.box (i := 0) rfl
        have c1 := blk_cell HPF.out.box (i := 1) rfl
        have f0 := blk_frozen HPF.out.box 0
        have f1 := blk_frozen HPF.out.box 1
        go_wp2
        clear c0 c1 f0 f1
        have B1 := blk_set (blk_set HPF.out.box 0 (.int .i64 0)) 1 (.int .i64 0)
        have r0 := blk_cell B1 (i := 0) (v := .int .i64 0) rfl
        have r1 := blk_cell B1 (i := 1) (v := .int .i64 0) rfl
        have HBX := Lib.hid ((HPF.out.below.setCell (p := ⟨w.heap.size, 0, none⟩) (Nat.le_refl _) (.int .i64 0)).setCell (p := ⟨w.heap.size, 1, none⟩) (Nat.le_refl _) (.int .i64 0))
        clear B1 HPF
        generalize (w3.setCell ⟨w.heap.size, 0, none⟩ (.int .i64 0)).setCell ⟨w.heap.size, 1, none⟩ (.int .i64 0) = WE at *
        refine bodyPost_ret (v := .tuple #[.agg #[.int .i64 0, .int .i64 0], .bool false]) (by simp [results, Try.results47, go_sem, r0, r1]) rfl ?_
        exact ⟨by rw [HNO.out.1, HNO.out.2], HBX.out⟩
    · have hq := fun W (k : Keep w W) => ValidShares_any' _ _ _ _ (n : Int) W (HX.out.keep k) (by omega)
      rw [show pb (VSn x (n : Int)) = false by rw [← HLEN.out]; rw [HV.out.vsn]; exact pb_false hvx] at hq
      have HQ := Lib.hid hq
      have HNO := Lib.hid (show payF a x y = .agg #[.int .i64 0, .int .i64 0] ∧ pb (POk a x y) = false from ⟨payF_no fun h => hvx h.x, pb_false fun h => hvx h.x⟩)
      clear hvx hq
      go_enter Try.func47, Try.ntmps47
      go_wp2_with fail
      refine HC.out.mono ?_
      rintro e w1 ⟨rfl, hq⟩
      have HPF1 := Lib.hid (HPF.out.up hq.below)
      clear hq HC HPF
      go_wp2_with fail
      refine (HQ.out _ HPF1.out.keep).mono ?_
      rintro e w2 ⟨rfl, hq⟩
      have HPF := Lib.hid (HPF1.out.up hq.below)
      clear hq HQ HPF1
      have c0 := blk_cell HPF.out.box (i := 0) rfl
      have c1 := blk_cell HPF.out.box (i := 1) rfl
      have f0 := blk_frozen HPF.out.box 0
      have f1 := blk_frozen HPF.out.box 1
      go_wp2
      clear c0 c1 f0 f1
      have B1 := blk_set (blk_set HPF.out.box 0 (.int .i64 0)) 1 (.int .i64 0)
      have r0 := blk_cell B1 (i := 0) (v := .int .i64 0) rfl
      have r1 := blk_cell B1 (i := 1) (v := .int .i64 0) rfl
      have HBX := Lib.hid ((HPF.out.below.setCell (p := ⟨w.heap.size, 0, none⟩) (Nat.le_refl _) (.int .i64 0)).setCell (p := ⟨w.heap.size, 1, none⟩) (Nat.le_refl _) (.int .i64 0))
      clear B1 HPF
      generalize (w2.setCell ⟨w.heap.size, 0, none⟩ (.int .i64 0)).setCell ⟨w.heap.size, 1, none⟩ (.int .i64 0) = WE at *
      refine bodyPost_ret (v := .tuple #[.agg #[.int .i64 0, .int .i64 0], .bool false]) (by simp [results, Try.results47, go_sem, r0, r1]) rfl ?_
      exact ⟨by rw [HNO.out.1, HNO.out.2], HBX.out⟩
  · have HC := Lib.hid (pb_false hv ▸ ValidTable_impl _ _ _ _ _ (HA.out.keep HPF.out.keep))
    have HNO := Lib.hid (show payF a x y = .agg #[.int .i64 0, .int .i64 0] ∧ pb (POk a x y) = false from ⟨payF_no fun h => hv h.v, pb_false fun h => hv h.v⟩)
    clear hv
    go_enter Try.func47, Try.ntmps47
    go_wp2_with fail
    refine HC.out.mono ?_
    rintro e w1 ⟨rfl, hq⟩
    have HPF1 := Lib.hid (HPF.out.up hq.below)
    clear hq HC HPF
    have HPF := HPF1
    clear HPF1
    have c0 := blk_cell HPF.out.box (i := 0) rfl
    have c1 := blk_cell HPF.out.box (i := 1) rfl
    have f0 := blk_frozen HPF.out.box 0
    have f1 := blk_frozen HPF.out.box 1
    go_wp2
    clear c0 c1 f0 f1
    have B1 := blk_set (blk_set HPF.out.box 0 (.int .i64 0)) 1 (.int .i64 0)
    have r0 := blk_cell B1 (i := 0) (v := .int .i64 0) rfl
    have r1 := blk_cell B1 (i := 1) (v := .int .i64 0) rfl
    have HBX := Lib.hid ((HPF.out.below.setCell (p := ⟨w.heap.size, 0, none⟩) (Nat.le_refl _) (.int .i64 0)).setCell (p := ⟨w.heap.size, 1, none⟩) (Nat.le_refl _) (.int .i64 0))
    clear B1 HPF
    generalize (w1.setCell ⟨w.heap.size, 0, none⟩ (.int .i64 0)).setCell ⟨w.heap.size, 1, none⟩ (.int .i64 0) = WE at *
    refine bodyPost_ret (v := .tuple #[.agg #[.int .i64 0, .int .i64 0], .bool false]) (by simp [results, Try.results47, go_sem, r0, r1]) rfl ?_
    exact ⟨by rw [HNO.out.1, HNO.out.2], HBX.out⟩

theorem frV_form (u d : Int) : ∃ U D, frV u d = .agg #[.int .i64 U, .int .i64 D] := ⟨_, _, rfl⟩
theorem payF_form (a : List (List Int)) (x y : List Int) : ∃ U D, payF a x y = .agg #[.int .i64 U, .int .i64 D] := by
  unfold payF
  split
  · exact frV_form _ _
  · exact ⟨_, _, rfl⟩

end Go.Proofs.Ytibliobcbbhopaa
