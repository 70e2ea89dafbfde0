/- Texts merged: LiftB LiftC Enter K3 K4 K5 W4 R12 S8 S9 T3. -/
import Derived.Test.YtlgnpfpdmjhhbaaQ5
import Derived.ChangeSlices
/- An argument of bytes, opened. -/
namespace Go.Proofs.Ytlgnpfpdmjhhbaa
open Go.ChangeShapes Go.WideShapes Go.ChangeAt Go.RowKit Go.Deep

theorem Try.cells_u8 : Try.prog.cellsOf 5 = 1 := by kernel_rfl
theorem Try.bytes_u8 : Try.prog.bytesOf 5 = 1 := by kernel_rfl
set_option maxRecDepth 100000 in
theorem open_bytes {H : Type} {enc : TypeId × Value → H} {W : World} {v : Value} {d : DataW H} {p : List MemPlace} {b0 : Nat} (hval : Value.okWide Try.prog W .any b0 45 v)
    (h : DataW.Trod enc Try.prog W 0 (fun _ => true) true 45 v d p) (hw : ∀ n ∈ d.weights Try.prog 45, n ≤ reachBytes) :
    ∃ A n c, v = .slice A n c ∧ Bytes W A n c := by
  obtain ⟨a1, len, cap, rfl⟩ := okWide_slice Try.underlying45 hval
  obtain ⟨fuel, hf⟩ := h
  rcases open_ints Try.underlying45 Try.underlying5 Try.cells_u8 hf with ⟨hcs, hx⟩ | ⟨a, len', cap', zs, hcs, _, hl, hm, hz, hx, hcell, hwz⟩
  · simp [Value.cells] at hcs
    obtain ⟨rfl, rfl, rfl⟩ := hcs
    exact ⟨none, 0, 0, rfl, Nat.le_refl _, by omega, fun h => absurd h (by omega)⟩
  · simp [Value.cells] at hcs
    obtain ⟨rfl, rfl, rfl⟩ := hcs
    simp only [Prod.mk.injEq] at hx
    obtain ⟨rfl, rfl⟩ := hx
    simp only [if_true] at hz
    have h1 := hw _ (weights_slice Try.underlying45 (.inl rfl))
    simp only [lits, List.length_map, List.length_take, List.length_drop, Try.bytes_u8, reachBytes] at h1
    refine ⟨some a, len, cap, rfl, hl, by omega, fun hn => ?_⟩
    have hspot : a.spot = none := by simpa [Addr.add] using World.cell?_spot (hcell 0 (by omega))
    obtain ⟨b, o, sp⟩ := a
    simp only at hspot
    subst hspot
    refine ⟨b, o, rfl, fun k hk => ⟨zs.getD k 0, ?_, ?_, by rw [← add_plain]; exact hcell k (by omega)⟩⟩
    · rw [List.getD_eq_getElem?_getD]; have := hwz (zs.getD k 0) (by rw [List.getD_eq_getElem?_getD, List.getElem?_eq_getElem (show k < zs.length by omega)]; simp)
      simp [Lit.wf, IntKind.min, IntKind.max, IntKind.signed, IntKind.bits] at this
      omega
    · rw [List.getD_eq_getElem?_getD]; have := hwz (zs.getD k 0) (by rw [List.getD_eq_getElem?_getD, List.getElem?_eq_getElem (show k < zs.length by omega)]; simp)
      simp [Lit.wf, IntKind.min, IntKind.max, IntKind.signed, IntKind.bits] at this
      omega
end Go.Proofs.Ytlgnpfpdmjhhbaa

/- Arguments that are a slice of ints, or an int, opened. -/
namespace Go.Proofs.Ytlgnpfpdmjhhbaa
open Go.ChangeShapes Go.WideShapes Go.ChangeAt Go.RowKit Go.Deep

set_option maxRecDepth 100000 in
theorem open_intS {H : Type} {enc : TypeId × Value → H} {W : World} {v : Value} {d : DataW H} {p : List MemPlace} {b0 : Nat} (hval : Value.okWide Try.prog W .any b0 24 v)
    (h : DataW.Trod enc Try.prog W 0 (fun _ => true) true 24 v d p) (hw : ∀ n ∈ d.weights Try.prog 24, n ≤ reachBytes) :
    ∃ A n c xs, v = .slice A n c ∧ Ints W A n c xs := by
  obtain ⟨a1, len, cap, rfl⟩ := okWide_slice Try.underlying24 hval
  obtain ⟨fuel, hf⟩ := h
  rcases open_ints Try.underlying24 Try.underlying3 Try.cells3 hf with ⟨hcs, hx⟩ | ⟨a, len', cap', zs, hcs, _, hl, hm, hz, hx, hcell, hwz⟩
  · simp [Value.cells] at hcs
    obtain ⟨rfl, rfl, rfl⟩ := hcs
    exact ⟨none, 0, 0, [], rfl, rfl, Nat.le_refl _, by omega, fun _ h => by simp at h, fun h => absurd h (by omega)⟩
  · simp [Value.cells] at hcs
    obtain ⟨rfl, rfl, rfl⟩ := hcs
    simp only [Prod.mk.injEq] at hx
    obtain ⟨rfl, rfl⟩ := hx
    simp only [if_true] at hz
    have h1 := hw _ (weights_slice Try.underlying24 (.inl rfl))
    simp only [lits, List.length_map, List.length_take, List.length_drop, Try.bytes3, reachBytes] at h1
    have hlen : (zs.take len).length = len := by rw [List.length_take]; omega
    refine ⟨some a, len, cap, zs.take len, rfl, hlen, hl, by omega, fun x hx => ?_, fun hn => ?_⟩
    · have := hwz x (List.mem_of_mem_take hx)
      simp [Lit.wf, IntKind.min, IntKind.max, IntKind.signed, IntKind.bits] at this
      omega
    have hspot : a.spot = none := by simpa [Addr.add] using World.cell?_spot (hcell 0 (by omega))
    obtain ⟨b, o, sp⟩ := a
    simp only at hspot
    subst hspot
    refine ⟨b, o, rfl, fun k hk => ?_⟩
    rw [← add_plain, hcell k (by omega)]
    congr 2
    rw [gi_get (by rw [hlen]; exact hk), List.getElem_take]
    simp [List.getD, show k < zs.length by omega]

set_option maxRecDepth 100000 in
theorem open_num {H : Type} {enc : TypeId × Value → H} {W : World} {v : Value} {d : DataW H} {p : List MemPlace} {b0 : Nat} (hval : Value.okWide Try.prog W .any b0 3 v)
    (h : DataW.Trod enc Try.prog W 0 (fun _ => true) true 3 v d p) : ∃ x, v = .int .i64 x ∧ Fit x := by
  obtain ⟨x, rfl, _, _, hw⟩ := open_int Try.underlying3 hval h
  refine ⟨x, rfl, ?_⟩
  simp [Lit.wf, IntKind.min, IntKind.max, IntKind.signed, IntKind.bits] at hw
  unfold Fit
  omega
end Go.Proofs.Ytlgnpfpdmjhhbaa

/- The program may be entered: facts of its head, once for all laws. -/
namespace Go.Proofs.Ytlgnpfpdmjhhbaa

theorem prog_enters : Try.pinned.checked.prog.mayEnter = true := by kernel_rfl
theorem prog_lifts0 : (false == Try.pinned.checked.prog.liftsFinal) = true := by kernel_rfl
theorem prog_make0 : (Try.pinned.checked.prog.make == some .cut) = true := by kernel_rfl
theorem prog_lifts {b : Bool} (h : b = false) : (b == Try.pinned.checked.prog.liftsFinal) = true := by subst h; exact prog_lifts0
theorem prog_make {m : Make} (h : m = .cut) : (Try.pinned.checked.prog.make == some m) = true := by subst h; exact prog_make0
end Go.Proofs.Ytlgnpfpdmjhhbaa

/- Barriers, by both programs. -/
namespace Go.Proofs.Ytlgnpfpdmjhhbaa
open Go.RowKit

/-- The barrier of a strategy with these leads: above and below the line. -/
noncomputable def barU (x y : Int) : Int := if pb (HoldL x y) = true then (if 0 ≤ y then 1 else x) else 0
noncomputable def barD (x y : Int) : Int := if pb (HoldL x y) = true then (if 0 ≤ y then 1 else x - y) else 1
theorem bar_no {x y : Int} (h : ¬ HoldL x y) : barU x y = 0 ∧ barD x y = 1 := by
  unfold barU barD; rw [if_neg (by rw [pb_false h]; decide), if_neg (by rw [pb_false h]; decide)]; exact ⟨rfl, rfl⟩
theorem bar_one {x y : Int} (h : HoldL x y) (hy : 0 ≤ y) : barU x y = 1 ∧ barD x y = 1 := by
  unfold barU barD; rw [if_pos (pb_true h), if_pos (pb_true h), if_pos hy, if_pos hy]; exact ⟨rfl, rfl⟩
theorem bar_mid {x y : Int} (h : HoldL x y) (hy : ¬ 0 ≤ y) : barU x y = x ∧ barD x y = x - y ∧ 0 < x := by
  unfold barU barD; rw [if_pos (pb_true h), if_pos (pb_true h), if_neg hy, if_neg hy]; refine ⟨rfl, rfl, ?_⟩; unfold HoldL at h; omega
theorem lead_bd {a : List (List Int)} {n i j : Nat} (hq : VQ a) (hl : a.length = n) (hi : i < n) (hj : j < n) : (-18 ≤ leadI a i j ∧ leadI a i j ≤ 18) ∧ -18 ≤ leadJ a i j ∧ leadJ a i j ≤ 18 := by
  have hm : (gr a 0).length = n := by have := hq.2; omega
  have b1 := hq.1.bd (i := i) (j := i) (by omega) (by omega)
  have b2 := hq.1.bd (i := j) (j := i) (by omega) (by omega)
  have b3 := hq.1.bd (i := i) (j := j) (by omega) (by omega)
  have b4 := hq.1.bd (i := j) (j := j) (by omega) (by omega)
  unfold leadI leadJ
  omega
structure BOk (a : List (List Int)) (i j : Int) : Prop where
  q : VQ a
  ri : InR i 0 ((a.length : Int) - 1)
  rj : InR j 0 ((a.length : Int) - 1)
  ne : i ≠ j
noncomputable def barF (a : List (List Int)) (i j : Int) : Value := if pb (BOk a i j) = true then frV (barU (leadI a i.toNat j.toNat) (leadJ a i.toNat j.toNat)) (barD (leadI a i.toNat j.toNat) (leadJ a i.toNat j.toNat)) else .agg #[.int .i64 0, .int .i64 0]
theorem barF_yes {a i j} (h : BOk a i j) : barF a i j = frV (barU (leadI a i.toNat j.toNat) (leadJ a i.toNat j.toNat)) (barD (leadI a i.toNat j.toNat) (leadJ a i.toNat j.toNat)) := by rw [barF, if_pos (pb_true h)]
theorem barF_no {a i j} (h : ¬ BOk a i j) : barF a i j = .agg #[.int .i64 0, .int .i64 0] := by rw [barF, if_neg (by rw [pb_false h]; decide)]
theorem barF_form (a : List (List Int)) (i j : Int) : ∃ U D, barF a i j = .agg #[.int .i64 U, .int .i64 D] := by
  unfold barF
  split
  · exact frV_form _ _
  · exact ⟨_, _, rfl⟩

theorem PF.upq {w W W' : World} {n : Nat} (h : PF w W) (k : Below (W.drewN n).heap.size (W.drewN n) W') : PF w W' := PF.up (W := W.drewN n) ⟨h.box, below_drewN h.below n⟩ k
theorem PF.upqq {w W W' : World} {n m : Nat} (h : PF w W) (k : Below ((W.drewN n).drewN m).heap.size ((W.drewN n).drewN m) W') : PF w W' := PF.up (W := (W.drewN n).drewN m) ⟨h.box, below_drewN (below_drewN h.below n) m⟩ k

set_option maxRecDepth 100000 in
set_option maxHeartbeats 3200000 in
theorem barrier_any (A : Option Addr) (n c : Nat) (a : List (List Int)) (w : World) (i j : Nat) (hx : IntRows w A n c a) (hq : VQ a) (hi : i < n) (hj : j < n) :
    Calls Try.prog 58 #[.slice A n c, .int .i64 i, .int .i64 j] w (Ret (frV (barU (leadI a i j) (leadJ a i j)) (barD (leadI a i j) (leadJ a i j))) w) := by
  obtain ⟨b, o, rb, ro, cc, rfl, tab⟩ := hx.tab hq.1
  have hl := hx.len
  have hm : (gr a 0).length = n := by have := hq.2; omega
  rw [hm] at tab
  have HPF := Lib.hid (PF.start w)
  have r1 := HPF.out.keep _ _ (tab.row i hi)
  have r2 := HPF.out.keep _ _ (tab.row j hj)
  have c11 := HPF.out.keep _ _ (tab.cell i i hi hi)
  have c21 := HPF.out.keep _ _ (tab.cell j i hj hi)
  have c12 := HPF.out.keep _ _ (tab.cell i j hi hj)
  have c22 := HPF.out.keep _ _ (tab.cell j j hj hj)
  have hin : (i : Int) < (n : Int) := by omega
  have hjn : (j : Int) < (n : Int) := by omega
  obtain ⟨b1, b2⟩ := tab.bd i i hi hi
  obtain ⟨b3, b4⟩ := tab.bd j i hj hi
  obtain ⟨b5, b6⟩ := tab.bd i j hi hj
  obtain ⟨b7, b8⟩ := tab.bd j j hj hj
  unfold leadI leadJ
  generalize g2 a i i = p at *
  generalize g2 a j i = q at *
  generalize g2 a i j = s at *
  generalize g2 a j j = t at *
  clear tab hm hl hq hx hi hj
  by_cases h1 : p - q < 0
  · rw [(bar_no (by unfold HoldL; omega)).1, (bar_no (by unfold HoldL; omega)).2]
    have d1 : decide (p - q < 0) = true := decide_eq_true h1
    have HC := Lib.hid (fun W => frac_any 0 1 W (by unfold Mid; omega) (by unfold Mid; omega) (by omega))
    go_enter Try.func58, Try.ntmps58
    go_wp2_with fail
    go_quiet (fail)
    go_wp2
    go_quiet (fail)
    clear c11 c21 c12 c22 r1 r2
    go_wp2_with fail
    refine (HC.out _).mono ?_
    rintro e w1 ⟨rfl, hb⟩
    have HPF1 := Lib.hid (by first | exact HPF.out.upq hb | exact HPF.out.upqq hb)
    clear hb HC HPF
    have HFV : Hid (frV 0 1 = .agg #[.int .i64 (frU 0 1), .int .i64 (frD 0 1)]) := Lib.hid rfl
    rw [HFV.out]
    generalize frU 0 1 = U at *
    generalize frD 0 1 = D at *
    have HPF := HPF1
    clear HPF1
    have c0 := blk_cell HPF.out.box (i := 0) rfl
    have c1 := blk_cell HPF.out.box (i := 1) rfl
    have f0 := blk_frozen HPF.out.box 0
    have f1 := blk_frozen HPF.out.box 1
    go_wp2
    clear c0 c1 f0 f1
    have B1 := blk_set (blk_set HPF.out.box 0 (.int .i64 U)) 1 (.int .i64 D)
    have r0 := blk_cell B1 (i := 0) (v := .int .i64 U) rfl
    have r1 := blk_cell B1 (i := 1) (v := .int .i64 D) rfl
    have HBX := Lib.hid ((HPF.out.below.setCell (p := ⟨w.heap.size, 0, none⟩) (Nat.le_refl _) (.int .i64 U)).setCell (p := ⟨w.heap.size, 1, none⟩) (Nat.le_refl _) (.int .i64 D))
    clear B1 HPF
    generalize (w1.setCell ⟨w.heap.size, 0, none⟩ (.int .i64 U)).setCell ⟨w.heap.size, 1, none⟩ (.int .i64 D) = WE at *
    refine bodyPost_ret (v := .agg #[.int .i64 U, .int .i64 D]) (by simp [results, Try.results58, go_sem, r0, r1]) rfl ?_
    exact ⟨by rw [HFV.out], HBX.out⟩
  have d1 : decide (p - q < 0) = false := decide_eq_false h1
  by_cases h2 : p - q = 0
  · have e2 : (p - q == 0) = true := by rw [beq_iff_eq]; exact h2
    by_cases h3 : s - t ≤ 0
    · rw [(bar_no (by unfold HoldL; omega)).1, (bar_no (by unfold HoldL; omega)).2]
      have d3 : decide (s - t ≤ 0) = true := decide_eq_true h3
      have HC := Lib.hid (fun W => frac_any 0 1 W (by unfold Mid; omega) (by unfold Mid; omega) (by omega))
      go_enter Try.func58, Try.ntmps58
      go_wp2_with fail
      go_quiet (fail)
      go_wp2
      go_quiet (fail)
      clear c11 c21 c12 c22 r1 r2
      go_wp2_with fail
      refine (HC.out _).mono ?_
      rintro e w1 ⟨rfl, hb⟩
      have HPF1 := Lib.hid (by first | exact HPF.out.upq hb | exact HPF.out.upqq hb)
      clear hb HC HPF
      have HFV : Hid (frV 0 1 = .agg #[.int .i64 (frU 0 1), .int .i64 (frD 0 1)]) := Lib.hid rfl
      rw [HFV.out]
      generalize frU 0 1 = U at *
      generalize frD 0 1 = D at *
      have HPF := HPF1
      clear HPF1
      have c0 := blk_cell HPF.out.box (i := 0) rfl
      have c1 := blk_cell HPF.out.box (i := 1) rfl
      have f0 := blk_frozen HPF.out.box 0
      have f1 := blk_frozen HPF.out.box 1
      go_wp2
      clear c0 c1 f0 f1
      have B1 := blk_set (blk_set HPF.out.box 0 (.int .i64 U)) 1 (.int .i64 D)
      have r0 := blk_cell B1 (i := 0) (v := .int .i64 U) rfl
      have r1 := blk_cell B1 (i := 1) (v := .int .i64 D) rfl
      have HBX := Lib.hid ((HPF.out.below.setCell (p := ⟨w.heap.size, 0, none⟩) (Nat.le_refl _) (.int .i64 U)).setCell (p := ⟨w.heap.size, 1, none⟩) (Nat.le_refl _) (.int .i64 D))
      clear B1 HPF
      generalize (w1.setCell ⟨w.heap.size, 0, none⟩ (.int .i64 U)).setCell ⟨w.heap.size, 1, none⟩ (.int .i64 D) = WE at *
      refine bodyPost_ret (v := .agg #[.int .i64 U, .int .i64 D]) (by simp [results, Try.results58, go_sem, r0, r1]) rfl ?_
      exact ⟨by rw [HFV.out], HBX.out⟩
    · have d3 : decide (s - t ≤ 0) = false := decide_eq_false h3
      have d4 : decide (0 ≤ s - t) = true := decide_eq_true (by omega)
      rw [(bar_one (by unfold HoldL; omega) (by omega)).1, (bar_one (by unfold HoldL; omega) (by omega)).2]
      have HC := Lib.hid (fun W => frac_any 1 1 W (by unfold Mid; omega) (by unfold Mid; omega) (by omega))
      go_enter Try.func58, Try.ntmps58
      go_wp2_with fail
      go_quiet (fail)
      go_wp2
      go_quiet (fail)
      clear c11 c21 c12 c22 r1 r2
      go_wp2_with fail
      refine (HC.out _).mono ?_
      rintro e w1 ⟨rfl, hb⟩
      have HPF1 := Lib.hid (by first | exact HPF.out.upq hb | exact HPF.out.upqq hb)
      clear hb HC HPF
      have HFV : Hid (frV 1 1 = .agg #[.int .i64 (frU 1 1), .int .i64 (frD 1 1)]) := Lib.hid rfl
      rw [HFV.out]
      generalize frU 1 1 = U at *
      generalize frD 1 1 = D at *
      have HPF := HPF1
      clear HPF1
      have c0 := blk_cell HPF.out.box (i := 0) rfl
      have c1 := blk_cell HPF.out.box (i := 1) rfl
      have f0 := blk_frozen HPF.out.box 0
      have f1 := blk_frozen HPF.out.box 1
      go_wp2
      clear c0 c1 f0 f1
      have B1 := blk_set (blk_set HPF.out.box 0 (.int .i64 U)) 1 (.int .i64 D)
      have r0 := blk_cell B1 (i := 0) (v := .int .i64 U) rfl
      have r1 := blk_cell B1 (i := 1) (v := .int .i64 D) rfl
      have HBX := Lib.hid ((HPF.out.below.setCell (p := ⟨w.heap.size, 0, none⟩) (Nat.le_refl _) (.int .i64 U)).setCell (p := ⟨w.heap.size, 1, none⟩) (Nat.le_refl _) (.int .i64 D))
      clear B1 HPF
      generalize (w1.setCell ⟨w.heap.size, 0, none⟩ (.int .i64 U)).setCell ⟨w.heap.size, 1, none⟩ (.int .i64 D) = WE at *
      refine bodyPost_ret (v := .agg #[.int .i64 U, .int .i64 D]) (by simp [results, Try.results58, go_sem, r0, r1]) rfl ?_
      exact ⟨by rw [HFV.out], HBX.out⟩
  · have e2 : (p - q == 0) = false := by rw [beq_eq_false_iff_ne]; exact h2
    by_cases h4 : 0 ≤ s - t
    · have d4 : decide (0 ≤ s - t) = true := decide_eq_true h4
      rw [(bar_one (by unfold HoldL; omega) (by omega)).1, (bar_one (by unfold HoldL; omega) (by omega)).2]
      have HC := Lib.hid (fun W => frac_any 1 1 W (by unfold Mid; omega) (by unfold Mid; omega) (by omega))
      go_enter Try.func58, Try.ntmps58
      go_wp2_with fail
      go_quiet (fail)
      go_wp2
      go_quiet (fail)
      clear c11 c21 c12 c22 r1 r2
      go_wp2_with fail
      refine (HC.out _).mono ?_
      rintro e w1 ⟨rfl, hb⟩
      have HPF1 := Lib.hid (by first | exact HPF.out.upq hb | exact HPF.out.upqq hb)
      clear hb HC HPF
      have HFV : Hid (frV 1 1 = .agg #[.int .i64 (frU 1 1), .int .i64 (frD 1 1)]) := Lib.hid rfl
      rw [HFV.out]
      generalize frU 1 1 = U at *
      generalize frD 1 1 = D at *
      have HPF := HPF1
      clear HPF1
      have c0 := blk_cell HPF.out.box (i := 0) rfl
      have c1 := blk_cell HPF.out.box (i := 1) rfl
      have f0 := blk_frozen HPF.out.box 0
      have f1 := blk_frozen HPF.out.box 1
      go_wp2
      clear c0 c1 f0 f1
      have B1 := blk_set (blk_set HPF.out.box 0 (.int .i64 U)) 1 (.int .i64 D)
      have r0 := blk_cell B1 (i := 0) (v := .int .i64 U) rfl
      have r1 := blk_cell B1 (i := 1) (v := .int .i64 D) rfl
      have HBX := Lib.hid ((HPF.out.below.setCell (p := ⟨w.heap.size, 0, none⟩) (Nat.le_refl _) (.int .i64 U)).setCell (p := ⟨w.heap.size, 1, none⟩) (Nat.le_refl _) (.int .i64 D))
      clear B1 HPF
      generalize (w1.setCell ⟨w.heap.size, 0, none⟩ (.int .i64 U)).setCell ⟨w.heap.size, 1, none⟩ (.int .i64 D) = WE at *
      refine bodyPost_ret (v := .agg #[.int .i64 U, .int .i64 D]) (by simp [results, Try.results58, go_sem, r0, r1]) rfl ?_
      exact ⟨by rw [HFV.out], HBX.out⟩
    · have d4 : decide (0 ≤ s - t) = false := decide_eq_false h4
      rw [(bar_mid (x := p - q) (y := s - t) (by unfold HoldL; omega) h4).1, (bar_mid (x := p - q) (y := s - t) (by unfold HoldL; omega) h4).2.1]
      have HC := Lib.hid (fun W => frac_any (p - q) (p - q - (s - t)) W (by unfold Mid; omega) (by unfold Mid; omega) (by omega))
      go_enter Try.func58, Try.ntmps58
      go_wp2_with fail
      go_quiet (fail)
      go_wp2
      go_quiet (fail)
      clear c11 c21 c12 c22 r1 r2
      go_wp2_with fail
      refine (HC.out _).mono ?_
      rintro e w1 ⟨rfl, hb⟩
      have HPF1 := Lib.hid (by first | exact HPF.out.upq hb | exact HPF.out.upqq hb)
      clear hb HC HPF
      have HFV : Hid (frV (p - q) (p - q - (s - t)) = .agg #[.int .i64 (frU (p - q) (p - q - (s - t))), .int .i64 (frD (p - q) (p - q - (s - t)))]) := Lib.hid rfl
      rw [HFV.out]
      generalize frU (p - q) (p - q - (s - t)) = U at *
      generalize frD (p - q) (p - q - (s - t)) = D at *
      have HPF := HPF1
      clear HPF1
      have c0 := blk_cell HPF.out.box (i := 0) rfl
      have c1 := blk_cell HPF.out.box (i := 1) rfl
      have f0 := blk_frozen HPF.out.box 0
      have f1 := blk_frozen HPF.out.box 1
      go_wp2
      clear c0 c1 f0 f1
      have B1 := blk_set (blk_set HPF.out.box 0 (.int .i64 U)) 1 (.int .i64 D)
      have r0 := blk_cell B1 (i := 0) (v := .int .i64 U) rfl
      have r1 := blk_cell B1 (i := 1) (v := .int .i64 D) rfl
      have HBX := Lib.hid ((HPF.out.below.setCell (p := ⟨w.heap.size, 0, none⟩) (Nat.le_refl _) (.int .i64 U)).setCell (p := ⟨w.heap.size, 1, none⟩) (Nat.le_refl _) (.int .i64 D))
      clear B1 HPF
      generalize (w1.setCell ⟨w.heap.size, 0, none⟩ (.int .i64 U)).setCell ⟨w.heap.size, 1, none⟩ (.int .i64 D) = WE at *
      refine bodyPost_ret (v := .agg #[.int .i64 U, .int .i64 D]) (by simp [results, Try.results58, go_sem, r0, r1]) rfl ?_
      exact ⟨by rw [HFV.out], HBX.out⟩

set_option maxHeartbeats 400000 in
theorem isStrategy_any (A : Option Addr) (n c : Nat) (i : Int) (w : World) (_ : n ≤ 5864062014805) :
    Calls Try.prog 59 #[.int .i64 i, .slice A n c] w fun e w' => e = .returned (.bool (pb (InR i 0 ((n : Int) - 1)))) ∧ Quiet w w' := by
  by_cases h1 : 0 ≤ i
  · by_cases h2 : i < (n : Int)
    · rw [pb_true (p := InR i 0 ((n : Int) - 1)) ⟨h1, by omega⟩]
      go_enter Try.func59, Try.ntmps59
      go_wp2
      go_ret
      exact ⟨rfl, Quiet.refl _⟩
    · rw [pb_false (p := InR i 0 ((n : Int) - 1)) (fun h => by have := h.2; omega)]
      have h2' : decide (i < (n : Int)) = false := decide_eq_false h2
      go_enter Try.func59, Try.ntmps59
      go_wp2
      go_ret
      exact ⟨rfl, Quiet.refl _⟩
  · rw [pb_false (p := InR i 0 ((n : Int) - 1)) (fun h => h1 h.1)]
    have h1' : decide (0 ≤ i) = false := decide_eq_false h1
    go_enter Try.func59, Try.ntmps59
    go_wp2
    go_ret
    exact ⟨rfl, Quiet.refl _⟩

set_option maxRecDepth 100000 in
set_option maxHeartbeats 3200000 in
theorem BarrierOf_spec (A : Option Addr) (n c : Nat) (a : List (List Int)) (i j : Int) (w : World) (hx : IntRows w A n c a) (_ : Fit i) (_ : Fit j) :
    Calls Try.prog 24 #[.slice A n c, .int .i64 i, .int .i64 j] w (Ret (.tuple #[barF a i j, .bool (pb (BOk a i j))]) w) := by
  have hmx := hx.max
  have HX := Lib.hid hx
  have hl := hx.len
  have HPF := Lib.hid (PF.start w)
  clear hx
  by_cases hv : VQ a
  · have hn1 := hv.1.n1
    have hn3 := hv.1.n3
    by_cases hi : InR i 0 ((n : Int) - 1)
    · by_cases hj : InR j 0 ((n : Int) - 1)
      · by_cases hij : i = j
        · have HNO := Lib.hid (show barF a i j = .agg #[.int .i64 0, .int .i64 0] ∧ pb (BOk a i j) = false from ⟨barF_no (fun h => h.ne hij), pb_false (fun h => h.ne hij)⟩)
          have HC := Lib.hid (pb_true hv ▸ validSquare_any A n c a _ (HX.out.keep HPF.out.keep))
          have HI := Lib.hid (fun W => pb_true hi ▸ inRange_any i 0 ((n : Int) - 1) W)
          have HJ := Lib.hid (fun W => pb_true hj ▸ inRange_any j 0 ((n : Int) - 1) W)
          subst hij
          clear hv
          go_enter Try.func24, Try.ntmps24
          go_wp2_with fail
          refine HC.out.mono ?_
          rintro e w1 ⟨rfl, hb⟩
          have HPF1 := Lib.hid (HPF.out.up hb.below)
          clear hb HC HPF
          go_wp2_with fail
          refine (HI.out _).mono ?_
          rintro e w2 ⟨rfl, rfl⟩
          clear HI
          go_wp2_with fail
          refine (HJ.out _).mono ?_
          rintro e w3 ⟨rfl, rfl⟩
          clear HJ
          have HPF := HPF1
          clear HPF1
          have c0 := blk_cell HPF.out.box (i := 0) rfl
          have c1 := blk_cell HPF.out.box (i := 1) rfl
          have f0 := blk_frozen HPF.out.box 0
          have f1 := blk_frozen HPF.out.box 1
          go_wp2
          clear c0 c1 f0 f1
          have B1 := blk_set (blk_set HPF.out.box 0 (.int .i64 0)) 1 (.int .i64 0)
          have r0 := blk_cell B1 (i := 0) (v := .int .i64 0) rfl
          have r1 := blk_cell B1 (i := 1) (v := .int .i64 0) rfl
          have HBX := Lib.hid ((HPF.out.below.setCell (p := ⟨w.heap.size, 0, none⟩) (Nat.le_refl _) (.int .i64 0)).setCell (p := ⟨w.heap.size, 1, none⟩) (Nat.le_refl _) (.int .i64 0))
          clear B1 HPF
          generalize (w1.setCell ⟨w.heap.size, 0, none⟩ (.int .i64 0)).setCell ⟨w.heap.size, 1, none⟩ (.int .i64 0) = WE at *
          refine bodyPost_ret (v := .tuple #[.agg #[.int .i64 0, .int .i64 0], .bool false]) (by simp [results, Try.results24, go_sem, r0, r1]) rfl ?_
          exact ⟨by rw [HNO.out.1, HNO.out.2], HBX.out⟩
        · have HOK := Lib.hid (show BOk a i j from ⟨hv, by rw [hl]; exact hi, by rw [hl]; exact hj, hij⟩)
          have HI := Lib.hid (fun W => pb_true hi ▸ inRange_any i 0 ((n : Int) - 1) W)
          have HJ := Lib.hid (fun W => pb_true hj ▸ inRange_any j 0 ((n : Int) - 1) W)
          have HC := Lib.hid (pb_true hv ▸ validSquare_any A n c a _ (HX.out.keep HPF.out.keep))
          have HQ := Lib.hid hv
          rw [barF_yes HOK.out, pb_true HOK.out]
          obtain ⟨i', rfl⟩ : ∃ i' : Nat, i = i' := ⟨i.toNat, by unfold InR at hi; omega⟩
          obtain ⟨j', rfl⟩ : ∃ j' : Nat, j = j' := ⟨j.toNat, by unfold InR at hj; omega⟩
          rw [Int.toNat_natCast, Int.toNat_natCast]
          have hi1 : i' < n := by unfold InR at hi; omega
          have hj1 : j' < n := by unfold InR at hj; omega
          have hne : ((i' : Int) == (j' : Int)) = false := by rw [beq_eq_false_iff_ne]; exact hij
          have HLB := Lib.hid (lead_bd hv hl hi1 hj1)
          clear hi hj hij hv HOK
          go_enter Try.func24, Try.ntmps24
          go_wp2_with fail
          refine HC.out.mono ?_
          rintro e w1 ⟨rfl, hb⟩
          have HPF1 := Lib.hid (HPF.out.up hb.below)
          clear hb HC HPF
          go_wp2_with fail
          refine (HI.out _).mono ?_
          rintro e w2 ⟨rfl, rfl⟩
          clear HI
          go_wp2_with fail
          refine (HJ.out _).mono ?_
          rintro e w3 ⟨rfl, rfl⟩
          clear HJ
          have HC := Lib.hid (barrier_any A n c a w1 i' j' (HX.out.keep HPF1.out.keep) HQ.out hi1 hj1)
          go_wp2_with fail
          refine HC.out.mono ?_
          rintro e w4 ⟨rfl, hb⟩
          have HPF4 := Lib.hid (HPF1.out.up hb)
          clear hb HC HPF1
          have HFV : Hid (frV (barU (leadI a i' j') (leadJ a i' j')) (barD (leadI a i' j') (leadJ a i' j')) = .agg #[.int .i64 (frU (barU (leadI a i' j') (leadJ a i' j')) (barD (leadI a i' j') (leadJ a i' j'))), .int .i64 (frD (barU (leadI a i' j') (leadJ a i' j')) (barD (leadI a i' j') (leadJ a i' j')))]) := Lib.hid rfl
          rw [HFV.out]
          generalize frU (barU (leadI a i' j') (leadJ a i' j')) (barD (leadI a i' j') (leadJ a i' j')) = U at *
          generalize frD (barU (leadI a i' j') (leadJ a i' j')) (barD (leadI a i' j') (leadJ a i' j')) = D at *
          have HPF := HPF4
          clear HPF4
          have c0 := blk_cell HPF.out.box (i := 0) rfl
          have c1 := blk_cell HPF.out.box (i := 1) rfl
          have f0 := blk_frozen HPF.out.box 0
          have f1 := blk_frozen HPF.out.box 1
          go_wp2
          clear c0 c1 f0 f1
          have B1 := blk_set (blk_set HPF.out.box 0 (.int .i64 U)) 1 (.int .i64 D)
          have r0 := blk_cell B1 (i := 0) (v := .int .i64 U) rfl
          have r1 := blk_cell B1 (i := 1) (v := .int .i64 D) rfl
          have HBX := Lib.hid ((HPF.out.below.setCell (p := ⟨w.heap.size, 0, none⟩) (Nat.le_refl _) (.int .i64 U)).setCell (p := ⟨w.heap.size, 1, none⟩) (Nat.le_refl _) (.int .i64 D))
          clear B1 HPF
          generalize (w4.setCell ⟨w.heap.size, 0, none⟩ (.int .i64 U)).setCell ⟨w.heap.size, 1, none⟩ (.int .i64 D) = WE at *
          refine bodyPost_ret (v := .tuple #[.agg #[.int .i64 U, .int .i64 D], .bool true]) (by simp [results, Try.results24, go_sem, r0, r1]) rfl ?_
          exact ⟨by rw [HFV.out], HBX.out⟩
      · have HNO := Lib.hid (show barF a i j = .agg #[.int .i64 0, .int .i64 0] ∧ pb (BOk a i j) = false from ⟨barF_no (fun h => hj (by have := h.rj; rw [hl] at this; exact this)), pb_false (fun h => hj (by have := h.rj; rw [hl] at this; exact this))⟩)
        have HC := Lib.hid (pb_true hv ▸ validSquare_any A n c a _ (HX.out.keep HPF.out.keep))
        have HI := Lib.hid (fun W => pb_true hi ▸ inRange_any i 0 ((n : Int) - 1) W)
        have HJ := Lib.hid (fun W => pb_false hj ▸ inRange_any j 0 ((n : Int) - 1) W)
        clear hv
        go_enter Try.func24, Try.ntmps24
        go_wp2_with fail
        refine HC.out.mono ?_
        rintro e w1 ⟨rfl, hb⟩
        have HPF1 := Lib.hid (HPF.out.up hb.below)
        clear hb HC HPF
        go_wp2_with fail
        refine (HI.out _).mono ?_
        rintro e w2 ⟨rfl, rfl⟩
        clear HI
        go_wp2_with fail
        refine (HJ.out _).mono ?_
        rintro e w3 ⟨rfl, rfl⟩
        clear HJ
        have HPF := HPF1
        clear HPF1
        have c0 := blk_cell HPF.out.box (i := 0) rfl
        have c1 := blk_cell HPF.out.box (i := 1) rfl
        have f0 := blk_frozen HPF.out.box 0
        have f1 := blk_frozen HPF.out.box 1
        go_wp2
        clear c0 c1 f0 f1
        have B1 := blk_set (blk_set HPF.out.box 0 (.int .i64 0)) 1 (.int .i64 0)
        have r0 := blk_cell B1 (i := 0) (v := .int .i64 0) rfl
        have r1 := blk_cell B1 (i := 1) (v := .int .i64 0) rfl
        have HBX := Lib.hid ((HPF.out.below.setCell (p := ⟨w.heap.size, 0, none⟩) (Nat.le_refl _) (.int .i64 0)).setCell (p := ⟨w.heap.size, 1, none⟩) (Nat.le_refl _) (.int .i64 0))
        clear B1 HPF
        generalize (w1.setCell ⟨w.heap.size, 0, none⟩ (.int .i64 0)).setCell ⟨w.heap.size, 1, none⟩ (.int .i64 0) = WE at *
        refine bodyPost_ret (v := .tuple #[.agg #[.int .i64 0, .int .i64 0], .bool false]) (by simp [results, Try.results24, go_sem, r0, r1]) rfl ?_
        exact ⟨by rw [HNO.out.1, HNO.out.2], HBX.out⟩
    · have HNO := Lib.hid (show barF a i j = .agg #[.int .i64 0, .int .i64 0] ∧ pb (BOk a i j) = false from ⟨barF_no (fun h => hi (by have := h.ri; rw [hl] at this; exact this)), pb_false (fun h => hi (by have := h.ri; rw [hl] at this; exact this))⟩)
      have HC := Lib.hid (pb_true hv ▸ validSquare_any A n c a _ (HX.out.keep HPF.out.keep))
      have HI := Lib.hid (fun W => pb_false hi ▸ inRange_any i 0 ((n : Int) - 1) W)
      clear hv
      go_enter Try.func24, Try.ntmps24
      go_wp2_with fail
      refine HC.out.mono ?_
      rintro e w1 ⟨rfl, hb⟩
      have HPF1 := Lib.hid (HPF.out.up hb.below)
      clear hb HC HPF
      go_wp2_with fail
      refine (HI.out _).mono ?_
      rintro e w2 ⟨rfl, rfl⟩
      clear HI
      have HPF := HPF1
      clear HPF1
      have c0 := blk_cell HPF.out.box (i := 0) rfl
      have c1 := blk_cell HPF.out.box (i := 1) rfl
      have f0 := blk_frozen HPF.out.box 0
      have f1 := blk_frozen HPF.out.box 1
      go_wp2
      clear c0 c1 f0 f1
      have B1 := blk_set (blk_set HPF.out.box 0 (.int .i64 0)) 1 (.int .i64 0)
      have r0 := blk_cell B1 (i := 0) (v := .int .i64 0) rfl
      have r1 := blk_cell B1 (i := 1) (v := .int .i64 0) rfl
      have HBX := Lib.hid ((HPF.out.below.setCell (p := ⟨w.heap.size, 0, none⟩) (Nat.le_refl _) (.int .i64 0)).setCell (p := ⟨w.heap.size, 1, none⟩) (Nat.le_refl _) (.int .i64 0))
      clear B1 HPF
      generalize (w1.setCell ⟨w.heap.size, 0, none⟩ (.int .i64 0)).setCell ⟨w.heap.size, 1, none⟩ (.int .i64 0) = WE at *
      refine bodyPost_ret (v := .tuple #[.agg #[.int .i64 0, .int .i64 0], .bool false]) (by simp [results, Try.results24, go_sem, r0, r1]) rfl ?_
      exact ⟨by rw [HNO.out.1, HNO.out.2], HBX.out⟩
  · have HNO := Lib.hid (show barF a i j = .agg #[.int .i64 0, .int .i64 0] ∧ pb (BOk a i j) = false from ⟨barF_no (fun h => hv h.q), pb_false (fun h => hv h.q)⟩)
    have HC := Lib.hid (pb_false hv ▸ validSquare_any A n c a _ (HX.out.keep HPF.out.keep))
    clear hv
    go_enter Try.func24, Try.ntmps24
    go_wp2_with fail
    refine HC.out.mono ?_
    rintro e w1 ⟨rfl, hb⟩
    have HPF1 := Lib.hid (HPF.out.up hb.below)
    clear hb HC HPF
    have HPF := HPF1
    clear HPF1
    have c0 := blk_cell HPF.out.box (i := 0) rfl
    have c1 := blk_cell HPF.out.box (i := 1) rfl
    have f0 := blk_frozen HPF.out.box 0
    have f1 := blk_frozen HPF.out.box 1
    go_wp2
    clear c0 c1 f0 f1
    have B1 := blk_set (blk_set HPF.out.box 0 (.int .i64 0)) 1 (.int .i64 0)
    have r0 := blk_cell B1 (i := 0) (v := .int .i64 0) rfl
    have r1 := blk_cell B1 (i := 1) (v := .int .i64 0) rfl
    have HBX := Lib.hid ((HPF.out.below.setCell (p := ⟨w.heap.size, 0, none⟩) (Nat.le_refl _) (.int .i64 0)).setCell (p := ⟨w.heap.size, 1, none⟩) (Nat.le_refl _) (.int .i64 0))
    clear B1 HPF
    generalize (w1.setCell ⟨w.heap.size, 0, none⟩ (.int .i64 0)).setCell ⟨w.heap.size, 1, none⟩ (.int .i64 0) = WE at *
    refine bodyPost_ret (v := .tuple #[.agg #[.int .i64 0, .int .i64 0], .bool false]) (by simp [results, Try.results24, go_sem, r0, r1]) rfl ?_
    exact ⟨by rw [HNO.out.1, HNO.out.2], HBX.out⟩

set_option maxRecDepth 100000 in
set_option maxHeartbeats 3200000 in
theorem BarrierOf_impl (A : Option Addr) (n c : Nat) (a : List (List Int)) (i j : Int) (w : World) (hx : IntRows w A n c a) (_ : Fit i) (_ : Fit j) :
    Calls Try.prog 25 #[.slice A n c, .int .i64 i, .int .i64 j] w (Ret (.tuple #[barF a i j, .bool (pb (BOk a i j))]) w) := by
  have hmx := hx.max
  have HX := Lib.hid hx
  have hl := hx.len
  have HPF := Lib.hid (PF.start w)
  clear hx
  by_cases hv : VQ a
  · have hn1 := hv.1.n1
    have hn3 := hv.1.n3
    by_cases hi : InR i 0 ((n : Int) - 1)
    · by_cases hj : InR j 0 ((n : Int) - 1)
      · by_cases hij : i = j
        · have HNO := Lib.hid (show barF a i j = .agg #[.int .i64 0, .int .i64 0] ∧ pb (BOk a i j) = false from ⟨barF_no (fun h => h.ne hij), pb_false (fun h => h.ne hij)⟩)
          have HC := Lib.hid (pb_true hv ▸ ValidSquare_impl A n c a _ (HX.out.keep HPF.out.keep))
          have HI := Lib.hid (fun W => pb_true hi ▸ isStrategy_any A n c i W hmx)
          have HJ := Lib.hid (fun W => pb_true hj ▸ isStrategy_any A n c j W hmx)
          subst hij
          clear hv
          go_enter Try.func25, Try.ntmps25
          go_wp2_with fail
          refine HC.out.mono ?_
          rintro e w1 ⟨rfl, hb⟩
          have HPF1 := Lib.hid (HPF.out.up hb.below)
          clear hb HC HPF
          go_wp2_with fail
          refine (HI.out _).mono ?_
          rintro e w2 ⟨rfl, hb⟩
          have HPF2 := Lib.hid (HPF1.out.up hb.below)
          clear hb HI HPF1
          go_wp2_with fail
          refine (HJ.out _).mono ?_
          rintro e w3 ⟨rfl, hb⟩
          have HPF3 := Lib.hid (HPF2.out.up hb.below)
          clear hb HJ HPF2
          have HPF := HPF3
          clear HPF3
          have c0 := blk_cell HPF.out.box (i := 0) rfl
          have c1 := blk_cell HPF.out.box (i := 1) rfl
          have f0 := blk_frozen HPF.out.box 0
          have f1 := blk_frozen HPF.out.box 1
          go_wp2
          clear c0 c1 f0 f1
          have B1 := blk_set (blk_set HPF.out.box 0 (.int .i64 0)) 1 (.int .i64 0)
          have r0 := blk_cell B1 (i := 0) (v := .int .i64 0) rfl
          have r1 := blk_cell B1 (i := 1) (v := .int .i64 0) rfl
          have HBX := Lib.hid ((HPF.out.below.setCell (p := ⟨w.heap.size, 0, none⟩) (Nat.le_refl _) (.int .i64 0)).setCell (p := ⟨w.heap.size, 1, none⟩) (Nat.le_refl _) (.int .i64 0))
          clear B1 HPF
          generalize (w3.setCell ⟨w.heap.size, 0, none⟩ (.int .i64 0)).setCell ⟨w.heap.size, 1, none⟩ (.int .i64 0) = WE at *
          refine bodyPost_ret (v := .tuple #[.agg #[.int .i64 0, .int .i64 0], .bool false]) (by simp [results, Try.results25, go_sem, r0, r1]) rfl ?_
          exact ⟨by rw [HNO.out.1, HNO.out.2], HBX.out⟩
        · have HOK := Lib.hid (show BOk a i j from ⟨hv, by rw [hl]; exact hi, by rw [hl]; exact hj, hij⟩)
          have HI := Lib.hid (fun W => pb_true hi ▸ isStrategy_any A n c i W hmx)
          have HJ := Lib.hid (fun W => pb_true hj ▸ isStrategy_any A n c j W hmx)
          have HC := Lib.hid (pb_true hv ▸ ValidSquare_impl A n c a _ (HX.out.keep HPF.out.keep))
          have HQ := Lib.hid hv
          rw [barF_yes HOK.out, pb_true HOK.out]
          obtain ⟨i', rfl⟩ : ∃ i' : Nat, i = i' := ⟨i.toNat, by unfold InR at hi; omega⟩
          obtain ⟨j', rfl⟩ : ∃ j' : Nat, j = j' := ⟨j.toNat, by unfold InR at hj; omega⟩
          rw [Int.toNat_natCast, Int.toNat_natCast]
          have hi1 : i' < n := by unfold InR at hi; omega
          have hj1 : j' < n := by unfold InR at hj; omega
          have hne : ((i' : Int) == (j' : Int)) = false := by rw [beq_eq_false_iff_ne]; exact hij
          have HLB := Lib.hid (lead_bd hv hl hi1 hj1)
          clear hi hj hij hv HOK
          go_enter Try.func25, Try.ntmps25
          go_wp2_with fail
          refine HC.out.mono ?_
          rintro e w1 ⟨rfl, hb⟩
          have HPF1 := Lib.hid (HPF.out.up hb.below)
          clear hb HC HPF
          go_wp2_with fail
          refine (HI.out _).mono ?_
          rintro e w2 ⟨rfl, hb⟩
          have HPF2 := Lib.hid (HPF1.out.up hb.below)
          clear hb HI HPF1
          go_wp2_with fail
          refine (HJ.out _).mono ?_
          rintro e w3 ⟨rfl, hb⟩
          have HPF3 := Lib.hid (HPF2.out.up hb.below)
          clear hb HJ HPF2
          have HC := Lib.hid (leadsOf_any A n c a w3 i' j' (HX.out.keep HPF3.out.keep) HQ.out hi1 hj1)
          go_wp2_with fail
          refine HC.out.mono ?_
          rintro e w4 ⟨rfl, hb⟩
          have HPF4 := Lib.hid (HPF3.out.up hb)
          clear hb HC HPF3
          obtain ⟨⟨x1, x2⟩, y1, y2⟩ := HLB.out
          clear HLB
          generalize leadI a i' j' = x at *
          generalize leadJ a i' j' = y at *
          have HK := Lib.hid (fun W => holdsL_any x y W)
          by_cases hh : HoldL x y
          · rw [pb_true hh] at HK
            by_cases hy : 0 ≤ y
            · have HBE := Lib.hid (show frV (barU x y) (barD x y) = frV 1 1 by rw [(bar_one hh hy).1, (bar_one hh hy).2])
              clear hh
              go_wp2_with fail
              refine (HK.out _).mono ?_
              rintro e w20 ⟨rfl, hb⟩
              have HPF20 := Lib.hid (HPF4.out.up hb.below)
              clear hb HK HPF4
              have HC := Lib.hid (fracOf_any 1 1 w20 (by unfold Mid; omega) (by unfold Mid; omega) (by omega))
              go_wp2_with fail
              refine HC.out.mono ?_
              rintro e w21 ⟨rfl, hb⟩
              have HPF21 := Lib.hid (HPF20.out.up hb)
              clear hb HC HPF20
              have HFV : Hid (frV 1 1 = .agg #[.int .i64 (frU 1 1), .int .i64 (frD 1 1)]) := Lib.hid rfl
              rw [HFV.out]
              generalize frU 1 1 = U at *
              generalize frD 1 1 = D at *
              have HPF := HPF21
              clear HPF21
              have c0 := blk_cell HPF.out.box (i := 0) rfl
              have c1 := blk_cell HPF.out.box (i := 1) rfl
              have f0 := blk_frozen HPF.out.box 0
              have f1 := blk_frozen HPF.out.box 1
              go_wp2
              clear c0 c1 f0 f1
              have B1 := blk_set (blk_set HPF.out.box 0 (.int .i64 U)) 1 (.int .i64 D)
              have r0 := blk_cell B1 (i := 0) (v := .int .i64 U) rfl
              have r1 := blk_cell B1 (i := 1) (v := .int .i64 D) rfl
              have HBX := Lib.hid ((HPF.out.below.setCell (p := ⟨w.heap.size, 0, none⟩) (Nat.le_refl _) (.int .i64 U)).setCell (p := ⟨w.heap.size, 1, none⟩) (Nat.le_refl _) (.int .i64 D))
              clear B1 HPF
              generalize (w21.setCell ⟨w.heap.size, 0, none⟩ (.int .i64 U)).setCell ⟨w.heap.size, 1, none⟩ (.int .i64 D) = WE at *
              refine bodyPost_ret (v := .tuple #[.agg #[.int .i64 U, .int .i64 D], .bool true]) (by simp [results, Try.results25, go_sem, r0, r1]) rfl ?_
              exact ⟨by rw [HBE.out, HFV.out], HBX.out⟩
            · obtain ⟨hu, hd, hp⟩ := bar_mid hh hy
              have HBE := Lib.hid (show frV (barU x y) (barD x y) = frV x (x - y) by rw [hu, hd])
              clear hh hu hd
              go_wp2_with fail
              refine (HK.out _).mono ?_
              rintro e w20 ⟨rfl, hb⟩
              have HPF20 := Lib.hid (HPF4.out.up hb.below)
              clear hb HK HPF4
              have HC := Lib.hid (fracOf_any x (x - y) w20 (by unfold Mid; omega) (by unfold Mid; omega) (by omega))
              go_wp2_with fail
              refine HC.out.mono ?_
              rintro e w21 ⟨rfl, hb⟩
              have HPF21 := Lib.hid (HPF20.out.up hb)
              clear hb HC HPF20
              have HFV : Hid (frV x (x - y) = .agg #[.int .i64 (frU x (x - y)), .int .i64 (frD x (x - y))]) := Lib.hid rfl
              rw [HFV.out]
              generalize frU x (x - y) = U at *
              generalize frD x (x - y) = D at *
              have HPF := HPF21
              clear HPF21
              have c0 := blk_cell HPF.out.box (i := 0) rfl
              have c1 := blk_cell HPF.out.box (i := 1) rfl
              have f0 := blk_frozen HPF.out.box 0
              have f1 := blk_frozen HPF.out.box 1
              go_wp2
              clear c0 c1 f0 f1
              have B1 := blk_set (blk_set HPF.out.box 0 (.int .i64 U)) 1 (.int .i64 D)
              have r0 := blk_cell B1 (i := 0) (v := .int .i64 U) rfl
              have r1 := blk_cell B1 (i := 1) (v := .int .i64 D) rfl
              have HBX := Lib.hid ((HPF.out.below.setCell (p := ⟨w.heap.size, 0, none⟩) (Nat.le_refl _) (.int .i64 U)).setCell (p := ⟨w.heap.size, 1, none⟩) (Nat.le_refl _) (.int .i64 D))
              clear B1 HPF
              generalize (w21.setCell ⟨w.heap.size, 0, none⟩ (.int .i64 U)).setCell ⟨w.heap.size, 1, none⟩ (.int .i64 D) = WE at *
              refine bodyPost_ret (v := .tuple #[.agg #[.int .i64 U, .int .i64 D], .bool true]) (by simp [results, Try.results25, go_sem, r0, r1]) rfl ?_
              exact ⟨by rw [HBE.out, HFV.out], HBX.out⟩
          · rw [pb_false hh] at HK
            have HBE := Lib.hid (show frV (barU x y) (barD x y) = frV 0 1 by rw [(bar_no hh).1, (bar_no hh).2])
            clear hh
            go_wp2_with fail
            refine (HK.out _).mono ?_
            rintro e w20 ⟨rfl, hb⟩
            have HPF20 := Lib.hid (HPF4.out.up hb.below)
            clear hb HK HPF4
            have HC := Lib.hid (fracOf_any 0 1 w20 (by unfold Mid; omega) (by unfold Mid; omega) (by omega))
            go_wp2_with fail
            refine HC.out.mono ?_
            rintro e w21 ⟨rfl, hb⟩
            have HPF21 := Lib.hid (HPF20.out.up hb)
            clear hb HC HPF20
            have HFV : Hid (frV 0 1 = .agg #[.int .i64 (frU 0 1), .int .i64 (frD 0 1)]) := Lib.hid rfl
            rw [HFV.out]
            generalize frU 0 1 = U at *
            generalize frD 0 1 = D at *
            have HPF := HPF21
            clear HPF21
            have c0 := blk_cell HPF.out.box (i := 0) rfl
            have c1 := blk_cell HPF.out.box (i := 1) rfl
            have f0 := blk_frozen HPF.out.box 0
            have f1 := blk_frozen HPF.out.box 1
            go_wp2
            clear c0 c1 f0 f1
            have B1 := blk_set (blk_set HPF.out.box 0 (.int .i64 U)) 1 (.int .i64 D)
            have r0 := blk_cell B1 (i := 0) (v := .int .i64 U) rfl
            have r1 := blk_cell B1 (i := 1) (v := .int .i64 D) rfl
            have HBX := Lib.hid ((HPF.out.below.setCell (p := ⟨w.heap.size, 0, none⟩) (Nat.le_refl _) (.int .i64 U)).setCell (p := ⟨w.heap.size, 1, none⟩) (Nat.le_refl _) (.int .i64 D))
            clear B1 HPF
            generalize (w21.setCell ⟨w.heap.size, 0, none⟩ (.int .i64 U)).setCell ⟨w.heap.size, 1, none⟩ (.int .i64 D) = WE at *
            refine bodyPost_ret (v := .tuple #[.agg #[.int .i64 U, .int .i64 D], .bool true]) (by simp [results, Try.results25, go_sem, r0, r1]) rfl ?_
            exact ⟨by rw [HBE.out, HFV.out], HBX.out⟩
      · have HNO := Lib.hid (show barF a i j = .agg #[.int .i64 0, .int .i64 0] ∧ pb (BOk a i j) = false from ⟨barF_no (fun h => hj (by have := h.rj; rw [hl] at this; exact this)), pb_false (fun h => hj (by have := h.rj; rw [hl] at this; exact this))⟩)
        have HC := Lib.hid (pb_true hv ▸ ValidSquare_impl A n c a _ (HX.out.keep HPF.out.keep))
        have HI := Lib.hid (fun W => pb_true hi ▸ isStrategy_any A n c i W hmx)
        have HJ := Lib.hid (fun W => pb_false hj ▸ isStrategy_any A n c j W hmx)
        clear hv
        go_enter Try.func25, Try.ntmps25
        go_wp2_with fail
        refine HC.out.mono ?_
        rintro e w1 ⟨rfl, hb⟩
        have HPF1 := Lib.hid (HPF.out.up hb.below)
        clear hb HC HPF
        go_wp2_with fail
        refine (HI.out _).mono ?_
        rintro e w2 ⟨rfl, hb⟩
        have HPF2 := Lib.hid (HPF1.out.up hb.below)
        clear hb HI HPF1
        go_wp2_with fail
        refine (HJ.out _).mono ?_
        rintro e w3 ⟨rfl, hb⟩
        have HPF3 := Lib.hid (HPF2.out.up hb.below)
        clear hb HJ HPF2
        have HPF := HPF3
        clear HPF3
        have c0 := blk_cell HPF.out.box (i := 0) rfl
        have c1 := blk_cell HPF.out.box (i := 1) rfl
        have f0 := blk_frozen HPF.out.box 0
        have f1 := blk_frozen HPF.out.box 1
        go_wp2
        clear c0 c1 f0 f1
        have B1 := blk_set (blk_set HPF.out.box 0 (.int .i64 0)) 1 (.int .i64 0)
        have r0 := blk_cell B1 (i := 0) (v := .int .i64 0) rfl
        have r1 := blk_cell B1 (i := 1) (v := .int .i64 0) rfl
        have HBX := Lib.hid ((HPF.out.below.setCell (p := ⟨w.heap.size, 0, none⟩) (Nat.le_refl _) (.int .i64 0)).setCell (p := ⟨w.heap.size, 1, none⟩) (Nat.le_refl _) (.int .i64 0))
        clear B1 HPF
        generalize (w3.setCell ⟨w.heap.size, 0, none⟩ (.int .i64 0)).setCell ⟨w.heap.size, 1, none⟩ (.int .i64 0) = WE at *
        refine bodyPost_ret (v := .tuple #[.agg #[.int .i64 0, .int .i64 0], .bool false]) (by simp [results, Try.results25, go_sem, r0, r1]) rfl ?_
        exact ⟨by rw [HNO.out.1, HNO.out.2], HBX.out⟩
    · have HNO := Lib.hid (show barF a i j = .agg #[.int .i64 0, .int .i64 0] ∧ pb (BOk a i j) = false from ⟨barF_no (fun h => hi (by have := h.ri; rw [hl] at this; exact this)), pb_false (fun h => hi (by have := h.ri; rw [hl] at this; exact this))⟩)
      have HC := Lib.hid (pb_true hv ▸ ValidSquare_impl A n c a _ (HX.out.keep HPF.out.keep))
      have HI := Lib.hid (fun W => pb_false hi ▸ isStrategy_any A n c i W hmx)
      clear hv
      go_enter Try.func25, Try.ntmps25
      go_wp2_with fail
      refine HC.out.mono ?_
      rintro e w1 ⟨rfl, hb⟩
      have HPF1 := Lib.hid (HPF.out.up hb.below)
      clear hb HC HPF
      go_wp2_with fail
      refine (HI.out _).mono ?_
      rintro e w2 ⟨rfl, hb⟩
      have HPF2 := Lib.hid (HPF1.out.up hb.below)
      clear hb HI HPF1
      have HPF := HPF2
      clear HPF2
      have c0 := blk_cell HPF.out.box (i := 0) rfl
      have c1 := blk_cell HPF.out.box (i := 1) rfl
      have f0 := blk_frozen HPF.out.box 0
      have f1 := blk_frozen HPF.out.box 1
      go_wp2
      clear c0 c1 f0 f1
      have B1 := blk_set (blk_set HPF.out.box 0 (.int .i64 0)) 1 (.int .i64 0)
      have r0 := blk_cell B1 (i := 0) (v := .int .i64 0) rfl
      have r1 := blk_cell B1 (i := 1) (v := .int .i64 0) rfl
      have HBX := Lib.hid ((HPF.out.below.setCell (p := ⟨w.heap.size, 0, none⟩) (Nat.le_refl _) (.int .i64 0)).setCell (p := ⟨w.heap.size, 1, none⟩) (Nat.le_refl _) (.int .i64 0))
      clear B1 HPF
      generalize (w2.setCell ⟨w.heap.size, 0, none⟩ (.int .i64 0)).setCell ⟨w.heap.size, 1, none⟩ (.int .i64 0) = WE at *
      refine bodyPost_ret (v := .tuple #[.agg #[.int .i64 0, .int .i64 0], .bool false]) (by simp [results, Try.results25, go_sem, r0, r1]) rfl ?_
      exact ⟨by rw [HNO.out.1, HNO.out.2], HBX.out⟩
  · have HNO := Lib.hid (show barF a i j = .agg #[.int .i64 0, .int .i64 0] ∧ pb (BOk a i j) = false from ⟨barF_no (fun h => hv h.q), pb_false (fun h => hv h.q)⟩)
    have HC := Lib.hid (pb_false hv ▸ ValidSquare_impl A n c a _ (HX.out.keep HPF.out.keep))
    clear hv
    go_enter Try.func25, Try.ntmps25
    go_wp2_with fail
    refine HC.out.mono ?_
    rintro e w1 ⟨rfl, hb⟩
    have HPF1 := Lib.hid (HPF.out.up hb.below)
    clear hb HC HPF
    have HPF := HPF1
    clear HPF1
    have c0 := blk_cell HPF.out.box (i := 0) rfl
    have c1 := blk_cell HPF.out.box (i := 1) rfl
    have f0 := blk_frozen HPF.out.box 0
    have f1 := blk_frozen HPF.out.box 1
    go_wp2
    clear c0 c1 f0 f1
    have B1 := blk_set (blk_set HPF.out.box 0 (.int .i64 0)) 1 (.int .i64 0)
    have r0 := blk_cell B1 (i := 0) (v := .int .i64 0) rfl
    have r1 := blk_cell B1 (i := 1) (v := .int .i64 0) rfl
    have HBX := Lib.hid ((HPF.out.below.setCell (p := ⟨w.heap.size, 0, none⟩) (Nat.le_refl _) (.int .i64 0)).setCell (p := ⟨w.heap.size, 1, none⟩) (Nat.le_refl _) (.int .i64 0))
    clear B1 HPF
    generalize (w1.setCell ⟨w.heap.size, 0, none⟩ (.int .i64 0)).setCell ⟨w.heap.size, 1, none⟩ (.int .i64 0) = WE at *
    refine bodyPost_ret (v := .tuple #[.agg #[.int .i64 0, .int .i64 0], .bool false]) (by simp [results, Try.results25, go_sem, r0, r1]) rfl ?_
    exact ⟨by rw [HNO.out.1, HNO.out.2], HBX.out⟩

end Go.Proofs.Ytlgnpfpdmjhhbaa

/- Rests, by both programs. -/
namespace Go.Proofs.Ytlgnpfpdmjhhbaa
open Go.RowKit

/-- No strategy has more than one with a share. -/
def RestP (a : List (List Int)) (w : List Int) (n : Nat) : Prop := ∀ i, i < n → 0 < gi w i → ∀ k, k < n → dotr a w k n ≤ dotr a w i n
structure RQ (a : List (List Int)) (w : List Int) : Prop where
  q : VQ a
  s : VS w a.length
  r : RestP a w a.length

set_option maxRecDepth 100000 in
set_option maxHeartbeats 3200000 in
theorem noneHasMore_any (a : List (List Int)) (w : List Int) (n pa pw b o c cw : Nat) (rb ro cc : Nat → Nat) (Y : Option Addr) (W : World) (h : PA a w n pa pw b o c cw rb ro cc Y W) :
    Calls Try.prog 66 #[.func (.func 95) #[] #[.pointer (some ⟨pa, 0, none⟩), .pointer (some ⟨pw, 0, none⟩)], .slice Y n cw] W (Ret (.bool (pb (RestP a w n))) W) := by
  have H := Lib.hid h
  have hn1 := h.tab.n1
  have hn3 := h.tab.n3
  obtain ⟨by_, oy, rfl, hcy⟩ := h.sh.at_ (by omega)
  have HY := Lib.hid hcy
  clear h hcy
  go_enter Try.func66, Try.ntmps66
  go_wp2
  go_loopw [10] (fun i_ wr => ∃ i : Nat, i ≤ n ∧ i_ = .int .i64 i ∧ Hid (∀ j, j < i → 0 < gi w j → ∀ k, k < n → dotr a w k n ≤ dotr a w j n) ∧ Hid (Below W.heap.size W wr)) (fun i_ _ => n - (intOf i_).toNat)
  case atStart => exact ⟨0, Nat.zero_le _, rfl, Lib.hid (fun _ h => absurd h (by omega)), Lib.hid (Below.refl _ _)⟩
  case round =>
    obtain ⟨i, hi, rfl, HALL, HB⟩ := hrel
    by_cases hlt : i < n
    · have c1 := Keep.below HB.out _ _ (HY.out i hlt)
      have HSI := Lib.hid (H.out.bd i hlt)
      generalize hs : gi w i = s at *
      have HS := Lib.hid hs
      clear hs
      go_wp2
      clear c1
      go_loopw [17] (fun k_ wi => ∃ k : Nat, k ≤ n ∧ k_ = .int .i64 k ∧ Hid (0 < s → ∀ l, l < k → dotr a w l n ≤ dotr a w i n) ∧ Hid (Below W.heap.size W wi)) (fun k_ _ => n - (intOf k_).toNat)
      case atStart => exact ⟨0, Nat.zero_le _, rfl, Lib.hid (fun _ _ h => absurd h (by omega)), HB⟩
      case round =>
        clear HB
        obtain ⟨k, hk, rfl, HK, HB⟩ := hrel
        by_cases hkl : k < n
        · by_cases hp : 0 < s
          · have HC := Lib.hid (payAt_any a w n pa pw b o c cw rb ro cc _ wr (H.out.keep (Keep.below HB.out)) k hkl)
            by_cases hle : dotr a w k n ≤ dotr a w i n
            · have HN := Lib.hid (show 0 < s → ∀ l, l < k + 1 → dotr a w l n ≤ dotr a w i n from fun h l hl => by
                by_cases e : l = k
                · subst e; exact hle
                · exact HK.out h l (by omega))
              have hng : ¬ dotr a w i n < dotr a w k n := by omega
              generalize hgx : dotr a w k n = x at *
              generalize hgy : dotr a w i n = y at *
              have HXX := Lib.hid hgx
              have HYY := Lib.hid hgy
              clear hgx hgy
              have HP := Lib.hid hp
              go_wp2_with fail
              refine HC.out.mono ?_
              rintro e w1 ⟨rfl, hb⟩
              have HB1 := Lib.hid (below_up HB.out hb)
              clear hb HC HB
              have HC := Lib.hid (HYY.out ▸ payAt_any a w n pa pw b o c cw rb ro cc _ w1 (H.out.keep (Keep.below HB1.out)) i hlt)
              go_wp2_with fail
              refine HC.out.mono ?_
              rintro e w2 ⟨rfl, hb⟩
              have HB2 := Lib.hid (below_up HB1.out hb)
              clear hb HC HB1
              go_wp2
              go_roundw
              case rel => exact ⟨k + 1, by omega, by go_num, HN, HB2⟩
              case measure => simp [intOf]; omega
            · have HN := Lib.hid (pb_false (p := RestP a w n) (fun h => hle (h i hlt (by rw [HS.out]; exact hp) k hkl)))
              have hng : dotr a w i n < dotr a w k n := by omega
              generalize hgx : dotr a w k n = x at *
              generalize hgy : dotr a w i n = y at *
              have HYY := Lib.hid hgy
              clear hgx hgy
              go_wp2_with fail
              refine HC.out.mono ?_
              rintro e w1 ⟨rfl, hb⟩
              have HB1 := Lib.hid (below_up HB.out hb)
              clear hb HC HB
              have HC := Lib.hid (HYY.out ▸ payAt_any a w n pa pw b o c cw rb ro cc _ w1 (H.out.keep (Keep.below HB1.out)) i hlt)
              go_wp2_with fail
              refine HC.out.mono ?_
              rintro e w2 ⟨rfl, hb⟩
              have HB2 := Lib.hid (below_up HB1.out hb)
              clear hb HC HB1
              go_wp2
              go_ret
              exact ⟨ret_bool HN.out.symm, HB2.out⟩
          · have hd : decide (0 < s) = false := decide_eq_false hp
            have HN := Lib.hid (show 0 < s → ∀ l, l < k + 1 → dotr a w l n ≤ dotr a w i n from fun h => absurd h hp)
            go_wp2
            go_roundw
            case rel => exact ⟨k + 1, by omega, by go_num, HN, HB⟩
            case measure => simp [intOf]; omega
        · obtain rfl : k = n := by omega
          have HN := Lib.hid (show ∀ j, j < i + 1 → 0 < gi w j → ∀ l, l < k → dotr a w l k ≤ dotr a w j k from fun j hj hp l hl => by
            by_cases e : j = i
            · subst e; exact HK.out (by rw [← HS.out]; exact hp) l hl
            · exact HALL.out j (by omega) hp l hl)
          go_wp2
          go_roundw
          case rel => exact ⟨i + 1, by omega, by go_num, HN, HB⟩
          case measure => simp [intOf]; omega
    · obtain rfl : i = n := by omega
      have HN := Lib.hid (pb_true (p := RestP a w i) (fun j hj hp k hk => HALL.out j hj hp k hk))
      go_wp2
      go_ret
      exact ⟨ret_bool HN.out.symm, HB.out⟩

/-- The greatest of the first k values. -/
def mxd (f : Nat → Int) : Nat → Int
  | 0 => 0
  | k + 1 => if k = 0 ∨ mxd f k < f k then f k else mxd f k
theorem mxd_up {f : Nat → Int} {k : Nat} (h : k = 0 ∨ mxd f k < f k) : mxd f (k + 1) = f k := by rw [mxd, if_pos h]
theorem mxd_same {f : Nat → Int} {k : Nat} (h : ¬ (k = 0 ∨ mxd f k < f k)) : mxd f (k + 1) = mxd f k := by rw [mxd, if_neg h]
theorem mxd_ge (f : Nat → Int) : ∀ {k i}, i < k → f i ≤ mxd f k
  | 0, _, h => absurd h (by omega)
  | k + 1, i, h => by
    by_cases hu : k = 0 ∨ mxd f k < f k
    · rw [mxd_up hu]
      by_cases e : i = k
      · subst e; exact Int.le_refl _
      · have := mxd_ge f (k := k) (i := i) (by omega)
        omega
    · rw [mxd_same hu]
      by_cases e : i = k
      · subst e; omega
      · exact mxd_ge f (by omega)
theorem mxd_at (f : Nat → Int) : ∀ {k}, 0 < k → ∃ i, i < k ∧ mxd f k = f i
  | 0, h => absurd h (by omega)
  | k + 1, _ => by
    by_cases hu : k = 0 ∨ mxd f k < f k
    · exact ⟨k, by omega, mxd_up hu⟩
    · obtain ⟨i, hi, e⟩ := mxd_at f (k := k) (by omega)
      exact ⟨i, by omega, (mxd_same hu).trans e⟩
/-- At rest all that is there has the most. -/
theorem rest_most (a : List (List Int)) (w : List Int) (n : Nat) (hn : 0 < n) : RestP a w n ↔ ∀ i, i < n → 0 < gi w i → dotr a w i n = mxd (fun i => dotr a w i n) n := by
  constructor
  · intro h i hi hp
    obtain ⟨k, hk, e⟩ := mxd_at (fun i => dotr a w i n) hn
    have h1 := h i hi hp k hk
    have h2 := mxd_ge (fun i => dotr a w i n) hi
    have e' : mxd (fun i => dotr a w i n) n = dotr a w k n := e
    have h2' : dotr a w i n ≤ mxd (fun i => dotr a w i n) n := h2
    omega
  · intro h i hi hp k hk
    rw [h i hi hp]
    exact mxd_ge (fun i => dotr a w i n) hk
theorem mxd_bd {f : Nat → Int} {B : Int} (hB : 0 ≤ B) : ∀ {k}, (∀ i, i < k → -B ≤ f i ∧ f i ≤ B) → -B ≤ mxd f k ∧ mxd f k ≤ B
  | 0, _ => by simp only [mxd]; omega
  | k + 1, h => by
    by_cases hu : k = 0 ∨ mxd f k < f k
    · rw [mxd_up hu]; exact h k (by omega)
    · rw [mxd_same hu]; exact mxd_bd hB fun i hi => h i (by omega)

set_option maxRecDepth 100000 in
set_option maxHeartbeats 3200000 in
theorem fits_any (b o : Nat) (rb ro cc : Nat → Nat) (n c cw : Nat) (Y : Option Addr) (a : List (List Int)) (w : List Int) (W : World) (ht : Tab W b o rb ro cc n n a) (hw : Ints W Y n cw w) (hbd : ∀ j, j < n → 0 ≤ gi w j ∧ gi w j ≤ 1000) :
    Calls Try.prog 64 #[.slice (some ⟨b, o, none⟩) n c, .slice Y n cw] W (Ret (.bool (pb (RestP a w n))) W) := by
  have HT := Lib.hid ht
  have HW := Lib.hid hw
  have hn1 := ht.n1
  have hn3 := ht.n3
  have HPB := Lib.hid (fun i => (⟨ht.bd, onl_bds n i, hbd⟩ : PB a (onl n i) w n n))
  obtain ⟨by_, oy, rfl, hcy⟩ := hw.at_ (by omega)
  have HY := Lib.hid hcy
  have HBD := Lib.hid hbd
  have HPU := Lib.hid (fun i (hi : i < n) => payU_alone a w n n i hi)
  have HRM := Lib.hid (rest_most a w n (by omega))
  clear ht hw hcy hbd
  have HZ : Hid (mxd (fun i => dotr a w i n) 0 = 0) := Lib.hid rfl
  go_enter Try.func64, Try.ntmps64
  go_wp2
  go_loopw [5, 6, 7] (fun m f i_ wr => ∃ i : Nat, i ≤ n ∧ i_ = .int .i64 i ∧ m = .int .i64 (mxd (fun i => dotr a w i n) i) ∧ f = .bool (decide (i = 0)) ∧ Hid (Below W.heap.size W wr)) (fun _ _ i_ _ => n - (intOf i_).toNat)
  case atStart => exact ⟨0, Nat.zero_le _, rfl, by rw [HZ.out], rfl, Lib.hid (Below.refl _ _)⟩
  case round =>
    clear HZ
    obtain ⟨i, hi, rfl, rfl, rfl, HB⟩ := hrel
    by_cases hlt : i < n
    · have HC := Lib.hid (alone_spec n i wr (by omega) hlt)
      have HMU := Lib.hid (fun h => mxd_up (f := fun i => dotr a w i n) (k := i) h)
      have HMS := Lib.hid (fun h => mxd_same (f := fun i => dotr a w i n) (k := i) h)
      go_wp2_with fail
      refine HC.out.mono ?_
      rintro e w1 ⟨rfl, ho, hb⟩
      have HB1 := Lib.hid (below_up HB.out hb)
      have HC := Lib.hid (HPU.out i hlt ▸ payUp_any b o rb ro cc n n c n cw _ _ a (onl n i) w w1 (HT.out.keep (Keep.below HB1.out)) ho.ints (HW.out.keep (Keep.below HB1.out)) (HPB.out i))
      clear ho hb HB
      generalize hgx : dotr a w i n = x at *
      generalize hgm : mxd (fun i => dotr a w i n) i = M at *
      clear hgm
      go_wp2_with fail
      refine HC.out.mono ?_
      rintro e w2 ⟨rfl, hq⟩
      have HB2 := Lib.hid (below_quiet HB1.out hq)
      clear hq HC HB1 hgx
      by_cases h0 : i = 0
      · have hd : decide (i = 0) = true := decide_eq_true h0
        have HN := Lib.hid (HMU.out (.inl h0))
        clear HMU HMS
        go_wp2
        go_roundw
        case rel => exact ⟨i + 1, by omega, by go_num, by rw [HN.out], by rw [decide_eq_false (by omega)], HB2⟩
        case measure => simp [intOf]; omega
      · have hd : decide (i = 0) = false := decide_eq_false h0
        by_cases hm : M < x
        · have HN := Lib.hid (HMU.out (.inr hm))
          clear HMU HMS
          go_wp2
          go_roundw
          case rel => exact ⟨i + 1, by omega, by go_num, by rw [HN.out], by rw [decide_eq_false (by omega)], HB2⟩
          case measure => simp [intOf]; omega
        · have HN := Lib.hid (HMS.out (by omega))
          have hm' : decide (M < x) = false := decide_eq_false hm
          clear HMU HMS
          go_wp2
          go_roundw
          case rel => exact ⟨i + 1, by omega, by go_num, by rw [HN.out], by rw [decide_eq_false (by omega)], HB2⟩
          case measure => simp [intOf]; omega
    · obtain rfl : i = n := by omega
      generalize mxd (fun j => dotr a w j i) i = M at *
      generalize wr = W0 at *
      have HB0 := HB
      clear HB
      go_wp2
      go_loopw [9] (fun k_ wi => ∃ k : Nat, k ≤ i ∧ k_ = .int .i64 k ∧ Hid (∀ l, l < k → 0 < gi w l → dotr a w l i = M) ∧ Hid (Below W.heap.size W wi)) (fun k_ _ => i - (intOf k_).toNat)
      case atStart => exact ⟨0, Nat.zero_le _, rfl, Lib.hid (fun _ h => absurd h (by omega)), HB0⟩
      case round =>
        clear HB0
        obtain ⟨k, hk, rfl, HALL, HB⟩ := hrel
        by_cases hkl : k < i
        · have c1 := Keep.below HB.out _ _ (HY.out k hkl)
          by_cases hp : 0 < gi w k
          · have HC := Lib.hid (alone_spec i k wr (by omega) hkl)
            have HP := Lib.hid hp
            have HNO := Lib.hid (fun (h : dotr a w k i ≠ M) => pb_false (p := RestP a w i) (fun r => h (HRM.out.1 r k hkl hp)))
            have HYES := Lib.hid (fun (h : dotr a w k i = M) => (fun l hl hp => by
                by_cases e : l = k
                · subst e; exact h
                · exact HALL.out l (by omega) hp : ∀ l, l < k + 1 → 0 < gi w l → dotr a w l i = M))
            generalize gi w k = s at *
            go_wp2_with fail
            refine HC.out.mono ?_
            rintro e w1 ⟨rfl, ho, hb⟩
            have HB1 := Lib.hid (below_up HB.out hb)
            have HC := Lib.hid (HPU.out k hkl ▸ payUp_any b o rb ro cc i i c i cw _ _ a (onl i k) w w1 (HT.out.keep (Keep.below HB1.out)) ho.ints (HW.out.keep (Keep.below HB1.out)) (HPB.out k))
            clear ho hb HB c1
            by_cases he : dotr a w k i = M
            · have HN := Lib.hid (HYES.out he)
              rw [he] at HC
              clear HYES HNO he
              have hne : (M != M) = false := by simp
              go_wp2_with fail
              refine HC.out.mono ?_
              rintro e w2 ⟨rfl, hq⟩
              have HB2 := Lib.hid (below_quiet HB1.out hq)
              clear hq HC HB1
              go_wp2
              go_roundw
              case rel => exact ⟨k + 1, by omega, by go_num, HN, HB2⟩
              case measure => simp [intOf]; omega
            · have HN := Lib.hid (HNO.out he)
              have hne : (dotr a w k i != M) = true := by simpa using he
              clear HYES HNO he
              generalize dotr a w k i = x at *
              go_wp2_with fail
              refine HC.out.mono ?_
              rintro e w2 ⟨rfl, hq⟩
              have HB2 := Lib.hid (below_quiet HB1.out hq)
              clear hq HC HB1
              go_wp2
              go_ret
              exact ⟨ret_bool HN.out.symm, HB2.out⟩
          · have hd : decide (0 < gi w k) = false := decide_eq_false hp
            have HN := Lib.hid (show ∀ l, l < k + 1 → 0 < gi w l → dotr a w l i = M from fun l hl h => by
                by_cases e : l = k
                · subst e; exact absurd h hp
                · exact HALL.out l (by omega) h)
            generalize gi w k = s at *
            go_wp2
            go_roundw
            case rel => exact ⟨k + 1, by omega, by go_num, HN, HB⟩
            case measure => simp [intOf]; omega
        · obtain rfl : k = i := by omega
          have HN := Lib.hid (HALL.out)
          go_wp2
          go_ret
          exact ⟨ret_bool (pb_true (HRM.out.2 HN.out)).symm, HB.out⟩
end Go.Proofs.Ytlgnpfpdmjhhbaa

/- IsRest and MeanPay, by both programs. -/
namespace Go.Proofs.Ytlgnpfpdmjhhbaa
open Go.RowKit

theorem VQ.len {a : List (List Int)} {n : Nat} (v : VQ a) (hl : a.length = n) : (gr a 0).length = n := by have := v.2; omega

set_option maxRecDepth 100000 in
set_option maxHeartbeats 1600000 in
theorem IsRest_spec (A : Option Addr) (n c : Nat) (a : List (List Int)) (X : Option Addr) (nx cx : Nat) (x : List Int) (w : World) (ha : IntRows w A n c a) (hx : Ints w X nx cx x) :
    Calls Try.prog 27 #[.slice A n c, .slice X nx cx] w (Ret (.bool (pb (RQ a x))) w) := by
  have HX := Lib.hid ha
  have HY := Lib.hid hx
  have hl := ha.len
  have hlx := hx.len
  have B0 := Lib.hid (Below.refl w.heap.size w)
  clear ha hx
  by_cases hv : VQ a
  · have HC := Lib.hid (pb_true hv ▸ validSquare_any A n c a w HX.out)
    have hn1 := hv.1.n1
    have hn3 := hv.1.n3
    rw [hl] at hn1 hn3
    by_cases hs : VS x (n : Int)
    · have HRQ := Lib.hid (show pb (RQ a x) = pb (RestP a x n) from pb_congr ⟨fun h => by rw [← hl]; exact h.r, fun h => ⟨hv, by rw [hl]; exact hs, by rw [hl]; exact h⟩⟩)
      have hm := hv.len hl
      obtain ⟨b, o, rb, ro, cc, rfl, tab⟩ := HX.out.tab hv.1
      rw [hm] at tab
      have HT := Lib.hid tab
      have HBS := Lib.hid (VS.bds (n := n) hs)
      have HS := Lib.hid (fun W (k : Keep w W) => pb_true hs ▸ validShares_any X nx cx x (n : Int) W (HY.out.keep k) (by omega))
      obtain rfl : n = nx := by have := hs.1; omega
      clear hm tab hv hs hl hlx
      go_enter Try.func27, Try.ntmps27
      go_wp2_with fail
      refine HC.out.mono ?_
      rintro e w1 ⟨rfl, hb⟩
      have B1 := Lib.hid (below_quiet B0.out hb)
      clear hb HC B0
      have HC := Lib.hid (HS.out w1 (Keep.below B1.out))
      go_wp2_with fail
      refine HC.out.mono ?_
      rintro e w2 ⟨rfl, hb⟩
      have B2 := Lib.hid (below_quiet B1.out hb)
      clear hb HC B1
      have HC := Lib.hid (fits_any b o rb ro cc n c cx X a x w2 (HT.out.keep (Keep.below B2.out)) (HY.out.keep (Keep.below B2.out)) HBS.out)
      go_wp2_with fail
      refine HC.out.mono ?_
      rintro e w3 ⟨rfl, hb⟩
      have B3 := Lib.hid (below_up B2.out hb)
      clear hb HC B2
      go_wp2
      go_ret
      exact ⟨ret_bool HRQ.out.symm, B3.out⟩
    · have HNO := Lib.hid (pb_false (p := RQ a x) (fun h => hs (by have := h.s; rw [hl] at this; exact this)))
      have HS := Lib.hid (fun W (k : Keep w W) => pb_false hs ▸ validShares_any X nx cx x (n : Int) W (HY.out.keep k) (by omega))
      clear hv hs hl hlx
      go_enter Try.func27, Try.ntmps27
      go_wp2_with fail
      refine HC.out.mono ?_
      rintro e w1 ⟨rfl, hb⟩
      have B1 := Lib.hid (below_quiet B0.out hb)
      clear hb HC B0
      have HC := Lib.hid (HS.out w1 (Keep.below B1.out))
      go_wp2_with fail
      refine HC.out.mono ?_
      rintro e w2 ⟨rfl, hb⟩
      have B2 := Lib.hid (below_quiet B1.out hb)
      clear hb HC B1
      go_wp2
      go_ret
      exact ⟨ret_bool HNO.out.symm, B2.out⟩
  · have HNO := Lib.hid (pb_false (p := RQ a x) (fun h => hv h.q))
    have HC := Lib.hid (pb_false hv ▸ validSquare_any A n c a w HX.out)
    clear hv hl hlx
    go_enter Try.func27, Try.ntmps27
    go_wp2_with fail
    refine HC.out.mono ?_
    rintro e w1 ⟨rfl, hb⟩
    have B1 := Lib.hid (below_quiet B0.out hb)
    clear hb HC B0
    go_wp2
    go_ret
    exact ⟨ret_bool HNO.out.symm, B1.out⟩

set_option maxRecDepth 100000 in
set_option maxHeartbeats 1600000 in
theorem IsRest_impl (A : Option Addr) (n c : Nat) (a : List (List Int)) (X : Option Addr) (nx cx : Nat) (x : List Int) (w : World) (ha : IntRows w A n c a) (hx : Ints w X nx cx x) :
    Calls Try.prog 29 #[.slice A n c, .slice X nx cx] w (Ret (.bool (pb (RQ a x))) w) := by
  have HX := Lib.hid ha
  have HY := Lib.hid hx
  have hl := ha.len
  have hlx := hx.len
  have B0 := Lib.hid (Below.refl w.heap.size w)
  clear ha hx
  by_cases hv : VQ a
  · have HC := Lib.hid (pb_true hv ▸ ValidSquare_impl A n c a w HX.out)
    have hn1 := hv.1.n1
    have hn3 := hv.1.n3
    rw [hl] at hn1 hn3
    have HVS := Lib.hid (show pb (VS x (n : Int)) = pb (VSn x (n : Int)) by rw [← hl]; exact (hv.1.vsn x).symm)
    by_cases hs : VS x (n : Int)
    · have HRQ := Lib.hid (show pb (RQ a x) = pb (RestP a x n) from pb_congr ⟨fun h => by rw [← hl]; exact h.r, fun h => ⟨hv, by rw [hl]; exact hs, by rw [hl]; exact h⟩⟩)
      have hm := hv.len hl
      obtain ⟨b, o, rb, ro, cc, rfl, tab⟩ := HX.out.tab hv.1
      rw [hm] at tab
      have HT := Lib.hid tab
      have HBS := Lib.hid (VS.bds (n := n) hs)
      have HS := Lib.hid (fun W (k : Keep w W) => HVS.out.symm.trans (pb_true hs) ▸ ValidShares_impl X nx cx x (n : Int) W (HY.out.keep k))
      obtain rfl : n = nx := by have := hs.1; omega
      clear hm tab hv hs hl hlx
      go_enter Try.func29, Try.ntmps29
      go_wp2_with fail
      refine HC.out.mono ?_
      rintro e w1 ⟨rfl, hb⟩
      have B1 := Lib.hid (below_quiet B0.out hb)
      clear hb HC B0
      have HC := Lib.hid (HS.out w1 (Keep.below B1.out))
      go_wp2_with fail
      refine HC.out.mono ?_
      rintro e w2 ⟨rfl, hb⟩
      have B2 := Lib.hid (below_quiet B1.out hb)
      clear hb HC B1
      have HC := Lib.hid (payAgainst_any a x n b o c cx rb ro cc X w2 (HT.out.keep (Keep.below B2.out)) (HY.out.keep (Keep.below B2.out)) HBS.out)
      go_wp2_with fail
      refine HC.out.mono ?_
      rintro e w3 ⟨pa, pw, rfl, hp, hb⟩
      have B3 := Lib.hid (below_up B2.out hb)
      have P := Lib.hid hp
      clear hb hp HC B2
      have HC := Lib.hid (noneHasMore_any a x n pa pw b o c cx rb ro cc X w3 P.out)
      go_wp2_with fail
      refine HC.out.mono ?_
      rintro e w4 ⟨rfl, hb⟩
      have B4 := Lib.hid (below_up B3.out hb)
      clear hb HC B3
      go_wp2
      go_ret
      exact ⟨ret_bool HRQ.out.symm, B4.out⟩
    · have HNO := Lib.hid (pb_false (p := RQ a x) (fun h => hs (by have := h.s; rw [hl] at this; exact this)))
      have HS := Lib.hid (fun W (k : Keep w W) => HVS.out.symm.trans (pb_false hs) ▸ ValidShares_impl X nx cx x (n : Int) W (HY.out.keep k))
      clear hv hs hl hlx
      go_enter Try.func29, Try.ntmps29
      go_wp2_with fail
      refine HC.out.mono ?_
      rintro e w1 ⟨rfl, hb⟩
      have B1 := Lib.hid (below_quiet B0.out hb)
      clear hb HC B0
      have HC := Lib.hid (HS.out w1 (Keep.below B1.out))
      go_wp2_with fail
      refine HC.out.mono ?_
      rintro e w2 ⟨rfl, hb⟩
      have B2 := Lib.hid (below_quiet B1.out hb)
      clear hb HC B1
      go_wp2
      go_ret
      exact ⟨ret_bool HNO.out.symm, B2.out⟩
  · have HNO := Lib.hid (pb_false (p := RQ a x) (fun h => hv h.q))
    have HC := Lib.hid (pb_false hv ▸ ValidSquare_impl A n c a w HX.out)
    clear hv hl hlx
    go_enter Try.func29, Try.ntmps29
    go_wp2_with fail
    refine HC.out.mono ?_
    rintro e w1 ⟨rfl, hb⟩
    have B1 := Lib.hid (below_quiet B0.out hb)
    clear hb HC B0
    go_wp2
    go_ret
    exact ⟨ret_bool HNO.out.symm, B1.out⟩

theorem POk_sq (a : List (List Int)) (x : List Int) : POk a x x ↔ VQ a ∧ VS x a.length := by
  constructor
  · rintro ⟨v, h1, h2⟩
    refine ⟨⟨v, ?_⟩, h1⟩
    have e1 := h1.1
    have e2 := h2.1
    omega
  · rintro ⟨v, h⟩
    exact ⟨v.1, h, by rw [← v.2]; exact h⟩

set_option maxRecDepth 100000 in
set_option maxHeartbeats 1600000 in
theorem MeanPay_impl (A : Option Addr) (n c : Nat) (a : List (List Int)) (X : Option Addr) (nx cx : Nat) (x : List Int) (w : World) (ha : IntRows w A n c a) (hx : Ints w X nx cx x) :
    Calls Try.prog 31 #[.slice A n c, .slice X nx cx] w (Ret (.tuple #[payF a x x, .bool (pb (POk a x x))]) w) := by
  have HPF := Lib.hid (PF.start w)
  have HC := Lib.hid (PayOf_impl A X X n c nx cx nx cx a x x _ (ha.keep HPF.out.keep) (hx.keep HPF.out.keep) (hx.keep HPF.out.keep))
  obtain ⟨U, D, hf⟩ := payF_form a x x
  rw [hf] at HC ⊢
  generalize pb (POk a x x) = K at *
  clear hf ha hx
  go_enter Try.func31, Try.ntmps31
  go_wp2_with fail
  refine HC.out.mono ?_
  rintro e w1 ⟨rfl, hb⟩
  have HPF1 := Lib.hid (HPF.out.up hb)
  clear hb HC HPF
  have HPF := HPF1
  clear HPF1
  have c0 := blk_cell HPF.out.box (i := 0) rfl
  have c1 := blk_cell HPF.out.box (i := 1) rfl
  have f0 := blk_frozen HPF.out.box 0
  have f1 := blk_frozen HPF.out.box 1
  go_wp2
  clear c0 c1 f0 f1
  have B1 := blk_set (blk_set HPF.out.box 0 (.int .i64 U)) 1 (.int .i64 D)
  have r0 := blk_cell B1 (i := 0) (v := .int .i64 U) rfl
  have r1 := blk_cell B1 (i := 1) (v := .int .i64 D) rfl
  have HBX := Lib.hid ((HPF.out.below.setCell (p := ⟨w.heap.size, 0, none⟩) (Nat.le_refl _) (.int .i64 U)).setCell (p := ⟨w.heap.size, 1, none⟩) (Nat.le_refl _) (.int .i64 D))
  clear B1 HPF
  generalize (w1.setCell ⟨w.heap.size, 0, none⟩ (.int .i64 U)).setCell ⟨w.heap.size, 1, none⟩ (.int .i64 D) = WE at *
  refine bodyPost_ret (v := .tuple #[.agg #[.int .i64 U, .int .i64 D], .bool K]) (by simp [results, Try.results31, go_sem, r0, r1]) rfl ?_
  exact ⟨rfl, HBX.out⟩

set_option maxRecDepth 100000 in
set_option maxHeartbeats 1600000 in
theorem MeanPay_spec (A : Option Addr) (n c : Nat) (a : List (List Int)) (X : Option Addr) (nx cx : Nat) (x : List Int) (w : World) (ha : IntRows w A n c a) (hx : Ints w X nx cx x) :
    Calls Try.prog 30 #[.slice A n c, .slice X nx cx] w (Ret (.tuple #[payF a x x, .bool (pb (POk a x x))]) w) := by
  have HX := Lib.hid ha
  have HY := Lib.hid hx
  have hl := ha.len
  have hlx := hx.len
  have HPF := Lib.hid (PF.start w)
  clear ha hx
  by_cases hv : VQ a
  · have HC := Lib.hid (pb_true hv ▸ validSquare_any A n c a _ (HX.out.keep HPF.out.keep))
    have hn1 := hv.1.n1
    have hn3 := hv.1.n3
    rw [hl] at hn1 hn3
    by_cases hs : VS x (n : Int)
    · have HOK := Lib.hid ((POk_sq a x).2 ⟨hv, by rw [hl]; exact hs⟩)
      have hm := hv.len hl
      have HPB := Lib.hid (hv.1.pb_ HOK.out.x HOK.out.y)
      rw [hl, hm] at HPB
      rw [payF_yes HOK.out, pb_true HOK.out, hl, hm]
      obtain ⟨b, o, rb, ro, cc, rfl, tab⟩ := HX.out.tab hv.1
      rw [hm] at tab
      have HT := Lib.hid tab
      have hts := hs.bd (by omega)
      have HS := Lib.hid (fun W (k : Keep w W) => pb_true hs ▸ validShares_any X nx cx x (n : Int) W (HY.out.keep k) (by omega))
      have HSU := Lib.hid (hs.sumOk (by omega))
      obtain rfl : n = nx := by have := hs.1; omega
      have hpu := payU_bd HPB.out hn3 (Nat.le_refl n)
      have hxy : 1 ≤ tot x * tot x ∧ tot x * tot x ≤ 9000000 := by
        have h1 : 1 * 1 ≤ tot x * tot x := Int.mul_le_mul (by omega) (by omega) (by omega) (by omega)
        have h2 : tot x * tot x ≤ 3000 * 3000 := Int.mul_le_mul hts.2 hts.2 (by omega) (by omega)
        omega
      obtain ⟨xy1, xy2⟩ := hxy
      obtain ⟨t1, t2⟩ := hts
      clear hm tab hv hs hl hlx
      go_enter Try.func30, Try.ntmps30
      go_wp2_with fail
      refine HC.out.mono ?_
      rintro e w1 ⟨rfl, hb⟩
      have HPF1 := Lib.hid (HPF.out.up hb.below)
      clear hb HC HPF
      have HC := Lib.hid (HS.out w1 HPF1.out.keep)
      go_wp2_with fail
      refine HC.out.mono ?_
      rintro e w2 ⟨rfl, hb⟩
      have HPF2 := Lib.hid (HPF1.out.up hb.below)
      clear hb HC HPF1
      have HC := Lib.hid (payUp_any b o rb ro cc n n c cx cx _ _ a x x w2 (HT.out.keep HPF2.out.keep) (HY.out.keep HPF2.out.keep) (HY.out.keep HPF2.out.keep) HPB.out)
      go_wp2_with fail
      refine HC.out.mono ?_
      rintro e w3 ⟨rfl, hb⟩
      have HPF3 := Lib.hid (HPF2.out.up hb.below)
      clear hb HC HPF2
      have HC := Lib.hid (sum_any _ _ _ _ w3 (HY.out.keep HPF3.out.keep) HSU.out)
      go_wp2_with fail
      refine HC.out.mono ?_
      rintro e w4 ⟨rfl, hb⟩
      have HPF4 := Lib.hid (HPF3.out.up hb.below)
      clear hb HC HPF3
      have HC := Lib.hid (sum_any _ _ _ _ w4 (HY.out.keep HPF4.out.keep) HSU.out)
      go_wp2_with fail
      refine HC.out.mono ?_
      rintro e w5 ⟨rfl, hb⟩
      have HPF5 := Lib.hid (HPF4.out.up hb.below)
      clear hb HC HPF4
      have HC := Lib.hid (frac_any (payU a x x n n) (tot x * tot x) w5 (by unfold Mid; omega) (by unfold Mid; omega) xy1)
      go_wp2_with fail
      refine HC.out.mono ?_
      rintro e w6 ⟨rfl, hb⟩
      have HPF6 := Lib.hid (HPF5.out.up hb)
      clear hb HC HPF5
      have HFV : Hid (frV (payU a x x n n) (tot x * tot x) = .agg #[.int .i64 (frU (payU a x x n n) (tot x * tot x)), .int .i64 (frD (payU a x x n n) (tot x * tot x))]) := Lib.hid rfl
      rw [HFV.out]
      generalize frU (payU a x x n n) (tot x * tot x) = U at *
      generalize frD (payU a x x n n) (tot x * tot x) = D at *
      have HPF := HPF6
      clear HPF6
      have c0 := blk_cell HPF.out.box (i := 0) rfl
      have c1 := blk_cell HPF.out.box (i := 1) rfl
      have f0 := blk_frozen HPF.out.box 0
      have f1 := blk_frozen HPF.out.box 1
      go_wp2
      clear c0 c1 f0 f1
      have B1 := blk_set (blk_set HPF.out.box 0 (.int .i64 U)) 1 (.int .i64 D)
      have r0 := blk_cell B1 (i := 0) (v := .int .i64 U) rfl
      have r1 := blk_cell B1 (i := 1) (v := .int .i64 D) rfl
      have HBX := Lib.hid ((HPF.out.below.setCell (p := ⟨w.heap.size, 0, none⟩) (Nat.le_refl _) (.int .i64 U)).setCell (p := ⟨w.heap.size, 1, none⟩) (Nat.le_refl _) (.int .i64 D))
      clear B1 HPF
      generalize (w6.setCell ⟨w.heap.size, 0, none⟩ (.int .i64 U)).setCell ⟨w.heap.size, 1, none⟩ (.int .i64 D) = WE at *
      refine bodyPost_ret (v := .tuple #[.agg #[.int .i64 U, .int .i64 D], .bool true]) (by simp [results, Try.results30, go_sem, r0, r1]) rfl ?_
      exact ⟨by rw [HFV.out], HBX.out⟩
    · have HNO := Lib.hid (show payF a x x = .agg #[.int .i64 0, .int .i64 0] ∧ pb (POk a x x) = false from ⟨payF_no (fun h => hs (by have := h.x; rw [hl] at this; exact this)), pb_false (fun h => hs (by have := h.x; rw [hl] at this; exact this))⟩)
      have HS := Lib.hid (fun W (k : Keep w W) => pb_false hs ▸ validShares_any X nx cx x (n : Int) W (HY.out.keep k) (by omega))
      clear hv hs hl hlx
      go_enter Try.func30, Try.ntmps30
      go_wp2_with fail
      refine HC.out.mono ?_
      rintro e w1 ⟨rfl, hb⟩
      have HPF1 := Lib.hid (HPF.out.up hb.below)
      clear hb HC HPF
      have HC := Lib.hid (HS.out w1 HPF1.out.keep)
      go_wp2_with fail
      refine HC.out.mono ?_
      rintro e w2 ⟨rfl, hb⟩
      have HPF2 := Lib.hid (HPF1.out.up hb.below)
      clear hb HC HPF1
      have HPF := HPF2
      clear HPF2
      have c0 := blk_cell HPF.out.box (i := 0) rfl
      have c1 := blk_cell HPF.out.box (i := 1) rfl
      have f0 := blk_frozen HPF.out.box 0
      have f1 := blk_frozen HPF.out.box 1
      go_wp2
      clear c0 c1 f0 f1
      have B1 := blk_set (blk_set HPF.out.box 0 (.int .i64 0)) 1 (.int .i64 0)
      have r0 := blk_cell B1 (i := 0) (v := .int .i64 0) rfl
      have r1 := blk_cell B1 (i := 1) (v := .int .i64 0) rfl
      have HBX := Lib.hid ((HPF.out.below.setCell (p := ⟨w.heap.size, 0, none⟩) (Nat.le_refl _) (.int .i64 0)).setCell (p := ⟨w.heap.size, 1, none⟩) (Nat.le_refl _) (.int .i64 0))
      clear B1 HPF
      generalize (w2.setCell ⟨w.heap.size, 0, none⟩ (.int .i64 0)).setCell ⟨w.heap.size, 1, none⟩ (.int .i64 0) = WE at *
      refine bodyPost_ret (v := .tuple #[.agg #[.int .i64 0, .int .i64 0], .bool false]) (by simp [results, Try.results30, go_sem, r0, r1]) rfl ?_
      exact ⟨by rw [HNO.out.1, HNO.out.2], HBX.out⟩
  · have HNO := Lib.hid (show payF a x x = .agg #[.int .i64 0, .int .i64 0] ∧ pb (POk a x x) = false from ⟨payF_no (fun h => hv ((POk_sq a x).1 h).1), pb_false (fun h => hv ((POk_sq a x).1 h).1)⟩)
    have HC := Lib.hid (pb_false hv ▸ validSquare_any A n c a _ (HX.out.keep HPF.out.keep))
    clear hv hl hlx
    go_enter Try.func30, Try.ntmps30
    go_wp2_with fail
    refine HC.out.mono ?_
    rintro e w1 ⟨rfl, hb⟩
    have HPF1 := Lib.hid (HPF.out.up hb.below)
    clear hb HC HPF
    have HPF := HPF1
    clear HPF1
    have c0 := blk_cell HPF.out.box (i := 0) rfl
    have c1 := blk_cell HPF.out.box (i := 1) rfl
    have f0 := blk_frozen HPF.out.box 0
    have f1 := blk_frozen HPF.out.box 1
    go_wp2
    clear c0 c1 f0 f1
    have B1 := blk_set (blk_set HPF.out.box 0 (.int .i64 0)) 1 (.int .i64 0)
    have r0 := blk_cell B1 (i := 0) (v := .int .i64 0) rfl
    have r1 := blk_cell B1 (i := 1) (v := .int .i64 0) rfl
    have HBX := Lib.hid ((HPF.out.below.setCell (p := ⟨w.heap.size, 0, none⟩) (Nat.le_refl _) (.int .i64 0)).setCell (p := ⟨w.heap.size, 1, none⟩) (Nat.le_refl _) (.int .i64 0))
    clear B1 HPF
    generalize (w1.setCell ⟨w.heap.size, 0, none⟩ (.int .i64 0)).setCell ⟨w.heap.size, 1, none⟩ (.int .i64 0) = WE at *
    refine bodyPost_ret (v := .tuple #[.agg #[.int .i64 0, .int .i64 0], .bool false]) (by simp [results, Try.results30, go_sem, r0, r1]) rfl ?_
    exact ⟨by rw [HNO.out.1, HNO.out.2], HBX.out⟩

end Go.Proofs.Ytlgnpfpdmjhhbaa

/- All cofactors of a square, by the program. -/
namespace Go.Proofs.Ytlgnpfpdmjhhbaa
open Go.RowKit
open V (sumN detN rowC colC cofN minorN skip sgn)

def cofR (n : Nat) (f : Nat → Nat → Int) (i j : Nat) : List Int := (List.range j).map fun j => cofN n f i j
def cofM (n : Nat) (f : Nat → Nat → Int) (i : Nat) : List (List Int) := (List.range i).map fun i => cofR n f i n
theorem cofR_succ (n : Nat) (f : Nat → Nat → Int) (i j : Nat) : cofR n f i (j + 1) = cofR n f i j ++ [cofN n f i j] := by simp [cofR, List.range_succ]
theorem cofM_succ (n : Nat) (f : Nat → Nat → Int) (i : Nat) : cofM n f (i + 1) = cofM n f i ++ [cofR n f i n] := by simp [cofM, List.range_succ]
theorem cofR_len (n : Nat) (f : Nat → Nat → Int) (i j : Nat) : (cofR n f i j).length = j := by simp [cofR]
theorem cofM_len (n : Nat) (f : Nat → Nat → Int) (i : Nat) : (cofM n f i).length = i := by simp [cofM]
theorem gi_cofR {n : Nat} {f : Nat → Nat → Int} {i j q : Nat} (h : q < j) : gi (cofR n f i j) q = cofN n f i q := by rw [gi_get (by rw [cofR_len]; exact h)]; simp [cofR]
theorem gr_cofM {n : Nat} {f : Nat → Nat → Int} {i p : Nat} (h : p < i) : gr (cofM n f i) p = cofR n f p n := by rw [gr_get (by rw [cofM_len]; exact h)]; simp [cofM]
theorem cofM_sq (n : Nat) (f : Nat → Nat → Int) : Sq n (cofM n f n) (cofN n f) := ⟨cofM_len _ _ _, fun p hp => by rw [gr_cofM hp, cofR_len], fun p q hp hq => by unfold g2; rw [gr_cofM hp, gi_cofR hq]⟩
theorem cofR_bd {n : Nat} {f : Nat → Nat → Int} (hn : n ≤ 3) (h : Ab n f) {i : Nat} (hi : i < n) {j : Nat} (hj : j ≤ n) : ∀ x ∈ cofR n f i j, -118098 ≤ x ∧ x ≤ 118098 := fun x hx => by
  obtain ⟨q, hq, rfl⟩ := List.mem_map.1 hx
  have := List.mem_range.1 hq
  exact cof_bd hn h hi (by omega)

set_option maxRecDepth 100000 in
set_option maxHeartbeats 3200000 in
theorem cofactorsM_any (n : Nat) (hn : n ≤ 3) (h0 : 0 < n) (A : Option Addr) (c : Nat) (xss : List (List Int)) (f : Nat → Nat → Int) (w : World) (hx : IntRows w A n c xss) (hq : Sq n xss f) (ha : Ab n f) :
    Calls Try.prog 109 #[.slice A n c] w (NewT w (cofM n f n)) := by
  have HX := Lib.hid hx
  have HQ := Lib.hid hq
  have HAB := Lib.hid ha
  have HS0 := Lib.hid (PU.start w n)
  obtain ⟨i0, hi0, hz0, hz1, hz2⟩ := info_parts Try.infoI
  obtain ⟨b, o, rfl, hc⟩ := hx.at_ h0
  have HC := Lib.hid hc
  have hmk := run_make_row' (P := Try.prog) 22 24 (.slice none 0 0) 24 Try.underlying22 Try.info24 rfl .i64 .i64 n (by omega) (by omega)
  clear hx hq ha hc
  go_enter Try.func109, Try.ntmps109
  go_wp2
  clear hmk
  go_loopw [12] (fun t wr => ∃ (p H : Nat) (vs : Nat → Value), p ≤ n ∧ t = .int .i64 p ∧ Hid (PU w n H p vs (cofM n f p) (.slice none 0 0) [] wr)) (fun t _ => n - (intOf t).toNat)
  case atStart => exact ⟨0, _, _, Nat.zero_le _, rfl, HS0⟩
  case round =>
    clear HS0
    obtain ⟨p, H, vs, hp, rfl, HP⟩ := hrel
    by_cases hlt : p < n
    · obtain ⟨R, cc, c1, hR⟩ := HC.out p hlt
      rw [HQ.out.row p hlt] at c1
      have c2 := Keep.below HP.out.up _ _ c1
      have HZ : Hid (cofR n f p 0 = []) := Lib.hid rfl
      clear c1 hR
      rw [← HZ.out] at HP
      go_wp2
      clear c2
      go_loopw [19] (fun t wi => ∃ (q : Nat) (vs : Nat → Value) (v : Value), q ≤ n ∧ t = .int .i64 q ∧ Hid (PU w n H p vs (cofM n f p) v (cofR n f p q) wi)) (fun t _ => n - (intOf t).toNat)
      case atStart => exact ⟨0, vs, _, Nat.zero_le _, rfl, HP⟩
      case round =>
        clear HP
        obtain ⟨q, vs, v, hq, rfl, HP⟩ := hrel
        obtain ⟨Av, cv, rfl⟩ := HP.out.bi.form
        by_cases hlm : q < n
        · have HCF := Lib.hid (fun W (k : Keep w W) => cofactor_any n hn _ c xss f p q W (HX.out.keep k) HQ.out HAB.out hlt hlm)
          have HRS := Lib.hid (cofR_succ n f p q)
          have HML := Lib.hid (cofR_len n f p q)
          have hcb := cof_bd hn HAB.out hlt hlm
          have k4 := HP.out.cell hlt
          have hHs := HP.out.hs
          have hlh := HP.out.lh
          generalize hys : cofR n f p q = ys at *
          have hyl : ys.length ≤ 3 := by have := HML.out; omega
          generalize cofN n f p q = x at *
          go_wp2
          go_region_law ((first
            | (refine step_append_lies _ (by rfl) _ _ _ (by rfl) H 3 i0 _ 1 8 Try.underlying24 hi0 hz0 hz1 hz2 rfl (by omega) (.slice Av ys.length cv) ys.length (ys.map iv) (by rfl) (HPc.out.bi.own.alloc _) ⟨w2.heap.size, 0, none⟩ 1 1 [iv x] (by rfl) (by rfl) (World.news_of_block (w := w2.alloc (.cells #[iv x] 3)) (cs := #[iv x]) (t := 3) (fr := (0, 0)) (heap_alloc_new w2 _)) (by simp [Value.oneCell', iv]) (by omega) (by unfold maxLen; omega) (by omega) (by simp; omega) (w2.heap.size + 1) (by simp) ?_; intro gg cap w1 hown1 hgrow hat hlt1; obtain ⟨k5, k6⟩ := HPc.out.mid_cell hlt (below_alloc w2 _) hgrow; have HP2 := Lib.hid (HPc.out.push hlt (below_alloc w2 _) hown1 hgrow hlt1); clear hown1 hgrow hat hlt1 HPc)
            | (go_simp; go_at_call 113; refine (HCF.out _ (Keep.below HP.out.up.drew)).mono ?_; rintro e w2 ⟨rfl, hb⟩; have HPc := Lib.hid ((HP.out.qu ⟨1, rfl⟩).below hb); have k8 := HPc.out.cell hlt; have k9 : (w2.alloc (.cells #[.int .i64 x] 3)).cell? ⟨w.heap.size, p, none⟩ = some (.slice Av ys.length cv) := (by rw [World.cell?_alloc_lt _ _ _ (World.block_lt_of_cell? _ _ k8)]; exact k8); have hHs2 := HPc.out.hs; clear hb HP)))
          all_goals
            clear k4 k5 k6 k8 k9
            go_wp2
            go_roundw
            case rel => exact ⟨q + 1, _, _, by omega, by go_num, Lib.hid (by rw [HRS.out]; first | exact HP2.out | exact HP2.out.qu ⟨1, rfl⟩ | exact HP2.out.qu ⟨_, rfl⟩)⟩
            case measure => simp [intOf]; omega
        · obtain rfl : q = n := by omega
          have HBD := Lib.hid (cofR_bd hn HAB.out hlt (Nat.le_refl q))
          have HN := Lib.hid (HP.out.next hlt (by rw [cofR_len]; omega) (fun y hy => by have := HBD.out y hy; omega))
          have HMS := Lib.hid (cofM_succ q f p)
          clear HP HBD
          go_wp2
          go_roundw
          case rel => exact ⟨p + 1, _, _, by omega, by go_num, Lib.hid (by rw [HMS.out]; exact HN.out)⟩
          case measure => simp [intOf]; omega
    · obtain rfl : p = n := by omega
      have HO := Lib.hid (HP.out.done (by omega))
      have HB := Lib.hid HP.out.up
      have HL := Lib.hid (cofM_len p f p)
      clear HP
      go_wp2
      go_ret
      exact ⟨_, _, _, w.heap.size, rfl, HL.out.symm, HO.out, HB.out⟩
end Go.Proofs.Ytlgnpfpdmjhhbaa

/- Tables with the other signs, by the model. -/
namespace Go.Proofs.Ytlgnpfpdmjhhbaa
open Go.RowKit

/-- A new table, as append has made it. -/
def NewB (w : World) (yss : List (List Int)) (e : Ending) (w' : World) : Prop :=
  ∃ Av c vs, e = .returned (.slice Av yss.length c) ∧ Bld w.heap.size w'.heap.size w' (.slice Av yss.length c) vs yss ∧ Below w.heap.size w w'
end Go.Proofs.Ytlgnpfpdmjhhbaa

/- The least mean over columns alone, by the model. -/
namespace Go.Proofs.Ytlgnpfpdmjhhbaa
open Go.RowKit

theorem PB.onl {a x y n m} (h : PB a x y n m) (j : Nat) : PB a x (onl m j) n m :=
  ⟨h.a, h.x, fun k hk => by have := onl_bd (n := m) (i := j) hk; omega⟩
theorem col_bd {a x y n m} (h : PB a x y n m) (hn : n ≤ 3) (hm : m ≤ 3) (j : Nat) : -81000000 ≤ colU a x n m j ∧ colU a x n m j ≤ 81000000 := by
  have := payU_bd (h.onl j) hm (Nat.le_refl n)
  unfold colU
  omega
theorem wst_bd {a x y n m} (h : PB a x y n m) (hn : n ≤ 3) (hm : m ≤ 3) (tx : 0 < tot x) (tx3 : tot x ≤ 3000) : ∀ k, (-81000000 ≤ (wst a x n m k).1 ∧ (wst a x n m k).1 ≤ 81000000) ∧ 1 ≤ (wst a x n m k).2 ∧ (wst a x n m k).2 ≤ 3000
  | 0 => ⟨frU_bd tx (col_bd h hn hm 0), frD_bd tx tx3⟩
  | k + 1 => by
    simp only [wst]
    split
    · exact ⟨frU_bd tx (col_bd h hn hm (k + 1)), frD_bd tx tx3⟩
    · exact wst_bd h hn hm tx tx3 k
theorem wst_yes {a x n m k} (h : lessB (frU (colU a x n m (k + 1)) (tot x)) (frD (colU a x n m (k + 1)) (tot x)) (wst a x n m k).1 (wst a x n m k).2 = true) :
    wst a x n m (k + 1) = (frU (colU a x n m (k + 1)) (tot x), frD (colU a x n m (k + 1)) (tot x)) := by
  unfold lessB at h
  simp only [decide_eq_true_eq] at h
  simp only [wst]
  rw [if_pos h]
theorem wst_no {a x n m k} (h : lessB (frU (colU a x n m (k + 1)) (tot x)) (frD (colU a x n m (k + 1)) (tot x)) (wst a x n m k).1 (wst a x n m k).2 = false) : wst a x n m (k + 1) = wst a x n m k := by
  unfold lessB at h
  simp only [decide_eq_false_iff_not] at h
  simp only [wst]
  rw [if_neg h]

/-- The boxes of the result and of what is the least so far. -/
structure WO (w W : World) (U D : Int) : Prop where
  b0 : Blk W w.heap.size 32 #[.int .i64 0, .int .i64 0]
  b1 : Blk W (w.heap.size + 1) 32 #[.int .i64 U, .int .i64 D]
  below : Below w.heap.size w W
theorem WO.up {w W W' U D} (h : WO w W U D) (k : Below W.heap.size W W') : WO w W' U D := ⟨blk_below h.b0 k, blk_below h.b1 k, below_up h.below k⟩
theorem WO.keep {w W U D} (h : WO w W U D) : Keep w W := Keep.below h.below
theorem WO.start (w : World) : WO w ((w.alloc (.cells #[.int .i64 0, .int .i64 0] 32)).alloc (.cells #[.int .i64 0, .int .i64 0] 32)) 0 0 := by
  have h := blk_new (w.alloc (.cells #[.int .i64 0, .int .i64 0] 32)) 32 #[.int .i64 0, .int .i64 0]
  rw [World.size_alloc] at h
  exact ⟨blk_old (blk_new _ _ _) _, h, below_up (below_alloc _ _) (below_alloc _ _)⟩
theorem WO.set {w W U D} (h : WO w W U D) (U' D' : Int) : WO w ((W.setCell ⟨w.heap.size + 1, 0, none⟩ (.int .i64 U')).setCell ⟨w.heap.size + 1, 1, none⟩ (.int .i64 D')) U' D' :=
  ⟨blk_other (blk_other h.b0 (p := ⟨w.heap.size + 1, 0, none⟩) (by show w.heap.size ≠ w.heap.size + 1; omega) _) (p := ⟨w.heap.size + 1, 1, none⟩) (by show w.heap.size ≠ w.heap.size + 1; omega) _,
   blk_set (blk_set h.b1 0 (.int .i64 U')) 1 (.int .i64 D'),
   (h.below.setCell (p := ⟨w.heap.size + 1, 0, none⟩) (by show w.heap.size ≤ w.heap.size + 1; omega) _).setCell (p := ⟨w.heap.size + 1, 1, none⟩) (by show w.heap.size ≤ w.heap.size + 1; omega) _⟩

end Go.Proofs.Ytlgnpfpdmjhhbaa

/- The worst mean of shares, by both programs. -/
namespace Go.Proofs.Ytlgnpfpdmjhhbaa
open Go.RowKit

structure WOk (a : List (List Int)) (x : List Int) : Prop where
  v : VT a
  x : VS x a.length
def wstV (p : Int × Int) : Value := .agg #[.int .i64 p.1, .int .i64 p.2]
def wlast (a : List (List Int)) (x : List Int) : Int × Int := wst a x a.length (gr a 0).length ((gr a 0).length - 1)
noncomputable def worF (a : List (List Int)) (x : List Int) : Int × Int := if pb (WOk a x) = true then wlast a x else (0, 0)
theorem worF_yes {a x} (h : WOk a x) : worF a x = wlast a x := by rw [worF, if_pos (pb_true h)]
theorem worF_no {a x} (h : ¬ WOk a x) : worF a x = (0, 0) := by rw [worF, if_neg (by rw [pb_false h]; decide)]
theorem wstV_form (p : Int × Int) : ∃ U D, wstV p = .agg #[.int .i64 U, .int .i64 D] := ⟨_, _, rfl⟩
theorem VT.pbx {a : List (List Int)} {x : List Int} (v : VT a) (hx : VS x a.length) : PB a x (onl (gr a 0).length 0) a.length (gr a 0).length :=
  ⟨fun i j hi hj => v.bd hi hj, fun i hi => hx.2.1 i (by have := hx.1; omega), fun j hj => by have := onl_bd (n := (gr a 0).length) (i := 0) hj; omega⟩

/-- The boxes of the result and of what is the least so far, at h. -/
structure WP (w W : World) (h : Nat) (U D : Int) : Prop where
  b0 : Blk W w.heap.size 32 #[.int .i64 0, .int .i64 0]
  b1 : Blk W h 32 #[.int .i64 U, .int .i64 D]
  lt : w.heap.size < h
  below : Below w.heap.size w W
theorem WP.up {w W W' h U D} (p : WP w W h U D) (k : Below W.heap.size W W') : WP w W' h U D := ⟨blk_below p.b0 k, blk_below p.b1 k, p.lt, below_up p.below k⟩
theorem WP.keep {w W h U D} (p : WP w W h U D) : Keep w W := Keep.below p.below
theorem WP.start {w W : World} (p : PF w W) (U D : Int) : WP w (W.alloc (.cells #[.int .i64 U, .int .i64 D] 32)) W.heap.size U D :=
  ⟨blk_old p.box _, blk_new _ _ _, blk_lt p.box, below_up p.below (below_alloc _ _)⟩
theorem WP.set {w W h U D} (p : WP w W h U D) (U' D' : Int) : WP w ((W.setCell ⟨h, 0, none⟩ (.int .i64 U')).setCell ⟨h, 1, none⟩ (.int .i64 D')) h U' D' := by
  have hl := p.lt
  exact ⟨blk_other (blk_other p.b0 (p := ⟨h, 0, none⟩) (by show w.heap.size ≠ h; omega) _) (p := ⟨h, 1, none⟩) (by show w.heap.size ≠ h; omega) _,
   blk_set (blk_set p.b1 0 (.int .i64 U')) 1 (.int .i64 D'), hl,
   (p.below.setCell (p := ⟨h, 0, none⟩) (by show w.heap.size ≤ h; omega) _).setCell (p := ⟨h, 1, none⟩) (by show w.heap.size ≤ h; omega) _⟩
theorem frV_onl (u : Int) (x : List Int) {m j : Nat} (h : j < m) : frV u (tot x * tot (onl m j)) = .agg #[.int .i64 (frU u (tot x)), .int .i64 (frD u (tot x))] := by
  rw [tot_onl h, Int.mul_one]; rfl

end Go.Proofs.Ytlgnpfpdmjhhbaa

/- Best shares, by the model. -/
namespace Go.Proofs.Ytlgnpfpdmjhhbaa
open Go.RowKit

theorem VT.small {a : List (List Int)} (v : VT a) : Small a := by
  have h3 := v.n3
  refine ⟨by omega, fun r hr => ?_⟩
  obtain ⟨k, hk, rfl⟩ := List.mem_iff_getElem.1 hr
  have h1 := v.rows k hk
  rw [← gr_get hk]
  have h2 := h1.1
  have h4 := v.m3
  refine ⟨by omega, fun x hx => ?_⟩
  obtain ⟨j, hj, rfl⟩ := List.mem_iff_getElem.1 hx
  have := h1.2 j hj
  unfold InR at this
  rw [gi_get hj] at this
  omega
/-- The table as the second player has it. -/
def ntab (a : List (List Int)) : List (List Int) := mtab (flip a a.length (gr a 0).length) (flip a a.length (gr a 0).length).length
theorem ntab_len (a : List (List Int)) : (ntab a).length = (gr a 0).length := by unfold ntab; rw [mtab_len, flip_len]
theorem VT.ntab {a : List (List Int)} (v : VT a) : VT (ntab a) := v.flip.minus
theorem VT.ntab_m {a : List (List Int)} (v : VT a) : (gr (Go.Proofs.Ytlgnpfpdmjhhbaa.ntab a) 0).length = a.length := by
  have h0 := v.m1
  have h1 := flip_len a a.length (gr a 0).length
  unfold Go.Proofs.Ytlgnpfpdmjhhbaa.ntab
  rw [gr_get (by rw [mtab_len, h1]; exact h0)]
  simp only [mtab, List.getElem_map, List.getElem_range, mrow_len]
  rw [gr_flip h0]; simp
/-- Shares that are best for both. -/
structure BestP (a : List (List Int)) (x y : List Int) : Prop where
  ok : POk a x y
  eq : wlast a x = (- (wlast (ntab a) y).1, (wlast (ntab a) y).2)
theorem wlast_bd {a : List (List Int)} {x : List Int} (v : VT a) (hx : VS x a.length) : (-81000000 ≤ (wlast a x).1 ∧ (wlast a x).1 ≤ 81000000) ∧ 1 ≤ (wlast a x).2 ∧ (wlast a x).2 ≤ 3000 := by
  have h := VT.pbx v hx
  have n3 := v.n3
  have := tot_bd (x := x) (n := a.length) n3 (by have := hx.1; omega) h.x
  exact wst_bd h n3 v.m3 hx.2.2 this.2 _

end Go.Proofs.Ytlgnpfpdmjhhbaa

