/- Texts merged: LiftB LiftC Enter S7 S8 S9 R2 A3 A4 A5 R3 R4 R5 R6 R7 R8 R9. -/
import Derived.Test.YtmhknknapciebaaQ3
import Derived.ChangeSlices
/- An argument of bytes, opened. -/
namespace Go.Proofs.Ytmhknknapciebaa
open Go.ChangeShapes Go.WideShapes Go.ChangeAt Go.RowKit Go.Deep

theorem Try.cells_u8 : Try.prog.cellsOf 5 = 1 := by kernel_rfl
theorem Try.bytes_u8 : Try.prog.bytesOf 5 = 1 := by kernel_rfl
set_option maxRecDepth 100000 in
theorem open_bytes {H : Type} {enc : TypeId × Value → H} {W : World} {v : Value} {d : DataW H} {p : List MemPlace} {b0 : Nat} (hval : Value.okWide Try.prog W .any b0 37 v)
    (h : DataW.Trod enc Try.prog W 0 (fun _ => true) true 37 v d p) (hw : ∀ n ∈ d.weights Try.prog 37, n ≤ reachBytes) :
    ∃ A n c, v = .slice A n c ∧ Bytes W A n c := by
  obtain ⟨a1, len, cap, rfl⟩ := okWide_slice Try.underlying37 hval
  obtain ⟨fuel, hf⟩ := h
  rcases open_ints Try.underlying37 Try.underlying5 Try.cells_u8 hf with ⟨hcs, hx⟩ | ⟨a, len', cap', zs, hcs, _, hl, hm, hz, hx, hcell, hwz⟩
  · simp [Value.cells] at hcs
    obtain ⟨rfl, rfl, rfl⟩ := hcs
    exact ⟨none, 0, 0, rfl, Nat.le_refl _, by omega, fun h => absurd h (by omega)⟩
  · simp [Value.cells] at hcs
    obtain ⟨rfl, rfl, rfl⟩ := hcs
    simp only [Prod.mk.injEq] at hx
    obtain ⟨rfl, rfl⟩ := hx
    simp only [if_true] at hz
    have h1 := hw _ (weights_slice Try.underlying37 (.inl rfl))
    simp only [lits, List.length_map, List.length_take, List.length_drop, Try.bytes_u8, reachBytes] at h1
    refine ⟨some a, len, cap, rfl, hl, by omega, fun hn => ?_⟩
    have hspot : a.spot = none := by simpa [Addr.add] using World.cell?_spot (hcell 0 (by omega))
    obtain ⟨b, o, sp⟩ := a
    simp only at hspot
    subst hspot
    refine ⟨b, o, rfl, fun k hk => ⟨zs.getD k 0, ?_, ?_, by rw [← add_plain]; exact hcell k (by omega)⟩⟩
    · rw [List.getD_eq_getElem?_getD]; have := hwz (zs.getD k 0) (by rw [List.getD_eq_getElem?_getD, List.getElem?_eq_getElem (show k < zs.length by omega)]; simp)
      simp [Lit.wf, IntKind.min, IntKind.max, IntKind.signed, IntKind.bits] at this
      omega
    · rw [List.getD_eq_getElem?_getD]; have := hwz (zs.getD k 0) (by rw [List.getD_eq_getElem?_getD, List.getElem?_eq_getElem (show k < zs.length by omega)]; simp)
      simp [Lit.wf, IntKind.min, IntKind.max, IntKind.signed, IntKind.bits] at this
      omega
end Go.Proofs.Ytmhknknapciebaa

/- Arguments that are a slice of ints, or an int, opened. -/
namespace Go.Proofs.Ytmhknknapciebaa
open Go.ChangeShapes Go.WideShapes Go.ChangeAt Go.RowKit Go.Deep

set_option maxRecDepth 100000 in
theorem open_intS {H : Type} {enc : TypeId × Value → H} {W : World} {v : Value} {d : DataW H} {p : List MemPlace} {b0 : Nat} (hval : Value.okWide Try.prog W .any b0 23 v)
    (h : DataW.Trod enc Try.prog W 0 (fun _ => true) true 23 v d p) (hw : ∀ n ∈ d.weights Try.prog 23, n ≤ reachBytes) :
    ∃ A n c xs, v = .slice A n c ∧ Ints W A n c xs := by
  obtain ⟨a1, len, cap, rfl⟩ := okWide_slice Try.underlying23 hval
  obtain ⟨fuel, hf⟩ := h
  rcases open_ints Try.underlying23 Try.underlying3 Try.cells3 hf with ⟨hcs, hx⟩ | ⟨a, len', cap', zs, hcs, _, hl, hm, hz, hx, hcell, hwz⟩
  · simp [Value.cells] at hcs
    obtain ⟨rfl, rfl, rfl⟩ := hcs
    exact ⟨none, 0, 0, [], rfl, rfl, Nat.le_refl _, by omega, fun _ h => by simp at h, fun h => absurd h (by omega)⟩
  · simp [Value.cells] at hcs
    obtain ⟨rfl, rfl, rfl⟩ := hcs
    simp only [Prod.mk.injEq] at hx
    obtain ⟨rfl, rfl⟩ := hx
    simp only [if_true] at hz
    have h1 := hw _ (weights_slice Try.underlying23 (.inl rfl))
    simp only [lits, List.length_map, List.length_take, List.length_drop, Try.bytes3, reachBytes] at h1
    have hlen : (zs.take len).length = len := by rw [List.length_take]; omega
    refine ⟨some a, len, cap, zs.take len, rfl, hlen, hl, by omega, fun x hx => ?_, fun hn => ?_⟩
    · have := hwz x (List.mem_of_mem_take hx)
      simp [Lit.wf, IntKind.min, IntKind.max, IntKind.signed, IntKind.bits] at this
      omega
    have hspot : a.spot = none := by simpa [Addr.add] using World.cell?_spot (hcell 0 (by omega))
    obtain ⟨b, o, sp⟩ := a
    simp only at hspot
    subst hspot
    refine ⟨b, o, rfl, fun k hk => ?_⟩
    rw [← add_plain, hcell k (by omega)]
    congr 2
    rw [gi_get (by rw [hlen]; exact hk), List.getElem_take]
    simp [List.getD, show k < zs.length by omega]

set_option maxRecDepth 100000 in
theorem open_num {H : Type} {enc : TypeId × Value → H} {W : World} {v : Value} {d : DataW H} {p : List MemPlace} {b0 : Nat} (hval : Value.okWide Try.prog W .any b0 3 v)
    (h : DataW.Trod enc Try.prog W 0 (fun _ => true) true 3 v d p) : ∃ x, v = .int .i64 x ∧ Fit x := by
  obtain ⟨x, rfl, _, _, hw⟩ := open_int Try.underlying3 hval h
  refine ⟨x, rfl, ?_⟩
  simp [Lit.wf, IntKind.min, IntKind.max, IntKind.signed, IntKind.bits] at hw
  unfold Fit
  omega
end Go.Proofs.Ytmhknknapciebaa

/- The program may be entered: facts of its head, once for all laws. -/
namespace Go.Proofs.Ytmhknknapciebaa

theorem prog_enters : Try.pinned.checked.prog.mayEnter = true := by kernel_rfl
theorem prog_lifts0 : (false == Try.pinned.checked.prog.liftsFinal) = true := by kernel_rfl
theorem prog_make0 : (Try.pinned.checked.prog.make == some .cut) = true := by kernel_rfl
theorem prog_lifts {b : Bool} (h : b = false) : (b == Try.pinned.checked.prog.liftsFinal) = true := by subst h; exact prog_lifts0
theorem prog_make {m : Make} (h : m = .cut) : (Try.pinned.checked.prog.make == some m) = true := by subst h; exact prog_make0
end Go.Proofs.Ytmhknknapciebaa

/- Shares of one alone; the worst mean: by both programs. -/
namespace Go.Proofs.Ytmhknknapciebaa
open Go.RowKit

theorem alloc_set (w : World) (cs : Array Value) (t : TypeId) (i : Nat) (v : Value) : (w.alloc (.cells cs t)).setCell ⟨w.heap.size, i, none⟩ v = w.alloc (.cells (cs.setIfInBounds i v) t) := by
  unfold World.setCell World.alloc
  congr 1
  apply Array.ext
  · simp
  · intro j h1 h2
    simp only [Array.size_modify, Array.size_push] at h1
    rw [Array.getElem_modify]
    by_cases e : w.heap.size = j
    · subst e; simp
    · rw [if_neg e, Array.getElem_push_lt (by omega), Array.getElem_push_lt (by omega)]
def MadeO (w : World) (n i : Nat) (e : Ending) (w' : World) : Prop :=
  e = .returned (.slice (some ⟨w.heap.size, 0, none⟩) n n) ∧ OwnI w.heap.size w'.heap.size w' w.heap.size (some ⟨w.heap.size, 0, none⟩) n n (onl n i) ∧ Below w.heap.size w w'
theorem onl_own (w w1 : World) (n i : Nat) (hn : n ≤ 100) (hr : w1.rowIs w.heap.size 3 n (fun j => if j = i then .int .i64 1 else .int .i64 0)) :
    OwnI w.heap.size w1.heap.size w1 w.heap.size (some ⟨w.heap.size, 0, none⟩) n n (onl n i) :=
  OwnI.of_rowIs (onl_len n i) (by omega) (fun x hx => by
    obtain ⟨k, hk, rfl⟩ := List.mem_iff_getElem.1 hx
    rw [onl_len] at hk
    have := onl_bd (n := n) (i := i) hk
    rw [gi_get (by rw [onl_len]; exact hk)] at this
    omega) (Nat.le_refl _) hr.lt hr fun k hk => by
      show (if k = i then Value.int .i64 1 else Value.int .i64 0) = _
      rw [gi_onl hk]; split <;> rfl

set_option maxHeartbeats 400000 in
theorem onlyOne_any (n i : Nat) (w : World) (hn : n ≤ 100) (hi : i < n) : Calls Try.prog 41 #[.int .i64 n, .int .i64 i] w (MadeO w n i) := by
  have hmk := run_make_row' (P := Try.prog) 23 3 (.int .i64 0) 8 Try.underlying23 Try.info3 rfl .i64 .i64 n (by omega) (by omega)
  have hrow := World.rowIs_made w (.int .i64 0) n 3
  have c1 := hrow.cell hi
  have c2 := hrow.frozen i
  have hb := below_alloc w (.cells (madeCells #[.int .i64 0] n) 3)
  have HR := Lib.hid ((hrow.set i (.int .i64 1)).congr (g := fun j => if j = i then .int .i64 1 else .int .i64 0) fun j _ => rfl)
  have HB := Lib.hid (hb.setCell (p := ⟨w.heap.size, i, none⟩) (Nat.le_refl _) (.int .i64 1))
  have HE := Lib.hid (alloc_set w (madeCells #[.int .i64 0] n) 3 i (.int .i64 1))
  clear hrow hb
  go_enter Try.func41, Try.ntmps41
  go_wp2
  go_ret
  exact ⟨rfl, onl_own w _ n i hn (by rw [← HE.out]; exact HR.out), by rw [← HE.out]; exact HB.out⟩
set_option maxHeartbeats 400000 in
theorem alone_spec (n i : Nat) (w : World) (hn : n ≤ 100) (hi : i < n) : Calls Try.prog 94 #[.int .i64 n, .int .i64 i] w (MadeO w n i) := by
  have hmk := run_make_row' (P := Try.prog) 23 3 (.int .i64 0) 8 Try.underlying23 Try.info3 rfl .i64 .i64 n (by omega) (by omega)
  have hrow := World.rowIs_made w (.int .i64 0) n 3
  have c1 := hrow.cell hi
  have c2 := hrow.frozen i
  have hb := below_alloc w (.cells (madeCells #[.int .i64 0] n) 3)
  have HR := Lib.hid ((hrow.set i (.int .i64 1)).congr (g := fun j => if j = i then .int .i64 1 else .int .i64 0) fun j _ => rfl)
  have HB := Lib.hid (hb.setCell (p := ⟨w.heap.size, i, none⟩) (Nat.le_refl _) (.int .i64 1))
  have HE := Lib.hid (alloc_set w (madeCells #[.int .i64 0] n) 3 i (.int .i64 1))
  clear hrow hb
  go_enter Try.func94, Try.ntmps94
  go_wp2
  go_ret
  exact ⟨rfl, onl_own w _ n i hn (by rw [← HE.out]; exact HR.out), by rw [← HE.out]; exact HB.out⟩
set_option maxHeartbeats 400000 in
theorem alone_impl (n i : Nat) (w : World) (hn : n ≤ 100) (hi : i < n) : Calls Try.prog 60 #[.int .i64 i, .int .i64 n] w (MadeO w n i) := by
  have hmk := run_make_row' (P := Try.prog) 23 3 (.int .i64 0) 8 Try.underlying23 Try.info3 rfl .i64 .i64 n (by omega) (by omega)
  have hrow := World.rowIs_made w (.int .i64 0) n 3
  have c1 := hrow.cell hi
  have c2 := hrow.frozen i
  have hb := below_alloc w (.cells (madeCells #[.int .i64 0] n) 3)
  have HR := Lib.hid ((hrow.set i (.int .i64 1)).congr (g := fun j => if j = i then .int .i64 1 else .int .i64 0) fun j _ => rfl)
  have HB := Lib.hid (hb.setCell (p := ⟨w.heap.size, i, none⟩) (Nat.le_refl _) (.int .i64 1))
  have HE := Lib.hid (alloc_set w (madeCells #[.int .i64 0] n) 3 i (.int .i64 1))
  clear hrow hb
  go_enter Try.func60, Try.ntmps60
  go_wp2
  go_ret
  exact ⟨rfl, onl_own w _ n i hn (by rw [← HE.out]; exact HR.out), by rw [← HE.out]; exact HB.out⟩
end Go.Proofs.Ytmhknknapciebaa

/- The least mean over columns alone, by the model. -/
namespace Go.Proofs.Ytmhknknapciebaa
open Go.RowKit

theorem PB.onl {a x y n m} (h : PB a x y n m) (j : Nat) : PB a x (onl m j) n m :=
  ⟨h.a, h.x, fun k hk => by have := onl_bd (n := m) (i := j) hk; omega⟩
theorem col_bd {a x y n m} (h : PB a x y n m) (hn : n ≤ 3) (hm : m ≤ 3) (j : Nat) : -81000000 ≤ colU a x n m j ∧ colU a x n m j ≤ 81000000 := by
  have := payU_bd (h.onl j) hm (Nat.le_refl n)
  unfold colU
  omega
theorem wst_bd {a x y n m} (h : PB a x y n m) (hn : n ≤ 3) (hm : m ≤ 3) (tx : 0 < tot x) (tx3 : tot x ≤ 3000) : ∀ k, (-81000000 ≤ (wst a x n m k).1 ∧ (wst a x n m k).1 ≤ 81000000) ∧ 1 ≤ (wst a x n m k).2 ∧ (wst a x n m k).2 ≤ 3000
  | 0 => ⟨frU_bd tx (col_bd h hn hm 0), frD_bd tx tx3⟩
  | k + 1 => by
    simp only [wst]
    split
    · exact ⟨frU_bd tx (col_bd h hn hm (k + 1)), frD_bd tx tx3⟩
    · exact wst_bd h hn hm tx tx3 k
theorem wst_yes {a x n m k} (h : lessB (frU (colU a x n m (k + 1)) (tot x)) (frD (colU a x n m (k + 1)) (tot x)) (wst a x n m k).1 (wst a x n m k).2 = true) :
    wst a x n m (k + 1) = (frU (colU a x n m (k + 1)) (tot x), frD (colU a x n m (k + 1)) (tot x)) := by
  unfold lessB at h
  simp only [decide_eq_true_eq] at h
  simp only [wst]
  rw [if_pos h]
theorem wst_no {a x n m k} (h : lessB (frU (colU a x n m (k + 1)) (tot x)) (frD (colU a x n m (k + 1)) (tot x)) (wst a x n m k).1 (wst a x n m k).2 = false) : wst a x n m (k + 1) = wst a x n m k := by
  unfold lessB at h
  simp only [decide_eq_false_iff_not] at h
  simp only [wst]
  rw [if_neg h]

/-- The boxes of the result and of what is the least so far. -/
structure WO (w W : World) (U D : Int) : Prop where
  b0 : Blk W w.heap.size 26 #[.int .i64 0, .int .i64 0]
  b1 : Blk W (w.heap.size + 1) 26 #[.int .i64 U, .int .i64 D]
  below : Below w.heap.size w W
theorem WO.up {w W W' U D} (h : WO w W U D) (k : Below W.heap.size W W') : WO w W' U D := ⟨blk_below h.b0 k, blk_below h.b1 k, below_up h.below k⟩
theorem WO.keep {w W U D} (h : WO w W U D) : Keep w W := Keep.below h.below
theorem WO.start (w : World) : WO w ((w.alloc (.cells #[.int .i64 0, .int .i64 0] 26)).alloc (.cells #[.int .i64 0, .int .i64 0] 26)) 0 0 := by
  have h := blk_new (w.alloc (.cells #[.int .i64 0, .int .i64 0] 26)) 26 #[.int .i64 0, .int .i64 0]
  rw [World.size_alloc] at h
  exact ⟨blk_old (blk_new _ _ _) _, h, below_up (below_alloc _ _) (below_alloc _ _)⟩
theorem WO.set {w W U D} (h : WO w W U D) (U' D' : Int) : WO w ((W.setCell ⟨w.heap.size + 1, 0, none⟩ (.int .i64 U')).setCell ⟨w.heap.size + 1, 1, none⟩ (.int .i64 D')) U' D' :=
  ⟨blk_other (blk_other h.b0 (p := ⟨w.heap.size + 1, 0, none⟩) (by show w.heap.size ≠ w.heap.size + 1; omega) _) (p := ⟨w.heap.size + 1, 1, none⟩) (by show w.heap.size ≠ w.heap.size + 1; omega) _,
   blk_set (blk_set h.b1 0 (.int .i64 U')) 1 (.int .i64 D'),
   (h.below.setCell (p := ⟨w.heap.size + 1, 0, none⟩) (by show w.heap.size ≤ w.heap.size + 1; omega) _).setCell (p := ⟨w.heap.size + 1, 1, none⟩) (by show w.heap.size ≤ w.heap.size + 1; omega) _⟩

set_option maxRecDepth 100000 in
set_option maxHeartbeats 3200000 in
theorem worst_any (b o : Nat) (rb ro cc : Nat → Nat) (n m c cx : Nat) (X : Option Addr) (a : List (List Int)) (x y : List Int) (w : World) (h : Tab w b o rb ro cc n m a) (hx : Ints w X n cx x) (hp : PB a x y n m) (tx : 0 < tot x) :
    Calls Try.prog 59 #[.slice (some ⟨b, o, none⟩) n c, .slice X n cx] w (Ret (.agg #[.int .i64 (wst a x n m (m - 1)).1, .int .i64 (wst a x n m (m - 1)).2]) w) := by
  have HT := Lib.hid h
  have hn1 := h.n1
  have hn3 := h.n3
  have hm1 := h.m1
  have hm3 := h.m3
  have hbx := tot_bd hn3 hx.len hp.x
  have HSX := Lib.hid (show SumOk x from ⟨by rw [hx.len]; omega, fun j hj => by have := hp.x j (by rw [← hx.len]; exact hj); omega⟩)
  have HX := Lib.hid hx
  have HP := Lib.hid hp
  have HW := Lib.hid (wst_bd hp hn3 hm3 tx hbx.2)
  have HST := Lib.hid (WO.start w)
  have hrow := h.row 0 (by omega)
  simp only [Nat.add_zero] at hrow
  have HROW := Lib.hid hrow
  clear h hx hp hrow
  go_enter Try.func59, Try.ntmps59
  go_wp2
  go_loopw [6] (fun i wr => ∃ (j : Nat) (U D : Int), j ≤ m ∧ i = .int .i64 j ∧ Hid (WO w wr U D) ∧ Hid ((U, D) = if j = 0 then (0, 0) else wst a x n m (j - 1))) (fun i _ => m - (intOf i).toNat)
  case atStart => exact ⟨0, 0, 0, Nat.zero_le _, rfl, HST, Lib.hid rfl⟩
  case round =>
    clear HST
    obtain ⟨j, U, D, hj, rfl, HO, HUD⟩ := hrel
    have hrow := HO.out.keep _ _ HROW.out
    by_cases hlt : j < m
    · have HA := Lib.hid (alone_spec m j wr (by omega) hlt)
      go_wp2_with fail
      refine HA.out.mono ?_
      rintro e w1 ⟨rfl, ho, hb⟩
      have HO1 := Lib.hid (HO.out.up hb)
      have HY := Lib.hid ho.ints
      clear ho hb HA HO hrow
      have HA := Lib.hid (payUp_any b o rb ro cc n m c cx m X _ a x (onl m j) w1 (HT.out.keep HO1.out.keep) (HX.out.keep HO1.out.keep) HY.out (HP.out.onl j))
      go_wp2_with fail
      refine HA.out.mono ?_
      rintro e w2 ⟨rfl, hq⟩
      have HO2 := Lib.hid (HO1.out.up hq.below)
      clear hq HA HO1 HY
      have HA := Lib.hid (sum_any _ _ _ _ w2 (HX.out.keep HO2.out.keep) HSX.out)
      go_wp2_with fail
      refine HA.out.mono ?_
      rintro e w3 ⟨rfl, hq⟩
      have HO3 := Lib.hid (HO2.out.up hq.below)
      clear hq HA HO2
      have HCB := Lib.hid (col_bd HP.out hn3 hm3 j)
      have HA := Lib.hid (frac_any (payU a x (onl m j) m n) (tot x) w3 (by have := HCB.out; unfold colU at this; unfold Mid; omega) (by unfold Mid; omega) (by omega))
      go_wp2_with fail
      refine HA.out.mono ?_
      rintro e w4 ⟨rfl, hb⟩
      have HO4 := Lib.hid (HO3.out.up hb)
      clear hb HA HO3
      have HFU := Lib.hid (frU_bd tx HCB.out)
      have HFD := Lib.hid (frD_bd (u := colU a x n m j) tx hbx.2)
      have HPQ : Hid ((frU (colU a x n m j) (tot x), frD (colU a x n m j) (tot x)) = (frU (payU a x (onl m j) m n) (tot x), frD (payU a x (onl m j) m n) (tot x))) := Lib.hid rfl
      have HFV : Hid (frV (payU a x (onl m j) m n) (tot x) = .agg #[.int .i64 (frU (payU a x (onl m j) m n) (tot x)), .int .i64 (frD (payU a x (onl m j) m n) (tot x))]) := Lib.hid rfl
      rw [HFV.out]
      clear HFV
      generalize frU (payU a x (onl m j) m n) (tot x) = u at *
      generalize frD (payU a x (onl m j) m n) (tot x) = d at *
      have HE := Lib.hid (show frU (colU a x n m j) (tot x) = u from (Prod.ext_iff.1 HPQ.out).1)
      have HE2 := Lib.hid (show frD (colU a x n m j) (tot x) = d from (Prod.ext_iff.1 HPQ.out).2)
      have hub := HFU.out
      have hdb := HFD.out
      rw [HE.out] at hub
      rw [HE2.out] at hdb
      clear HFU HFD
      have hz4 : w.heap.size + 1 < w4.heap.size := blk_lt HO4.out.b1
      have HO5 := Lib.hid (HO4.out.up (below_alloc w4 (.cells #[.int .i64 u, .int .i64 d] 26)))
      have HB5 := Lib.hid (blk_new w4 26 #[.int .i64 u, .int .i64 d])
      have c1 := blk_cell HO5.out.b1 (i := 1) (v := .int .i64 D) rfl
      by_cases hj0 : j = 0
      · have HUD2 := Lib.hid (show U = 0 ∧ D = 0 by have := HUD.out; rw [if_pos hj0] at this; exact Prod.mk.inj this)
        have HJ := Lib.hid hj0
        clear hj0
        obtain ⟨rfl, rfl⟩ := HUD2.out
        have e0 := blk_cell HO4.out.b1 (i := 0) (v := .int .i64 0) rfl
        have e1 := blk_cell HO4.out.b1 (i := 1) (v := .int .i64 0) rfl
        have f0 := blk_frozen HO4.out.b1 0
        have f1 := blk_frozen HO4.out.b1 1
        have HO6 := Lib.hid ((HO4.out.set u d).up (below_alloc _ (.cells #[.int .i64 u, .int .i64 d] 26)))
        go_wp2
        go_roundw
        case rel => exact ⟨j + 1, u, d, by omega, by go_num, HO6, Lib.hid (by rw [if_neg (by omega), Nat.add_sub_cancel, ← HE.out, ← HE2.out, HJ.out, wst])⟩
        case measure => simp [intOf]; omega
      · clear HO4
        have c0 := blk_cell HO5.out.b1 (i := 0) (v := .int .i64 U) rfl
        have k0 := blk_cell HB5.out (i := 0) (v := .int .i64 u) rfl
        have k1 := blk_cell HB5.out (i := 1) (v := .int .i64 d) rfl
        have HUD2 := Lib.hid (show U = (wst a x n m (j - 1)).1 ∧ D = (wst a x n m (j - 1)).2 by have := HUD.out; rw [if_neg hj0] at this; exact ⟨(Prod.ext_iff.1 this).1, (Prod.ext_iff.1 this).2⟩)
        have hWB := HW.out (j - 1)
        rw [← HUD2.out.1, ← HUD2.out.2] at hWB
        obtain ⟨⟨wb1, wb2⟩, wb3, wb4⟩ := hWB
        have hD0 : (D == 0) = false := by simp; omega
        have HL := Lib.hid (less_spec u d U D (w4.alloc (.cells #[.int .i64 u, .int .i64 d] 26)) (by omega) (by omega) (by omega) (by omega))
        go_wp2_with fail
        refine HL.out.mono ?_
        rintro e w6 ⟨rfl, hb⟩
        have HO6 := Lib.hid (HO5.out.up hb)
        have HB6 := Lib.hid (blk_below HB5.out hb)
        clear hb HL c0 c1 k0 k1 HO5 HB5
        have c0 := blk_cell HO6.out.b1 (i := 0) (v := .int .i64 U) rfl
        have c1 := blk_cell HO6.out.b1 (i := 1) (v := .int .i64 D) rfl
        have f0 := blk_frozen HO6.out.b1 0
        have f1 := blk_frozen HO6.out.b1 1
        have k0 := blk_cell HB6.out (i := 0) (v := .int .i64 u) rfl
        have k1 := blk_cell HB6.out (i := 1) (v := .int .i64 d) rfl
        have HO7 := Lib.hid (HO6.out.set u d)
        have hjj : j - 1 + 1 = j := by omega
        by_cases hless : lessB u d U D = true
        · have HN : Hid (wst a x n m j = (u, d)) := Lib.hid (by
            have := wst_yes (a := a) (x := x) (n := n) (m := m) (k := j - 1) (by rw [hjj, HE.out, HE2.out, ← HUD2.out.1, ← HUD2.out.2]; exact hless)
            rw [hjj, HE.out, HE2.out] at this
            exact this)
          go_wp2
          go_roundw
          case rel => exact ⟨j + 1, u, d, by omega, by go_num, HO7, Lib.hid (by rw [if_neg (by omega), Nat.add_sub_cancel, HN.out])⟩
          case measure => simp [intOf]; omega
        · have hless' : lessB u d U D = false := by simpa using hless
          have HN : Hid (wst a x n m j = (U, D)) := Lib.hid (by
            have := wst_no (a := a) (x := x) (n := n) (m := m) (k := j - 1) (by rw [hjj, HE.out, HE2.out, ← HUD2.out.1, ← HUD2.out.2]; exact hless')
            rw [hjj] at this
            rw [this, HUD2.out.1, HUD2.out.2])
          clear hless
          go_wp2
          go_roundw
          case rel => exact ⟨j + 1, U, D, by omega, by go_num, HO6, Lib.hid (by rw [if_neg (by omega), Nat.add_sub_cancel, HN.out])⟩
          case measure => simp [intOf]; omega
    · obtain rfl : j = m := by omega
      have HUD2 := Lib.hid (show (U, D) = wst a x n j (j - 1) by rw [HUD.out, if_neg (by omega)])
      have HR := Lib.hid (show (wst a x n j (j - 1)).1 = U ∧ (wst a x n j (j - 1)).2 = D by rw [← HUD2.out]; exact ⟨rfl, rfl⟩)
      have c0 := blk_cell HO.out.b1 (i := 0) (v := .int .i64 U) rfl
      have c1 := blk_cell HO.out.b1 (i := 1) (v := .int .i64 D) rfl
      have d0 := blk_cell HO.out.b0 (i := 0) (v := .int .i64 0) rfl
      have d1 := blk_cell HO.out.b0 (i := 1) (v := .int .i64 0) rfl
      have f0 := blk_frozen HO.out.b0 0
      have f1 := blk_frozen HO.out.b0 1
      go_wp2
      clear c0 c1 d0 d1 f0 f1
      have B1 := blk_set (blk_set HO.out.b0 0 (.int .i64 U)) 1 (.int .i64 D)
      have r0 := blk_cell B1 (i := 0) (v := .int .i64 U) rfl
      have r1 := blk_cell B1 (i := 1) (v := .int .i64 D) rfl
      have HBX := Lib.hid ((HO.out.below.setCell (p := ⟨w.heap.size, 0, none⟩) (Nat.le_refl _) (.int .i64 U)).setCell (p := ⟨w.heap.size, 1, none⟩) (Nat.le_refl _) (.int .i64 D))
      clear B1 HO
      generalize (wr.setCell ⟨w.heap.size, 0, none⟩ (.int .i64 U)).setCell ⟨w.heap.size, 1, none⟩ (.int .i64 D) = WE at *
      refine bodyPost_ret (v := .agg #[.int .i64 U, .int .i64 D]) (by simp [results, Try.results59, go_sem, r0, r1]) rfl ?_
      exact ⟨by rw [HR.out.1, HR.out.2], HBX.out⟩
end Go.Proofs.Ytmhknknapciebaa

/- The worst mean of shares, by both programs. -/
namespace Go.Proofs.Ytmhknknapciebaa
open Go.RowKit

structure WOk (a : List (List Int)) (x : List Int) : Prop where
  v : VT a
  x : VS x a.length
def wstV (p : Int × Int) : Value := .agg #[.int .i64 p.1, .int .i64 p.2]
def wlast (a : List (List Int)) (x : List Int) : Int × Int := wst a x a.length (gr a 0).length ((gr a 0).length - 1)
noncomputable def worF (a : List (List Int)) (x : List Int) : Int × Int := if pb (WOk a x) = true then wlast a x else (0, 0)
theorem worF_yes {a x} (h : WOk a x) : worF a x = wlast a x := by rw [worF, if_pos (pb_true h)]
theorem worF_no {a x} (h : ¬ WOk a x) : worF a x = (0, 0) := by rw [worF, if_neg (by rw [pb_false h]; decide)]
theorem wstV_form (p : Int × Int) : ∃ U D, wstV p = .agg #[.int .i64 U, .int .i64 D] := ⟨_, _, rfl⟩
theorem VT.pbx {a : List (List Int)} {x : List Int} (v : VT a) (hx : VS x a.length) : PB a x (onl (gr a 0).length 0) a.length (gr a 0).length :=
  ⟨fun i j hi hj => v.bd hi hj, fun i hi => hx.2.1 i (by have := hx.1; omega), fun j hj => by have := onl_bd (n := (gr a 0).length) (i := 0) hj; omega⟩

/-- The boxes of the result and of what is the least so far, at h. -/
structure WP (w W : World) (h : Nat) (U D : Int) : Prop where
  b0 : Blk W w.heap.size 26 #[.int .i64 0, .int .i64 0]
  b1 : Blk W h 26 #[.int .i64 U, .int .i64 D]
  lt : w.heap.size < h
  below : Below w.heap.size w W
theorem WP.up {w W W' h U D} (p : WP w W h U D) (k : Below W.heap.size W W') : WP w W' h U D := ⟨blk_below p.b0 k, blk_below p.b1 k, p.lt, below_up p.below k⟩
theorem WP.keep {w W h U D} (p : WP w W h U D) : Keep w W := Keep.below p.below
theorem WP.start {w W : World} (p : PF w W) (U D : Int) : WP w (W.alloc (.cells #[.int .i64 U, .int .i64 D] 26)) W.heap.size U D :=
  ⟨blk_old p.box _, blk_new _ _ _, blk_lt p.box, below_up p.below (below_alloc _ _)⟩
theorem WP.set {w W h U D} (p : WP w W h U D) (U' D' : Int) : WP w ((W.setCell ⟨h, 0, none⟩ (.int .i64 U')).setCell ⟨h, 1, none⟩ (.int .i64 D')) h U' D' := by
  have hl := p.lt
  exact ⟨blk_other (blk_other p.b0 (p := ⟨h, 0, none⟩) (by show w.heap.size ≠ h; omega) _) (p := ⟨h, 1, none⟩) (by show w.heap.size ≠ h; omega) _,
   blk_set (blk_set p.b1 0 (.int .i64 U')) 1 (.int .i64 D'), hl,
   (p.below.setCell (p := ⟨h, 0, none⟩) (by show w.heap.size ≤ h; omega) _).setCell (p := ⟨h, 1, none⟩) (by show w.heap.size ≤ h; omega) _⟩
theorem frV_onl (u : Int) (x : List Int) {m j : Nat} (h : j < m) : frV u (tot x * tot (onl m j)) = .agg #[.int .i64 (frU u (tot x)), .int .i64 (frD u (tot x))] := by
  rw [tot_onl h, Int.mul_one]; rfl

set_option maxRecDepth 100000 in
set_option maxHeartbeats 3200000 in
theorem WorstOf_spec (A X : Option Addr) (n c nx cx : Nat) (a : List (List Int)) (x : List Int) (w : World) (ha : IntRows w A n c a) (hx : Ints w X nx cx x) :
    Calls Try.prog 21 #[.slice A n c, .slice X nx cx] w (Ret (.tuple #[wstV (worF a x), .bool (pb (WOk a x))]) w) := by
  have HA := Lib.hid ha
  have HX := Lib.hid hx
  have HPF := Lib.hid (PF.start w)
  clear ha hx
  by_cases hv : VT a
  · have HV := Lib.hid hv
    have hn1 := hv.n1
    have hn3 := hv.n3
    have hm1 := hv.m1
    have hm3 := hv.m3
    rw [HA.out.len] at hn1 hn3
    have HC := Lib.hid (pb_true hv ▸ validTable_any _ _ _ _ _ (HA.out.keep HPF.out.keep))
    clear hv
    have HLEN := Lib.hid HA.out.len
    by_cases hvx : VS x a.length
    · have HVX := Lib.hid hvx
      have hq := fun W (k : Keep w W) => validShares_any' _ _ _ _ (n : Int) W (HX.out.keep k) (by omega)
      rw [show pb (VS x (n : Int)) = true by rw [← HLEN.out]; exact pb_true hvx] at hq
      have HQ := Lib.hid hq
      clear hvx hq
      have HP := Lib.hid (WOk.mk HV.out HVX.out)
      have HPB := Lib.hid (HV.out.pbx HVX.out)
      have tx := HVX.out.2.2
      have h1 : n = nx := by have := HVX.out.1; have := HX.out.len; have := HLEN.out; omega
      subst h1
      obtain ⟨b, o, rb, ro, cc, rfl, tab⟩ := HA.out.tab HV.out
      have HT := Lib.hid tab
      clear tab
      rw [worF_yes HP.out, pb_true HP.out, wlast, HLEN.out]
      rw [HLEN.out] at HPB
      generalize (gr a 0).length = m at *
      have hrow := HT.out.row 0 (by omega)
      simp only [Nat.add_zero] at hrow
      have HROW := Lib.hid hrow
      have hbx := tot_bd hn3 HX.out.len HPB.out.x
      have HW := Lib.hid (wst_bd HPB.out hn3 hm3 tx hbx.2)
      clear hrow
      go_enter Try.func21, Try.ntmps21
      go_wp2_with fail
      refine HC.out.mono ?_
      rintro e w1 ⟨rfl, hq⟩
      have HPF1 := Lib.hid (HPF.out.up hq.below)
      clear hq HC HPF
      go_wp2_with fail
      refine (HQ.out _ HPF1.out.keep).mono ?_
      rintro e w2 ⟨rfl, hq⟩
      have HPF := Lib.hid (HPF1.out.up hq.below)
      clear hq HQ HPF1
      have HMP := Lib.hid (worst_any b o rb ro cc n m c cx X a x _ w2 (HT.out.keep HPF.out.keep) (HX.out.keep HPF.out.keep) HPB.out tx)
      go_wp2_with fail
      refine HMP.out.mono ?_
      rintro e w3 ⟨rfl, hb⟩
      have HPF1 := Lib.hid (HPF.out.up hb)
      clear hb HMP HPF
      have HPF := HPF1
      clear HPF1
      have HFV : Hid (wstV (wst a x n m (m - 1)) = .agg #[.int .i64 (wst a x n m (m - 1)).1, .int .i64 (wst a x n m (m - 1)).2]) := Lib.hid rfl
      rw [HFV.out]
      clear HW
      generalize (wst a x n m (m - 1)).1 = U at *
      generalize (wst a x n m (m - 1)).2 = D at *
      have c0 := blk_cell HPF.out.box (i := 0) rfl
      have c1 := blk_cell HPF.out.box (i := 1) rfl
      have f0 := blk_frozen HPF.out.box 0
      have f1 := blk_frozen HPF.out.box 1
      go_wp2
      clear c0 c1 f0 f1
      have B1 := blk_set (blk_set HPF.out.box 0 (.int .i64 U)) 1 (.int .i64 D)
      have r0 := blk_cell B1 (i := 0) (v := .int .i64 U) rfl
      have r1 := blk_cell B1 (i := 1) (v := .int .i64 D) rfl
      have HBX := Lib.hid ((HPF.out.below.setCell (p := ⟨w.heap.size, 0, none⟩) (Nat.le_refl _) (.int .i64 U)).setCell (p := ⟨w.heap.size, 1, none⟩) (Nat.le_refl _) (.int .i64 D))
      clear B1 HPF
      generalize (w3.setCell ⟨w.heap.size, 0, none⟩ (.int .i64 U)).setCell ⟨w.heap.size, 1, none⟩ (.int .i64 D) = WE at *
      refine bodyPost_ret (v := .tuple #[.agg #[.int .i64 U, .int .i64 D], .bool true]) (by simp [results, Try.results21, go_sem, r0, r1]) rfl ?_
      exact ⟨by rw [HFV.out], HBX.out⟩
    · have hq := fun W (k : Keep w W) => validShares_any' _ _ _ _ (n : Int) W (HX.out.keep k) (by omega)
      rw [show pb (VS x (n : Int)) = false by rw [← HLEN.out]; exact pb_false hvx] at hq
      have HQ := Lib.hid hq
      have HNO := Lib.hid (show worF a x = (0, 0) ∧ pb (WOk a x) = false from ⟨worF_no fun h => hvx h.x, pb_false fun h => hvx h.x⟩)
      clear hvx hq
      go_enter Try.func21, Try.ntmps21
      go_wp2_with fail
      refine HC.out.mono ?_
      rintro e w1 ⟨rfl, hq⟩
      have HPF1 := Lib.hid (HPF.out.up hq.below)
      clear hq HC HPF
      go_wp2_with fail
      refine (HQ.out _ HPF1.out.keep).mono ?_
      rintro e w2 ⟨rfl, hq⟩
      have HPF := Lib.hid (HPF1.out.up hq.below)
      clear hq HQ HPF1
      have c0 := blk_cell HPF.out.box (i := 0) rfl
      have c1 := blk_cell HPF.out.box (i := 1) rfl
      have f0 := blk_frozen HPF.out.box 0
      have f1 := blk_frozen HPF.out.box 1
      go_wp2
      clear c0 c1 f0 f1
      have B1 := blk_set (blk_set HPF.out.box 0 (.int .i64 0)) 1 (.int .i64 0)
      have r0 := blk_cell B1 (i := 0) (v := .int .i64 0) rfl
      have r1 := blk_cell B1 (i := 1) (v := .int .i64 0) rfl
      have HBX := Lib.hid ((HPF.out.below.setCell (p := ⟨w.heap.size, 0, none⟩) (Nat.le_refl _) (.int .i64 0)).setCell (p := ⟨w.heap.size, 1, none⟩) (Nat.le_refl _) (.int .i64 0))
      clear B1 HPF
      generalize (w2.setCell ⟨w.heap.size, 0, none⟩ (.int .i64 0)).setCell ⟨w.heap.size, 1, none⟩ (.int .i64 0) = WE at *
      refine bodyPost_ret (v := .tuple #[.agg #[.int .i64 0, .int .i64 0], .bool false]) (by simp [results, Try.results21, go_sem, r0, r1]) rfl ?_
      exact ⟨by rw [HNO.out.1, HNO.out.2]; rfl, HBX.out⟩
  · have HC := Lib.hid (pb_false hv ▸ validTable_any _ _ _ _ _ (HA.out.keep HPF.out.keep))
    have HNO := Lib.hid (show worF a x = (0, 0) ∧ pb (WOk a x) = false from ⟨worF_no fun h => hv h.v, pb_false fun h => hv h.v⟩)
    clear hv
    go_enter Try.func21, Try.ntmps21
    go_wp2_with fail
    refine HC.out.mono ?_
    rintro e w1 ⟨rfl, hq⟩
    have HPF1 := Lib.hid (HPF.out.up hq.below)
    clear hq HC HPF
    have HPF := HPF1
    clear HPF1
    have c0 := blk_cell HPF.out.box (i := 0) rfl
    have c1 := blk_cell HPF.out.box (i := 1) rfl
    have f0 := blk_frozen HPF.out.box 0
    have f1 := blk_frozen HPF.out.box 1
    go_wp2
    clear c0 c1 f0 f1
    have B1 := blk_set (blk_set HPF.out.box 0 (.int .i64 0)) 1 (.int .i64 0)
    have r0 := blk_cell B1 (i := 0) (v := .int .i64 0) rfl
    have r1 := blk_cell B1 (i := 1) (v := .int .i64 0) rfl
    have HBX := Lib.hid ((HPF.out.below.setCell (p := ⟨w.heap.size, 0, none⟩) (Nat.le_refl _) (.int .i64 0)).setCell (p := ⟨w.heap.size, 1, none⟩) (Nat.le_refl _) (.int .i64 0))
    clear B1 HPF
    generalize (w1.setCell ⟨w.heap.size, 0, none⟩ (.int .i64 0)).setCell ⟨w.heap.size, 1, none⟩ (.int .i64 0) = WE at *
    refine bodyPost_ret (v := .tuple #[.agg #[.int .i64 0, .int .i64 0], .bool false]) (by simp [results, Try.results21, go_sem, r0, r1]) rfl ?_
    exact ⟨by rw [HNO.out.1, HNO.out.2]; rfl, HBX.out⟩

set_option maxRecDepth 100000 in
set_option maxHeartbeats 3200000 in
theorem WorstOf_impl (A X : Option Addr) (n c nx cx : Nat) (a : List (List Int)) (x : List Int) (w : World) (ha : IntRows w A n c a) (hx : Ints w X nx cx x) :
    Calls Try.prog 22 #[.slice A n c, .slice X nx cx] w (Ret (.tuple #[wstV (worF a x), .bool (pb (WOk a x))]) w) := by
  have HA := Lib.hid ha
  have HX := Lib.hid hx
  have HPF := Lib.hid (PF.start w)
  clear ha hx
  by_cases hv : VT a
  · have HV := Lib.hid hv
    have hn1 := hv.n1
    have hn3 := hv.n3
    have hm1 := hv.m1
    have hm3 := hv.m3
    rw [HA.out.len] at hn1 hn3
    have HC := Lib.hid (pb_true hv ▸ ValidTable_impl _ _ _ _ _ (HA.out.keep HPF.out.keep))
    clear hv
    have HLEN := Lib.hid HA.out.len
    by_cases hvx : VS x a.length
    · have HVX := Lib.hid hvx
      have hq := fun W (k : Keep w W) => ValidShares_any' _ _ _ _ (n : Int) W (HX.out.keep k) (by omega)
      rw [show pb (VSn x (n : Int)) = true by rw [← HLEN.out]; rw [HV.out.vsn]; exact pb_true hvx] at hq
      have HQ := Lib.hid hq
      clear hvx hq
      have HP := Lib.hid (WOk.mk HV.out HVX.out)
      have HPB := Lib.hid (HV.out.pbx HVX.out)
      have tx := HVX.out.2.2
      have h1 : n = nx := by have := HVX.out.1; have := HX.out.len; have := HLEN.out; omega
      subst h1
      obtain ⟨b, o, rb, ro, cc, rfl, tab⟩ := HA.out.tab HV.out
      have HT := Lib.hid tab
      clear tab
      rw [worF_yes HP.out, pb_true HP.out, wlast, HLEN.out]
      rw [HLEN.out] at HPB
      generalize (gr a 0).length = m at *
      have hrow := HT.out.row 0 (by omega)
      simp only [Nat.add_zero] at hrow
      have HROW := Lib.hid hrow
      have hbx := tot_bd hn3 HX.out.len HPB.out.x
      have HW := Lib.hid (wst_bd HPB.out hn3 hm3 tx hbx.2)
      clear hrow
      go_enter Try.func22, Try.ntmps22
      go_wp2_with fail
      refine HC.out.mono ?_
      rintro e w1 ⟨rfl, hq⟩
      have HPF1 := Lib.hid (HPF.out.up hq.below)
      clear hq HC HPF
      go_wp2_with fail
      refine (HQ.out _ HPF1.out.keep).mono ?_
      rintro e w2 ⟨rfl, hq⟩
      have HPF := Lib.hid (HPF1.out.up hq.below)
      clear hq HQ HPF1
      have hrow := HPF.out.keep _ _ HROW.out
      have HA0 := Lib.hid (alone_impl m 0 w2 (by omega) (by omega))
      go_wp2_with fail
      refine HA0.out.mono ?_
      rintro e w3 ⟨rfl, ho, hb⟩
      have HPF1 := Lib.hid (HPF.out.up hb)
      have HY := Lib.hid ho.ints
      clear ho hb HA0 HPF hrow
      have HMP := Lib.hid (meanPay_any b o rb ro cc n m c cx m X _ a x (onl m 0) w3 (HT.out.keep HPF1.out.keep) (HX.out.keep HPF1.out.keep) HY.out (HPB.out.onl 0) tx (by rw [tot_onl (by omega)]; omega))
      rw [frV_onl _ _ (by omega)] at HMP
      go_wp2_with fail
      refine HMP.out.mono ?_
      rintro e w4 ⟨rfl, hb⟩
      have HPF := Lib.hid (HPF1.out.up hb)
      clear hb HMP HPF1 HY
      have HU0 : Hid ((frU (payU a x (onl m 0) m n) (tot x), frD (payU a x (onl m 0) m n) (tot x)) = wst a x n m (0 - 1)) := Lib.hid rfl
      generalize frU (payU a x (onl m 0) m n) (tot x) = U at *
      generalize frD (payU a x (onl m 0) m n) (tot x) = D at *
      have HO := Lib.hid (WP.start HPF.out U D)
      have hrow := HO.out.keep _ _ HROW.out
      clear HPF
      go_wp2
      clear hrow
      generalize w4.alloc (.cells #[.int .i64 U, .int .i64 D] 26) = W4 at *
      generalize w4.heap.size = h at *
      go_loopw [32] (fun i wr => ∃ (j : Nat) (U D : Int), j ≤ m ∧ i = .int .i64 j ∧ Hid (WP w wr h U D) ∧ Hid ((U, D) = wst a x n m (j - 1))) (fun i _ => m - (intOf i).toNat)
      case atStart => exact ⟨0, U, D, Nat.zero_le _, rfl, HO, HU0⟩
      case round =>
        clear HO HU0
        obtain ⟨j, U, D, hj, rfl, HO, HUD⟩ := hrel
        have hrow := HO.out.keep _ _ HROW.out
        by_cases hlt : j < m
        · have HA0 := Lib.hid (alone_impl m j wr (by omega) hlt)
          go_wp2_with fail
          refine HA0.out.mono ?_
          rintro e w5 ⟨rfl, ho, hb⟩
          have HO1 := Lib.hid (HO.out.up hb)
          have HY := Lib.hid ho.ints
          clear ho hb HA0 HO hrow
          have HMP := Lib.hid (meanPay_any b o rb ro cc n m c cx m X _ a x (onl m j) w5 (HT.out.keep HO1.out.keep) (HX.out.keep HO1.out.keep) HY.out (HPB.out.onl j) tx (by rw [tot_onl hlt]; omega))
          rw [frV_onl _ _ hlt] at HMP
          go_wp2_with fail
          refine HMP.out.mono ?_
          rintro e w6 ⟨rfl, hb⟩
          have HO4 := Lib.hid (HO1.out.up hb)
          clear hb HMP HO1 HY
          have HCB := Lib.hid (col_bd HPB.out hn3 hm3 j)
          have HFU := Lib.hid (frU_bd tx HCB.out)
          have HFD := Lib.hid (frD_bd (u := colU a x n m j) tx hbx.2)
          have HPQ : Hid ((frU (colU a x n m j) (tot x), frD (colU a x n m j) (tot x)) = (frU (payU a x (onl m j) m n) (tot x), frD (payU a x (onl m j) m n) (tot x))) := Lib.hid rfl
          generalize frU (payU a x (onl m j) m n) (tot x) = u at *
          generalize frD (payU a x (onl m j) m n) (tot x) = d at *
          have HE := Lib.hid (show frU (colU a x n m j) (tot x) = u from (Prod.ext_iff.1 HPQ.out).1)
          have HE2 := Lib.hid (show frD (colU a x n m j) (tot x) = d from (Prod.ext_iff.1 HPQ.out).2)
          have hub := HFU.out
          have hdb := HFD.out
          rw [HE.out] at hub
          rw [HE2.out] at hdb
          clear HFU HFD
          have hz4 : h < w6.heap.size := blk_lt HO4.out.b1
          have HO5 := Lib.hid (HO4.out.up (below_alloc w6 (.cells #[.int .i64 u, .int .i64 d] 26)))
          have HB5 := Lib.hid (blk_new w6 26 #[.int .i64 u, .int .i64 d])
          have c0 := blk_cell HO5.out.b1 (i := 0) (v := .int .i64 U) rfl
          have c1 := blk_cell HO5.out.b1 (i := 1) (v := .int .i64 D) rfl
          have k0 := blk_cell HB5.out (i := 0) (v := .int .i64 u) rfl
          have k1 := blk_cell HB5.out (i := 1) (v := .int .i64 d) rfl
          clear HO4
          have HUD2 := Lib.hid (show U = (wst a x n m (j - 1)).1 ∧ D = (wst a x n m (j - 1)).2 from ⟨(Prod.ext_iff.1 HUD.out).1, (Prod.ext_iff.1 HUD.out).2⟩)
          have hWB := HW.out (j - 1)
          rw [← HUD2.out.1, ← HUD2.out.2] at hWB
          obtain ⟨⟨wb1, wb2⟩, wb3, wb4⟩ := hWB
          have HL := Lib.hid (less_impl u d U D (w6.alloc (.cells #[.int .i64 u, .int .i64 d] 26)) (by omega) (by omega) (by omega) (by omega))
          go_wp2_with fail
          refine HL.out.mono ?_
          rintro e w7 ⟨rfl, hb⟩
          have HO6 := Lib.hid (HO5.out.up hb)
          have HB6 := Lib.hid (blk_below HB5.out hb)
          clear hb HL c0 c1 k0 k1 HO5 HB5
          have c0 := blk_cell HO6.out.b1 (i := 0) (v := .int .i64 U) rfl
          have c1 := blk_cell HO6.out.b1 (i := 1) (v := .int .i64 D) rfl
          have f0 := blk_frozen HO6.out.b1 0
          have f1 := blk_frozen HO6.out.b1 1
          have k0 := blk_cell HB6.out (i := 0) (v := .int .i64 u) rfl
          have k1 := blk_cell HB6.out (i := 1) (v := .int .i64 d) rfl
          have HO7 := Lib.hid (HO6.out.set u d)
          have HS0 : Hid (j = 0 → wst a x n m j = (u, d)) := Lib.hid (fun e => by subst e; rw [wst, HE.out, HE2.out])
          have HJJ : Hid (j ≠ 0 → j - 1 + 1 = j) := Lib.hid (fun _ => by omega)
          by_cases hless : lessB u d U D = true
          · have HN : Hid (wst a x n m j = (u, d)) := Lib.hid (by
              by_cases e : j = 0
              · exact HS0.out e
              · have hjj := HJJ.out e
                have := wst_yes (a := a) (x := x) (n := n) (m := m) (k := j - 1) (by rw [hjj, HE.out, HE2.out, ← HUD2.out.1, ← HUD2.out.2]; exact hless)
                rw [hjj, HE.out, HE2.out] at this
                exact this)
            go_wp2
            go_roundw
            case rel => exact ⟨j + 1, u, d, by omega, by go_num, HO7, Lib.hid (by rw [Nat.add_sub_cancel, HN.out])⟩
            case measure => simp [intOf]; omega
          · have hless' : lessB u d U D = false := by simpa using hless
            have HN : Hid (wst a x n m j = (U, D)) := Lib.hid (by
              by_cases e : j = 0
              · rw [HUD.out, e]
              · have hjj := HJJ.out e
                have := wst_no (a := a) (x := x) (n := n) (m := m) (k := j - 1) (by rw [hjj, HE.out, HE2.out, ← HUD2.out.1, ← HUD2.out.2]; exact hless')
                rw [hjj] at this
                rw [this, HUD2.out.1, HUD2.out.2])
            clear hless
            go_wp2
            go_roundw
            case rel => exact ⟨j + 1, U, D, by omega, by go_num, HO6, Lib.hid (by rw [Nat.add_sub_cancel, HN.out])⟩
            case measure => simp [intOf]; omega
        · obtain rfl : j = m := by omega
          have HFV : Hid (wstV (wst a x n j (j - 1)) = .agg #[.int .i64 U, .int .i64 D]) := Lib.hid (by rw [← HUD.out]; rfl)
          rw [HFV.out]
          have k0 := blk_cell HO.out.b1 (i := 0) (v := .int .i64 U) rfl
          have k1 := blk_cell HO.out.b1 (i := 1) (v := .int .i64 D) rfl
          have HPF := Lib.hid (PF.mk HO.out.b0 HO.out.below)
          clear HO
          have c0 := blk_cell HPF.out.box (i := 0) rfl
          have c1 := blk_cell HPF.out.box (i := 1) rfl
          have f0 := blk_frozen HPF.out.box 0
          have f1 := blk_frozen HPF.out.box 1
          go_wp2
          clear c0 c1 f0 f1
          have B1 := blk_set (blk_set HPF.out.box 0 (.int .i64 U)) 1 (.int .i64 D)
          have r0 := blk_cell B1 (i := 0) (v := .int .i64 U) rfl
          have r1 := blk_cell B1 (i := 1) (v := .int .i64 D) rfl
          have HBX := Lib.hid ((HPF.out.below.setCell (p := ⟨w.heap.size, 0, none⟩) (Nat.le_refl _) (.int .i64 U)).setCell (p := ⟨w.heap.size, 1, none⟩) (Nat.le_refl _) (.int .i64 D))
          clear B1 HPF
          generalize (wr.setCell ⟨w.heap.size, 0, none⟩ (.int .i64 U)).setCell ⟨w.heap.size, 1, none⟩ (.int .i64 D) = WE at *
          refine bodyPost_ret (v := .tuple #[.agg #[.int .i64 U, .int .i64 D], .bool true]) (by simp [results, Try.results22, go_sem, r0, r1]) rfl ?_
          exact ⟨by rw [HFV.out], HBX.out⟩
    · have hq := fun W (k : Keep w W) => ValidShares_any' _ _ _ _ (n : Int) W (HX.out.keep k) (by omega)
      rw [show pb (VSn x (n : Int)) = false by rw [← HLEN.out]; rw [HV.out.vsn]; exact pb_false hvx] at hq
      have HQ := Lib.hid hq
      have HNO := Lib.hid (show worF a x = (0, 0) ∧ pb (WOk a x) = false from ⟨worF_no fun h => hvx h.x, pb_false fun h => hvx h.x⟩)
      clear hvx hq
      go_enter Try.func22, Try.ntmps22
      go_wp2_with fail
      refine HC.out.mono ?_
      rintro e w1 ⟨rfl, hq⟩
      have HPF1 := Lib.hid (HPF.out.up hq.below)
      clear hq HC HPF
      go_wp2_with fail
      refine (HQ.out _ HPF1.out.keep).mono ?_
      rintro e w2 ⟨rfl, hq⟩
      have HPF := Lib.hid (HPF1.out.up hq.below)
      clear hq HQ HPF1
      have c0 := blk_cell HPF.out.box (i := 0) rfl
      have c1 := blk_cell HPF.out.box (i := 1) rfl
      have f0 := blk_frozen HPF.out.box 0
      have f1 := blk_frozen HPF.out.box 1
      go_wp2
      clear c0 c1 f0 f1
      have B1 := blk_set (blk_set HPF.out.box 0 (.int .i64 0)) 1 (.int .i64 0)
      have r0 := blk_cell B1 (i := 0) (v := .int .i64 0) rfl
      have r1 := blk_cell B1 (i := 1) (v := .int .i64 0) rfl
      have HBX := Lib.hid ((HPF.out.below.setCell (p := ⟨w.heap.size, 0, none⟩) (Nat.le_refl _) (.int .i64 0)).setCell (p := ⟨w.heap.size, 1, none⟩) (Nat.le_refl _) (.int .i64 0))
      clear B1 HPF
      generalize (w2.setCell ⟨w.heap.size, 0, none⟩ (.int .i64 0)).setCell ⟨w.heap.size, 1, none⟩ (.int .i64 0) = WE at *
      refine bodyPost_ret (v := .tuple #[.agg #[.int .i64 0, .int .i64 0], .bool false]) (by simp [results, Try.results22, go_sem, r0, r1]) rfl ?_
      exact ⟨by rw [HNO.out.1, HNO.out.2]; rfl, HBX.out⟩
  · have HC := Lib.hid (pb_false hv ▸ ValidTable_impl _ _ _ _ _ (HA.out.keep HPF.out.keep))
    have HNO := Lib.hid (show worF a x = (0, 0) ∧ pb (WOk a x) = false from ⟨worF_no fun h => hv h.v, pb_false fun h => hv h.v⟩)
    clear hv
    go_enter Try.func22, Try.ntmps22
    go_wp2_with fail
    refine HC.out.mono ?_
    rintro e w1 ⟨rfl, hq⟩
    have HPF1 := Lib.hid (HPF.out.up hq.below)
    clear hq HC HPF
    have HPF := HPF1
    clear HPF1
    have c0 := blk_cell HPF.out.box (i := 0) rfl
    have c1 := blk_cell HPF.out.box (i := 1) rfl
    have f0 := blk_frozen HPF.out.box 0
    have f1 := blk_frozen HPF.out.box 1
    go_wp2
    clear c0 c1 f0 f1
    have B1 := blk_set (blk_set HPF.out.box 0 (.int .i64 0)) 1 (.int .i64 0)
    have r0 := blk_cell B1 (i := 0) (v := .int .i64 0) rfl
    have r1 := blk_cell B1 (i := 1) (v := .int .i64 0) rfl
    have HBX := Lib.hid ((HPF.out.below.setCell (p := ⟨w.heap.size, 0, none⟩) (Nat.le_refl _) (.int .i64 0)).setCell (p := ⟨w.heap.size, 1, none⟩) (Nat.le_refl _) (.int .i64 0))
    clear B1 HPF
    generalize (w1.setCell ⟨w.heap.size, 0, none⟩ (.int .i64 0)).setCell ⟨w.heap.size, 1, none⟩ (.int .i64 0) = WE at *
    refine bodyPost_ret (v := .tuple #[.agg #[.int .i64 0, .int .i64 0], .bool false]) (by simp [results, Try.results22, go_sem, r0, r1]) rfl ?_
    exact ⟨by rw [HNO.out.1, HNO.out.2]; rfl, HBX.out⟩

end Go.Proofs.Ytmhknknapciebaa

/- The reader behind its bytes. -/
namespace Go.Proofs.Ytmhknknapciebaa
open Go.RowKit

theorem xor_pos {a b : Int} (ha : 0 ≤ a) (hb : 0 ≤ b) (ha1 : a ≤ 1000000000000) (hb1 : b ≤ 1000000000000) : ∃ x : Int, 0 ≤ x ∧ x ≤ 2305843009213693952 ∧ bits .xor .i64 a b = x := by
  obtain ⟨m, rfl⟩ := Int.eq_ofNat_of_zero_le ha
  obtain ⟨k, rfl⟩ := Int.eq_ofNat_of_zero_le hb
  have e : ∀ q : Nat, q ≤ 1000000000000 → (BitVec.ofInt 64 (q : Int)).toNat = q := fun q hq => by
    rw [BitVec.ofInt_natCast, BitVec.toNat_ofNat]
    exact Nat.mod_eq_of_lt (by omega)
  have hx : m ^^^ k < 2 ^ 60 := Nat.xor_lt_two_pow (by omega) (by omega)
  refine ⟨((m ^^^ k : Nat) : Int), by omega, by omega, ?_⟩
  show IntKind.i64.wrap ((BitVec.ofInt 64 (m : Int) ^^^ BitVec.ofInt 64 (k : Int)).toNat : Int) = _
  rw [BitVec.toNat_xor, e m (by omega), e k (by omega), IntKind.wrap_i64]
  omega

set_option maxRecDepth 100000 in
set_option maxHeartbeats 2000000 in
theorem pick_out (w0 w : World) (g : Nat) (A : Option Addr) (l c p : Nat) (n : Int) (h : Rdr w0 w g A l c p) (hp : p < 1000000000) (hl : 0 < l) (hpl : l ≤ p) (hz : 1 ≤ n) :
    Calls Try.prog 77 #[.pointer (some ⟨g, 0, none⟩), .int .i64 n] w (Picked w0 g A l c p n w) := by
  have k0 := blk_cell h.box (i := 0) (v := .slice A l c) rfl
  have k1 := blk_cell h.box (i := 1) (v := .int .i64 p) rfl
  have f1 := blk_frozen h.box 1
  have HS := Lib.hid h.step
  have j0 := blk_cell h.step.box (i := 0) (v := .slice A l c) rfl
  have j1 := blk_cell h.step.box (i := 1) (v := .int .i64 (p + 1 : Nat)) rfl
  have hs := h.small
  obtain ⟨b, o, rfl, hc⟩ := h.step.at_.at_ (by omega)
  obtain ⟨v, v0, v1, cb⟩ := hc (p % l) (Nat.mod_lt _ hl)
  obtain ⟨u, u0, u1, cu⟩ := hc ((p * 7 + 3) % l) (Nat.mod_lt _ hl)
  rw [cast_succ] at j0 j1 cb cu
  have hl0 : ((l : Int) == 0) = false := by simp; omega
  have m1 : (p : Int) % l < l := Int.emod_lt_of_pos _ (by omega)
  have m2 : 0 ≤ (p : Int) % l := Int.emod_nonneg _ (by omega)
  have m3 : ((p : Int) * 7 + 3) % l < l := Int.emod_lt_of_pos _ (by omega)
  have m4 : 0 ≤ ((p : Int) * 7 + 3) % l := Int.emod_nonneg _ (by omega)
  have m5 : 0 ≤ (p : Int) / l := Int.ediv_nonneg (by omega) (by omega)
  have m6 : (p : Int) / l ≤ p := Int.ediv_le_self _ (by omega)
  clear hc
  go_enter Try.func77, Try.ntmps77
  go_wp2
  generalize hW : (w.setCell ⟨g, 1, none⟩ (.int .i64 ((p : Int) + 1))) = W1 at *
  have HW := Lib.hid hW
  clear hW
  have hn1 : decide (n < 1) = false := by simp; omega
  go_quiet (fail)
  generalize hX : v * 131 + u * 1117 + (p : Int) * 29 + (p : Int) / l * 53 = X
  have X0 : 0 ≤ X := by omega
  have X1 : X ≤ 1000000000000 := by omega
  clear hX m1 m2 m3 m4 m5 m6 cb cu v0 v1 u0 u1
  obtain ⟨x, x0, x1, xe⟩ := xor_pos X0 (show 0 ≤ X / 64 by omega) X1 (show X / 64 ≤ 1000000000000 by omega)
  have y0 : 0 ≤ x % n := Int.emod_nonneg _ (by omega)
  have y1 : x % n < n := Int.emod_lt_of_pos _ (by omega)
  go_wp2
  go_ret
  exact ⟨x % n, rfl, fun _ => ⟨y0, y1⟩, fun h => absurd h (by omega), HS.out.quiet ⟨nq, by rw [cast_succ, HW.out]⟩, nq, by rw [cast_succ, HW.out]⟩

/-- Whatever the bytes and the number. -/
theorem pick_any (w0 w : World) (g : Nat) (A : Option Addr) (l c p : Nat) (n : Int) (h : Rdr w0 w g A l c p) (hp : p < 1000000000) :
    Calls Try.prog 77 #[.pointer (some ⟨g, 0, none⟩), .int .i64 n] w (Picked w0 g A l c p n w) := by
  by_cases hz : n < 1
  · exact pick_zero w0 w g A l c p n h hp hz
  · rcases Nat.eq_zero_or_pos l with rfl | hl
    · exact pick_none w0 w g A c p n h hp (by omega)
    · by_cases hpl : p < l
      · exact pick_in w0 w g A l c p n h hpl (by omega)
      · exact pick_out w0 w g A l c p n h hp hl (by omega) (by omega)

end Go.Proofs.Ytmhknknapciebaa

/- The harness of the exact laws: games. -/
namespace Go.Proofs.Ytmhknknapciebaa
open Go.RowKit

theorem szR_le (left : Int) (xs : List (List Int)) (h0 : 0 ≤ left) (h1 : left ≤ 1048576) : -1 ≤ szR left xs ∧ szR left xs ≤ 1048576 := by
  induction xs generalizing left with
  | nil => simp only [szR]; omega
  | cons x xs ih =>
    have := szI_le left x.length h0 h1
    rw [szR]
    split
    · omega
    · exact ih _ (by omega) (by omega)
theorem szRR_le (left : Int) (xs : List (List Int)) (h0 : 0 ≤ left) (h1 : left ≤ 1048576) : -1 ≤ szRR left xs ∧ szRR left xs ≤ 1048576 := by
  have := szI_le left xs.length h0 h1
  rw [szRR]
  split
  · omega
  · exact szR_le _ _ (by omega) (by omega)

def szG (left : Int) (xs ys : List (List Int)) : Int := if szRR left xs < 0 then -1 else if szRR (szRR left xs) ys < 0 then -1 else szRR (szRR left xs) ys
theorem szG_no1 {left : Int} {xs ys : List (List Int)} (h : szRR left xs < 0) : szG left xs ys = -1 := by rw [szG, if_pos h]
theorem szG_eq {left : Int} {xs ys : List (List Int)} (h : ¬ szRR left xs < 0) (h1 : -1 ≤ szRR (szRR left xs) ys) : szG left xs ys = szRR (szRR left xs) ys := by
  rw [szG, if_neg h]; split <;> omega
theorem szG_no2 {left : Int} {xs ys : List (List Int)} (h : ¬ szRR left xs < 0) (h1 : szRR (szRR left xs) ys < 0) : szG left xs ys = -1 := by
  rw [szG, if_neg h, if_pos h1]

def MadeG (w : World) (n m : Nat) (xs ys : List (List Int)) (e : Ending) (w' : World) : Prop :=
  ∃ g1 g2 mid, e = .returned (.agg #[.slice (some ⟨g1, 0, none⟩) n n, .slice (some ⟨g2, 0, none⟩) m m]) ∧ OwnR w.heap.size mid w' g1 (some ⟨g1, 0, none⟩) n n xs ∧ OwnR mid w'.heap.size w' g2 (some ⟨g2, 0, none⟩) m m ys ∧
    Below w.heap.size w w' ∧ w.heap.size ≤ mid ∧ mid ≤ w'.heap.size

def eqG (xs ys zs us : List (List Int)) : Bool := eqRR xs zs && eqRR ys us

theorem eqG_refl (xs ys : List (List Int)) : eqG xs ys xs ys = true := by simp [eqG, eqRR]
end Go.Proofs.Ytmhknknapciebaa

/- What an exact law on a game knows at each step. -/
namespace Go.Proofs.Ytmhknknapciebaa
open Go.RowKit

/-- A copy of it in a box g, its rows its own: the first table's from lo up to less than mid, the second one's up to less than hi. -/
structure XS (lo mid hi : Nat) (w : World) (g g1 g2 n m : Nat) (xs ys : List (List Int)) : Prop where
  box : Blk w g 47 #[.slice (some ⟨g1, 0, none⟩) n n, .slice (some ⟨g2, 0, none⟩) m m]
  rx : OwnR lo mid w g1 (some ⟨g1, 0, none⟩) n n xs
  ry : OwnR mid hi w g2 (some ⟨g2, 0, none⟩) m m ys
  h1 : lo ≤ mid
  h2 : mid ≤ hi
  le : hi ≤ w.heap.size
  lt : hi ≤ g
theorem XS.up {lo mid hi w w' g g1 g2 n m xs ys} (h : XS lo mid hi w g g1 g2 n m xs ys) (k : Below w.heap.size w w') : XS lo mid hi w' g g1 g2 n m xs ys :=
  ⟨blk_below h.box k, h.rx.below k, h.ry.below k, h.h1, h.h2, Nat.le_trans h.le k.size, h.lt⟩
theorem XS.c0 {lo mid hi w g g1 g2 n m xs ys} (h : XS lo mid hi w g g1 g2 n m xs ys) : w.cell? ⟨g, 0, none⟩ = some (.slice (some ⟨g1, 0, none⟩) n n) := blk_cell h.box rfl
theorem XS.c1 {lo mid hi w g g1 g2 n m xs ys} (h : XS lo mid hi w g g1 g2 n m xs ys) : w.cell? ⟨g, 1, none⟩ = some (.slice (some ⟨g2, 0, none⟩) m m) := blk_cell h.box rfl
theorem XS.start {lo mid hi : Nat} {w : World} {g1 g2 n m : Nat} {xs ys : List (List Int)} (o1 : OwnR lo mid w g1 (some ⟨g1, 0, none⟩) n n xs) (o2 : OwnR mid hi w g2 (some ⟨g2, 0, none⟩) m m ys) (h1 : lo ≤ mid) (h2 : mid ≤ hi) (h3 : hi ≤ w.heap.size) :
    XS lo mid hi (w.alloc (.cells #[.slice (some ⟨g1, 0, none⟩) n n, .slice (some ⟨g2, 0, none⟩) m m] 47)) w.heap.size g1 g2 n m xs ys :=
  ⟨blk_new _ _ _, o1.below (below_alloc _ _), o2.below (below_alloc _ _), h1, h2, by simp; omega, h3⟩
theorem XS.rows {lo mid hi w g g1 g2 n m xs ys} (h : XS lo mid hi w g g1 g2 n m xs ys) : IntRows w (some ⟨g1, 0, none⟩) n n xs ∧ IntRows w (some ⟨g2, 0, none⟩) m m ys := ⟨h.rx.rows, h.ry.rows⟩
end Go.Proofs.Ytmhknknapciebaa

/- The harness of the exact laws: every cell marked by a number of its own, and looked at again. -/
namespace Go.Proofs.Ytmhknknapciebaa
open Go.RowKit

def seqI (k : Int) (n : Nat) : List Int := (List.range n).map fun (i : Nat) => k + (i : Int)
theorem seqI_len (k : Int) (n : Nat) : (seqI k n).length = n := by simp [seqI]
theorem gi_seqI {k : Int} {n i : Nat} (h : i < n) : gi (seqI k n) i = k + i := by rw [gi_get (by rw [seqI_len]; exact h)]; simp [seqI]
theorem gi_set_eq {xs : List Int} {i : Nat} {v : Int} (h : i < xs.length) : gi (xs.set i v) i = v := by rw [gi_get (by simpa using h)]; simp
theorem gi_set_ne {xs : List Int} {i j : Nat} {v : Int} (h : j < xs.length) (hne : j ≠ i) : gi (xs.set i v) j = gi xs j := by
  rw [gi_get (by simpa using h), gi_get h, List.getElem_set]; simp [Ne.symm hne]

/-- Only block b has turned. -/
structure One (b : Nat) (w w' : World) : Prop where
  os : w'.os = w.os
  tape : w'.tape = w.tape
  output : w'.output = w.output
  size : w'.heap.size = w.heap.size
  block : ∀ g, g ≠ b → w'.heap[g]? = w.heap[g]?
theorem One.refl (b : Nat) (w : World) : One b w w := ⟨rfl, rfl, rfl, rfl, fun _ _ => rfl⟩
theorem One.set {b : Nat} {a w : World} (h : One b a w) (i : Nat) (u : Value) : One b a (w.setCell ⟨b, i, none⟩ u) :=
  ⟨h.os, h.tape, h.output, by simpa [World.setCell] using h.size, fun g hg => (Below.heap_setCell _ _ _ _ hg).trans (h.block g hg)⟩
theorem One.touch {b lo hi : Nat} {w w' : World} (h : One b w w') (h1 : lo ≤ b) (h2 : b < hi) : Touch lo hi w w' := ⟨h.os, h.tape, h.output, h.size, fun k hk => h.block k (by omega)⟩

theorem OwnI.set {lo hi w b o n c xs} (h : OwnI lo hi w b (some ⟨b, o, none⟩) n c xs) {i : Nat} (hi' : i < n) {v : Int} (hv : -9223372036854775808 ≤ v ∧ v ≤ 9223372036854775807) :
    OwnI lo hi (w.setCell ⟨b, o + i, none⟩ (.int .i64 v)) b (some ⟨b, o, none⟩) n c (xs.set i v) := by
  have hl := h.ints.len
  obtain ⟨o', e, h1, h2, hf⟩ := h.own (by omega)
  injection e with e
  injection e with _ e _
  subst e
  obtain ⟨b', o', e, hc⟩ := h.ints.at_ (by omega)
  injection e with e
  injection e with e1 e2 _
  subst e1
  subst e2
  refine ⟨⟨by rw [List.length_set]; exact hl, h.ints.cap, h.ints.max, fun x hx => ?_, fun _ => ⟨b, o, rfl, fun k hk => ?_⟩⟩, fun _ => ⟨o, rfl, h1, h2, fun k hk => ?_⟩⟩
  · rcases List.mem_or_eq_of_mem_set hx with hx | rfl
    · exact h.ints.wf x hx
    · exact hv
  · by_cases e : k = i
    · subst e
      rw [gi_set_eq (by omega), World.cell?_setCell_same w _ _ (hc k hk)]
    · rw [gi_set_ne (by omega) e, World.cell?_setCell_other w _ _ _ (fun e' => by injection e' with _ e' _; omega)]
      exact hc k hk
  · rw [World.frozen?_setCell]; exact hf k hk

def MarkedI (lo hi : Nat) (w : World) (b : Nat) (A : Option Addr) (n c : Nat) (k : Int) (e : Ending) (w' : World) : Prop :=
  e = .returned (.int .i64 (k + n)) ∧ OwnI lo hi w' b A n c (seqI k n) ∧ (n = 0 → w = w') ∧ One b w w'

/-- How many numbers stand ahead of row j; the rows as they are marked. -/
def offs (xss : List (List Int)) : Nat → Int
  | 0 => 0
  | j + 1 => offs xss j + (gr xss j).length
theorem offs_ge (xss : List (List Int)) : ∀ j, 0 ≤ offs xss j
  | 0 => Int.le_refl _
  | j + 1 => by have := offs_ge xss j; simp only [offs]; omega
theorem offs_mono (xss : List (List Int)) {i j : Nat} (h : i ≤ j) : offs xss i ≤ offs xss j := by
  induction j with
  | zero => obtain rfl : i = 0 := by omega
            exact Int.le_refl _
  | succ j ih =>
    by_cases e : i = j + 1
    · subst e; exact Int.le_refl _
    · have := ih (by omega); simp only [offs]; omega
def mkR (k : Int) (xss : List (List Int)) : List (List Int) := (List.range xss.length).map fun j => seqI (k + offs xss j) (gr xss j).length
theorem mkR_len (k : Int) (xss : List (List Int)) : (mkR k xss).length = xss.length := by simp [mkR]
theorem gr_mkR {k : Int} {xss : List (List Int)} {j : Nat} (h : j < xss.length) : gr (mkR k xss) j = seqI (k + offs xss j) (gr xss j).length := by
  rw [gr_get (by rw [mkR_len]; exact h)]; simp [mkR]

theorem gr_set_eq {xs : List (List Int)} {i : Nat} {v : List Int} (h : i < xs.length) : gr (xs.set i v) i = v := by rw [gr_get (by simpa using h)]; simp
theorem gr_set_ne {xs : List (List Int)} {i j : Nat} {v : List Int} (hne : j ≠ i) : gr (xs.set i v) j = gr xs j := by
  unfold gr; rw [List.getD_eq_getElem?_getD, List.getD_eq_getElem?_getD, List.getElem?_set_ne (Ne.symm hne)]

/-- A row of its own, and what comes of the rows when it alone is written. -/
theorem OwnR.at_row {lo hi w b A n c xss} (h : OwnR lo hi w b A n c xss) {i : Nat} (hi' : i < n) :
    ∃ o g R cc, A = some ⟨b, o, none⟩ ∧ w.cell? ⟨b, o + i, none⟩ = some (.slice R (gr xss i).length cc) ∧ OwnI lo hi w g R (gr xss i).length cc (gr xss i) ∧
      ∀ w' r, r.length = (gr xss i).length → OwnI lo hi w' g R (gr xss i).length cc r → ((gr xss i).length = 0 → w = w') → One g w w' → OwnR lo hi w' b A n c (xss.set i r) ∧ Touch lo hi w w' := by
  obtain ⟨o, G, R, C, rfl, h1, h2, hr, hd⟩ := h.at_ (by omega)
  have hl := h.len
  refine ⟨o, G i, R i, C i, rfl, (hr i hi').2.1, (hr i hi').2.2.1, fun w' r hrl hown h0 hone => ?_⟩
  have hsame : ∀ g, (0 < (gr xss i).length → g ≠ G i) → w'.heap[g]? = w.heap[g]? := fun g hg => by
    by_cases e : 0 < (gr xss i).length
    · exact hone.block g (hg e)
    · rw [h0 (by omega)]
  refine ⟨⟨by rw [List.length_set]; exact hl, h.cap, h.max, fun _ => ⟨o, G, R, C, rfl, h1, h2, fun k hk => ?_, fun j k hjk hk hj0 hk0 => ?_⟩⟩, ?_⟩
  · have eb := hsame b (fun hp => (Ne.symm ((hr i hi').2.2.2 hp)))
    have el : (gr (xss.set i r) k).length = (gr xss k).length := by
      by_cases e : k = i
      · subst e; rw [gr_set_eq (by omega), hrl]
      · rw [gr_set_ne e]
    rw [el]
    refine ⟨by rw [World.frozen?_of_block (w := w) eb]; exact (hr k hk).1, by rw [World.cell?_of_block (w := w) eb]; exact (hr k hk).2.1, ?_, (hr k hk).2.2.2⟩
    by_cases e : k = i
    · subst e; rw [gr_set_eq (by omega)]; exact hown
    · rw [gr_set_ne e]
      exact (hr k hk).2.2.1.of_block fun hp => hsame _ fun hp' => by
        rcases Nat.lt_or_gt_of_ne e with h | h
        · exact hd k i h hi' hp hp'
        · exact Ne.symm (hd i k h hk hp' hp)
  · have el : ∀ k, (gr (xss.set i r) k).length = (gr xss k).length := fun k => by
      by_cases e : k = i
      · subst e; rw [gr_set_eq (by omega), hrl]
      · rw [gr_set_ne e]
    rw [el] at hj0 hk0
    exact hd j k hjk hk hj0 hk0
  · by_cases e : 0 < (gr xss i).length
    · obtain ⟨_, _, q1, q2, _⟩ := (hr i hi').2.2.1.own e
      exact hone.touch q1 q2
    · rw [h0 (by omega)]; exact Touch.refl _ _ _

def MarkedR (lo hi : Nat) (w : World) (b : Nat) (A : Option Addr) (n c : Nat) (xss : List (List Int)) (k : Int) (e : Ending) (w' : World) : Prop :=
  e = .returned (.int .i64 (k + offs xss n)) ∧ OwnR lo hi w' b A n c (mkR k xss) ∧ Touch lo hi w w'

end Go.Proofs.Ytmhknknapciebaa

/- The reader made; one of some numbers. -/
namespace Go.Proofs.Ytmhknknapciebaa
open Go.RowKit

def MadeRdr (w : World) (l : Nat) (e : Ending) (w' : World) : Prop :=
  ∃ A n c, e = .returned (.pointer (some ⟨w.heap.size, 0, none⟩)) ∧ n = min l 2000 ∧ Rdr w w' w.heap.size A n c 0 ∧ w'.heap.size = w.heap.size + 1

theorem Bytes.cut {w A n c} (h : Bytes w A n c) (hn : 2000 < n) : Bytes w A 2000 c :=
  ⟨by have := h.cap; omega, by omega, fun _ => let ⟨b, o, e, hc⟩ := h.at_ (by omega); ⟨b, o, e, fun k hk => hc k (by omega)⟩⟩

set_option maxHeartbeats 400000 in
theorem newReader_any (A : Option Addr) (n c : Nat) (w : World) (h : Bytes w A n c) :
    Calls Try.prog 67 #[.slice A n c] w (MadeRdr w n) := by
  have hm := h.max
  have hcap := h.cap
  by_cases hn : 2000 < n
  · obtain ⟨b, o, rfl, _⟩ := h.at_ (by omega)
    have HR := Lib.hid (show Rdr w (w.alloc (.cells #[.slice (some ⟨b, o, none⟩) 2000 c, .int .i64 0] 85)) w.heap.size (some ⟨b, o, none⟩) 2000 c 0 from
      ⟨blk_new _ _ _, h.cut hn, below_alloc _ _, Nat.le_refl _, Nat.le_refl _⟩)
    have HM := Lib.hid (show 2000 = min n 2000 by omega)
    have hc2 : 2000 ≤ c := by omega
    clear h
    go_enter Try.func67, Try.ntmps67
    go_wp2
    go_ret
    exact ⟨_, _, _, rfl, HM.out, HR.out, by simp⟩
  · have HR := Lib.hid (show Rdr w (w.alloc (.cells #[.slice A n c, .int .i64 0] 85)) w.heap.size A n c 0 from
      ⟨blk_new _ _ _, h, below_alloc _ _, Nat.le_refl _, by omega⟩)
    have HM := Lib.hid (show n = min n 2000 by omega)
    clear h
    go_enter Try.func67, Try.ntmps67
    go_wp2
    go_ret
    exact ⟨_, _, _, rfl, HM.out, HR.out, by simp⟩

/-- Some draws by the reader in block g: it alone has turned, p has grown by some; new blocks may be there. -/
structure Drawn (w0 : World) (g : Nat) (A : Option Addr) (l c p p' : Nat) (w w' : World) : Prop where
  rd : Rdr w0 w' g A l c p'
  grown : w.grownBy w' (some g)

theorem One.grown {g : Nat} {w w' : World} (h : One g w w') : w.grownBy w' (some g) := ⟨h.os, h.tape, h.output, by rw [h.size]; exact Nat.le_refl _, fun k _ hne => h.block k (fun e => hne (by rw [e]))⟩
theorem Rdr.one {g : Nat} (w : World) (v : Value) (q : Nat) : One g w ((w.setCell ⟨g, 1, none⟩ v).drewN q) :=
  let h := (One.refl g w).set 1 v
  ⟨h.os, h.tape, h.output, h.size, h.block⟩
theorem Rdr.below_ {w0 w w' g A n c p} (h : Rdr w0 w g A n c p) (k : Below w.heap.size w w') : Rdr w0 w' g A n c p :=
  ⟨blk_below h.box k, h.bytes, below_up h.below k, h.lt, h.small⟩

def OneOf (w0 : World) (g : Nat) (A : Option Addr) (l c p : Nat) (xs : List Int) (w : World) (e : Ending) (w' : World) : Prop :=
  ∃ x, e = .returned (.int .i64 x) ∧ x ∈ xs ∧ Rdr w0 w' g A l c (p + 1) ∧ One g w w'

set_option maxHeartbeats 400000 in
theorem one_any (w0 w : World) (g : Nat) (A : Option Addr) (l c p : Nat) (B : Option Addr) (n d : Nat) (xs : List Int) (h : Rdr w0 w g A l c p) (hp : p < 1000000000)
    (hx : Ints w B n d xs) (h0 : 0 < n) (hne : ∀ b o, B = some ⟨b, o, none⟩ → b ≠ g) :
    Calls Try.prog 97 #[.pointer (some ⟨g, 0, none⟩), .slice B n d] w (OneOf w0 g A l c p xs w) := by
  have hm := hx.max
  have HX := Lib.hid hx
  have HC := Lib.hid (pick_any w0 w g A l c p n h hp)
  have HNE := Lib.hid hne
  obtain ⟨b, o, rfl, _⟩ := hx.at_ h0
  clear h hx hne
  go_enter Try.func97, Try.ntmps97
  go_wp2_with fail
  refine HC.out.mono ?_
  rintro e w1 ⟨m, rfl, hm1, _, hr, q, hw⟩
  have H1 := Lib.hid hr
  have hone := Rdr.one (g := g) w (.int .i64 (p + 1 : Nat)) q
  rw [← hw] at hone
  have HO := Lib.hid hone
  obtain ⟨m0, m1⟩ := hm1 (by omega)
  obtain ⟨k, rfl⟩ := Int.eq_ofNat_of_zero_le m0
  have hk : k < n := by omega
  obtain ⟨b', o', e', hc⟩ := HX.out.at_ h0
  injection e' with e'
  injection e' with e1 e2 _
  subst e1
  subst e2
  have ck := hc k hk
  rw [← World.cell?_of_block (w := w) (w' := w1) (hone.block b (HNE.out b o rfl))] at ck
  have HM := Lib.hid (gi_mem (xs := xs) (k := k) (by rw [HX.out.len]; exact hk))
  clear hr hone hc hm1 hw HC HX
  go_wp2
  go_ret
  exact ⟨_, rfl, HM.out, H1.out, HO.out⟩
end Go.Proofs.Ytmhknknapciebaa

/- A table drawn. -/
namespace Go.Proofs.Ytmhknknapciebaa
open Go.RowKit

theorem grown_below {g : Nat} {a b w : World} (h : a.grownBy b (some g)) (k : Below b.heap.size b w) : a.grownBy w (some g) :=
  ⟨k.os.trans h.os, k.tape.trans h.tape, k.output.trans h.output, Nat.le_trans h.size k.size, fun i hi hne => (k.block i (Nat.lt_of_lt_of_le hi h.size)).trans (h.block i hi hne)⟩
/-- An append onto a row from lo on. -/
theorem grown_app {g : Nat} {a b w : World} {row : Option Nat} (h : a.grownBy b (some g)) (k : b.grownBy w row) (hr : ∀ x, row = some x → a.heap.size ≤ x) : a.grownBy w (some g) :=
  ⟨k.os.trans h.os, k.tape.trans h.tape, k.output.trans h.output, Nat.le_trans h.size k.size, fun i hi hne => (k.block i (Nat.lt_of_lt_of_le hi h.size) (fun e => by have := hr i e.symm; omega)).trans (h.block i hi hne)⟩

/-- A table under way: the reader, the rows that are there. -/
structure TO (w0 wb : World) (g : Nat) (A : Option Addr) (l c p : Nat) (v : Value) (vs : List Value) (xss : List (List Int)) (w : World) : Prop where
  rd : Rdr w0 w g A l c p
  bo : Bld wb.heap.size w.heap.size w v vs xss
  gl : g < wb.heap.size
  up : wb.grownBy w (some g)
/-- .. and the row that is begun. -/
structure TI (w0 wb : World) (g : Nat) (A : Option Addr) (l c p H : Nat) (v : Value) (vs : List Value) (xss : List (List Int)) (u : Value) (ys : List Int) (w : World) : Prop where
  rd : Rdr w0 w g A l c p
  bo : Bld wb.heap.size H w v vs xss
  bi : BldI H w.heap.size w u ys
  gl : g < wb.heap.size
  lh : wb.heap.size ≤ H
  hs : H ≤ w.heap.size
  up : wb.grownBy w (some g)
theorem TO.start {w0 wb g A l c p} (h : Rdr w0 wb g A l c p) :
    TO w0 wb g A l c p (.slice (some ⟨wb.heap.size, 0, none⟩) 0 0) [] [] (wb.alloc (.cells #[] 23)) :=
  ⟨h.below_ (below_alloc _ _), by rw [World.size_alloc]; exact Bld.make (Nat.le_refl _), blk_lt h.box, World.grownBy_alloc _ _ _⟩
theorem TO.row {w0 wb g A l c p v vs xss w} (h : TO w0 wb g A l c p v vs xss w) :
    TI w0 wb g A l c p w.heap.size v vs xss (.slice (some ⟨w.heap.size, 0, none⟩) 0 0) [] (w.alloc (.cells #[] 3)) :=
  ⟨h.rd.below_ (below_alloc _ _), h.bo.below (below_alloc _ _), by rw [World.size_alloc]; exact BldI.make (Nat.le_refl _), h.gl, h.up.size, by simp, grown_below h.up (below_alloc _ _)⟩
theorem TI.one {w0 wb g A l c p p' H v vs xss u ys w w'} (h : TI w0 wb g A l c p H v vs xss u ys w) (hr : Rdr w0 w' g A l c p') (ho : One g w w') :
    TI w0 wb g A l c p' H v vs xss u ys w' := by
  have hgl := h.gl
  have hlh := h.lh
  refine ⟨hr, h.bo.of_blocks fun k h1 _ _ => ho.block k (by omega), ?_, h.gl, h.lh, by rw [ho.size]; exact h.hs, ?_⟩
  · rw [ho.size]; exact h.bi.of_blocks fun k h1 _ _ => ho.block k (by omega)
  · exact ⟨ho.os.trans h.up.os, ho.tape.trans h.up.tape, ho.output.trans h.up.output, by rw [ho.size]; exact h.up.size, fun k hk hne => (ho.block k (fun e => hne (by rw [e]))).trans (h.up.block k hk hne)⟩
theorem TI.push {w0 wb g A l c p H v vs xss u u' ys w w' x} (h : TI w0 wb g A l c p H v vs xss u ys w)
    (hown : w'.ownsRow H 3 1 u' (ys.length + 1) (ys.map iv ++ [iv x])) (hgrow : (w.alloc (.cells #[iv x] 3)).grownBy w' u.ownBlock)
    (hat : u'.ownBlock = u.ownBlock ∨ u'.ownBlock = some (w.heap.size + 1)) : TI w0 wb g A l c p H v vs xss u' (ys ++ [x]) w' := by
  have hgl := h.gl
  have hlh := h.lh
  have hhs := h.hs
  have hsz := hgrow.size
  simp only [World.size_alloc] at hsz
  have hu : ∀ k, u.ownBlock = some k → H ≤ k := fun k hk => (h.bi.own.lt k hk).1
  have hbelow : ∀ k, k < H → w'.heap[k]? = w.heap[k]? := fun k hk =>
    (hgrow.block k (by simp; omega) (fun e => by have := hu k e.symm; omega)).trans (Below.heap_alloc _ _ _ (by omega))
  refine ⟨⟨(hbelow g (by omega)).trans h.rd.box, h.rd.bytes, ?_, h.rd.lt, h.rd.small⟩, h.bo.of_blocks fun k _ hk _ => hbelow k hk, ⟨by rw [List.length_append, List.length_singleton, List.map_append]; exact hown, fun k hk => ?_⟩, h.gl, h.lh, by omega, ?_⟩
  · exact ⟨hgrow.os.trans h.rd.below.os, hgrow.tape.trans h.rd.below.tape, hgrow.output.trans h.rd.below.output, by have := h.rd.below.size; omega, fun k hk => (hbelow k (by have := h.rd.lt; omega)).trans (h.rd.below.block k hk)⟩
  · rcases hat with hat | hat
    · have := h.bi.hi_ k (by rw [← hat]; exact hk); omega
    · have := (hown.lt k hk).2; omega
  · exact grown_app (grown_below h.up (below_alloc _ _)) hgrow fun k hk => by have := hu k hk; omega
theorem TI.done {w0 wb g A l c p H v v' vs xss ys w w' Ar cr gr_} (h : TI w0 wb g A l c p H v vs xss (.slice Ar ys.length cr) ys w) (ho : OwnI H w.heap.size w gr_ Ar ys.length cr ys)
    (hown : w'.ownsRow wb.heap.size 23 1 v' (xss.length + 1) (vs ++ [.slice Ar ys.length cr])) (hgrow : (w.alloc (.cells #[.slice Ar ys.length cr] 23)).grownBy w' v.ownBlock)
    (hat : v'.ownBlock = v.ownBlock ∨ v'.ownBlock = some (w.heap.size + 1)) : TO w0 wb g A l c p v' (vs ++ [.slice Ar ys.length cr]) (xss ++ [ys]) w' := by
  have hgl := h.gl
  have hlh := h.lh
  have hhs := h.hs
  have hsz := hgrow.size
  simp only [World.size_alloc] at hsz
  have hv : ∀ k, v.ownBlock = some k → wb.heap.size ≤ k := fun k hk => (h.bo.own.lt k hk).1
  have hbelow : ∀ k, k < wb.heap.size → w'.heap[k]? = w.heap[k]? := fun k hk =>
    (hgrow.block k (by simp; omega) (fun e => by have := hv k e.symm; omega)).trans (Below.heap_alloc _ _ _ (by omega))
  have hb := below_alloc w (.cells #[.slice Ar ys.length cr] 23)
  refine ⟨⟨(hbelow g hgl).trans h.rd.box, h.rd.bytes, ?_, h.rd.lt, h.rd.small⟩, ?_, h.gl, ?_⟩
  · exact ⟨hgrow.os.trans h.rd.below.os, hgrow.tape.trans h.rd.below.tape, hgrow.output.trans h.rd.below.output, by have := h.rd.below.size; omega, fun k hk => (hbelow k (by have := h.rd.lt; omega)).trans (h.rd.below.block k hk)⟩
  · have hbo : Bld wb.heap.size H w v vs xss := h.bo
    exact Bld.push (hi := H) (w := w) hbo hb ((ho.below hb).mono (Nat.le_refl _) (by simp)) hown hgrow (by simpa using hat) hlh hhs
  · exact grown_app (grown_below h.up hb) hgrow fun k hk => hv k hk
end Go.Proofs.Ytmhknknapciebaa

/- A table drawn: the walk. -/
namespace Go.Proofs.Ytmhknknapciebaa
open Go.RowKit
theorem Try.info_row : (Try.prog.info? 23).map (fun i => (i.zero, i.size, i.bytes)) = some (some (.slice none 0 0), 1, 24) := by kernel_rfl
theorem Try.info_int : (Try.prog.info? 3).map (fun i => (i.zero, i.size, i.bytes)) = some (some (.int .i64 0), 1, 8) := by kernel_rfl

def RowIn (m : Nat) (lo hi : Int) (r : List Int) : Prop := r.length = m ∧ ∀ x ∈ r, lo ≤ x ∧ x ≤ hi
def TableOut (w0 : World) (g : Nat) (A : Option Addr) (l c p n m : Nat) (lo hi : Int) (w : World) (e : Ending) (w' : World) : Prop :=
  ∃ Av cv vs xss p', e = .returned (.slice Av n cv) ∧ xss.length = n ∧ (∀ r ∈ xss, RowIn m lo hi r) ∧ TO w0 w g A l c p' (.slice Av n cv) vs xss w' ∧ p' ≤ p + 16

set_option maxHeartbeats 1000000 in
theorem tableOf_any (w0 w : World) (g : Nat) (A : Option Addr) (l c p n m : Nat) (lo hi : Int) (h : Rdr w0 w g A l c p) (hp : p < 900000000) (hn : n ≤ 4) (hm : m ≤ 4) (hl1 : -100 ≤ lo) (hl2 : lo ≤ hi) (hl3 : hi ≤ 100) :
    Calls Try.prog 98 #[.pointer (some ⟨g, 0, none⟩), .int .i64 n, .int .i64 m, .int .i64 lo, .int .i64 hi] w (TableOut w0 g A l c p n m lo hi w) := by
  have HS := Lib.hid (TO.start h)
  clear h
  go_enter Try.func98, Try.ntmps98
  go_wp2
  go_loopw [11] (fun v wr => ∃ (xss : List (List Int)) (vs : List Value) (p' : Nat), xss.length ≤ n ∧ p' ≤ p + 4 * xss.length ∧ Hid (∀ r ∈ xss, RowIn m lo hi r) ∧ Hid (TO w0 w g A l c p' v vs xss wr)) (fun v _ => n - (match v with | .slice _ k _ => k | _ => 0))
  case atStart => exact ⟨[], [], p, Nat.zero_le _, by simp, Lib.hid (fun r hr => by simp at hr), HS⟩
  case round =>
    clear HS
    obtain ⟨xss, vs, p', hxn, hpp, HA, HT⟩ := hrel
    obtain ⟨Av, cv, rfl⟩ := HT.out.bo.form
    by_cases hlt : xss.length < n
    · have HI := Lib.hid HT.out.row
      clear HT
      go_wp2
      generalize wr.heap.size = N at *
      go_loopw [12] (fun u wi => ∃ (ys : List Int) (q : Nat), ys.length ≤ m ∧ q ≤ p' + ys.length ∧ Hid (∀ x ∈ ys, lo ≤ x ∧ x ≤ hi) ∧ Hid (TI w0 w g A l c q N (.slice Av xss.length cv) vs xss u ys wi)) (fun u _ => m - (match u with | .slice _ k _ => k | _ => 0))
      case atStart => exact ⟨[], p', Nat.zero_le _, by simp, Lib.hid (fun r hr => by simp at hr), HI⟩
      case round =>
        clear HI
        obtain ⟨ys, q, hym, hq, HR, HI⟩ := hrel
        obtain ⟨Au, cu, rfl⟩ := HI.out.bi.form
        by_cases hlm : ys.length < m
        · have HC := Lib.hid (pick_any w0 _ g A l c q (hi - lo + 1) HI.out.rd (by omega))
          go_wp2_with fail
          refine HC.out.mono ?_
          rintro e w2 ⟨k, rfl, hk1, _, hr, z, hw⟩
          have hone := Rdr.one (g := g) wr (.int .i64 (q + 1 : Nat)) z
          rw [← hw] at hone
          obtain ⟨k0, k1⟩ := hk1 (by omega)
          have HI2 := Lib.hid (HI.out.one hr hone)
          clear hr hone hw hk1 HC HI
          have hb := below_alloc w2 (.cells #[iv (lo + k)] 3)
          have HB4 := Lib.hid (HI2.out.bi.below hb).own
          have HN := Lib.hid (cell_one_new w2 (iv (lo + k)) 3)
          have hHs := HI2.out.hs
          have hlh := HI2.out.lh
          clear hb
          obtain ⟨i0, hi0, hz0, hz1, hz2⟩ := info_parts Try.info_int
          go_wp2_with (at_builtin; refine wpList_append_own_at _ rfl _ _ 23 rfl N 3 i0 (.int .i64 0) 1 8 Try.underlying23 hi0 hz0 hz1 hz2 rfl (by decide) _ ys.length (ys.map iv) rfl HB4.out ⟨w2.heap.size, 0, none⟩ 1 1 [iv (lo + k)] rfl rfl ?c1 ?c2 ?c3 ?c4 ?c5 ?_)
          case c1 => exact HN.out
          case c2 => intro u hu; simp at hu; subst hu; rfl
          case c3 => unfold maxLen; omega
          case c4 => omega
          case c5 => simp; omega
          intro v' w5 hown' hgrow _ hat
          have HI5 := Lib.hid (HI2.out.push hown' hgrow (by simpa using hat))
          clear HB4 HN hown' hgrow hat HI2
          obtain ⟨Au2, cu2, rfl⟩ := HI5.out.bi.form
          go_wp2
          go_roundw
          case rel => exact ⟨ys ++ [lo + k], q + 1, by simp; omega, by simp; omega, Lib.hid (fun x hx => by
            rcases List.mem_append.1 hx with hx | hx
            · exact HR.out x hx
            · simp at hx; omega), HI5⟩
          case measure => simp; omega
        · obtain ⟨Ar, nr, cr, gg, e, rfl, ho, _⟩ := HI.out.bi.owns (by omega) (fun x hx => by have := HR.out x hx; omega)
          injection e with e1 _ e3
          subst e1
          subst e3
          have HO := Lib.hid ho
          have hym2 : ys.length = m := by omega
          have hb := below_alloc wr (.cells #[.slice Au ys.length cu] 23)
          have HB4 := Lib.hid (HI.out.bo.below hb).own
          have HN := Lib.hid (cell_one_new wr (.slice Au ys.length cu) 23)
          have hHs := HI.out.hs
          have hlh := HI.out.lh
          clear hb ho
          have HYM := Lib.hid hym2
          clear hym2
          obtain ⟨i0, hi0, hz0, hz1, hz2⟩ := info_parts Try.info_row
          go_wp2_with (at_builtin; refine wpList_append_own_at _ rfl _ _ 22 rfl w.heap.size 23 i0 (.slice none 0 0) 1 24 Try.underlying22 hi0 hz0 hz1 hz2 rfl (by decide) _ xss.length vs rfl HB4.out ⟨wr.heap.size, 0, none⟩ 1 1 [.slice Au ys.length cu] rfl rfl ?d1 ?d2 ?d3 ?d4 ?d5 ?_)
          case d2 => rfl
          case d3 => unfold maxLen; omega
          case d4 => omega
          case d5 => omega
          intro v' w5 hown' hgrow _ hat
          have HT5 := Lib.hid (HI.out.done HO.out hown' hgrow (by simpa using hat))
          clear HB4 HN hown' hgrow hat HI HO
          obtain ⟨Av2, cv2, rfl⟩ := HT5.out.bo.form
          go_wp2
          go_roundw
          case rel => exact ⟨xss ++ [ys], _, q, by simp; omega, by have := HYM.out; simp; omega, Lib.hid (fun r hr => by
            rcases List.mem_append.1 hr with hr | hr
            · exact HA.out r hr
            · simp at hr; subst hr; exact ⟨HYM.out, HR.out⟩), HT5⟩
          case measure => simp; omega
    · have hnx : xss.length = n := by omega
      have HNX := Lib.hid hnx
      clear hnx
      go_wp2
      go_ret
      exact ⟨Av, cv, vs, xss, p', by rw [← HNX.out]; rfl, HNX.out, HA.out, by rw [← HNX.out]; exact HT.out, by have := HNX.out; omega⟩
end Go.Proofs.Ytmhknknapciebaa

/- A table spoiled now and then: what becomes of its memory. -/
namespace Go.Proofs.Ytmhknknapciebaa
open Go.RowKit

theorem Bld.head {lo hi w v vs xss} (h : Bld lo hi w v vs xss) (h0 : 0 < xss.length) : ∃ b c R cc, v = .slice (some ⟨b, 0, none⟩) xss.length c ∧ lo ≤ b ∧ vs[0]? = some (.slice R (gr xss 0).length cc) ∧ w.cell? ⟨b, 0, none⟩ = some (.slice R (gr xss 0).length cc) := by
  obtain ⟨h1, h4, G, R, C, h2, h3⟩ := h
  have hv := (h2 0 h0).1
  rcases h1.2 with ⟨_, h5⟩ | ⟨g, cap, cur, rfl, hb, _⟩
  · omega
  · have hc := h1.cells (g := g) rfl 0 _ hv
    exact ⟨g, cap, R 0, C 0, rfl, hb, hv, by simpa [Addr.add] using hc⟩

theorem Bld.set0 {lo hi w v vs xss} (h : Bld lo hi w v vs xss) (h0 : 0 < xss.length) (h1 : 0 < (gr xss 0).length) {x : Int} (hx : -9223372036854775808 ≤ x ∧ x ≤ 9223372036854775807) :
    ∃ b o cc, vs[0]? = some (.slice (some ⟨b, o, none⟩) (gr xss 0).length cc) ∧ lo ≤ b ∧ (∃ y, w.cell? ⟨b, o, none⟩ = some (.int .i64 y)) ∧ w.frozen? ⟨b, o, none⟩ = false ∧
      Bld lo hi (w.setCell ⟨b, o, none⟩ (.int .i64 x)) v vs (xss.set 0 ((gr xss 0).set 0 x)) := by
  obtain ⟨ho, h4, G, R, C, h2, h3⟩ := h
  obtain ⟨q0, q1, q2⟩ := h2 0 h0
  obtain ⟨o, e, l1, l2, hf⟩ := q1.own h1
  have q1' := q1
  rw [e] at q1' q0
  have hset := q1'.set h1 hx
  rw [Nat.add_zero] at hset
  obtain ⟨b', o', e', hc⟩ := q1.ints.at_ h1
  rw [e] at e'
  injection e' with e'
  injection e' with e1 e2 _
  have hc0 := hc 0 h1
  rw [Nat.add_zero, ← e1, ← e2] at hc0
  have hf0 := hf 0 h1
  rw [Nat.add_zero] at hf0
  have hlen : ∀ k, (gr (xss.set 0 ((gr xss 0).set 0 x)) k).length = (gr xss k).length := fun k => by
    by_cases e : k = 0
    · subst e; rw [gr_set_eq h0, List.length_set]
    · rw [gr_set_ne e]
  refine ⟨G 0, o, C 0, q0, l1, ⟨_, hc0⟩, hf0, ⟨?_, h4, G, R, C, fun k hk => ?_, fun j k hjk hk hj0 hk0 => ?_⟩⟩
  · rw [List.length_set]
    exact blk_kept ho fun g hg => Below.heap_setCell _ _ _ _ (fun e => q2 h1 (by rw [hg, e]))
  · rw [List.length_set] at hk
    rw [hlen]
    obtain ⟨a, b, c⟩ := h2 k hk
    refine ⟨a, ?_, c⟩
    by_cases ek : k = 0
    · subst ek
      rw [gr_set_eq h0, e]
      exact hset
    · rw [gr_set_ne ek]
      exact b.of_block fun hp => Below.heap_setCell _ _ _ _ (Ne.symm (h3 0 k (by omega) hk h1 hp))
  · rw [List.length_set] at hk
    rw [hlen] at hj0 hk0
    exact h3 j k hjk hk hj0 hk0

/-- The rows' lengths and numbers are small. -/
structure Small (xss : List (List Int)) : Prop where
  n : xss.length ≤ 8
  rows : ∀ r ∈ xss, r.length ≤ 8 ∧ ∀ x ∈ r, -1000 ≤ x ∧ x ≤ 1000
theorem Small.set0 {xss : List (List Int)} (h : Small xss) (h0 : 0 < xss.length) {x : Int} (hx : -1000 ≤ x ∧ x ≤ 1000) : Small (xss.set 0 ((gr xss 0).set 0 x)) := by
  have hm := h.rows _ (gr_mem h0)
  refine ⟨by rw [List.length_set]; exact h.n, fun r hr => ?_⟩
  rcases List.mem_or_eq_of_mem_set hr with hr | rfl
  · exact h.rows r hr
  · refine ⟨by rw [List.length_set]; exact hm.1, fun y hy => ?_⟩
    rcases List.mem_or_eq_of_mem_set hy with hy | rfl
    · exact hm.2 y hy
    · exact hx
theorem Small.snoc {xss : List (List Int)} (h : Small xss) (hn : xss.length ≤ 7) {x : Int} (hx : -1000 ≤ x ∧ x ≤ 1000) : Small (xss ++ [[x]]) :=
  ⟨by simp; omega, fun r hr => by
    rcases List.mem_append.1 hr with hr | hr
    · exact h.rows r hr
    · simp at hr; subst hr; exact ⟨by simp, fun y hy => by simp at hy; subst hy; exact hx⟩⟩
theorem Small.nil : Small [] := ⟨by simp, fun r hr => by simp at hr⟩

theorem TO.below {w0 wb g A l c p v vs xss w w'} (h : TO w0 wb g A l c p v vs xss w) (k : Below w.heap.size w w') : TO w0 wb g A l c p v vs xss w' :=
  ⟨h.rd.below_ k, (h.bo.below k).mono k.size, h.gl, grown_below h.up k⟩
theorem TO.one {w0 wb g A l c p p' v vs xss w w'} (h : TO w0 wb g A l c p v vs xss w) (hr : Rdr w0 w' g A l c p') (ho : One g w w') : TO w0 wb g A l c p' v vs xss w' := by
  have hgl := h.gl
  refine ⟨hr, ?_, h.gl, ?_⟩
  · rw [ho.size]; exact h.bo.of_blocks fun k h1 _ _ => ho.block k (by omega)
  · exact ⟨ho.os.trans h.up.os, ho.tape.trans h.up.tape, ho.output.trans h.up.output, by rw [ho.size]; exact h.up.size, fun k hk hne => (ho.block k (fun e => hne (by rw [e]))).trans (h.up.block k hk hne)⟩
theorem TO.fresh {w0 wb g A l c p v vs xss w} (h : TO w0 wb g A l c p v vs xss w) : TO w0 wb g A l c p (.slice (some ⟨w.heap.size, 0, none⟩) 0 0) [] [] (w.alloc (.cells #[] 23)) :=
  ⟨h.rd.below_ (below_alloc _ _), by rw [World.size_alloc]; exact Bld.make h.up.size, h.gl, grown_below h.up (below_alloc _ _)⟩
theorem TO.set0 {w0 wb g A l c p v vs xss w} (h : TO w0 wb g A l c p v vs xss w) (h0 : 0 < xss.length) (h1 : 0 < (gr xss 0).length) {x : Int} (hx : -1000 ≤ x ∧ x ≤ 1000) :
    ∃ b o cc, vs[0]? = some (.slice (some ⟨b, o, none⟩) (gr xss 0).length cc) ∧ (∃ y, w.cell? ⟨b, o, none⟩ = some (.int .i64 y)) ∧ w.frozen? ⟨b, o, none⟩ = false ∧
      TO w0 wb g A l c p v vs (xss.set 0 ((gr xss 0).set 0 x)) (w.setCell ⟨b, o, none⟩ (.int .i64 x)) := by
  obtain ⟨b, o, cc, e, hl, hc, hf, hb⟩ := h.bo.set0 h0 h1 (x := x) (by omega)
  have hgl := h.gl
  have hs : (w.setCell ⟨b, o, none⟩ (.int .i64 x)).heap.size = w.heap.size := by simp [World.setCell]
  refine ⟨b, o, cc, e, hc, hf, ⟨⟨blk_other h.rd.box (by show g ≠ b; omega) _, h.rd.bytes, h.rd.below.setCell (by show w0.heap.size ≤ b; have := h.rd.lt; omega) _, h.rd.lt, h.rd.small⟩, by rw [hs]; exact hb, h.gl, ?_⟩⟩
  exact ⟨h.up.os, h.up.tape, h.up.output, by rw [hs]; exact h.up.size, fun k hk hne => (Below.heap_setCell _ _ _ _ (by show k ≠ b; omega)).trans (h.up.block k hk hne)⟩
end Go.Proofs.Ytmhknknapciebaa

/- A table spoiled now and then: the walk. -/
namespace Go.Proofs.Ytmhknknapciebaa
open Go.RowKit

/-- A row written out, of one number. -/
theorem TO.lit {w0 wb g A l c p v vs xss w} (h : TO w0 wb g A l c p v vs xss w) (x : Int) :
    TI w0 wb g A l c p w.heap.size v vs xss (.slice (some ⟨w.heap.size, 0, none⟩) 1 1) [x] (w.alloc (.cells #[iv x] 3)) :=
  ⟨h.rd.below_ (below_alloc _ _), h.bo.below (below_alloc _ _), by rw [World.size_alloc]; exact ⟨⟨by simp, .inr ⟨w.heap.size, 1, #[iv x], rfl, Nat.le_refl _, heap_alloc_new w _, Nat.le_refl _, by decide, rfl, by simp⟩⟩, fun k hk => by simp [Value.ownBlock] at hk; omega⟩, h.gl, h.up.size, by simp, grown_below h.up (below_alloc _ _)⟩

theorem Ints.drew {w A n c xs} (h : Ints w A n c xs) : Ints w.drew A n c xs := ⟨h.1, h.2, h.3, h.4, h.5⟩

theorem Bld.head_at {lo hi w b c n vs xss} (h : Bld lo hi w (.slice (some ⟨b, 0, none⟩) n c) vs xss) (h0 : 0 < xss.length) : w.cell? ⟨b, 0, none⟩ = vs[0]? := by
  obtain ⟨b', c', R, cc, e, _, h1, h2⟩ := h.head h0
  injection e with e
  injection e with e
  injection e with e _ _
  subst e
  rw [h1, h2]

theorem TO.set0_at {w0 wb g A l c p v vs xss w b o k cc} (h : TO w0 wb g A l c p v vs xss w) (h0 : 0 < xss.length) (h1 : 0 < (gr xss 0).length) (hv : vs[0]? = some (.slice (some ⟨b, o, none⟩) k cc)) {x : Int} (hx : -1000 ≤ x ∧ x ≤ 1000) :
    (∃ y, w.cell? ⟨b, o, none⟩ = some (.int .i64 y)) ∧ w.frozen? ⟨b, o, none⟩ = false ∧ TO w0 wb g A l c p v vs (xss.set 0 ((gr xss 0).set 0 x)) (w.setCell ⟨b, o, none⟩ (.int .i64 x)) := by
  obtain ⟨b', o', cc', e, h2⟩ := h.set0 h0 h1 hx
  rw [hv] at e
  injection e with e
  injection e with e _ _
  injection e with e
  injection e with e1 e2 _
  subst e1
  subst e2
  exact h2

def SpoilOut (w0 wb : World) (g : Nat) (A : Option Addr) (l c p : Nat) (e : Ending) (w' : World) : Prop :=
  ∃ v' vs' xss' p', e = .returned v' ∧ Small xss' ∧ TO w0 wb g A l c p' v' vs' xss' w' ∧ p' ≤ p + 2

set_option maxHeartbeats 1000000 in
theorem spoil_any (w0 wb w : World) (g : Nat) (A : Option Addr) (l c p : Nat) (Av : Option Addr) (cv : Nat) (vs : List Value) (xss : List (List Int)) (h : TO w0 wb g A l c p (.slice Av xss.length cv) vs xss w) (hp : p < 900000000) (hs : Small xss) (h7 : xss.length ≤ 7) :
    Calls Try.prog 99 #[.pointer (some ⟨g, 0, none⟩), .slice Av xss.length cv] w (SpoilOut w0 wb g A l c p) := by
  have HT := Lib.hid h
  have HC := Lib.hid (pick_any w0 w g A l c p 40 h.rd (by omega))
  have HS := Lib.hid hs
  clear h hs
  go_enter Try.func99, Try.ntmps99
  go_wp2_with fail
  refine HC.out.mono ?_
  rintro e w2 ⟨k, rfl, hk1, _, hr, z, hw⟩
  have hone := Rdr.one (g := g) w (.int .i64 (p + 1 : Nat)) z
  rw [← hw] at hone
  obtain ⟨k0, k1⟩ := hk1 (by omega)
  have HT2 := Lib.hid (HT.out.one hr hone)
  clear hr hone hw hk1 HC HT
  by_cases e0 : k = 0
  · subst e0
    by_cases hx0 : 0 < xss.length
    · obtain ⟨b0, c0, R0, cc0, ev, hb0, hv0, hcell0⟩ := HT2.out.bo.head hx0
      injection ev with ev1 _ ev3
      subst ev1
      subst ev3
      by_cases hx1 : 0 < (gr xss 0).length
      · obtain ⟨b, o, cc, ev, _⟩ := HT2.out.set0 hx0 hx1 (x := 10) (by omega)
        rw [hv0] at ev
        injection ev with ev
        injection ev with ev1 _ ev3
        subst ev1
        subst ev3
        have HTA := Lib.hid ((HT2.out.below (below_alloc w2 (.cells #[iv 10, iv (-10)] 3))).below ((Below.refl _ _).drew))
        have HCA := Lib.hid ((HTA.out.bo.head_at hx0).trans hv0)
        have HIA := Lib.hid (Ints.two w2 10 (-10)).drew
        have hgl := HT2.out.gl
        have hgw := HT2.out.up.size
        go_wp2_with fail
        go_region_held3 (fun W => W.cell? ⟨b0, 0, none⟩ = some (.slice (some ⟨b, o, none⟩) (gr xss 0).length cc0)) (first | exact hcell0 | exact HCA.out | exact HCB.out | exact HCC.out)
          (first
          | (go_at_call 97; refine (one_any w0 _ g A l c (p + 1) _ 2 2 [10, -10] ?_ (by omega) ?_ (by omega) ?_).mono ?_; exact HTA.out.rd; exact HIA.out; (intro b' o' e'; injection e' with e'; injection e' with e1 _ _; omega); rintro e w4 ⟨x, rfl, hx, hr, ho⟩; have HT4 := Lib.hid (HTA.out.one hr ho); have HCB := Lib.hid ((HT4.out.bo.head_at hx0).trans hv0); have hx3 : -1000 ≤ x ∧ x ≤ 1000 := (by simp at hx; omega); obtain ⟨⟨y, hc5⟩, hf5, hT5⟩ := HT4.out.set0_at hx0 hx1 hv0 hx3; have HT5 := Lib.hid hT5; have HCC := Lib.hid ((HT5.out.bo.head_at (by rw [List.length_set]; exact hx0)).trans hv0); clear hr ho hT5 hx HTA HIA))
        go_wp2
        go_ret
        exact ⟨_, _, _, _, rfl, HS.out.set0 hx0 hx3, HT5.out, by omega⟩
      · go_wp2
        go_ret
        exact ⟨_, _, _, _, rfl, HS.out, HT2.out, by omega⟩
    · go_wp2
      go_ret
      exact ⟨_, _, _, _, rfl, HS.out, HT2.out, by omega⟩
  · by_cases e1 : k = 1
    · subst e1
      have HI := Lib.hid (HT2.out.lit 1)
      clear HT2
      have hWs : (w2.alloc (.cells #[iv 1] 3)).heap.size = w2.heap.size + 1 := by simp
      obtain ⟨Ar, nr, cr, gg, e, hn, ho, _⟩ := HI.out.bi.owns (by simp) (fun x hx => by simp at hx; omega)
      injection e with e1 e2 e3
      subst e1
      subst e2
      subst e3
      have HO := Lib.hid ho
      have hb := below_alloc (w2.alloc (.cells #[iv 1] 3)) (.cells #[.slice (some ⟨w2.heap.size, 0, none⟩) 1 1] 23)
      have HB4 := Lib.hid (HI.out.bo.below hb).own
      have HN := Lib.hid (cell_one_new (w2.alloc (.cells #[iv 1] 3)) (.slice (some ⟨w2.heap.size, 0, none⟩) 1 1) 23)
      have hHs := HI.out.hs
      have hlh := HI.out.lh
      clear hb ho hn
      obtain ⟨i0, hi0, hz0, hz1, hz2⟩ := info_parts Try.info_row
      go_wp2_with (at_builtin; refine wpList_append_own_at _ rfl _ _ 22 rfl wb.heap.size 23 i0 (.slice none 0 0) 1 24 Try.underlying22 hi0 hz0 hz1 hz2 rfl (by decide) _ xss.length vs rfl HB4.out ⟨w2.heap.size + 1, 0, none⟩ 1 1 [.slice (some ⟨w2.heap.size, 0, none⟩) 1 1] rfl rfl ?d1 ?d2 ?d3 ?d4 ?d5 ?_)
      case d1 => have := HN.out; rw [hWs] at this; exact this
      case d2 => intro u hu; simp at hu; subst hu; rfl
      case d3 => unfold maxLen; omega
      case d4 => omega
      case d5 => simp; omega
      intro v' w5 hown' hgrow _ hat
      have HT5 := Lib.hid (TI.done (w := w2.alloc (.cells #[iv 1] 3)) (ys := [1]) (xss := xss) (v := .slice Av xss.length cv) (v' := v') (vs := vs) (Ar := some ⟨w2.heap.size, 0, none⟩) (cr := 1) HI.out HO.out hown' hgrow (by simpa using hat))
      clear HB4 HN hown' hgrow hat HI HO
      go_wp2
      go_ret
      exact ⟨_, _, _, _, rfl, HS.out.snoc h7 (by omega), HT5.out, by omega⟩
    · by_cases e2 : k = 2
      · subst e2
        have HF := Lib.hid HT2.out.fresh
        go_wp2
        go_ret
        exact ⟨_, _, _, _, rfl, Small.nil, HF.out, by omega⟩
      · go_wp2
        go_ret
        exact ⟨_, _, _, _, rfl, HS.out, HT2.out, by omega⟩
end Go.Proofs.Ytmhknknapciebaa

/- Some table. -/
namespace Go.Proofs.Ytmhknknapciebaa
open Go.RowKit

theorem grown_trans {g : Nat} {a b w : World} (h : a.grownBy b (some g)) (k : b.grownBy w (some g)) : a.grownBy w (some g) :=
  ⟨k.os.trans h.os, k.tape.trans h.tape, k.output.trans h.output, Nat.le_trans h.size k.size, fun i hi hne => (k.block i (Nat.lt_of_lt_of_le hi h.size) hne).trans (h.block i hi hne)⟩
theorem grown_of_below {g : Nat} {w w' : World} (k : Below w.heap.size w w') : w.grownBy w' (some g) := ⟨k.os, k.tape, k.output, k.size, fun i hi _ => k.block i hi⟩

/-- A number of a list that is written out. -/
def OneLit (w0 : World) (g : Nat) (A : Option Addr) (l c p : Nat) (xs : List Int) (w : World) (e : Ending) (w' : World) : Prop :=
  ∃ x, e = .returned (.int .i64 x) ∧ x ∈ xs ∧ Rdr w0 w' g A l c (p + 1) ∧ w.grownBy w' (some g)
theorem one_lit (w0 w W : World) (g : Nat) (A : Option Addr) (l c p b n : Nat) (xs : List Int) (h : Rdr w0 w g A l c p) (hp : p < 1000000000) (k : Below w.heap.size w W)
    (hb : w.heap.size ≤ b) (hi : Ints W (some ⟨b, 0, none⟩) n n xs) (h0 : 0 < n) :
    Calls Try.prog 97 #[.pointer (some ⟨g, 0, none⟩), .slice (some ⟨b, 0, none⟩) n n] W (OneLit w0 g A l c p xs w) := by
  have hg := blk_lt h.box
  refine (one_any w0 W g A l c p _ n n xs (h.below_ k) hp hi h0 (fun b' o' e' => by injection e' with e'; injection e' with e' _ _; omega)).mono ?_
  rintro e w4 ⟨x, rfl, hx, hr, ho⟩
  exact ⟨x, rfl, hx, hr, grown_trans (grown_of_below k) ho.grown⟩

/-- A table that the reader drew: its memory is from w on. -/
def SomeT (w0 : World) (g : Nat) (A : Option Addr) (l c p : Nat) (w : World) (e : Ending) (w' : World) : Prop :=
  ∃ wb v' vs' xss' p', e = .returned v' ∧ Small xss' ∧ TO w0 wb g A l c p' v' vs' xss' w' ∧ p' ≤ p + 30 ∧ w.grownBy wb (some g)

end Go.Proofs.Ytmhknknapciebaa

/- Tables drawn from bytes. -/
namespace Go.Proofs.Ytmhknknapciebaa
open Go.RowKit

/-- A table of small numbers, in memory of its own. -/
def DrawnT (w : World) (e : Ending) (w' : World) : Prop :=
  ∃ Av n c gg xss, e = .returned (.slice Av n c) ∧ Small xss ∧ OwnR w.heap.size w'.heap.size w' gg Av n c xss ∧ Below w.heap.size w w'

end Go.Proofs.Ytmhknknapciebaa

