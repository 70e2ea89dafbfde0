/- Texts merged: LiftB LiftC Enter UG. -/
import Derived.Test.YtfnpkfplmcgnbaaQ9
import Derived.ChangeSlices
/- An argument of bytes, opened. -/
namespace Go.Proofs.Ytfnpkfplmcgnbaa
open Go.ChangeShapes Go.WideShapes Go.ChangeAt Go.RowKit Go.Deep

theorem Try.cells_u8 : Try.prog.cellsOf 5 = 1 := by kernel_rfl
theorem Try.bytes_u8 : Try.prog.bytesOf 5 = 1 := by kernel_rfl
set_option maxRecDepth 100000 in
theorem open_bytes {H : Type} {enc : TypeId × Value → H} {W : World} {v : Value} {d : DataW H} {p : List MemPlace} {b0 : Nat} (hval : Value.okWide Try.prog W .any b0 22 v)
    (h : DataW.Trod enc Try.prog W 0 (fun _ => true) true 22 v d p) (hw : ∀ n ∈ d.weights Try.prog 22, n ≤ reachBytes) :
    ∃ A n c, v = .slice A n c ∧ Bytes W A n c := by
  obtain ⟨a1, len, cap, rfl⟩ := okWide_slice Try.underlying22 hval
  obtain ⟨fuel, hf⟩ := h
  rcases open_ints Try.underlying22 Try.underlying5 Try.cells_u8 hf with ⟨hcs, hx⟩ | ⟨a, len', cap', zs, hcs, _, hl, hm, hz, hx, hcell, hwz⟩
  · simp [Value.cells] at hcs
    obtain ⟨rfl, rfl, rfl⟩ := hcs
    exact ⟨none, 0, 0, rfl, Nat.le_refl _, by omega, fun h => absurd h (by omega)⟩
  · simp [Value.cells] at hcs
    obtain ⟨rfl, rfl, rfl⟩ := hcs
    simp only [Prod.mk.injEq] at hx
    obtain ⟨rfl, rfl⟩ := hx
    simp only [if_true] at hz
    have h1 := hw _ (weights_slice Try.underlying22 (.inl rfl))
    simp only [lits, List.length_map, List.length_take, List.length_drop, Try.bytes_u8, reachBytes] at h1
    refine ⟨some a, len, cap, rfl, hl, by omega, fun hn => ?_⟩
    have hspot : a.spot = none := by simpa [Addr.add] using World.cell?_spot (hcell 0 (by omega))
    obtain ⟨b, o, sp⟩ := a
    simp only at hspot
    subst hspot
    refine ⟨b, o, rfl, fun k hk => ⟨zs.getD k 0, ?_, ?_, by rw [← add_plain]; exact hcell k (by omega)⟩⟩
    · rw [List.getD_eq_getElem?_getD]; have := hwz (zs.getD k 0) (by rw [List.getD_eq_getElem?_getD, List.getElem?_eq_getElem (show k < zs.length by omega)]; simp)
      simp [Lit.wf, IntKind.min, IntKind.max, IntKind.signed, IntKind.bits] at this
      omega
    · rw [List.getD_eq_getElem?_getD]; have := hwz (zs.getD k 0) (by rw [List.getD_eq_getElem?_getD, List.getElem?_eq_getElem (show k < zs.length by omega)]; simp)
      simp [Lit.wf, IntKind.min, IntKind.max, IntKind.signed, IntKind.bits] at this
      omega
end Go.Proofs.Ytfnpkfplmcgnbaa

/- Arguments that are a slice of ints, or an int, opened. -/
namespace Go.Proofs.Ytfnpkfplmcgnbaa
open Go.ChangeShapes Go.WideShapes Go.ChangeAt Go.RowKit Go.Deep

set_option maxRecDepth 100000 in
theorem open_intS {H : Type} {enc : TypeId × Value → H} {W : World} {v : Value} {d : DataW H} {p : List MemPlace} {b0 : Nat} (hval : Value.okWide Try.prog W .any b0 28 v)
    (h : DataW.Trod enc Try.prog W 0 (fun _ => true) true 28 v d p) (hw : ∀ n ∈ d.weights Try.prog 28, n ≤ reachBytes) :
    ∃ A n c xs, v = .slice A n c ∧ Ints W A n c xs := by
  obtain ⟨a1, len, cap, rfl⟩ := okWide_slice Try.underlying28 hval
  obtain ⟨fuel, hf⟩ := h
  rcases open_ints Try.underlying28 Try.underlying3 Try.cells3 hf with ⟨hcs, hx⟩ | ⟨a, len', cap', zs, hcs, _, hl, hm, hz, hx, hcell, hwz⟩
  · simp [Value.cells] at hcs
    obtain ⟨rfl, rfl, rfl⟩ := hcs
    exact ⟨none, 0, 0, [], rfl, rfl, Nat.le_refl _, by omega, fun _ h => by simp at h, fun h => absurd h (by omega)⟩
  · simp [Value.cells] at hcs
    obtain ⟨rfl, rfl, rfl⟩ := hcs
    simp only [Prod.mk.injEq] at hx
    obtain ⟨rfl, rfl⟩ := hx
    simp only [if_true] at hz
    have h1 := hw _ (weights_slice Try.underlying28 (.inl rfl))
    simp only [lits, List.length_map, List.length_take, List.length_drop, Try.bytes3, reachBytes] at h1
    have hlen : (zs.take len).length = len := by rw [List.length_take]; omega
    refine ⟨some a, len, cap, zs.take len, rfl, hlen, hl, by omega, fun x hx => ?_, fun hn => ?_⟩
    · have := hwz x (List.mem_of_mem_take hx)
      simp [Lit.wf, IntKind.min, IntKind.max, IntKind.signed, IntKind.bits] at this
      omega
    have hspot : a.spot = none := by simpa [Addr.add] using World.cell?_spot (hcell 0 (by omega))
    obtain ⟨b, o, sp⟩ := a
    simp only at hspot
    subst hspot
    refine ⟨b, o, rfl, fun k hk => ?_⟩
    rw [← add_plain, hcell k (by omega)]
    congr 2
    rw [gi_get (by rw [hlen]; exact hk), List.getElem_take]
    simp [List.getD, show k < zs.length by omega]

set_option maxRecDepth 100000 in
theorem open_num {H : Type} {enc : TypeId × Value → H} {W : World} {v : Value} {d : DataW H} {p : List MemPlace} {b0 : Nat} (hval : Value.okWide Try.prog W .any b0 3 v)
    (h : DataW.Trod enc Try.prog W 0 (fun _ => true) true 3 v d p) : ∃ x, v = .int .i64 x ∧ Fit x := by
  obtain ⟨x, rfl, _, _, hw⟩ := open_int Try.underlying3 hval h
  refine ⟨x, rfl, ?_⟩
  simp [Lit.wf, IntKind.min, IntKind.max, IntKind.signed, IntKind.bits] at hw
  unfold Fit
  omega
end Go.Proofs.Ytfnpkfplmcgnbaa

/- The program may be entered: facts of its head, once for all laws. -/
namespace Go.Proofs.Ytfnpkfplmcgnbaa

theorem prog_enters : Try.pinned.checked.prog.mayEnter = true := by kernel_rfl
theorem prog_lifts0 : (false == Try.pinned.checked.prog.liftsFinal) = true := by kernel_rfl
theorem prog_make0 : (Try.pinned.checked.prog.make == some .cut) = true := by kernel_rfl
theorem prog_lifts {b : Bool} (h : b = false) : (b == Try.pinned.checked.prog.liftsFinal) = true := by subst h; exact prog_lifts0
theorem prog_make {m : Make} (h : m = .cut) : (Try.pinned.checked.prog.make == some m) = true := by subst h; exact prog_make0
end Go.Proofs.Ytfnpkfplmcgnbaa

/- A region that draws its order and makes memory: whatever the order, what follows is walked once. -/
namespace Go.Proofs.Ytfnpkfplmcgnbaa
open Go.RowKit

/-- Objects laid one behind the other. -/
def pushAll (w : World) : List Obj → World
  | [] => w
  | o :: os => pushAll (w.alloc o) os
theorem push_below (w : World) : ∀ os, Below w.heap.size w (pushAll w os)
  | [] => Below.refl _ _
  | o :: os => below_up (below_alloc w o) (push_below (w.alloc o) os)
theorem push_drew (w : World) (os : List Obj) : Below w.heap.size w (pushAll w os).drew := (push_below w os).drew
theorem push_keep (w : World) (os : List Obj) : Keep w (pushAll w os).drew := Keep.below (push_drew w os)
theorem push_keep0 (w : World) (os : List Obj) : Keep w (pushAll w os) := Keep.below (push_below w os)
theorem blk_push0 {t : TypeId} {cs : Array Value} : ∀ (os : List Obj) (w : World) (j : Nat), os[j]? = some (.cells cs t) → Blk (pushAll w os) (w.heap.size + j) t cs
  | [], _, _, h => by simp at h
  | o :: os, w, 0, h => by
    simp at h
    subst h
    exact blk_below (blk_new w t cs) (push_below _ os)
  | o :: os, w, j + 1, h => by
    have h2 := blk_push0 os (w.alloc o) j (by simpa using h)
    rw [World.size_alloc, Nat.add_assoc, Nat.add_comm 1 j] at h2
    exact h2
theorem blk_push {t : TypeId} {cs : Array Value} (os : List Obj) (w : World) (j : Nat) (h : os[j]? = some (.cells cs t)) : Blk (pushAll w os).drew (w.heap.size + j) t cs := blk_quiet (blk_push0 os w j h) ⟨1, rfl⟩
/-- A table of two rows of two numbers, wherever its blocks lie. -/
theorem rows_of {W : World} {a b c : Nat} {x y z t : Int} (hx : -1000 ≤ x ∧ x ≤ 1000) (hy : -1000 ≤ y ∧ y ≤ 1000) (hz : -1000 ≤ z ∧ z ≤ 1000) (ht : -1000 ≤ t ∧ t ≤ 1000)
    (ha : Blk W a 3 #[.int .i64 x, .int .i64 y]) (hb : Blk W b 3 #[.int .i64 z, .int .i64 t]) (hc : Blk W c 28 #[.slice (some ⟨a, 0, none⟩) 2 2, .slice (some ⟨b, 0, none⟩) 2 2]) :
    IntRows W (some ⟨c, 0, none⟩) 2 2 [[x, y], [z, t]] := by
  have i1 := (own_two (lo := 0) (hi := a + 1) ha (Nat.zero_le _) (by omega) (by omega) (by omega)).ints
  have i2 := (own_two (lo := 0) (hi := b + 1) hb (Nat.zero_le _) (by omega) (by omega) (by omega)).ints
  refine ⟨rfl, Nat.le_refl _, by omega, fun _ => ⟨c, 0, rfl, fun k hk => ?_⟩⟩
  have h : k = 0 ∨ k = 1 := by omega
  rcases h with rfl | rfl
  · exact ⟨some ⟨a, 0, none⟩, 2, blk_cell hc (i := 0) rfl, i1⟩
  · exact ⟨some ⟨b, 0, none⟩, 2, blk_cell hc (i := 1) rfl, i2⟩

/-- Cells of older blocks stay where a new block of two is stored to. -/
theorem set2_keep {W : World} {B l : Nat} {U V : Value} (hl : B ≤ l) {p : Addr} {u : Value} (hp : p.block < B) (h : W.cell? p = some u) : ((W.setCell ⟨l, 0, none⟩ U).setCell ⟨l, 1, none⟩ V).cell? p = some u := by
  rw [World.cell?_setCell_other _ _ _ _ (by intro e; have := congrArg Addr.block e; simp at this; omega), World.cell?_setCell_other _ _ _ _ (by intro e; have := congrArg Addr.block e; simp at this; omega)]; exact h
theorem kc1 {w : World} {a0 : Obj} {p : Addr} {u : Value} (h : w.cell? p = some u) : (w.alloc a0).drew.cell? p = some u := push_keep w [a0] p u h
theorem kd1 {w : World} {a0 : Obj} {p : Addr} {u : Value} (h : w.cell? p = some u) : (w.alloc a0).cell? p = some u := push_keep0 w [a0] p u h
theorem kc2 {w : World} {a0 a1 : Obj} {p : Addr} {u : Value} (h : w.cell? p = some u) : ((w.alloc a0).alloc a1).drew.cell? p = some u := push_keep w [a0, a1] p u h
theorem kd2 {w : World} {a0 a1 : Obj} {p : Addr} {u : Value} (h : w.cell? p = some u) : ((w.alloc a0).alloc a1).cell? p = some u := push_keep0 w [a0, a1] p u h
theorem kc3 {w : World} {a0 a1 a2 : Obj} {p : Addr} {u : Value} (h : w.cell? p = some u) : (((w.alloc a0).alloc a1).alloc a2).drew.cell? p = some u := push_keep w [a0, a1, a2] p u h
theorem kd3 {w : World} {a0 a1 a2 : Obj} {p : Addr} {u : Value} (h : w.cell? p = some u) : (((w.alloc a0).alloc a1).alloc a2).cell? p = some u := push_keep0 w [a0, a1, a2] p u h
theorem kc4 {w : World} {a0 a1 a2 a3 : Obj} {p : Addr} {u : Value} (h : w.cell? p = some u) : ((((w.alloc a0).alloc a1).alloc a2).alloc a3).drew.cell? p = some u := push_keep w [a0, a1, a2, a3] p u h
theorem kd4 {w : World} {a0 a1 a2 a3 : Obj} {p : Addr} {u : Value} (h : w.cell? p = some u) : ((((w.alloc a0).alloc a1).alloc a2).alloc a3).cell? p = some u := push_keep0 w [a0, a1, a2, a3] p u h
theorem kc5 {w : World} {a0 a1 a2 a3 a4 : Obj} {p : Addr} {u : Value} (h : w.cell? p = some u) : (((((w.alloc a0).alloc a1).alloc a2).alloc a3).alloc a4).drew.cell? p = some u := push_keep w [a0, a1, a2, a3, a4] p u h
theorem kd5 {w : World} {a0 a1 a2 a3 a4 : Obj} {p : Addr} {u : Value} (h : w.cell? p = some u) : (((((w.alloc a0).alloc a1).alloc a2).alloc a3).alloc a4).cell? p = some u := push_keep0 w [a0, a1, a2, a3, a4] p u h
/-- A frame with other values in some slots. -/
def frmL (a : Act) : List Nat → List Value → Act
  | d :: ds, u :: us => frmL (a.put (some d) u) ds us
  | _, _ => a
/-- At the end of a region: the frame but for some slots, and F of these and of the world. -/
def PutQ (a : Act) (ds : List Nat) (F : List Value → World → Prop) : Exit → Act → World → Prop
  | .normal, b, v => ∃ us, b = frmL a ds us ∧ F us v
  | _, _, _ => False
theorem PutQ.mk {a b : Act} {ds : List Nat} {F : List Value → World → Prop} {v : World} (us : List Value) (h : b = frmL a ds us) (f : F us v) : PutQ a ds F .normal b v := ⟨us, h, f⟩
theorem region_put {P : Program} {c : Code} {Q : Exit → Act → World → Prop} {a : Act} {w : World} (ds : List Nat) (F : List Value → World → Prop) (h : c.wp P (PutQ a ds F) a w) (k : ∀ us v, F us v → Q .normal (frmL a ds us) v) : c.wp P Q a w :=
  Code.wp_mono (fun e b v h => by
    cases e <;> first | exact (h : False).elim | (obtain ⟨us, rfl, hf⟩ := (h : ∃ us, b = frmL a ds us ∧ F us v); exact k us v hf)) h
end Go.Proofs.Ytfnpkfplmcgnbaa

