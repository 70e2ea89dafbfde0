/- A table drawn. -/
import Derived.Test.YtfilbknikbfjhaaR3
namespace Go.Proofs.Ytfilbknikbfjhaa
open Go.RowKit

theorem grown_below {g : Nat} {a b w : World} (h : a.grownBy b (some g)) (k : Below b.heap.size b w) : a.grownBy w (some g) :=
  ⟨k.os.trans h.os, k.tape.trans h.tape, k.output.trans h.output, Nat.le_trans h.size k.size, fun i hi hne => (k.block i (Nat.lt_of_lt_of_le hi h.size)).trans (h.block i hi hne)⟩
/-- An append onto a row from lo on. -/
theorem grown_app {g : Nat} {a b w : World} {row : Option Nat} (h : a.grownBy b (some g)) (k : b.grownBy w row) (hr : ∀ x, row = some x → a.heap.size ≤ x) : a.grownBy w (some g) :=
  ⟨k.os.trans h.os, k.tape.trans h.tape, k.output.trans h.output, Nat.le_trans h.size k.size, fun i hi hne => (k.block i (Nat.lt_of_lt_of_le hi h.size) (fun e => by have := hr i e.symm; omega)).trans (h.block i hi hne)⟩

/-- A table under way: the reader, the rows that are there. -/
structure TO (w0 wb : World) (g : Nat) (A : Option Addr) (l c p : Nat) (v : Value) (vs : List Value) (xss : List (List Int)) (w : World) : Prop where
  rd : Rdr w0 w g A l c p
  bo : Bld wb.heap.size w.heap.size w v vs xss
  gl : g < wb.heap.size
  up : wb.grownBy w (some g)
/-- .. and the row that is begun. -/
structure TI (w0 wb : World) (g : Nat) (A : Option Addr) (l c p H : Nat) (v : Value) (vs : List Value) (xss : List (List Int)) (u : Value) (ys : List Int) (w : World) : Prop where
  rd : Rdr w0 w g A l c p
  bo : Bld wb.heap.size H w v vs xss
  bi : BldI H w.heap.size w u ys
  gl : g < wb.heap.size
  lh : wb.heap.size ≤ H
  hs : H ≤ w.heap.size
  up : wb.grownBy w (some g)
theorem TO.start {w0 wb g A l c p} (h : Rdr w0 wb g A l c p) :
    TO w0 wb g A l c p (.slice (some ⟨wb.heap.size, 0, none⟩) 0 0) [] [] (wb.alloc (.cells #[] 27)) :=
  ⟨h.below_ (below_alloc _ _), by rw [World.size_alloc]; exact Bld.make (Nat.le_refl _), blk_lt h.box, World.grownBy_alloc _ _ _⟩
theorem TO.row {w0 wb g A l c p v vs xss w} (h : TO w0 wb g A l c p v vs xss w) :
    TI w0 wb g A l c p w.heap.size v vs xss (.slice (some ⟨w.heap.size, 0, none⟩) 0 0) [] (w.alloc (.cells #[] 3)) :=
  ⟨h.rd.below_ (below_alloc _ _), h.bo.below (below_alloc _ _), by rw [World.size_alloc]; exact BldI.make (Nat.le_refl _), h.gl, h.up.size, by simp, grown_below h.up (below_alloc _ _)⟩
theorem TI.one {w0 wb g A l c p p' H v vs xss u ys w w'} (h : TI w0 wb g A l c p H v vs xss u ys w) (hr : Rdr w0 w' g A l c p') (ho : One g w w') :
    TI w0 wb g A l c p' H v vs xss u ys w' := by
  have hgl := h.gl
  have hlh := h.lh
  refine ⟨hr, h.bo.of_blocks fun k h1 _ _ => ho.block k (by omega), ?_, h.gl, h.lh, by rw [ho.size]; exact h.hs, ?_⟩
  · rw [ho.size]; exact h.bi.of_blocks fun k h1 _ _ => ho.block k (by omega)
  · exact ⟨ho.os.trans h.up.os, ho.tape.trans h.up.tape, ho.output.trans h.up.output, by rw [ho.size]; exact h.up.size, fun k hk hne => (ho.block k (fun e => hne (by rw [e]))).trans (h.up.block k hk hne)⟩
theorem TI.push {w0 wb g A l c p H v vs xss u u' ys w w' x} (h : TI w0 wb g A l c p H v vs xss u ys w)
    (hown : w'.ownsRow H 3 1 u' (ys.length + 1) (ys.map iv ++ [iv x])) (hgrow : (w.alloc (.cells #[iv x] 3)).grownBy w' u.ownBlock)
    (hat : u'.ownBlock = u.ownBlock ∨ u'.ownBlock = some (w.heap.size + 1)) : TI w0 wb g A l c p H v vs xss u' (ys ++ [x]) w' := by
  have hgl := h.gl
  have hlh := h.lh
  have hhs := h.hs
  have hsz := hgrow.size
  simp only [World.size_alloc] at hsz
  have hu : ∀ k, u.ownBlock = some k → H ≤ k := fun k hk => (h.bi.own.lt k hk).1
  have hbelow : ∀ k, k < H → w'.heap[k]? = w.heap[k]? := fun k hk =>
    (hgrow.block k (by simp; omega) (fun e => by have := hu k e.symm; omega)).trans (Below.heap_alloc _ _ _ (by omega))
  refine ⟨⟨(hbelow g (by omega)).trans h.rd.box, h.rd.bytes, ?_, h.rd.lt, h.rd.small⟩, h.bo.of_blocks fun k _ hk _ => hbelow k hk, ⟨by rw [List.length_append, List.length_singleton, List.map_append]; exact hown, fun k hk => ?_⟩, h.gl, h.lh, by omega, ?_⟩
  · exact ⟨hgrow.os.trans h.rd.below.os, hgrow.tape.trans h.rd.below.tape, hgrow.output.trans h.rd.below.output, by have := h.rd.below.size; omega, fun k hk => (hbelow k (by have := h.rd.lt; omega)).trans (h.rd.below.block k hk)⟩
  · rcases hat with hat | hat
    · have := h.bi.hi_ k (by rw [← hat]; exact hk); omega
    · have := (hown.lt k hk).2; omega
  · exact grown_app (grown_below h.up (below_alloc _ _)) hgrow fun k hk => by have := hu k hk; omega
theorem TI.done {w0 wb g A l c p H v v' vs xss ys w w' Ar cr gr_} (h : TI w0 wb g A l c p H v vs xss (.slice Ar ys.length cr) ys w) (ho : OwnI H w.heap.size w gr_ Ar ys.length cr ys)
    (hown : w'.ownsRow wb.heap.size 27 1 v' (xss.length + 1) (vs ++ [.slice Ar ys.length cr])) (hgrow : (w.alloc (.cells #[.slice Ar ys.length cr] 27)).grownBy w' v.ownBlock)
    (hat : v'.ownBlock = v.ownBlock ∨ v'.ownBlock = some (w.heap.size + 1)) : TO w0 wb g A l c p v' (vs ++ [.slice Ar ys.length cr]) (xss ++ [ys]) w' := by
  have hgl := h.gl
  have hlh := h.lh
  have hhs := h.hs
  have hsz := hgrow.size
  simp only [World.size_alloc] at hsz
  have hv : ∀ k, v.ownBlock = some k → wb.heap.size ≤ k := fun k hk => (h.bo.own.lt k hk).1
  have hbelow : ∀ k, k < wb.heap.size → w'.heap[k]? = w.heap[k]? := fun k hk =>
    (hgrow.block k (by simp; omega) (fun e => by have := hv k e.symm; omega)).trans (Below.heap_alloc _ _ _ (by omega))
  have hb := below_alloc w (.cells #[.slice Ar ys.length cr] 27)
  refine ⟨⟨(hbelow g hgl).trans h.rd.box, h.rd.bytes, ?_, h.rd.lt, h.rd.small⟩, ?_, h.gl, ?_⟩
  · exact ⟨hgrow.os.trans h.rd.below.os, hgrow.tape.trans h.rd.below.tape, hgrow.output.trans h.rd.below.output, by have := h.rd.below.size; omega, fun k hk => (hbelow k (by have := h.rd.lt; omega)).trans (h.rd.below.block k hk)⟩
  · have hbo : Bld wb.heap.size H w v vs xss := h.bo
    exact Bld.push (hi := H) (w := w) hbo hb ((ho.below hb).mono (Nat.le_refl _) (by simp)) hown hgrow (by simpa using hat) hlh hhs
  · exact grown_app (grown_below h.up hb) hgrow fun k hk => hv k hk
end Go.Proofs.Ytfilbknikbfjhaa
