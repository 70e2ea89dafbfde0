/- What an exact law on a game knows at each step. -/
import Derived.Test.YtfilbknikbfjhaaA3
import Derived.Deep.RegionHeld3
namespace Go.Proofs.Ytfilbknikbfjhaa
open Go.RowKit

/-- The law's own argument: in its box, and its rows. -/
structure GS (w0 w : World) (A B : Option Addr) (n c m d : Nat) (xs ys : List (List Int)) : Prop where
  below : Below w0.heap.size w0 w
  box : Blk w w0.heap.size 37 #[.slice A n c, .slice B m d]
  rx0 : IntRows w0 A n c xs
  ry0 : IntRows w0 B m d ys
theorem GS.rx {w0 w A B n c m d xs ys} (h : GS w0 w A B n c m d xs ys) : IntRows w A n c xs := h.rx0.keep (Keep.below h.below)
theorem GS.ry {w0 w A B n c m d xs ys} (h : GS w0 w A B n c m d xs ys) : IntRows w B m d ys := h.ry0.keep (Keep.below h.below)
theorem GS.up {w0 w w' A B n c m d xs ys} (h : GS w0 w A B n c m d xs ys) (k : Below w.heap.size w w') : GS w0 w' A B n c m d xs ys :=
  ⟨below_up h.below k, blk_below h.box k, h.rx0, h.ry0⟩
theorem GS.touch {lo hi w0 w w' A B n c m d xs ys} (h : GS w0 w A B n c m d xs ys) (k : Touch lo hi w w') (hl : w0.heap.size < lo) : GS w0 w' A B n c m d xs ys :=
  ⟨Touch.below h.below k (Nat.le_of_lt hl), blk_touch h.box k (.inl hl), h.rx0, h.ry0⟩
theorem GS.c0 {w0 w A B n c m d xs ys} (h : GS w0 w A B n c m d xs ys) : w.cell? ⟨w0.heap.size, 0, none⟩ = some (.slice A n c) := blk_cell h.box rfl
theorem GS.c1 {w0 w A B n c m d xs ys} (h : GS w0 w A B n c m d xs ys) : w.cell? ⟨w0.heap.size, 1, none⟩ = some (.slice B m d) := blk_cell h.box rfl
theorem GS.start {w : World} {A B n c m d xs ys} (hx : IntRows w A n c xs) (hy : IntRows w B m d ys) : GS w (w.alloc (.cells #[.slice A n c, .slice B m d] 37)) A B n c m d xs ys :=
  ⟨below_alloc _ _, blk_new _ _ _, hx, hy⟩

/-- A copy of it in a box g, its rows its own: the first table's from lo up to less than mid, the second one's up to less than hi. -/
structure XS (lo mid hi : Nat) (w : World) (g g1 g2 n m : Nat) (xs ys : List (List Int)) : Prop where
  box : Blk w g 25 #[.slice (some ⟨g1, 0, none⟩) n n, .slice (some ⟨g2, 0, none⟩) m m]
  rx : OwnR lo mid w g1 (some ⟨g1, 0, none⟩) n n xs
  ry : OwnR mid hi w g2 (some ⟨g2, 0, none⟩) m m ys
  h1 : lo ≤ mid
  h2 : mid ≤ hi
  le : hi ≤ w.heap.size
  lt : hi ≤ g
theorem XS.up {lo mid hi w w' g g1 g2 n m xs ys} (h : XS lo mid hi w g g1 g2 n m xs ys) (k : Below w.heap.size w w') : XS lo mid hi w' g g1 g2 n m xs ys :=
  ⟨blk_below h.box k, h.rx.below k, h.ry.below k, h.h1, h.h2, Nat.le_trans h.le k.size, h.lt⟩
theorem XS.c0 {lo mid hi w g g1 g2 n m xs ys} (h : XS lo mid hi w g g1 g2 n m xs ys) : w.cell? ⟨g, 0, none⟩ = some (.slice (some ⟨g1, 0, none⟩) n n) := blk_cell h.box rfl
theorem XS.c1 {lo mid hi w g g1 g2 n m xs ys} (h : XS lo mid hi w g g1 g2 n m xs ys) : w.cell? ⟨g, 1, none⟩ = some (.slice (some ⟨g2, 0, none⟩) m m) := blk_cell h.box rfl
theorem XS.start {lo mid hi : Nat} {w : World} {g1 g2 n m : Nat} {xs ys : List (List Int)} (o1 : OwnR lo mid w g1 (some ⟨g1, 0, none⟩) n n xs) (o2 : OwnR mid hi w g2 (some ⟨g2, 0, none⟩) m m ys) (h1 : lo ≤ mid) (h2 : mid ≤ hi) (h3 : hi ≤ w.heap.size) :
    XS lo mid hi (w.alloc (.cells #[.slice (some ⟨g1, 0, none⟩) n n, .slice (some ⟨g2, 0, none⟩) m m] 25)) w.heap.size g1 g2 n m xs ys :=
  ⟨blk_new _ _ _, o1.below (below_alloc _ _), o2.below (below_alloc _ _), h1, h2, by simp; omega, h3⟩
theorem XS.rows {lo mid hi w g g1 g2 n m xs ys} (h : XS lo mid hi w g g1 g2 n m xs ys) : IntRows w (some ⟨g1, 0, none⟩) n n xs ∧ IntRows w (some ⟨g2, 0, none⟩) m m ys := ⟨h.rx.rows, h.ry.rows⟩
end Go.Proofs.Ytfilbknikbfjhaa
