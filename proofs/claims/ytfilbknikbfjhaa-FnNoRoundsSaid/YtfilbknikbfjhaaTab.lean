/- A valid table in memory, every cell by its row and its column. -/
import Derived.Test.YtfilbknikbfjhaaMath1
namespace Go.Proofs.Ytfilbknikbfjhaa
open Go.RowKit

structure Tab (w : World) (b o : Nat) (rb ro cc : Nat → Nat) (n m : Nat) (xs : List (List Int)) : Prop where
  row : ∀ i, i < n → w.cell? ⟨b, o + i, none⟩ = some (.slice (some ⟨rb i, ro i, none⟩) m (cc i))
  cell : ∀ i j, i < n → j < m → w.cell? ⟨rb i, ro i + j, none⟩ = some (.int .i64 (g2 xs i j))
  bd : ∀ i j, i < n → j < m → -9 ≤ g2 xs i j ∧ g2 xs i j ≤ 9
  n1 : 1 ≤ n
  n3 : n ≤ 3
  m1 : 1 ≤ m
  m3 : m ≤ 3
  cap : ∀ i, i < n → m ≤ cc i
  ints : ∀ i, i < n → Ints w (some ⟨rb i, ro i, none⟩) m (cc i) (gr xs i)
theorem Tab.keep {w w' : World} {b o rb ro cc n m xs} (h : Tab w b o rb ro cc n m xs) (k : Keep w w') : Tab w' b o rb ro cc n m xs :=
  ⟨fun i hi => k _ _ (h.row i hi), fun i j hi hj => k _ _ (h.cell i j hi hj), h.bd, h.n1, h.n3, h.m1, h.m3, h.cap, fun i hi => (h.ints i hi).keep k⟩

theorem IntRows.tab {w A n c xs} (h : IntRows w A n c xs) (v : VT xs) : ∃ b o rb ro cc, A = some ⟨b, o, none⟩ ∧ Tab w b o rb ro cc n (gr xs 0).length xs := by
  have hl := h.len
  have n1 := v.n1
  have n3 := v.n3
  obtain ⟨b, o, rfl, hr⟩ := h.at_ (by omega)
  have each : ∀ i, i < n → ∃ y : Nat × Nat × Nat, w.cell? ⟨b, o + i, none⟩ = some (.slice (some ⟨y.1, y.2.1, none⟩) (gr xs 0).length y.2.2) ∧ (gr xs 0).length ≤ y.2.2 ∧
      (∀ j, j < (gr xs 0).length → w.cell? ⟨y.1, y.2.1 + j, none⟩ = some (.int .i64 (g2 xs i j))) ∧ Ints w (some ⟨y.1, y.2.1, none⟩) (gr xs 0).length y.2.2 (gr xs i) := by
    intro i hi
    obtain ⟨R, c', h1, h2⟩ := hr i hi
    have hrow := (v.rows i (by omega)).1
    have m1 := v.m1
    obtain ⟨b2, o2, rfl, hc⟩ := h2.at_ (by omega)
    refine ⟨(b2, o2, c'), by rw [← hrow]; exact h1, by rw [← hrow]; exact h2.cap, fun j hj => hc j (by omega), by rw [← hrow]; exact h2⟩
  obtain ⟨y, hy⟩ := Go.Deep.choose_lt each
  exact ⟨b, o, fun i => (y i).1, fun i => (y i).2.1, fun i => (y i).2.2, rfl, ⟨fun i hi => (hy i hi).1, fun i j hi hj => (hy i hi).2.2.1 j hj, fun i j hi hj => v.bd (by omega) hj, by omega, by omega, v.m1, v.m3, fun i hi => (hy i hi).2.1, fun i hi => (hy i hi).2.2.2⟩⟩

/-- Where a valid game lies: both tables' places. -/
structure GP where
  ba : Nat
  oa : Nat
  bb : Nat
  ob : Nat
  ra : Nat → Nat
  pa : Nat → Nat
  ca : Nat → Nat
  rb : Nat → Nat
  pb : Nat → Nat
  cb : Nat → Nat
  n : Nat
  m : Nat
  c : Nat
  d : Nat
structure GV (p : GP) (w : World) (xs ys : List (List Int)) : Prop where
  tx : Tab w p.ba p.oa p.ra p.pa p.ca p.n p.m xs
  ty : Tab w p.bb p.ob p.rb p.pb p.cb p.n p.m ys
  lx : xs.length = p.n
  mx : (gr xs 0).length = p.m
  capx : p.n ≤ p.c
  capy : p.n ≤ p.d
theorem GV.keep {p w w' xs ys} (h : GV p w xs ys) (k : Keep w w') : GV p w' xs ys := ⟨h.tx.keep k, h.ty.keep k, h.lx, h.mx, h.capx, h.capy⟩
theorem GV.of {w A B n c m d xs ys} (hx : IntRows w A n c xs) (hy : IntRows w B m d ys) (v : VG xs ys) :
    ∃ p : GP, A = some ⟨p.ba, p.oa, none⟩ ∧ B = some ⟨p.bb, p.ob, none⟩ ∧ n = p.n ∧ m = p.n ∧ c = p.c ∧ d = p.d ∧ GV p w xs ys := by
  obtain ⟨ba, oa, ra, pa, ca, rfl, tx⟩ := hx.tab v.ta
  obtain ⟨bb, ob, rb, pb, cb, rfl, ty⟩ := hy.tab v.tb
  have h1 := hx.len
  have h2 := hy.len
  have h3 := v.n
  obtain rfl : m = n := by omega
  exact ⟨⟨ba, oa, bb, ob, ra, pa, ca, rb, pb, cb, m, (gr xs 0).length, c, d⟩, rfl, rfl, rfl, rfl, rfl, rfl, tx, by rw [v.m]; exact ty, h1, rfl, hx.cap, hy.cap⟩

/-- A game that a function took by value: in its box g, with both tables. -/
structure GT (p : GP) (w0 w : World) (g : Nat) (xs ys : List (List Int)) : Prop where
  below : Below w0.heap.size w0 w
  box : Blk w g 25 #[.slice (some ⟨p.ba, p.oa, none⟩) p.n p.c, .slice (some ⟨p.bb, p.ob, none⟩) p.n p.d]
  gv0 : GV p w0 xs ys
theorem GT.gv {p w0 w g xs ys} (h : GT p w0 w g xs ys) : GV p w xs ys := h.gv0.keep (Keep.below h.below)
theorem GT.up {p w0 w w' g xs ys} (h : GT p w0 w g xs ys) (k : Below w.heap.size w w') : GT p w0 w' g xs ys :=
  ⟨below_up h.below k, blk_below h.box k, h.gv0⟩
theorem GT.up2 {p w0 w w' g xs ys} {B : Nat} (h : GT p w0 w g xs ys) (k : Below B w w') (hB : w0.heap.size ≤ B) (hg : g < B) : GT p w0 w' g xs ys :=
  ⟨h.below.trans (k.mono hB), (k.block g hg).trans h.box, h.gv0⟩
theorem GT.qu {p w0 w w' g xs ys} (h : GT p w0 w g xs ys) (k : Quiet w w') : GT p w0 w' g xs ys := h.up k.below
theorem GT.start {p w xs ys} (h : GV p w xs ys) : GT p w (w.alloc (.cells #[.slice (some ⟨p.ba, p.oa, none⟩) p.n p.c, .slice (some ⟨p.bb, p.ob, none⟩) p.n p.d] 25)) w.heap.size xs ys :=
  ⟨below_alloc _ _, blk_new _ _ _, h⟩
theorem GT.c0 {p w0 w g xs ys} (h : GT p w0 w g xs ys) : w.cell? ⟨g, 0, none⟩ = some (.slice (some ⟨p.ba, p.oa, none⟩) p.n p.c) := blk_cell h.box rfl
theorem GT.c1 {p w0 w g xs ys} (h : GT p w0 w g xs ys) : w.cell? ⟨g, 1, none⟩ = some (.slice (some ⟨p.bb, p.ob, none⟩) p.n p.d) := blk_cell h.box rfl
end Go.Proofs.Ytfilbknikbfjhaa
