/- Some table. -/
import Derived.Test.YtfilbknikbfjhaaR7
import Derived.Test.YtfilbknikbfjhaaLitI
namespace Go.Proofs.Ytfilbknikbfjhaa
open Go.RowKit

theorem grown_trans {g : Nat} {a b w : World} (h : a.grownBy b (some g)) (k : b.grownBy w (some g)) : a.grownBy w (some g) :=
  ⟨k.os.trans h.os, k.tape.trans h.tape, k.output.trans h.output, Nat.le_trans h.size k.size, fun i hi hne => (k.block i (Nat.lt_of_lt_of_le hi h.size) hne).trans (h.block i hi hne)⟩
theorem grown_of_below {g : Nat} {w w' : World} (k : Below w.heap.size w w') : w.grownBy w' (some g) := ⟨k.os, k.tape, k.output, k.size, fun i hi _ => k.block i hi⟩

/-- A number of a list that is written out. -/
def OneLit (w0 : World) (g : Nat) (A : Option Addr) (l c p : Nat) (xs : List Int) (w : World) (e : Ending) (w' : World) : Prop :=
  ∃ x, e = .returned (.int .i64 x) ∧ x ∈ xs ∧ Rdr w0 w' g A l c (p + 1) ∧ w.grownBy w' (some g)
theorem one_lit (w0 w W : World) (g : Nat) (A : Option Addr) (l c p b n : Nat) (xs : List Int) (h : Rdr w0 w g A l c p) (hp : p < 1000000000) (k : Below w.heap.size w W)
    (hb : w.heap.size ≤ b) (hi : Ints W (some ⟨b, 0, none⟩) n n xs) (h0 : 0 < n) :
    Calls Try.prog 78 #[.pointer (some ⟨g, 0, none⟩), .slice (some ⟨b, 0, none⟩) n n] W (OneLit w0 g A l c p xs w) := by
  have hg := blk_lt h.box
  refine (one_any w0 W g A l c p _ n n xs (h.below_ k) hp hi h0 (fun b' o' e' => by injection e' with e'; injection e' with e' _ _; omega)).mono ?_
  rintro e w4 ⟨x, rfl, hx, hr, ho⟩
  exact ⟨x, rfl, hx, hr, grown_trans (grown_of_below k) ho.grown⟩

/-- A table that the reader drew: its memory is from w on. -/
def SomeT (w0 : World) (g : Nat) (A : Option Addr) (l c p : Nat) (w : World) (e : Ending) (w' : World) : Prop :=
  ∃ wb v' vs' xss' p', e = .returned v' ∧ Small xss' ∧ TO w0 wb g A l c p' v' vs' xss' w' ∧ p' ≤ p + 21 ∧ w.grownBy wb (some g)

end Go.Proofs.Ytfilbknikbfjhaa
