/- Both players exchanged. -/
import Derived.Test.YtfilbknikbfjhaaG5
import Derived.Test.YtfilbknikbfjhaaB3
namespace Go.Proofs.Ytfilbknikbfjhaa
open Go.RowKit

theorem VG.flip2 {a b : List (List Int)} (v : VG a b) : VG (flip b b.length (gr b 0).length) (flip a a.length (gr a 0).length) := by
  have h1 := v.tb.m1
  have h2 := v.ta.m1
  exact ⟨v.tb.flip, v.ta.flip, by rw [flip_len, flip_len]; exact v.m.symm, by rw [gr_flip h1, gr_flip h2]; simp; exact v.n.symm⟩

theorem g2_flip {a : List (List Int)} {n m i j : Nat} (hi : i < m) (hj : j < n) : g2 (flip a n m) i j = g2 a j i := by
  unfold g2
  rw [gr_flip hi, gi_col hj]
  rfl
theorem NR.flip {a b : List (List Int)} (v : VG a b) : NR (flip b b.length (gr b 0).length) (flip a a.length (gr a 0).length) ↔ NR a b := by
  have h1 := v.tb.m1
  have h2 := v.ta.m1
  have hn := v.n
  have hm := v.m
  have hl : (Go.Proofs.Ytfilbknikbfjhaa.flip b b.length (gr b 0).length).length = (gr b 0).length := flip_len _ _ _
  have hl0 : (gr (Go.Proofs.Ytfilbknikbfjhaa.flip b b.length (gr b 0).length) 0).length = b.length := by rw [gr_flip h1]; simp
  have hr : ∀ i k j l, i < (gr a 0).length → k < (gr a 0).length → j < a.length → l < a.length →
      rnd (Go.Proofs.Ytfilbknikbfjhaa.flip b b.length (gr b 0).length) (Go.Proofs.Ytfilbknikbfjhaa.flip a a.length (gr a 0).length) i k j l = rnd a b j l k i := fun i k j l hi hk hj hl => by
    unfold rnd
    rw [g2_flip (a := b) (by omega) (by omega), g2_flip (a := b) (by omega) (by omega), g2_flip (a := a) hk hl, g2_flip (a := a) hk hj, g2_flip (a := b) (by omega) (by omega), g2_flip (a := b) (by omega) (by omega), g2_flip (a := a) hi hj, g2_flip (a := a) hi hl]
    omega
  constructor
  · intro h
    refine ⟨v, fun i k j l hi hk hj hl' => ?_⟩
    have := h.no l j i k (by rw [hl]; omega) (by rw [hl]; omega) (by rw [hl0]; omega) (by rw [hl0]; omega)
    rw [hr l j i k hl' hj hi hk] at this
    exact this
  · intro h
    refine ⟨v.flip2, fun i k j l hi hk hj hl' => ?_⟩
    rw [hl] at hi hk
    rw [hl0] at hj hl'
    rw [hr i k j l (by omega) (by omega) (by omega) (by omega)]
    exact h.no j l k i (by omega) (by omega) (by omega) (by omega)
theorem NR.one {a b : List (List Int)} (v : VG a b) (h : a.length ≤ 1 ∨ (gr a 0).length ≤ 1) : NR a b := by
  refine ⟨v, fun i k j l hi hk hj hl => ?_⟩
  rcases h with h | h
  · obtain rfl : i = k := by omega
    unfold rnd; omega
  · obtain rfl : j = l := by omega
    unfold rnd; omega

/-- .. with the first row of the first table. -/
def GX (w : World) (h : Nat) (A : Option Addr) (n c : Nat) (xs : List (List Int)) (B : Option Addr) (m d : Nat) (ys : List (List Int)) (ba oa : Nat) (v : Value) (W : World) : Prop :=
  GW w h A n c xs B m d ys W ∧ W.cell? ⟨ba, oa, none⟩ = some v
theorem GX.up {w h A n c xs B m d ys ba oa v W W'} (o : GX w h A n c xs B m d ys ba oa v W) (k : Below W.heap.size W W') : GX w h A n c xs B m d ys ba oa v W' := ⟨o.1.up k, Keep.below k _ _ o.2⟩
theorem GX.cells {w h A n c xs B m d ys ba oa v W} (o : GX w h A n c xs B m d ys ba oa v W) : (W.cell? ⟨h, 0, none⟩ = some (.slice A n c) ∧ W.cell? ⟨h, 1, none⟩ = some (.slice B m d)) ∧ W.cell? ⟨ba, oa, none⟩ = some v := ⟨o.1.cells, o.2⟩
end Go.Proofs.Ytfilbknikbfjhaa
