/- The greatest of a row; rests by the greatest of a column and of a row. -/
import Derived.Test.YtchpbldagkohnaaMath1
namespace Go.Proofs.Ytchpbldagkohnaa
def mx (xs : List Int) : Nat → Int
  | 0 => gi xs 0
  | k + 1 => max (mx xs k) (gi xs (k + 1))
def mxl (xs : List Int) : Int := mx xs (xs.length - 1)
theorem mx_ge (xs : List Int) : ∀ {k j : Nat}, j ≤ k → gi xs j ≤ mx xs k
  | 0, j, h => by obtain rfl : j = 0 := by omega
                  exact Int.le_refl _
  | k + 1, j, h => by
    simp only [mx]
    by_cases e : j = k + 1
    · subst e; omega
    · have := mx_ge xs (k := k) (j := j) (by omega); omega
theorem mx_at (xs : List Int) : ∀ k, ∃ j, j ≤ k ∧ gi xs j = mx xs k
  | 0 => ⟨0, Nat.le_refl _, rfl⟩
  | k + 1 => by
    obtain ⟨j, hj, e⟩ := mx_at xs k
    by_cases h : gi xs (k + 1) ≤ mx xs k
    · exact ⟨j, by omega, by simp only [mx]; omega⟩
    · exact ⟨k + 1, Nat.le_refl _, by simp only [mx]; omega⟩
theorem mxl_iff {xs : List Int} {j : Nat} (h : j < xs.length) : gi xs j = mxl xs ↔ ∀ k, k < xs.length → gi xs k ≤ gi xs j := by
  constructor
  · intro e k hk
    rw [e]
    exact mx_ge xs (by omega)
  · intro hall
    obtain ⟨i, hi, e⟩ := mx_at xs (xs.length - 1)
    have h1 := hall i (by omega)
    have h2 := mx_ge xs (k := xs.length - 1) (j := j) (by omega)
    unfold mxl
    omega
end Go.Proofs.Ytchpbldagkohnaa
