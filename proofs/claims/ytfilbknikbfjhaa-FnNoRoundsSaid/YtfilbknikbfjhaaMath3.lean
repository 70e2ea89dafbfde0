/- Chapter 2 as plain functions: sums, shares, fractions, means, the worst. -/
import Derived.Test.YtfilbknikbfjhaaMath1
namespace Go.Proofs.Ytfilbknikbfjhaa

/-- The sum of the first k numbers; of all. -/
def sm (xs : List Int) : Nat → Int
  | 0 => 0
  | k + 1 => sm xs k + gi xs k
def tot (xs : List Int) : Int := sm xs xs.length
theorem sm_bd {xs : List Int} {lo hi : Int} : ∀ {k : Nat}, (∀ j, j < k → lo ≤ gi xs j ∧ gi xs j ≤ hi) → lo * (k : Int) ≤ sm xs k ∧ sm xs k ≤ hi * (k : Int)
  | 0, _ => by simp [sm]
  | k + 1, h => by
    have h1 := sm_bd (k := k) fun j hj => h j (by omega)
    have h2 := h k (by omega)
    have e1 : lo * ((k + 1 : Nat) : Int) = lo * (k : Int) + lo := by rw [show ((k + 1 : Nat) : Int) = (k : Int) + 1 by omega, Int.mul_add, Int.mul_one]
    have e2 : hi * ((k + 1 : Nat) : Int) = hi * (k : Int) + hi := by rw [show ((k + 1 : Nat) : Int) = (k : Int) + 1 by omega, Int.mul_add, Int.mul_one]
    simp only [sm]
    omega
theorem sm_snoc {xs : List Int} {x : Int} : ∀ {k : Nat}, k ≤ xs.length → sm (xs ++ [x]) k = sm xs k
  | 0, _ => rfl
  | k + 1, h => by
    have h1 := sm_snoc (xs := xs) (x := x) (k := k) (by omega)
    have h2 : gi (xs ++ [x]) k = gi xs k := by rw [gi_get (by simp; omega), gi_get (by omega), List.getElem_append_left (by omega)]
    simp only [sm, h1, h2]
theorem tot_snoc (xs : List Int) (x : Int) : tot (xs ++ [x]) = tot xs + x := by
  unfold tot
  rw [List.length_append, List.length_singleton]
  have h2 : gi (xs ++ [x]) xs.length = x := by rw [gi_get (by simp), List.getElem_append_right (Nat.le_refl _)]; simp
  simp only [sm, sm_snoc (Nat.le_refl _), h2]

/-- Shares of n things. -/
def VS (w : List Int) (n : Int) : Prop := (w.length : Int) = n ∧ (∀ j, j < w.length → InR (gi w j) 0 1000) ∧ 0 < tot w
def VSn (w : List Int) (n : Int) : Prop := 1 ≤ n ∧ n ≤ 3 ∧ VS w n
theorem VS.bd {w : List Int} {n : Int} (v : VS w n) (hn : n ≤ 3) : 0 < tot w ∧ tot w ≤ 3000 := by
  obtain ⟨h1, h2, h3⟩ := v
  have := (sm_bd (xs := w) (lo := 0) (hi := 1000) (k := w.length) h2).2
  unfold tot at *
  omega

/-- The sum of payoffs with both weights: of the first i rows; in row i, of the first j columns. -/
def payR (a : List (List Int)) (x y : List Int) (i : Nat) : Nat → Int
  | 0 => 0
  | j + 1 => payR a x y i j + gi x i * gi y j * g2 a i j
def payU (a : List (List Int)) (x y : List Int) (m : Nat) : Nat → Int
  | 0 => 0
  | i + 1 => payU a x y m i + payR a x y i m

theorem mul_bd {x y a : Int} (hx : 0 ≤ x ∧ x ≤ 1000) (hy : 0 ≤ y ∧ y ≤ 1000) (ha : -9 ≤ a ∧ a ≤ 9) : -9000000 ≤ x * y * a ∧ x * y * a ≤ 9000000 := by
  have h1 : 0 ≤ x * y := Int.mul_nonneg hx.1 hy.1
  have h2 : x * y ≤ 1000 * 1000 := Int.mul_le_mul hx.2 hy.2 hy.1 (by omega)
  have h3 : x * y * a ≤ x * y * 9 := Int.mul_le_mul_of_nonneg_left ha.2 h1
  have h4 : x * y * -9 ≤ x * y * a := Int.mul_le_mul_of_nonneg_left ha.1 h1
  omega
theorem mul_bd2 {x y : Int} (hx : 0 ≤ x ∧ x ≤ 1000) (hy : 0 ≤ y ∧ y ≤ 1000) : 0 ≤ x * y ∧ x * y ≤ 1000000 := by
  have h1 : 0 ≤ x * y := Int.mul_nonneg hx.1 hy.1
  have h2 : x * y ≤ 1000 * 1000 := Int.mul_le_mul hx.2 hy.2 hy.1 (by omega)
  omega
theorem mul_bd3 {x a : Int} (hx : 0 ≤ x ∧ x ≤ 1000) (ha : -9 ≤ a ∧ a ≤ 9) : -9000 ≤ a * x ∧ a * x ≤ 9000 := by
  have h3 : a * x ≤ 9 * x := Int.mul_le_mul_of_nonneg_right ha.2 hx.1
  have h4 : -9 * x ≤ a * x := Int.mul_le_mul_of_nonneg_right ha.1 hx.1
  omega

/-- Shares and a table of which a mean is taken: bounds of all that is read. -/
structure PB (a : List (List Int)) (x y : List Int) (n m : Nat) : Prop where
  a : ∀ i j, i < n → j < m → -9 ≤ g2 a i j ∧ g2 a i j ≤ 9
  x : ∀ i, i < n → 0 ≤ gi x i ∧ gi x i ≤ 1000
  y : ∀ j, j < m → 0 ≤ gi y j ∧ gi y j ≤ 1000
theorem payR_bd {a x y n m} (h : PB a x y n m) {i : Nat} (hi : i < n) : ∀ {j : Nat}, j ≤ m → -9000000 * (j : Int) ≤ payR a x y i j ∧ payR a x y i j ≤ 9000000 * (j : Int)
  | 0, _ => by simp [payR]
  | j + 1, hj => by
    have h1 := payR_bd h hi (j := j) (by omega)
    have h2 := mul_bd (h.x i hi) (h.y j (by omega)) (h.a i j hi (by omega))
    simp only [payR]
    omega
theorem payU_bd {a x y n m} (h : PB a x y n m) (hm : m ≤ 3) : ∀ {i : Nat}, i ≤ n → -27000000 * (i : Int) ≤ payU a x y m i ∧ payU a x y m i ≤ 27000000 * (i : Int)
  | 0, _ => by simp [payU]
  | i + 1, hi => by
    have h1 := payU_bd h hm (i := i) (by omega)
    have h2 := payR_bd h (i := i) (by omega) (j := m) (Nat.le_refl _)
    simp only [payU]
    omega
theorem payP_bd {a x y n m} (h : PB a x y n m) (hm : m ≤ 3) (hn : n ≤ 3) {i j : Nat} (hi : i < n) (hj : j ≤ m) : -108000000 ≤ payU a x y m i + payR a x y i j ∧ payU a x y m i + payR a x y i j ≤ 108000000 := by
  have h1 := payU_bd h hm (i := i) (by omega)
  have h2 := payR_bd h hi hj
  omega

/-- The greatest common divisor, and what Go's loop does to it. -/
def gcdI (a b : Int) : Int := (Int.gcd a b : Int)
theorem gcdI_zero (a : Int) : gcdI a 0 = max a (-a) := by
  unfold gcdI; rw [Int.gcd_zero_right]; omega
theorem gcdI_zero_left (a : Int) : gcdI 0 a = max a (-a) := by
  unfold gcdI; rw [Int.gcd_zero_left]; omega
theorem gcdI_step (a b : Int) : gcdI b (a.tmod b) = gcdI a b := by
  have h : Nat.gcd b.natAbs (a.tmod b).natAbs = Nat.gcd a.natAbs b.natAbs := by
    rw [Int.natAbs_tmod, Nat.gcd_comm, ← Nat.gcd_rec, Nat.gcd_comm]
  exact congrArg Int.ofNat h
theorem gcdI_abs (a b : Int) : gcdI (max a (-a)) b = gcdI a b := by
  have h : Nat.gcd (max a (-a)).natAbs b.natAbs = Nat.gcd a.natAbs b.natAbs := by
    congr 1
    omega
  exact congrArg Int.ofNat h
theorem gcdI_pos {a b : Int} (h : b ≠ 0) : 1 ≤ gcdI a b := by
  unfold gcdI
  have := Int.gcd_pos_of_ne_zero_right a h
  omega
theorem gcdI_pos_left {a b : Int} (h : a ≠ 0) : 1 ≤ gcdI a b := by
  unfold gcdI
  have := Int.gcd_pos_of_ne_zero_left b h
  omega
theorem gcdI_nonneg (a b : Int) : 0 ≤ gcdI a b := by unfold gcdI; omega
theorem gcdI_dvd_left (a b : Int) : gcdI a b ∣ a := Int.gcd_dvd_left a b
theorem gcdI_dvd_right (a b : Int) : gcdI a b ∣ b := Int.gcd_dvd_right a b
theorem gcdI_le {a b : Int} (h : 0 < b) : gcdI a b ≤ b := Int.le_of_dvd h (gcdI_dvd_right a b)
theorem tmod_abs {a b : Int} (h : b ≠ 0) : (a.tmod b).natAbs < b.natAbs := by
  rw [Int.natAbs_tmod]; exact Nat.mod_lt _ (by omega)

/-- A fraction in lowest terms, as a pair of numbers. -/
def frU (u d : Int) : Int := u.tdiv (gcdI u d)
def frD (u d : Int) : Int := d.tdiv (gcdI u d)
theorem tdiv_bd {u g B : Int} (_ : 1 ≤ g) (h : -B ≤ u ∧ u ≤ B) : -B ≤ u.tdiv g ∧ u.tdiv g ≤ B := by
  have h1 : (u.tdiv g).natAbs ≤ u.natAbs := by rw [Int.natAbs_tdiv]; exact Nat.div_le_self _ _
  omega
theorem frU_bd {u d B : Int} (hd : 0 < d) (h : -B ≤ u ∧ u ≤ B) : -B ≤ frU u d ∧ frU u d ≤ B := tdiv_bd (gcdI_pos (by omega)) h
theorem frD_bd {u d B : Int} (hd : 0 < d) (h : d ≤ B) : 1 ≤ frD u d ∧ frD u d ≤ B := by
  have hg := gcdI_pos (a := u) (b := d) (by omega)
  have h1 := tdiv_bd (u := d) (g := gcdI u d) (B := B) hg (by omega)
  have h2 := gcdI_le (a := u) hd
  have h3 : 1 ≤ d / gcdI u d := by rw [Int.le_ediv_iff_mul_le (by omega)]; omega
  rw [Int.tdiv_eq_ediv_of_nonneg (by omega)] at h1
  unfold frD
  rw [Int.tdiv_eq_ediv_of_nonneg (by omega)]
  omega
theorem frU_mul (u d : Int) : frU u d * gcdI u d = u := Int.tdiv_mul_cancel (gcdI_dvd_left u d)
theorem frD_mul (u d : Int) : frD u d * gcdI u d = d := Int.tdiv_mul_cancel (gcdI_dvd_right u d)

/-- Less, of fractions with a positive number below. -/
def ltF (u d v e : Int) : Prop := u * e < v * d

/-- The shares of one of n alone. -/
def onl (n i : Nat) : List Int := (List.range n).map fun k => if k = i then 1 else 0
theorem onl_len (n i : Nat) : (onl n i).length = n := by simp [onl]
theorem gi_onl {n i k : Nat} (h : k < n) : gi (onl n i) k = if k = i then 1 else 0 := by
  rw [gi_get (by rw [onl_len]; exact h)]; simp [onl]
theorem sm_onl {n i : Nat} : ∀ {k : Nat}, k ≤ n → sm (onl n i) k = if i < k then 1 else 0
  | 0, _ => by simp [sm]
  | k + 1, h => by
    have h1 := sm_onl (n := n) (i := i) (k := k) (by omega)
    rw [sm, h1, gi_onl (by omega)]
    split <;> split <;> split <;> omega
theorem tot_onl {n i : Nat} (h : i < n) : tot (onl n i) = 1 := by
  unfold tot; rw [sm_onl (by rw [onl_len]; exact Nat.le_refl _), onl_len, if_pos h]
theorem onl_bd {n i k : Nat} (h : k < n) : 0 ≤ gi (onl n i) k ∧ gi (onl n i) k ≤ 1 := by
  rw [gi_onl h]; split <;> omega

/-- The mean against column j alone, above the line; the least of the first k + 1 of these. -/
def colU (a : List (List Int)) (x : List Int) (n m j : Nat) : Int := payU a x (onl m j) m n
def wst (a : List (List Int)) (x : List Int) (n m : Nat) : Nat → Int × Int
  | 0 => (frU (colU a x n m 0) (tot x), frD (colU a x n m 0) (tot x))
  | k + 1 =>
    let p := (frU (colU a x n m (k + 1)) (tot x), frD (colU a x n m (k + 1)) (tot x))
    if p.1 * (wst a x n m k).2 < (wst a x n m k).1 * p.2 then p else wst a x n m k

end Go.Proofs.Ytfilbknikbfjhaa
