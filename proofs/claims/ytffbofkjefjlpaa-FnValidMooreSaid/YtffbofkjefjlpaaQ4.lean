/- Texts merged: LiftB Math3 S1 LiftC LiftM Enter R2 Own R3 R4 R5 R6 LitI R7 R8 H1 Put RI M3. -/
import Derived.Test.YtffbofkjefjlpaaQ3
import Derived.ChangeSlices
/- An argument of bytes, opened. -/
namespace Go.Proofs.Ytffbofkjefjlpaa
open Go.ChangeShapes Go.WideShapes Go.ChangeAt Go.RowKit Go.Deep

theorem Try.cells_u8 : Try.prog.cellsOf 5 = 1 := by kernel_rfl
theorem Try.bytes_u8 : Try.prog.bytesOf 5 = 1 := by kernel_rfl
set_option maxRecDepth 100000 in
theorem open_bytes {H : Type} {enc : TypeId × Value → H} {W : World} {v : Value} {d : DataW H} {p : List MemPlace} {b0 : Nat} (hval : Value.okWide Try.prog W .any b0 49 v)
    (h : DataW.Trod enc Try.prog W 0 (fun _ => true) true 49 v d p) (hw : ∀ n ∈ d.weights Try.prog 49, n ≤ reachBytes) :
    ∃ A n c, v = .slice A n c ∧ Bytes W A n c := by
  obtain ⟨a1, len, cap, rfl⟩ := okWide_slice Try.underlying49 hval
  obtain ⟨fuel, hf⟩ := h
  rcases open_ints Try.underlying49 Try.underlying5 Try.cells_u8 hf with ⟨hcs, hx⟩ | ⟨a, len', cap', zs, hcs, _, hl, hm, hz, hx, hcell, hwz⟩
  · simp [Value.cells] at hcs
    obtain ⟨rfl, rfl, rfl⟩ := hcs
    exact ⟨none, 0, 0, rfl, Nat.le_refl _, by omega, fun h => absurd h (by omega)⟩
  · simp [Value.cells] at hcs
    obtain ⟨rfl, rfl, rfl⟩ := hcs
    simp only [Prod.mk.injEq] at hx
    obtain ⟨rfl, rfl⟩ := hx
    simp only [if_true] at hz
    have h1 := hw _ (weights_slice Try.underlying49 (.inl rfl))
    simp only [lits, List.length_map, List.length_take, List.length_drop, Try.bytes_u8, reachBytes] at h1
    refine ⟨some a, len, cap, rfl, hl, by omega, fun hn => ?_⟩
    have hspot : a.spot = none := by simpa [Addr.add] using World.cell?_spot (hcell 0 (by omega))
    obtain ⟨b, o, sp⟩ := a
    simp only at hspot
    subst hspot
    refine ⟨b, o, rfl, fun k hk => ⟨zs.getD k 0, ?_, ?_, by rw [← add_plain]; exact hcell k (by omega)⟩⟩
    · rw [List.getD_eq_getElem?_getD]; have := hwz (zs.getD k 0) (by rw [List.getD_eq_getElem?_getD, List.getElem?_eq_getElem (show k < zs.length by omega)]; simp)
      simp [Lit.wf, IntKind.min, IntKind.max, IntKind.signed, IntKind.bits] at this
      omega
    · rw [List.getD_eq_getElem?_getD]; have := hwz (zs.getD k 0) (by rw [List.getD_eq_getElem?_getD, List.getElem?_eq_getElem (show k < zs.length by omega)]; simp)
      simp [Lit.wf, IntKind.min, IntKind.max, IntKind.signed, IntKind.bits] at this
      omega
end Go.Proofs.Ytffbofkjefjlpaa

/- Chapter 2 as plain functions: sums, shares, fractions, means, the worst. -/
namespace Go.Proofs.Ytffbofkjefjlpaa

/-- The sum of the first k numbers; of all. -/
def sm (xs : List Int) : Nat → Int
  | 0 => 0
  | k + 1 => sm xs k + gi xs k
def tot (xs : List Int) : Int := sm xs xs.length
theorem sm_bd {xs : List Int} {lo hi : Int} : ∀ {k : Nat}, (∀ j, j < k → lo ≤ gi xs j ∧ gi xs j ≤ hi) → lo * (k : Int) ≤ sm xs k ∧ sm xs k ≤ hi * (k : Int)
  | 0, _ => by simp [sm]
  | k + 1, h => by
    have h1 := sm_bd (k := k) fun j hj => h j (by omega)
    have h2 := h k (by omega)
    have e1 : lo * ((k + 1 : Nat) : Int) = lo * (k : Int) + lo := by rw [show ((k + 1 : Nat) : Int) = (k : Int) + 1 by omega, Int.mul_add, Int.mul_one]
    have e2 : hi * ((k + 1 : Nat) : Int) = hi * (k : Int) + hi := by rw [show ((k + 1 : Nat) : Int) = (k : Int) + 1 by omega, Int.mul_add, Int.mul_one]
    simp only [sm]
    omega
theorem sm_snoc {xs : List Int} {x : Int} : ∀ {k : Nat}, k ≤ xs.length → sm (xs ++ [x]) k = sm xs k
  | 0, _ => rfl
  | k + 1, h => by
    have h1 := sm_snoc (xs := xs) (x := x) (k := k) (by omega)
    have h2 : gi (xs ++ [x]) k = gi xs k := by rw [gi_get (by simp; omega), gi_get (by omega), List.getElem_append_left (by omega)]
    simp only [sm, h1, h2]
theorem tot_snoc (xs : List Int) (x : Int) : tot (xs ++ [x]) = tot xs + x := by
  unfold tot
  rw [List.length_append, List.length_singleton]
  have h2 : gi (xs ++ [x]) xs.length = x := by rw [gi_get (by simp), List.getElem_append_right (Nat.le_refl _)]; simp
  simp only [sm, sm_snoc (Nat.le_refl _), h2]

/-- Shares of n things. -/
def VS (w : List Int) (n : Int) : Prop := (w.length : Int) = n ∧ (∀ j, j < w.length → InR (gi w j) 0 1000) ∧ 0 < tot w
def VSn (w : List Int) (n : Int) : Prop := 1 ≤ n ∧ n ≤ 3 ∧ VS w n
theorem VS.bd {w : List Int} {n : Int} (v : VS w n) (hn : n ≤ 3) : 0 < tot w ∧ tot w ≤ 3000 := by
  obtain ⟨h1, h2, h3⟩ := v
  have := (sm_bd (xs := w) (lo := 0) (hi := 1000) (k := w.length) h2).2
  unfold tot at *
  omega

/-- The sum of payoffs with both weights: of the first i rows; in row i, of the first j columns. -/
def payR (a : List (List Int)) (x y : List Int) (i : Nat) : Nat → Int
  | 0 => 0
  | j + 1 => payR a x y i j + gi x i * gi y j * g2 a i j
def payU (a : List (List Int)) (x y : List Int) (m : Nat) : Nat → Int
  | 0 => 0
  | i + 1 => payU a x y m i + payR a x y i m

theorem mul_bd {x y a : Int} (hx : 0 ≤ x ∧ x ≤ 1000) (hy : 0 ≤ y ∧ y ≤ 1000) (ha : -9 ≤ a ∧ a ≤ 9) : -9000000 ≤ x * y * a ∧ x * y * a ≤ 9000000 := by
  have h1 : 0 ≤ x * y := Int.mul_nonneg hx.1 hy.1
  have h2 : x * y ≤ 1000 * 1000 := Int.mul_le_mul hx.2 hy.2 hy.1 (by omega)
  have h3 : x * y * a ≤ x * y * 9 := Int.mul_le_mul_of_nonneg_left ha.2 h1
  have h4 : x * y * -9 ≤ x * y * a := Int.mul_le_mul_of_nonneg_left ha.1 h1
  omega
theorem mul_bd2 {x y : Int} (hx : 0 ≤ x ∧ x ≤ 1000) (hy : 0 ≤ y ∧ y ≤ 1000) : 0 ≤ x * y ∧ x * y ≤ 1000000 := by
  have h1 : 0 ≤ x * y := Int.mul_nonneg hx.1 hy.1
  have h2 : x * y ≤ 1000 * 1000 := Int.mul_le_mul hx.2 hy.2 hy.1 (by omega)
  omega
theorem mul_bd3 {x a : Int} (hx : 0 ≤ x ∧ x ≤ 1000) (ha : -9 ≤ a ∧ a ≤ 9) : -9000 ≤ a * x ∧ a * x ≤ 9000 := by
  have h3 : a * x ≤ 9 * x := Int.mul_le_mul_of_nonneg_right ha.2 hx.1
  have h4 : -9 * x ≤ a * x := Int.mul_le_mul_of_nonneg_right ha.1 hx.1
  omega

/-- Shares and a table of which a mean is taken: bounds of all that is read. -/
structure PB (a : List (List Int)) (x y : List Int) (n m : Nat) : Prop where
  a : ∀ i j, i < n → j < m → -9 ≤ g2 a i j ∧ g2 a i j ≤ 9
  x : ∀ i, i < n → 0 ≤ gi x i ∧ gi x i ≤ 1000
  y : ∀ j, j < m → 0 ≤ gi y j ∧ gi y j ≤ 1000
theorem payR_bd {a x y n m} (h : PB a x y n m) {i : Nat} (hi : i < n) : ∀ {j : Nat}, j ≤ m → -9000000 * (j : Int) ≤ payR a x y i j ∧ payR a x y i j ≤ 9000000 * (j : Int)
  | 0, _ => by simp [payR]
  | j + 1, hj => by
    have h1 := payR_bd h hi (j := j) (by omega)
    have h2 := mul_bd (h.x i hi) (h.y j (by omega)) (h.a i j hi (by omega))
    simp only [payR]
    omega
theorem payU_bd {a x y n m} (h : PB a x y n m) (hm : m ≤ 3) : ∀ {i : Nat}, i ≤ n → -27000000 * (i : Int) ≤ payU a x y m i ∧ payU a x y m i ≤ 27000000 * (i : Int)
  | 0, _ => by simp [payU]
  | i + 1, hi => by
    have h1 := payU_bd h hm (i := i) (by omega)
    have h2 := payR_bd h (i := i) (by omega) (j := m) (Nat.le_refl _)
    simp only [payU]
    omega
theorem payP_bd {a x y n m} (h : PB a x y n m) (hm : m ≤ 3) (hn : n ≤ 3) {i j : Nat} (hi : i < n) (hj : j ≤ m) : -108000000 ≤ payU a x y m i + payR a x y i j ∧ payU a x y m i + payR a x y i j ≤ 108000000 := by
  have h1 := payU_bd h hm (i := i) (by omega)
  have h2 := payR_bd h hi hj
  omega

/-- The greatest common divisor, and what Go's loop does to it. -/
def gcdI (a b : Int) : Int := (Int.gcd a b : Int)
theorem gcdI_zero (a : Int) : gcdI a 0 = max a (-a) := by
  unfold gcdI; rw [Int.gcd_zero_right]; omega
theorem gcdI_zero_left (a : Int) : gcdI 0 a = max a (-a) := by
  unfold gcdI; rw [Int.gcd_zero_left]; omega
theorem gcdI_step (a b : Int) : gcdI b (a.tmod b) = gcdI a b := by
  have h : Nat.gcd b.natAbs (a.tmod b).natAbs = Nat.gcd a.natAbs b.natAbs := by
    rw [Int.natAbs_tmod, Nat.gcd_comm, ← Nat.gcd_rec, Nat.gcd_comm]
  exact congrArg Int.ofNat h
theorem gcdI_abs (a b : Int) : gcdI (max a (-a)) b = gcdI a b := by
  have h : Nat.gcd (max a (-a)).natAbs b.natAbs = Nat.gcd a.natAbs b.natAbs := by
    congr 1
    omega
  exact congrArg Int.ofNat h
theorem gcdI_pos {a b : Int} (h : b ≠ 0) : 1 ≤ gcdI a b := by
  unfold gcdI
  have := Int.gcd_pos_of_ne_zero_right a h
  omega
theorem gcdI_pos_left {a b : Int} (h : a ≠ 0) : 1 ≤ gcdI a b := by
  unfold gcdI
  have := Int.gcd_pos_of_ne_zero_left b h
  omega
theorem gcdI_nonneg (a b : Int) : 0 ≤ gcdI a b := by unfold gcdI; omega
theorem gcdI_dvd_left (a b : Int) : gcdI a b ∣ a := Int.gcd_dvd_left a b
theorem gcdI_dvd_right (a b : Int) : gcdI a b ∣ b := Int.gcd_dvd_right a b
theorem gcdI_le {a b : Int} (h : 0 < b) : gcdI a b ≤ b := Int.le_of_dvd h (gcdI_dvd_right a b)
theorem tmod_abs {a b : Int} (h : b ≠ 0) : (a.tmod b).natAbs < b.natAbs := by
  rw [Int.natAbs_tmod]; exact Nat.mod_lt _ (by omega)

/-- A fraction in lowest terms, as a pair of numbers. -/
def frU (u d : Int) : Int := u.tdiv (gcdI u d)
def frD (u d : Int) : Int := d.tdiv (gcdI u d)
theorem tdiv_bd {u g B : Int} (_ : 1 ≤ g) (h : -B ≤ u ∧ u ≤ B) : -B ≤ u.tdiv g ∧ u.tdiv g ≤ B := by
  have h1 : (u.tdiv g).natAbs ≤ u.natAbs := by rw [Int.natAbs_tdiv]; exact Nat.div_le_self _ _
  omega
theorem frU_bd {u d B : Int} (hd : 0 < d) (h : -B ≤ u ∧ u ≤ B) : -B ≤ frU u d ∧ frU u d ≤ B := tdiv_bd (gcdI_pos (by omega)) h
theorem frD_bd {u d B : Int} (hd : 0 < d) (h : d ≤ B) : 1 ≤ frD u d ∧ frD u d ≤ B := by
  have hg := gcdI_pos (a := u) (b := d) (by omega)
  have h1 := tdiv_bd (u := d) (g := gcdI u d) (B := B) hg (by omega)
  have h2 := gcdI_le (a := u) hd
  have h3 : 1 ≤ d / gcdI u d := by rw [Int.le_ediv_iff_mul_le (by omega)]; omega
  rw [Int.tdiv_eq_ediv_of_nonneg (by omega)] at h1
  unfold frD
  rw [Int.tdiv_eq_ediv_of_nonneg (by omega)]
  omega
theorem frU_mul (u d : Int) : frU u d * gcdI u d = u := Int.tdiv_mul_cancel (gcdI_dvd_left u d)
theorem frD_mul (u d : Int) : frD u d * gcdI u d = d := Int.tdiv_mul_cancel (gcdI_dvd_right u d)

/-- Less, of fractions with a positive number below. -/
def ltF (u d v e : Int) : Prop := u * e < v * d

/-- The shares of one of n alone. -/
def onl (n i : Nat) : List Int := (List.range n).map fun k => if k = i then 1 else 0
theorem onl_len (n i : Nat) : (onl n i).length = n := by simp [onl]
theorem gi_onl {n i k : Nat} (h : k < n) : gi (onl n i) k = if k = i then 1 else 0 := by
  rw [gi_get (by rw [onl_len]; exact h)]; simp [onl]
theorem sm_onl {n i : Nat} : ∀ {k : Nat}, k ≤ n → sm (onl n i) k = if i < k then 1 else 0
  | 0, _ => by simp [sm]
  | k + 1, h => by
    have h1 := sm_onl (n := n) (i := i) (k := k) (by omega)
    rw [sm, h1, gi_onl (by omega)]
    split <;> split <;> split <;> omega
theorem tot_onl {n i : Nat} (h : i < n) : tot (onl n i) = 1 := by
  unfold tot; rw [sm_onl (by rw [onl_len]; exact Nat.le_refl _), onl_len, if_pos h]
theorem onl_bd {n i k : Nat} (h : k < n) : 0 ≤ gi (onl n i) k ∧ gi (onl n i) k ≤ 1 := by
  rw [gi_onl h]; split <;> omega

/-- The mean against column j alone, above the line; the least of the first k + 1 of these. -/
def colU (a : List (List Int)) (x : List Int) (n m j : Nat) : Int := payU a x (onl m j) m n
def wst (a : List (List Int)) (x : List Int) (n m : Nat) : Nat → Int × Int
  | 0 => (frU (colU a x n m 0) (tot x), frD (colU a x n m 0) (tot x))
  | k + 1 =>
    let p := (frU (colU a x n m (k + 1)) (tot x), frD (colU a x n m (k + 1)) (tot x))
    if p.1 * (wst a x n m k).2 < (wst a x n m k).1 * p.2 then p else wst a x n m k

end Go.Proofs.Ytffbofkjefjlpaa

/- Sums of numbers; shares: by both programs and the laws. -/
namespace Go.Proofs.Ytffbofkjefjlpaa
open Go.RowKit

def Fit (x : Int) : Prop := -9223372036854775808 ≤ x ∧ x ≤ 9223372036854775807
/-- Numbers whose sums fit. -/
structure SumOk (xs : List Int) : Prop where
  n : xs.length ≤ 1000
  bd : ∀ j, j < xs.length → -1000000000000 ≤ gi xs j ∧ gi xs j ≤ 1000000000000
theorem SumOk.sm {xs : List Int} (h : SumOk xs) {k : Nat} (hk : k ≤ xs.length) : -1000000000000000 ≤ sm xs k ∧ sm xs k ≤ 1000000000000000 := by
  have h1 := sm_bd (xs := xs) (k := k) (lo := -1000000000000) (hi := 1000000000000) fun j hj => h.bd j (by omega)
  have h2 := h.n
  omega
theorem SumOk.of_small {xs : List Int} {B : Int} (hn : xs.length ≤ 1000) (h : ∀ j, j < xs.length → -B ≤ gi xs j ∧ gi xs j ≤ B) (hB : B ≤ 1000000000000) : SumOk xs :=
  ⟨hn, fun j hj => by have := h j hj; omega⟩
theorem VS.sumOk {xs : List Int} {n : Int} (h : VS xs n) (hn : n ≤ 3) : SumOk xs :=
  ⟨by have := h.1; omega, fun j hj => by have := h.2.1 j hj; unfold InR at this; omega⟩

set_option maxHeartbeats 400000 in
theorem sum_any (A : Option Addr) (n c : Nat) (xs : List Int) (w : World) (hx : Ints w A n c xs) (hs : SumOk xs) :
    Calls Try.prog 76 #[.slice A n c] w fun e w' => e = .returned (.int .i64 (tot xs)) ∧ Quiet w w' := by
  have hl : n ≤ 1000 := by rw [← hx.len]; exact hs.n
  have HX := Lib.hid hx
  have HS := Lib.hid hs
  have HL := Lib.hid hx.len
  clear hx hs
  go_enter Try.func76, Try.ntmps76
  go_wp2
  go_loopw [3, 4] (fun s i wr => ∃ k : Nat, k ≤ n ∧ i = .int .i64 k ∧ s = .int .i64 (sm xs k) ∧ Quiet w wr) (fun _ i _ => n - (intOf i).toNat)
  case atStart => exact ⟨0, Nat.zero_le _, rfl, rfl, Quiet.refl _⟩
  case round =>
    obtain ⟨k, hk, rfl, rfl, q, rfl⟩ := hrel
    by_cases hlt : k < n
    · obtain ⟨b, o, rfl, hc⟩ := HX.out.at_ (by omega)
      have c1 := hc k hlt
      obtain ⟨b1, b2⟩ := HS.out.sm (k := k) (by rw [HL.out]; exact hk)
      obtain ⟨b3, b4⟩ := HS.out.bd k (by rw [HL.out]; exact hlt)
      clear hc
      go_wp2
      go_roundw
      case rel => exact ⟨k + 1, by omega, by go_num, rfl, ⟨_, rfl⟩⟩
      case measure => simp [intOf]; omega
    · obtain rfl : k = n := by omega
      go_wp2
      go_ret
      exact ⟨ret_int (by rw [tot, HL.out]), ⟨_, rfl⟩⟩

set_option maxHeartbeats 400000 in
theorem sumOf_any (A : Option Addr) (n c : Nat) (xs : List Int) (w : World) (hx : Ints w A n c xs) (hs : SumOk xs) :
    Calls Try.prog 92 #[.slice A n c] w fun e w' => e = .returned (.int .i64 (tot xs)) ∧ Quiet w w' := by
  have hl : n ≤ 1000 := by rw [← hx.len]; exact hs.n
  have HX := Lib.hid hx
  have HS := Lib.hid hs
  have HL := Lib.hid hx.len
  clear hx hs
  go_enter Try.func92, Try.ntmps92
  go_wp2
  go_loopw [3, 8] (fun s i wr => ∃ k : Nat, k ≤ n ∧ i = .int .i64 k ∧ s = .int .i64 (sm xs k) ∧ Quiet w wr) (fun _ i _ => n - (intOf i).toNat)
  case atStart => exact ⟨0, Nat.zero_le _, rfl, rfl, Quiet.refl _⟩
  case round =>
    obtain ⟨k, hk, rfl, rfl, q, rfl⟩ := hrel
    by_cases hlt : k < n
    · obtain ⟨b, o, rfl, hc⟩ := HX.out.at_ (by omega)
      have c1 := hc k hlt
      obtain ⟨b1, b2⟩ := HS.out.sm (k := k) (by rw [HL.out]; exact hk)
      obtain ⟨b3, b4⟩ := HS.out.bd k (by rw [HL.out]; exact hlt)
      clear hc
      go_wp2
      go_roundw
      case rel => exact ⟨k + 1, by omega, by go_num, rfl, ⟨_, rfl⟩⟩
      case measure => simp [intOf]; omega
    · obtain rfl : k = n := by omega
      go_wp2
      go_ret
      exact ⟨ret_int (by rw [tot, HL.out]), ⟨_, rfl⟩⟩

theorem VS_no {xs : List Int} {n : Int} {k : Nat} (hk : k < xs.length) (h : ¬ InR (gi xs k) 0 1000) : pb (VS xs n) = false := pb_false fun v => h (v.2.1 k hk)

end Go.Proofs.Ytffbofkjefjlpaa

/- Arguments that are a slice of ints, or an int, opened. -/
namespace Go.Proofs.Ytffbofkjefjlpaa
open Go.ChangeShapes Go.WideShapes Go.ChangeAt Go.RowKit Go.Deep

set_option maxRecDepth 100000 in
theorem open_intS {H : Type} {enc : TypeId × Value → H} {W : World} {v : Value} {d : DataW H} {p : List MemPlace} {b0 : Nat} (hval : Value.okWide Try.prog W .any b0 22 v)
    (h : DataW.Trod enc Try.prog W 0 (fun _ => true) true 22 v d p) (hw : ∀ n ∈ d.weights Try.prog 22, n ≤ reachBytes) :
    ∃ A n c xs, v = .slice A n c ∧ Ints W A n c xs := by
  obtain ⟨a1, len, cap, rfl⟩ := okWide_slice Try.underlying22 hval
  obtain ⟨fuel, hf⟩ := h
  rcases open_ints Try.underlying22 Try.underlying3 Try.cells3 hf with ⟨hcs, hx⟩ | ⟨a, len', cap', zs, hcs, _, hl, hm, hz, hx, hcell, hwz⟩
  · simp [Value.cells] at hcs
    obtain ⟨rfl, rfl, rfl⟩ := hcs
    exact ⟨none, 0, 0, [], rfl, rfl, Nat.le_refl _, by omega, fun _ h => by simp at h, fun h => absurd h (by omega)⟩
  · simp [Value.cells] at hcs
    obtain ⟨rfl, rfl, rfl⟩ := hcs
    simp only [Prod.mk.injEq] at hx
    obtain ⟨rfl, rfl⟩ := hx
    simp only [if_true] at hz
    have h1 := hw _ (weights_slice Try.underlying22 (.inl rfl))
    simp only [lits, List.length_map, List.length_take, List.length_drop, Try.bytes3, reachBytes] at h1
    have hlen : (zs.take len).length = len := by rw [List.length_take]; omega
    refine ⟨some a, len, cap, zs.take len, rfl, hlen, hl, by omega, fun x hx => ?_, fun hn => ?_⟩
    · have := hwz x (List.mem_of_mem_take hx)
      simp [Lit.wf, IntKind.min, IntKind.max, IntKind.signed, IntKind.bits] at this
      omega
    have hspot : a.spot = none := by simpa [Addr.add] using World.cell?_spot (hcell 0 (by omega))
    obtain ⟨b, o, sp⟩ := a
    simp only at hspot
    subst hspot
    refine ⟨b, o, rfl, fun k hk => ?_⟩
    rw [← add_plain, hcell k (by omega)]
    congr 2
    rw [gi_get (by rw [hlen]; exact hk), List.getElem_take]
    simp [List.getD, show k < zs.length by omega]

set_option maxRecDepth 100000 in
theorem open_num {H : Type} {enc : TypeId × Value → H} {W : World} {v : Value} {d : DataW H} {p : List MemPlace} {b0 : Nat} (hval : Value.okWide Try.prog W .any b0 3 v)
    (h : DataW.Trod enc Try.prog W 0 (fun _ => true) true 3 v d p) : ∃ x, v = .int .i64 x ∧ Fit x := by
  obtain ⟨x, rfl, _, _, hw⟩ := open_int Try.underlying3 hval h
  refine ⟨x, rfl, ?_⟩
  simp [Lit.wf, IntKind.min, IntKind.max, IntKind.signed, IntKind.bits] at hw
  unfold Fit
  omega
end Go.Proofs.Ytffbofkjefjlpaa

/- An argument that is a machine, opened. -/
namespace Go.Proofs.Ytffbofkjefjlpaa
open Go.ChangeShapes Go.WideShapes Go.ChangeAt Go.RowKit Go.Deep

section
variable {H : Type} {enc : TypeId × Value → H}
set_option maxRecDepth 100000 in
/-- A cell of the type []int, opened. -/
theorem open_intS_cell {W : World} {v : Value} {x : DataW H × List MemPlace} {fuel : Nat}
    (hf : DataW.trod enc Try.prog W 0 (fun _ => true) true fuel 22 [v] = some x) (hw : ∀ n ∈ x.1.weights Try.prog 22, n ≤ reachBytes) :
    ∃ A n c xs, v = .slice A n c ∧ Ints W A n c xs := by
  rcases open_ints Try.underlying22 Try.underlying3 Try.cells3 hf with ⟨hcs, hx⟩ | ⟨a, len, cap, zs, hcs, _, hl, hm, hz, hx, hcell, hwz⟩
  · obtain rfl : v = .slice none 0 0 := by simpa using hcs
    exact ⟨none, 0, 0, [], rfl, rfl, Nat.le_refl _, by omega, fun _ h => by simp at h, fun h => absurd h (by omega)⟩
  · obtain rfl : v = .slice (some a) len cap := by simpa using hcs
    subst hx
    simp only [if_true] at hz
    have h1 := hw _ (weights_slice Try.underlying22 (.inl rfl))
    simp only [lits, List.length_map, List.length_take, List.length_drop, Try.bytes3, reachBytes] at h1
    have hlen : (zs.take len).length = len := by rw [List.length_take]; omega
    refine ⟨some a, len, cap, zs.take len, rfl, hlen, hl, by omega, fun x hx => ?_, fun hn => ?_⟩
    · have := hwz x (List.mem_of_mem_take hx)
      simp [Lit.wf, IntKind.min, IntKind.max, IntKind.signed, IntKind.bits] at this
      omega
    have hspot : a.spot = none := by simpa [Addr.add] using World.cell?_spot (hcell 0 (by omega))
    obtain ⟨b, o, sp⟩ := a
    simp only at hspot
    subst hspot
    refine ⟨b, o, rfl, fun k hk => ?_⟩
    rw [← add_plain, hcell k (by omega)]
    congr 2
    rw [gi_get (by rw [hlen]; exact hk), List.getElem_take]
    simp [List.getD, show k < zs.length by omega]
theorem Try.cells25 : Try.prog.cellsOf 25 = 2 := by kernel_rfl
set_option maxRecDepth 100000 in
/-- An argument of the type laws.Moore, opened. -/
theorem open_moore {W : World} {v : Value} {d : DataW H} {p : List MemPlace} {b0 : Nat} (hval : Value.okWide Try.prog W .any b0 25 v)
    (h : DataW.Trod enc Try.prog W 0 (fun _ => true) true 25 v d p) (hw : ∀ n ∈ d.weights Try.prog 25, n ≤ reachBytes) :
    ∃ A n c xs B m e ys, v = .agg #[.slice A n c, .slice B m e] ∧ Ints W A n c xs ∧ IntRows W B m e ys := by
  obtain ⟨v0, v1, y0, y1, k, rfl, rfl, rfl, h0, h1⟩ := Go.Joins.open_agg2 Try.underlying25 (by kernel_rfl) Try.cells25 hval h
  have hw0 : ∀ n ∈ y0.1.weights Try.prog 22, n ≤ reachBytes := fun n hn => hw n (by simp [DataW.weights, Try.underlying25, DataW.weightsEach, hn])
  have hw1 : ∀ n ∈ y1.1.weights Try.prog 23, n ≤ reachBytes := fun n hn => hw n (by simp [DataW.weights, Try.underlying25, DataW.weightsEach, hn])
  obtain ⟨A, n, c, xs, rfl, hx⟩ := open_intS_cell h0 hw0
  obtain ⟨B, m, e, ys, rfl, hy⟩ := open_rows_cell h1 hw1
  exact ⟨A, n, c, xs, B, m, e, ys, rfl, hx, hy⟩
end
end Go.Proofs.Ytffbofkjefjlpaa

/- The program may be entered: facts of its head, once for all laws. -/
namespace Go.Proofs.Ytffbofkjefjlpaa

theorem prog_enters : Try.pinned.checked.prog.mayEnter = true := by kernel_rfl
theorem prog_lifts0 : (false == Try.pinned.checked.prog.liftsFinal) = true := by kernel_rfl
theorem prog_make0 : (Try.pinned.checked.prog.make == some .cut) = true := by kernel_rfl
theorem prog_lifts {b : Bool} (h : b = false) : (b == Try.pinned.checked.prog.liftsFinal) = true := by subst h; exact prog_lifts0
theorem prog_make {m : Make} (h : m = .cut) : (Try.pinned.checked.prog.make == some m) = true := by subst h; exact prog_make0
end Go.Proofs.Ytffbofkjefjlpaa

/- The reader behind its bytes. -/
namespace Go.Proofs.Ytffbofkjefjlpaa
open Go.RowKit

theorem xor_pos {a b : Int} (ha : 0 ≤ a) (hb : 0 ≤ b) (ha1 : a ≤ 1000000000000) (hb1 : b ≤ 1000000000000) : ∃ x : Int, 0 ≤ x ∧ x ≤ 2305843009213693952 ∧ bits .xor .i64 a b = x := by
  obtain ⟨m, rfl⟩ := Int.eq_ofNat_of_zero_le ha
  obtain ⟨k, rfl⟩ := Int.eq_ofNat_of_zero_le hb
  have e : ∀ q : Nat, q ≤ 1000000000000 → (BitVec.ofInt 64 (q : Int)).toNat = q := fun q hq => by
    rw [BitVec.ofInt_natCast, BitVec.toNat_ofNat]
    exact Nat.mod_eq_of_lt (by omega)
  have hx : m ^^^ k < 2 ^ 60 := Nat.xor_lt_two_pow (by omega) (by omega)
  refine ⟨((m ^^^ k : Nat) : Int), by omega, by omega, ?_⟩
  show IntKind.i64.wrap ((BitVec.ofInt 64 (m : Int) ^^^ BitVec.ofInt 64 (k : Int)).toNat : Int) = _
  rw [BitVec.toNat_xor, e m (by omega), e k (by omega), IntKind.wrap_i64]
  omega

set_option maxRecDepth 100000 in
set_option maxHeartbeats 2000000 in
theorem pick_out (w0 w : World) (g : Nat) (A : Option Addr) (l c p : Nat) (n : Int) (h : Rdr w0 w g A l c p) (hp : p < 1000000000) (hl : 0 < l) (hpl : l ≤ p) (hz : 1 ≤ n) :
    Calls Try.prog 84 #[.pointer (some ⟨g, 0, none⟩), .int .i64 n] w (Picked w0 g A l c p n w) := by
  have k0 := blk_cell h.box (i := 0) (v := .slice A l c) rfl
  have k1 := blk_cell h.box (i := 1) (v := .int .i64 p) rfl
  have f1 := blk_frozen h.box 1
  have HS := Lib.hid h.step
  have j0 := blk_cell h.step.box (i := 0) (v := .slice A l c) rfl
  have j1 := blk_cell h.step.box (i := 1) (v := .int .i64 (p + 1 : Nat)) rfl
  have hs := h.small
  obtain ⟨b, o, rfl, hc⟩ := h.step.at_.at_ (by omega)
  obtain ⟨v, v0, v1, cb⟩ := hc (p % l) (Nat.mod_lt _ hl)
  obtain ⟨u, u0, u1, cu⟩ := hc ((p * 7 + 3) % l) (Nat.mod_lt _ hl)
  rw [cast_succ] at j0 j1 cb cu
  have hl0 : ((l : Int) == 0) = false := by simp; omega
  have m1 : (p : Int) % l < l := Int.emod_lt_of_pos _ (by omega)
  have m2 : 0 ≤ (p : Int) % l := Int.emod_nonneg _ (by omega)
  have m3 : ((p : Int) * 7 + 3) % l < l := Int.emod_lt_of_pos _ (by omega)
  have m4 : 0 ≤ ((p : Int) * 7 + 3) % l := Int.emod_nonneg _ (by omega)
  have m5 : 0 ≤ (p : Int) / l := Int.ediv_nonneg (by omega) (by omega)
  have m6 : (p : Int) / l ≤ p := Int.ediv_le_self _ (by omega)
  clear hc
  go_enter Try.func84, Try.ntmps84
  go_wp2
  generalize hW : (w.setCell ⟨g, 1, none⟩ (.int .i64 ((p : Int) + 1))) = W1 at *
  have HW := Lib.hid hW
  clear hW
  have hn1 : decide (n < 1) = false := by simp; omega
  go_quiet (fail)
  generalize hX : v * 131 + u * 1117 + (p : Int) * 29 + (p : Int) / l * 53 = X
  have X0 : 0 ≤ X := by omega
  have X1 : X ≤ 1000000000000 := by omega
  clear hX m1 m2 m3 m4 m5 m6 cb cu v0 v1 u0 u1
  obtain ⟨x, x0, x1, xe⟩ := xor_pos X0 (show 0 ≤ X / 64 by omega) X1 (show X / 64 ≤ 1000000000000 by omega)
  have y0 : 0 ≤ x % n := Int.emod_nonneg _ (by omega)
  have y1 : x % n < n := Int.emod_lt_of_pos _ (by omega)
  go_wp2
  go_ret
  exact ⟨x % n, rfl, fun _ => ⟨y0, y1⟩, fun h => absurd h (by omega), HS.out.quiet ⟨nq, by rw [cast_succ, HW.out]⟩, nq, by rw [cast_succ, HW.out]⟩

/-- Whatever the bytes and the number. -/
theorem pick_any (w0 w : World) (g : Nat) (A : Option Addr) (l c p : Nat) (n : Int) (h : Rdr w0 w g A l c p) (hp : p < 1000000000) :
    Calls Try.prog 84 #[.pointer (some ⟨g, 0, none⟩), .int .i64 n] w (Picked w0 g A l c p n w) := by
  by_cases hz : n < 1
  · exact pick_zero w0 w g A l c p n h hp hz
  · rcases Nat.eq_zero_or_pos l with rfl | hl
    · exact pick_none w0 w g A c p n h hp (by omega)
    · by_cases hpl : p < l
      · exact pick_in w0 w g A l c p n h hpl (by omega)
      · exact pick_out w0 w g A l c p n h hp hl (by omega) (by omega)

end Go.Proofs.Ytffbofkjefjlpaa

/- Slices that a call makes by append: of ints, and of slices of ints. -/
namespace Go.Proofs.Ytffbofkjefjlpaa
open Go.RowKit

def iv (x : Int) : Value := .int .i64 x
/-- A slice of ints, made by append, in a block from lo up to less than hi. -/
structure BldI (lo hi : Nat) (w : World) (v : Value) (xs : List Int) : Prop where
  own : w.ownsRow lo 3 1 v xs.length (xs.map iv)
  hi_ : ∀ k, v.ownBlock = some k → k < hi
theorem blk_kept {w w' : World} {base : Nat} {e : TypeId} {size n : Nat} {v : Value} {xs : List Value} (h : w.ownsRow base e size v n xs) (k : ∀ g, v.ownBlock = some g → w'.heap[g]? = w.heap[g]?) : w'.ownsRow base e size v n xs := by
  obtain ⟨h1, h2⟩ := h
  refine ⟨h1, ?_⟩
  rcases h2 with h2 | ⟨g, cap, cur, rfl, hb, hg, r⟩
  · exact .inl h2
  · exact .inr ⟨g, cap, cur, rfl, hb, (k g rfl).trans hg, r⟩
theorem BldI.nil (lo hi : Nat) (w : World) : BldI lo hi w (.slice none 0 0) [] := ⟨World.ownsRow_nil _ _ _ _, fun k h => by simp [Value.ownBlock] at h⟩
theorem BldI.below {lo hi w w' v xs} (h : BldI lo hi w v xs) (k : Below w.heap.size w w') : BldI lo hi w' v xs :=
  ⟨blk_kept h.own fun g hg => k.block g (h.own.lt g hg).2, h.hi_⟩
theorem BldI.mono {lo hi hi' w v xs} (h : BldI lo hi w v xs) (hh : hi ≤ hi') : BldI lo hi' w v xs := ⟨h.own, fun k hk => Nat.lt_of_lt_of_le (h.hi_ k hk) hh⟩
theorem BldI.touch {lo hi lo' hi' w w' v xs} (h : BldI lo hi w v xs) (k : Touch lo' hi' w w') (hd : hi ≤ lo' ∨ hi' ≤ lo) : BldI lo hi w' v xs :=
  ⟨blk_kept h.own fun g hg => k.block g (by have := h.hi_ g hg; have := (h.own.lt g hg).1; omega), h.hi_⟩
theorem getElem_iv {xs : List Int} {k : Nat} (h : k < xs.length) : (xs.map iv)[k]? = some (.int .i64 (gi xs k)) := by
  rw [List.getElem?_map, List.getElem?_eq_getElem h, gi_get h]; rfl
theorem BldI.owns {lo hi w v xs} (h : BldI lo hi w v xs) (hm : xs.length ≤ 17592186044416) (hwf : ∀ x ∈ xs, -9223372036854775808 ≤ x ∧ x ≤ 9223372036854775807) :
    ∃ A n c g, v = .slice A n c ∧ n = xs.length ∧ OwnI lo hi w g A n c xs ∧ ∀ k, v.ownBlock = some k → k = g := by
  have hh := h.hi_
  rcases h.own.2 with ⟨rfl, h0⟩ | ⟨g, cap, cur, rfl, hb, hg, hnc, _, hcs, htake⟩
  · have hx : xs = [] := List.eq_nil_of_length_eq_zero h0
    subst hx
    exact ⟨none, 0, 0, 0, rfl, rfl, OwnI.nil _ _ _ _, fun k hk => by simp [Value.ownBlock] at hk⟩
  · refine ⟨some ⟨g, 0, none⟩, xs.length, cap, g, rfl, rfl, ⟨⟨rfl, hnc, hm, hwf, fun _ => ⟨g, 0, rfl, fun k hk => ?_⟩⟩, fun _ => ⟨0, rfl, hb, hh g rfl, fun k _ => ?_⟩⟩, fun k hk => by simpa [Value.ownBlock] using hk.symm⟩
    · rw [Nat.zero_add, ← getElem_iv hk, ← htake, List.getElem?_take, if_pos (by omega)]
      simp [World.cell?, hg]
    · rw [Nat.zero_add]; simp [World.frozen?, hg]

theorem BldI.make {lo : Nat} {w : World} (hlo : lo ≤ w.heap.size) : BldI lo (w.heap.size + 1) (w.alloc (.cells #[] 3)) (.slice (some ⟨w.heap.size, 0, none⟩) 0 0) [] :=
  ⟨World.ownsRow_made (e := 3) (size := 1) w #[] 0 hlo (Nat.zero_le _) rfl, fun k hk => by simp [Value.ownBlock] at hk; omega⟩

/-- Slices of ints under construction: the outer slice made by append, its cells vs, each row in a block of its own. -/
structure Bld (lo hi : Nat) (w : World) (v : Value) (vs : List Value) (xss : List (List Int)) : Prop where
  own : w.ownsRow lo 22 1 v xss.length vs
  hi_ : ∀ k, v.ownBlock = some k → k < hi
  ex : ∃ (G : Nat → Nat) (R : Nat → Option Addr) (C : Nat → Nat), (∀ k, k < xss.length → vs[k]? = some (.slice (R k) (gr xss k).length (C k)) ∧ OwnI lo hi w (G k) (R k) (gr xss k).length (C k) (gr xss k) ∧ (0 < (gr xss k).length → v.ownBlock ≠ some (G k))) ∧
    ∀ j k, j < k → k < xss.length → 0 < (gr xss j).length → 0 < (gr xss k).length → G j ≠ G k
theorem Bld.nil (lo hi : Nat) (w : World) : Bld lo hi w (.slice none 0 0) [] [] :=
  ⟨World.ownsRow_nil _ _ _ _, fun k h => by simp [Value.ownBlock] at h, fun _ => 0, fun _ => none, fun _ => 0, fun k h => absurd h (by simp), fun _ k _ h => absurd h (by simp)⟩
theorem Bld.make {lo : Nat} {w : World} (hlo : lo ≤ w.heap.size) : Bld lo (w.heap.size + 1) (w.alloc (.cells #[] 22)) (.slice (some ⟨w.heap.size, 0, none⟩) 0 0) [] [] :=
  ⟨World.ownsRow_made (e := 22) (size := 1) w #[] 0 hlo (Nat.zero_le _) rfl, fun k hk => by simp [Value.ownBlock] at hk; omega, fun _ => 0, fun _ => none, fun _ => 0, fun k h => absurd h (by simp), fun _ k _ h => absurd h (by simp)⟩
theorem Bld.mono {lo hi hi' w v vs xss} (h : Bld lo hi w v vs xss) (hh : hi ≤ hi') : Bld lo hi' w v vs xss := by
  obtain ⟨h1, h4, G, R, C, h2, h3⟩ := h
  exact ⟨h1, fun k hk => Nat.lt_of_lt_of_le (h4 k hk) hh, G, R, C, fun k hk => ⟨(h2 k hk).1, (h2 k hk).2.1.mono (Nat.le_refl _) hh, (h2 k hk).2.2⟩, h3⟩
theorem Bld.of_blocks {lo hi w w' v vs xss} (h : Bld lo hi w v vs xss) (e : ∀ g, lo ≤ g → g < hi → g < w.heap.size → w'.heap[g]? = w.heap[g]?) : Bld lo hi w' v vs xss := by
  obtain ⟨h1, h4, G, R, C, h2, h3⟩ := h
  refine ⟨blk_kept h1 fun g hg => e g (h1.lt g hg).1 (h4 g hg) (h1.lt g hg).2, h4, G, R, C, fun k hk => ⟨(h2 k hk).1, (h2 k hk).2.1.of_block fun hp => ?_, (h2 k hk).2.2⟩, h3⟩
  obtain ⟨_, _, a, b, _⟩ := (h2 k hk).2.1.own hp
  exact e _ a b ((h2 k hk).2.1.lt hp)
theorem Bld.below {lo hi w w' v vs xss} (h : Bld lo hi w v vs xss) (k : Below w.heap.size w w') : Bld lo hi w' v vs xss := h.of_blocks fun g _ _ hg => k.block g hg

theorem gr_snoc_lt {xss : List (List Int)} {r : List Int} {k : Nat} (h : k < xss.length) : gr (xss ++ [r]) k = gr xss k := by
  rw [gr_get h, gr_get (by simp; omega), List.getElem_append_left h]
theorem gr_snoc_eq {xss : List (List Int)} {r : List Int} : gr (xss ++ [r]) xss.length = r := by
  rw [gr_get (by simp), List.getElem_append_right (Nat.le_refl _)]; simp

/-- One row more. -/
theorem Bld.push {lo hi : Nat} {w w1 w' : World} {v v' : Value} {vs : List Value} {xss : List (List Int)} {r : List Int} {g : Nat} {A : Option Addr} {c : Nat}
    (h : Bld lo hi w v vs xss) (hk : Below w.heap.size w w1) (hr : OwnI hi w1.heap.size w1 g A r.length c r)
    (hown : w'.ownsRow lo 22 1 v' (xss.length + 1) (vs ++ [.slice A r.length c]))
    (hgrow : w1.grownBy w' v.ownBlock) (hat : v'.ownBlock = v.ownBlock ∨ v'.ownBlock = some w1.heap.size) (hlo : lo ≤ hi) (hhi : hi ≤ w.heap.size) :
    Bld lo w'.heap.size w' v' (vs ++ [.slice A r.length c]) (xss ++ [r]) := by
  obtain ⟨h1, h4, G, R, C, h2, h3⟩ := h
  have hvl : vs.length = xss.length := by have := h1.1; omega
  have hsz := hk.size
  have hsz' := hgrow.size
  have keepI : ∀ {lo hi : Nat} {b : Nat} {B : Option Addr} {n c : Nat} {xs : List Int}, OwnI lo hi w1 b B n c xs → (0 < n → v.ownBlock ≠ some b) → OwnI lo hi w' b B n c xs :=
    fun ho hne => ho.of_block fun hp => hgrow.block _ (ho.lt hp) (fun e => hne hp e.symm)
  have hfar : 0 < r.length → v.ownBlock ≠ some g := fun hp e => by
    have a := h4 g e
    obtain ⟨_, _, b, _⟩ := hr.own hp
    omega
  refine ⟨by rw [List.length_append, List.length_singleton]; exact hown, fun k hk' => ?_, fun k => if k < xss.length then G k else g, fun k => if k < xss.length then R k else A, fun k => if k < xss.length then C k else c, ?_, ?_⟩
  · rcases hat with hat | hat
    · have := h4 k (by rw [← hat]; exact hk'); omega
    · have := (hown.lt k hk').2; omega
  · intro k hk'
    rw [List.length_append, List.length_singleton] at hk'
    by_cases e : k < xss.length
    · simp only [if_pos e, gr_snoc_lt e]
      obtain ⟨q0, a, b⟩ := h2 k e
      refine ⟨by rw [List.getElem?_append_left (by omega)]; exact q0, keepI ((a.below hk).mono (Nat.le_refl _) (by omega)) b, fun hp => ?_⟩
      rcases hat with hat | hat
      · rw [hat]; exact b hp
      · rw [hat]; intro e'; injection e' with e'; obtain ⟨_, _, _, q, _⟩ := a.own hp; omega
    · obtain rfl : k = xss.length := by omega
      simp only [if_neg e, gr_snoc_eq]
      refine ⟨by rw [← hvl, List.getElem?_append_right (Nat.le_refl _)]; simp, keepI (hr.mono hlo hsz') hfar, fun hp => ?_⟩
      rcases hat with hat | hat
      · rw [hat]; exact hfar hp
      · rw [hat]; intro e'; injection e' with e'; obtain ⟨_, _, _, q, _⟩ := hr.own hp; omega
  · intro j k hjk hk' hj0 hk0
    rw [List.length_append, List.length_singleton] at hk'
    have ej : j < xss.length := by omega
    simp only [if_pos ej]
    rw [gr_snoc_lt ej] at hj0
    by_cases e : k < xss.length
    · simp only [if_pos e]
      rw [gr_snoc_lt e] at hk0
      exact h3 j k hjk e hj0 hk0
    · obtain rfl : k = xss.length := by omega
      simp only [if_neg e]
      rw [gr_snoc_eq] at hk0
      obtain ⟨_, _, _, q, _⟩ := (h2 j ej).2.1.own hj0
      obtain ⟨_, _, q', _⟩ := hr.own hk0
      omega

theorem Bld.owns {lo hi w v vs xss} (h : Bld lo hi w v vs xss) (hm : xss.length ≤ 5864062014805) : ∃ A n c g, v = .slice A n c ∧ n = xss.length ∧ OwnR lo hi w g A n c xss := by
  obtain ⟨h1, hh, G, R, C, h2, h3⟩ := h
  rcases h1.2 with ⟨rfl, h0⟩ | ⟨g, cap, cur, rfl, hb, hg, hnc, _, hcs, htake⟩
  · have hx : xss = [] := List.eq_nil_of_length_eq_zero h0
    subst hx
    exact ⟨none, 0, 0, 0, rfl, rfl, OwnR.nil _ _ _ _⟩
  · refine ⟨some ⟨g, 0, none⟩, xss.length, cap, g, rfl, rfl, ⟨rfl, hnc, hm, fun _ => ⟨0, G, R, C, rfl, hb, hh g rfl, fun k hk => ⟨?_, ?_, (h2 k hk).2.1, fun hp e => (h2 k hk).2.2 hp (by rw [e]; rfl)⟩, h3⟩⟩⟩
    · rw [Nat.zero_add]; simp [World.frozen?, hg]
    · rw [Nat.zero_add, ← (h2 k hk).1, ← htake, List.getElem?_take, if_pos (by omega)]
      simp [World.cell?, hg]

theorem pair_own {lo : Nat} {w : World} (x y : Int) (hx : -9223372036854775808 ≤ x ∧ x ≤ 9223372036854775807) (hy : -9223372036854775808 ≤ y ∧ y ≤ 9223372036854775807) (hlo : lo ≤ w.heap.size) :
    OwnI lo (w.heap.size + 1) (w.alloc (.cells #[.int .i64 x, .int .i64 y] 3)) w.heap.size (some ⟨w.heap.size, 0, none⟩) 2 2 [x, y] := by
  have hb := blk_new w 3 #[.int .i64 x, .int .i64 y]
  refine ⟨⟨rfl, Nat.le_refl _, by omega, ?_, fun _ => ⟨_, 0, rfl, fun k hk => ?_⟩⟩, fun _ => ⟨0, rfl, hlo, Nat.lt_succ_self _, fun k _ => blk_frozen hb _⟩⟩
  · intro z hz
    simp only [List.mem_cons, List.not_mem_nil, or_false] at hz
    rcases hz with rfl | rfl
    · exact hx
    · exact hy
  · rw [Nat.zero_add]
    match k, hk with
    | 0, _ => exact blk_cell hb rfl
    | 1, _ => exact blk_cell hb rfl

/-- One pair more. -/
theorem push_pair {lo : Nat} {w w' : World} {v v' : Value} {vs : List Value} {xss : List (List Int)} {x y : Int}
    (h : Bld lo w.heap.size w v vs xss) (hx : -9223372036854775808 ≤ x ∧ x ≤ 9223372036854775807) (hy : -9223372036854775808 ≤ y ∧ y ≤ 9223372036854775807)
    (hown : w'.ownsRow lo 22 1 v' (xss.length + 1) (vs ++ [.slice (some ⟨w.heap.size, 0, none⟩) 2 2]))
    (hgrow : ((w.alloc (.cells #[.int .i64 x, .int .i64 y] 3)).alloc (.cells #[.slice (some ⟨w.heap.size, 0, none⟩) 2 2] 22)).grownBy w' v.ownBlock)
    (hat : v'.ownBlock = v.ownBlock ∨ v'.ownBlock = some (w.heap.size + 1 + 1)) (hlo : lo ≤ w.heap.size) :
    Bld lo w'.heap.size w' v' (vs ++ [.slice (some ⟨w.heap.size, 0, none⟩) 2 2]) (xss ++ [[x, y]]) ∧ Below lo w w' := by
  have hb3 := below_alloc w (.cells #[.int .i64 x, .int .i64 y] 3)
  have hb4 := below_alloc (w.alloc (.cells #[.int .i64 x, .int .i64 y] 3)) (.cells #[.slice (some ⟨w.heap.size, 0, none⟩) 2 2] 22)
  have hb := below_up hb3 hb4
  have ho := (pair_own (lo := w.heap.size) (w := w) x y hx hy (Nat.le_refl _)).below hb4
  refine ⟨h.push (r := [x, y]) hb (ho.mono (Nat.le_refl _) (by simp)) hown hgrow (by simpa using hat) hlo (Nat.le_refl _), ?_⟩
  exact (hb.mono hlo).grown hgrow (by simp; omega) fun k hk => (h.own.lt k hk).1
theorem Bld.form {lo hi w v vs xss} (h : Bld lo hi w v vs xss) : ∃ A c, v = .slice A xss.length c := by
  rcases h.own.2 with ⟨rfl, h0⟩ | ⟨g, cap, cur, rfl, _⟩
  · exact ⟨none, 0, by rw [h0]⟩
  · exact ⟨_, _, rfl⟩
theorem BldI.form {lo hi w v xs} (h : BldI lo hi w v xs) : ∃ A c, v = .slice A xs.length c := by
  rcases h.own.2 with ⟨rfl, h0⟩ | ⟨g, cap, cur, rfl, _⟩
  · exact ⟨none, 0, by rw [h0]⟩
  · exact ⟨_, _, rfl⟩
theorem BldI.of_blocks {lo hi w w' v xs} (h : BldI lo hi w v xs) (e : ∀ g, lo ≤ g → g < hi → g < w.heap.size → w'.heap[g]? = w.heap[g]?) : BldI lo hi w' v xs :=
  ⟨blk_kept h.own fun g hg => e g (h.own.lt g hg).1 (h.hi_ g hg) (h.own.lt g hg).2, h.hi_⟩

end Go.Proofs.Ytffbofkjefjlpaa

/- The reader made; one of some numbers. -/
namespace Go.Proofs.Ytffbofkjefjlpaa
open Go.RowKit

def MadeRdr (w : World) (l : Nat) (e : Ending) (w' : World) : Prop :=
  ∃ A n c, e = .returned (.pointer (some ⟨w.heap.size, 0, none⟩)) ∧ n = min l 2000 ∧ Rdr w w' w.heap.size A n c 0 ∧ w'.heap.size = w.heap.size + 1

theorem Bytes.cut {w A n c} (h : Bytes w A n c) (hn : 2000 < n) : Bytes w A 2000 c :=
  ⟨by have := h.cap; omega, by omega, fun _ => let ⟨b, o, e, hc⟩ := h.at_ (by omega); ⟨b, o, e, fun k hk => hc k (by omega)⟩⟩

set_option maxHeartbeats 400000 in
theorem newReader_any (A : Option Addr) (n c : Nat) (w : World) (h : Bytes w A n c) :
    Calls Try.prog 67 #[.slice A n c] w (MadeRdr w n) := by
  have hm := h.max
  have hcap := h.cap
  by_cases hn : 2000 < n
  · obtain ⟨b, o, rfl, _⟩ := h.at_ (by omega)
    have HR := Lib.hid (show Rdr w (w.alloc (.cells #[.slice (some ⟨b, o, none⟩) 2000 c, .int .i64 0] 103)) w.heap.size (some ⟨b, o, none⟩) 2000 c 0 from
      ⟨blk_new _ _ _, h.cut hn, below_alloc _ _, Nat.le_refl _, Nat.le_refl _⟩)
    have HM := Lib.hid (show 2000 = min n 2000 by omega)
    have hc2 : 2000 ≤ c := by omega
    clear h
    go_enter Try.func67, Try.ntmps67
    go_wp2
    go_ret
    exact ⟨_, _, _, rfl, HM.out, HR.out, by simp⟩
  · have HR := Lib.hid (show Rdr w (w.alloc (.cells #[.slice A n c, .int .i64 0] 103)) w.heap.size A n c 0 from
      ⟨blk_new _ _ _, h, below_alloc _ _, Nat.le_refl _, by omega⟩)
    have HM := Lib.hid (show n = min n 2000 by omega)
    clear h
    go_enter Try.func67, Try.ntmps67
    go_wp2
    go_ret
    exact ⟨_, _, _, rfl, HM.out, HR.out, by simp⟩

/-- Some draws by the reader in block g: it alone has turned, p has grown by some; new blocks may be there. -/
structure Drawn (w0 : World) (g : Nat) (A : Option Addr) (l c p p' : Nat) (w w' : World) : Prop where
  rd : Rdr w0 w' g A l c p'
  grown : w.grownBy w' (some g)

theorem One.grown {g : Nat} {w w' : World} (h : One g w w') : w.grownBy w' (some g) := ⟨h.os, h.tape, h.output, by rw [h.size]; exact Nat.le_refl _, fun k _ hne => h.block k (fun e => hne (by rw [e]))⟩
theorem Rdr.one {g : Nat} (w : World) (v : Value) (q : Nat) : One g w ((w.setCell ⟨g, 1, none⟩ v).drewN q) :=
  let h := (One.refl g w).set 1 v
  ⟨h.os, h.tape, h.output, h.size, h.block⟩
theorem Rdr.below_ {w0 w w' g A n c p} (h : Rdr w0 w g A n c p) (k : Below w.heap.size w w') : Rdr w0 w' g A n c p :=
  ⟨blk_below h.box k, h.bytes, below_up h.below k, h.lt, h.small⟩

def OneOf (w0 : World) (g : Nat) (A : Option Addr) (l c p : Nat) (xs : List Int) (w : World) (e : Ending) (w' : World) : Prop :=
  ∃ x, e = .returned (.int .i64 x) ∧ x ∈ xs ∧ Rdr w0 w' g A l c (p + 1) ∧ One g w w'

set_option maxHeartbeats 400000 in
theorem one_any (w0 w : World) (g : Nat) (A : Option Addr) (l c p : Nat) (B : Option Addr) (n d : Nat) (xs : List Int) (h : Rdr w0 w g A l c p) (hp : p < 1000000000)
    (hx : Ints w B n d xs) (h0 : 0 < n) (hne : ∀ b o, B = some ⟨b, o, none⟩ → b ≠ g) :
    Calls Try.prog 83 #[.pointer (some ⟨g, 0, none⟩), .slice B n d] w (OneOf w0 g A l c p xs w) := by
  have hm := hx.max
  have HX := Lib.hid hx
  have HC := Lib.hid (pick_any w0 w g A l c p n h hp)
  have HNE := Lib.hid hne
  obtain ⟨b, o, rfl, _⟩ := hx.at_ h0
  clear h hx hne
  go_enter Try.func83, Try.ntmps83
  go_wp2_with fail
  refine HC.out.mono ?_
  rintro e w1 ⟨m, rfl, hm1, _, hr, q, hw⟩
  have H1 := Lib.hid hr
  have hone := Rdr.one (g := g) w (.int .i64 (p + 1 : Nat)) q
  rw [← hw] at hone
  have HO := Lib.hid hone
  obtain ⟨m0, m1⟩ := hm1 (by omega)
  obtain ⟨k, rfl⟩ := Int.eq_ofNat_of_zero_le m0
  have hk : k < n := by omega
  obtain ⟨b', o', e', hc⟩ := HX.out.at_ h0
  injection e' with e'
  injection e' with e1 e2 _
  subst e1
  subst e2
  have ck := hc k hk
  rw [← World.cell?_of_block (w := w) (w' := w1) (hone.block b (HNE.out b o rfl))] at ck
  have HM := Lib.hid (gi_mem (xs := xs) (k := k) (by rw [HX.out.len]; exact hk))
  clear hr hone hc hm1 hw HC HX
  go_wp2
  go_ret
  exact ⟨_, rfl, HM.out, H1.out, HO.out⟩
end Go.Proofs.Ytffbofkjefjlpaa

/- A table drawn. -/
namespace Go.Proofs.Ytffbofkjefjlpaa
open Go.RowKit

theorem grown_below {g : Nat} {a b w : World} (h : a.grownBy b (some g)) (k : Below b.heap.size b w) : a.grownBy w (some g) :=
  ⟨k.os.trans h.os, k.tape.trans h.tape, k.output.trans h.output, Nat.le_trans h.size k.size, fun i hi hne => (k.block i (Nat.lt_of_lt_of_le hi h.size)).trans (h.block i hi hne)⟩
/-- An append onto a row from lo on. -/
theorem grown_app {g : Nat} {a b w : World} {row : Option Nat} (h : a.grownBy b (some g)) (k : b.grownBy w row) (hr : ∀ x, row = some x → a.heap.size ≤ x) : a.grownBy w (some g) :=
  ⟨k.os.trans h.os, k.tape.trans h.tape, k.output.trans h.output, Nat.le_trans h.size k.size, fun i hi hne => (k.block i (Nat.lt_of_lt_of_le hi h.size) (fun e => by have := hr i e.symm; omega)).trans (h.block i hi hne)⟩

/-- A table under way: the reader, the rows that are there. -/
structure TO (w0 wb : World) (g : Nat) (A : Option Addr) (l c p : Nat) (v : Value) (vs : List Value) (xss : List (List Int)) (w : World) : Prop where
  rd : Rdr w0 w g A l c p
  bo : Bld wb.heap.size w.heap.size w v vs xss
  gl : g < wb.heap.size
  up : wb.grownBy w (some g)
/-- .. and the row that is begun. -/
structure TI (w0 wb : World) (g : Nat) (A : Option Addr) (l c p H : Nat) (v : Value) (vs : List Value) (xss : List (List Int)) (u : Value) (ys : List Int) (w : World) : Prop where
  rd : Rdr w0 w g A l c p
  bo : Bld wb.heap.size H w v vs xss
  bi : BldI H w.heap.size w u ys
  gl : g < wb.heap.size
  lh : wb.heap.size ≤ H
  hs : H ≤ w.heap.size
  up : wb.grownBy w (some g)
theorem TO.start {w0 wb g A l c p} (h : Rdr w0 wb g A l c p) :
    TO w0 wb g A l c p (.slice (some ⟨wb.heap.size, 0, none⟩) 0 0) [] [] (wb.alloc (.cells #[] 22)) :=
  ⟨h.below_ (below_alloc _ _), by rw [World.size_alloc]; exact Bld.make (Nat.le_refl _), blk_lt h.box, World.grownBy_alloc _ _ _⟩
theorem TO.row {w0 wb g A l c p v vs xss w} (h : TO w0 wb g A l c p v vs xss w) :
    TI w0 wb g A l c p w.heap.size v vs xss (.slice (some ⟨w.heap.size, 0, none⟩) 0 0) [] (w.alloc (.cells #[] 3)) :=
  ⟨h.rd.below_ (below_alloc _ _), h.bo.below (below_alloc _ _), by rw [World.size_alloc]; exact BldI.make (Nat.le_refl _), h.gl, h.up.size, by simp, grown_below h.up (below_alloc _ _)⟩
theorem TI.one {w0 wb g A l c p p' H v vs xss u ys w w'} (h : TI w0 wb g A l c p H v vs xss u ys w) (hr : Rdr w0 w' g A l c p') (ho : One g w w') :
    TI w0 wb g A l c p' H v vs xss u ys w' := by
  have hgl := h.gl
  have hlh := h.lh
  refine ⟨hr, h.bo.of_blocks fun k h1 _ _ => ho.block k (by omega), ?_, h.gl, h.lh, by rw [ho.size]; exact h.hs, ?_⟩
  · rw [ho.size]; exact h.bi.of_blocks fun k h1 _ _ => ho.block k (by omega)
  · exact ⟨ho.os.trans h.up.os, ho.tape.trans h.up.tape, ho.output.trans h.up.output, by rw [ho.size]; exact h.up.size, fun k hk hne => (ho.block k (fun e => hne (by rw [e]))).trans (h.up.block k hk hne)⟩
theorem TI.push {w0 wb g A l c p H v vs xss u u' ys w w' x} (h : TI w0 wb g A l c p H v vs xss u ys w)
    (hown : w'.ownsRow H 3 1 u' (ys.length + 1) (ys.map iv ++ [iv x])) (hgrow : (w.alloc (.cells #[iv x] 3)).grownBy w' u.ownBlock)
    (hat : u'.ownBlock = u.ownBlock ∨ u'.ownBlock = some (w.heap.size + 1)) : TI w0 wb g A l c p H v vs xss u' (ys ++ [x]) w' := by
  have hgl := h.gl
  have hlh := h.lh
  have hhs := h.hs
  have hsz := hgrow.size
  simp only [World.size_alloc] at hsz
  have hu : ∀ k, u.ownBlock = some k → H ≤ k := fun k hk => (h.bi.own.lt k hk).1
  have hbelow : ∀ k, k < H → w'.heap[k]? = w.heap[k]? := fun k hk =>
    (hgrow.block k (by simp; omega) (fun e => by have := hu k e.symm; omega)).trans (Below.heap_alloc _ _ _ (by omega))
  refine ⟨⟨(hbelow g (by omega)).trans h.rd.box, h.rd.bytes, ?_, h.rd.lt, h.rd.small⟩, h.bo.of_blocks fun k _ hk _ => hbelow k hk, ⟨by rw [List.length_append, List.length_singleton, List.map_append]; exact hown, fun k hk => ?_⟩, h.gl, h.lh, by omega, ?_⟩
  · exact ⟨hgrow.os.trans h.rd.below.os, hgrow.tape.trans h.rd.below.tape, hgrow.output.trans h.rd.below.output, by have := h.rd.below.size; omega, fun k hk => (hbelow k (by have := h.rd.lt; omega)).trans (h.rd.below.block k hk)⟩
  · rcases hat with hat | hat
    · have := h.bi.hi_ k (by rw [← hat]; exact hk); omega
    · have := (hown.lt k hk).2; omega
  · exact grown_app (grown_below h.up (below_alloc _ _)) hgrow fun k hk => by have := hu k hk; omega
theorem TI.done {w0 wb g A l c p H v v' vs xss ys w w' Ar cr gr_} (h : TI w0 wb g A l c p H v vs xss (.slice Ar ys.length cr) ys w) (ho : OwnI H w.heap.size w gr_ Ar ys.length cr ys)
    (hown : w'.ownsRow wb.heap.size 22 1 v' (xss.length + 1) (vs ++ [.slice Ar ys.length cr])) (hgrow : (w.alloc (.cells #[.slice Ar ys.length cr] 22)).grownBy w' v.ownBlock)
    (hat : v'.ownBlock = v.ownBlock ∨ v'.ownBlock = some (w.heap.size + 1)) : TO w0 wb g A l c p v' (vs ++ [.slice Ar ys.length cr]) (xss ++ [ys]) w' := by
  have hgl := h.gl
  have hlh := h.lh
  have hhs := h.hs
  have hsz := hgrow.size
  simp only [World.size_alloc] at hsz
  have hv : ∀ k, v.ownBlock = some k → wb.heap.size ≤ k := fun k hk => (h.bo.own.lt k hk).1
  have hbelow : ∀ k, k < wb.heap.size → w'.heap[k]? = w.heap[k]? := fun k hk =>
    (hgrow.block k (by simp; omega) (fun e => by have := hv k e.symm; omega)).trans (Below.heap_alloc _ _ _ (by omega))
  have hb := below_alloc w (.cells #[.slice Ar ys.length cr] 22)
  refine ⟨⟨(hbelow g hgl).trans h.rd.box, h.rd.bytes, ?_, h.rd.lt, h.rd.small⟩, ?_, h.gl, ?_⟩
  · exact ⟨hgrow.os.trans h.rd.below.os, hgrow.tape.trans h.rd.below.tape, hgrow.output.trans h.rd.below.output, by have := h.rd.below.size; omega, fun k hk => (hbelow k (by have := h.rd.lt; omega)).trans (h.rd.below.block k hk)⟩
  · have hbo : Bld wb.heap.size H w v vs xss := h.bo
    exact Bld.push (hi := H) (w := w) hbo hb ((ho.below hb).mono (Nat.le_refl _) (by simp)) hown hgrow (by simpa using hat) hlh hhs
  · exact grown_app (grown_below h.up hb) hgrow fun k hk => hv k hk
end Go.Proofs.Ytffbofkjefjlpaa

/- A table drawn: the walk. -/
namespace Go.Proofs.Ytffbofkjefjlpaa
open Go.RowKit
theorem Try.info_row : (Try.prog.info? 22).map (fun i => (i.zero, i.size, i.bytes)) = some (some (.slice none 0 0), 1, 24) := by kernel_rfl
theorem Try.info_int : (Try.prog.info? 3).map (fun i => (i.zero, i.size, i.bytes)) = some (some (.int .i64 0), 1, 8) := by kernel_rfl

def RowIn (m : Nat) (lo hi : Int) (r : List Int) : Prop := r.length = m ∧ ∀ x ∈ r, lo ≤ x ∧ x ≤ hi
def TableOut (w0 : World) (g : Nat) (A : Option Addr) (l c p n m : Nat) (lo hi : Int) (w : World) (e : Ending) (w' : World) : Prop :=
  ∃ Av cv vs xss p', e = .returned (.slice Av n cv) ∧ xss.length = n ∧ (∀ r ∈ xss, RowIn m lo hi r) ∧ TO w0 w g A l c p' (.slice Av n cv) vs xss w' ∧ p' ≤ p + 16

set_option maxHeartbeats 1000000 in
theorem tableOf_any (w0 w : World) (g : Nat) (A : Option Addr) (l c p n m : Nat) (lo hi : Int) (h : Rdr w0 w g A l c p) (hp : p < 900000000) (hn : n ≤ 4) (hm : m ≤ 4) (hl1 : -100 ≤ lo) (hl2 : lo ≤ hi) (hl3 : hi ≤ 100) :
    Calls Try.prog 86 #[.pointer (some ⟨g, 0, none⟩), .int .i64 n, .int .i64 m, .int .i64 lo, .int .i64 hi] w (TableOut w0 g A l c p n m lo hi w) := by
  have HS := Lib.hid (TO.start h)
  clear h
  go_enter Try.func86, Try.ntmps86
  go_wp2
  go_loopw [11] (fun v wr => ∃ (xss : List (List Int)) (vs : List Value) (p' : Nat), xss.length ≤ n ∧ p' ≤ p + 4 * xss.length ∧ Hid (∀ r ∈ xss, RowIn m lo hi r) ∧ Hid (TO w0 w g A l c p' v vs xss wr)) (fun v _ => n - (match v with | .slice _ k _ => k | _ => 0))
  case atStart => exact ⟨[], [], p, Nat.zero_le _, by simp, Lib.hid (fun r hr => by simp at hr), HS⟩
  case round =>
    clear HS
    obtain ⟨xss, vs, p', hxn, hpp, HA, HT⟩ := hrel
    obtain ⟨Av, cv, rfl⟩ := HT.out.bo.form
    by_cases hlt : xss.length < n
    · have HI := Lib.hid HT.out.row
      clear HT
      go_wp2
      generalize wr.heap.size = N at *
      go_loopw [12] (fun u wi => ∃ (ys : List Int) (q : Nat), ys.length ≤ m ∧ q ≤ p' + ys.length ∧ Hid (∀ x ∈ ys, lo ≤ x ∧ x ≤ hi) ∧ Hid (TI w0 w g A l c q N (.slice Av xss.length cv) vs xss u ys wi)) (fun u _ => m - (match u with | .slice _ k _ => k | _ => 0))
      case atStart => exact ⟨[], p', Nat.zero_le _, by simp, Lib.hid (fun r hr => by simp at hr), HI⟩
      case round =>
        clear HI
        obtain ⟨ys, q, hym, hq, HR, HI⟩ := hrel
        obtain ⟨Au, cu, rfl⟩ := HI.out.bi.form
        by_cases hlm : ys.length < m
        · have HC := Lib.hid (pick_any w0 _ g A l c q (hi - lo + 1) HI.out.rd (by omega))
          go_wp2_with fail
          refine HC.out.mono ?_
          rintro e w2 ⟨k, rfl, hk1, _, hr, z, hw⟩
          have hone := Rdr.one (g := g) wr (.int .i64 (q + 1 : Nat)) z
          rw [← hw] at hone
          obtain ⟨k0, k1⟩ := hk1 (by omega)
          have HI2 := Lib.hid (HI.out.one hr hone)
          clear hr hone hw hk1 HC HI
          have hb := below_alloc w2 (.cells #[iv (lo + k)] 3)
          have HB4 := Lib.hid (HI2.out.bi.below hb).own
          have HN := Lib.hid (cell_one_new w2 (iv (lo + k)) 3)
          have hHs := HI2.out.hs
          have hlh := HI2.out.lh
          clear hb
          obtain ⟨i0, hi0, hz0, hz1, hz2⟩ := info_parts Try.info_int
          go_wp2_with (at_builtin; refine wpList_append_own_at _ rfl _ _ 22 rfl N 3 i0 (.int .i64 0) 1 8 Try.underlying22 hi0 hz0 hz1 hz2 rfl (by decide) _ ys.length (ys.map iv) rfl HB4.out ⟨w2.heap.size, 0, none⟩ 1 1 [iv (lo + k)] rfl rfl ?c1 ?c2 ?c3 ?c4 ?c5 ?_)
          case c1 => exact HN.out
          case c2 => intro u hu; simp at hu; subst hu; rfl
          case c3 => unfold maxLen; omega
          case c4 => omega
          case c5 => simp; omega
          intro v' w5 hown' hgrow _ hat
          have HI5 := Lib.hid (HI2.out.push hown' hgrow (by simpa using hat))
          clear HB4 HN hown' hgrow hat HI2
          obtain ⟨Au2, cu2, rfl⟩ := HI5.out.bi.form
          go_wp2
          go_roundw
          case rel => exact ⟨ys ++ [lo + k], q + 1, by simp; omega, by simp; omega, Lib.hid (fun x hx => by
            rcases List.mem_append.1 hx with hx | hx
            · exact HR.out x hx
            · simp at hx; omega), HI5⟩
          case measure => simp; omega
        · obtain ⟨Ar, nr, cr, gg, e, rfl, ho, _⟩ := HI.out.bi.owns (by omega) (fun x hx => by have := HR.out x hx; omega)
          injection e with e1 _ e3
          subst e1
          subst e3
          have HO := Lib.hid ho
          have hym2 : ys.length = m := by omega
          have hb := below_alloc wr (.cells #[.slice Au ys.length cu] 22)
          have HB4 := Lib.hid (HI.out.bo.below hb).own
          have HN := Lib.hid (cell_one_new wr (.slice Au ys.length cu) 22)
          have hHs := HI.out.hs
          have hlh := HI.out.lh
          clear hb ho
          have HYM := Lib.hid hym2
          clear hym2
          obtain ⟨i0, hi0, hz0, hz1, hz2⟩ := info_parts Try.info_row
          go_wp2_with (at_builtin; refine wpList_append_own_at _ rfl _ _ 23 rfl w.heap.size 22 i0 (.slice none 0 0) 1 24 Try.underlying23 hi0 hz0 hz1 hz2 rfl (by decide) _ xss.length vs rfl HB4.out ⟨wr.heap.size, 0, none⟩ 1 1 [.slice Au ys.length cu] rfl rfl ?d1 ?d2 ?d3 ?d4 ?d5 ?_)
          case d2 => rfl
          case d3 => unfold maxLen; omega
          case d4 => omega
          case d5 => omega
          intro v' w5 hown' hgrow _ hat
          have HT5 := Lib.hid (HI.out.done HO.out hown' hgrow (by simpa using hat))
          clear HB4 HN hown' hgrow hat HI HO
          obtain ⟨Av2, cv2, rfl⟩ := HT5.out.bo.form
          go_wp2
          go_roundw
          case rel => exact ⟨xss ++ [ys], _, q, by simp; omega, by have := HYM.out; simp; omega, Lib.hid (fun r hr => by
            rcases List.mem_append.1 hr with hr | hr
            · exact HA.out r hr
            · simp at hr; subst hr; exact ⟨HYM.out, HR.out⟩), HT5⟩
          case measure => simp; omega
    · have hnx : xss.length = n := by omega
      have HNX := Lib.hid hnx
      clear hnx
      go_wp2
      go_ret
      exact ⟨Av, cv, vs, xss, p', by rw [← HNX.out]; rfl, HNX.out, HA.out, by rw [← HNX.out]; exact HT.out, by have := HNX.out; omega⟩
end Go.Proofs.Ytffbofkjefjlpaa

/- A table spoiled now and then: what becomes of its memory. -/
namespace Go.Proofs.Ytffbofkjefjlpaa
open Go.RowKit

theorem Bld.head {lo hi w v vs xss} (h : Bld lo hi w v vs xss) (h0 : 0 < xss.length) : ∃ b c R cc, v = .slice (some ⟨b, 0, none⟩) xss.length c ∧ lo ≤ b ∧ vs[0]? = some (.slice R (gr xss 0).length cc) ∧ w.cell? ⟨b, 0, none⟩ = some (.slice R (gr xss 0).length cc) := by
  obtain ⟨h1, h4, G, R, C, h2, h3⟩ := h
  have hv := (h2 0 h0).1
  rcases h1.2 with ⟨_, h5⟩ | ⟨g, cap, cur, rfl, hb, _⟩
  · omega
  · have hc := h1.cells (g := g) rfl 0 _ hv
    exact ⟨g, cap, R 0, C 0, rfl, hb, hv, by simpa [Addr.add] using hc⟩

theorem Bld.set0 {lo hi w v vs xss} (h : Bld lo hi w v vs xss) (h0 : 0 < xss.length) (h1 : 0 < (gr xss 0).length) {x : Int} (hx : -9223372036854775808 ≤ x ∧ x ≤ 9223372036854775807) :
    ∃ b o cc, vs[0]? = some (.slice (some ⟨b, o, none⟩) (gr xss 0).length cc) ∧ lo ≤ b ∧ (∃ y, w.cell? ⟨b, o, none⟩ = some (.int .i64 y)) ∧ w.frozen? ⟨b, o, none⟩ = false ∧
      Bld lo hi (w.setCell ⟨b, o, none⟩ (.int .i64 x)) v vs (xss.set 0 ((gr xss 0).set 0 x)) := by
  obtain ⟨ho, h4, G, R, C, h2, h3⟩ := h
  obtain ⟨q0, q1, q2⟩ := h2 0 h0
  obtain ⟨o, e, l1, l2, hf⟩ := q1.own h1
  have q1' := q1
  rw [e] at q1' q0
  have hset := q1'.set h1 hx
  rw [Nat.add_zero] at hset
  obtain ⟨b', o', e', hc⟩ := q1.ints.at_ h1
  rw [e] at e'
  injection e' with e'
  injection e' with e1 e2 _
  have hc0 := hc 0 h1
  rw [Nat.add_zero, ← e1, ← e2] at hc0
  have hf0 := hf 0 h1
  rw [Nat.add_zero] at hf0
  have hlen : ∀ k, (gr (xss.set 0 ((gr xss 0).set 0 x)) k).length = (gr xss k).length := fun k => by
    by_cases e : k = 0
    · subst e; rw [gr_set_eq h0, List.length_set]
    · rw [gr_set_ne e]
  refine ⟨G 0, o, C 0, q0, l1, ⟨_, hc0⟩, hf0, ⟨?_, h4, G, R, C, fun k hk => ?_, fun j k hjk hk hj0 hk0 => ?_⟩⟩
  · rw [List.length_set]
    exact blk_kept ho fun g hg => Below.heap_setCell _ _ _ _ (fun e => q2 h1 (by rw [hg, e]))
  · rw [List.length_set] at hk
    rw [hlen]
    obtain ⟨a, b, c⟩ := h2 k hk
    refine ⟨a, ?_, c⟩
    by_cases ek : k = 0
    · subst ek
      rw [gr_set_eq h0, e]
      exact hset
    · rw [gr_set_ne ek]
      exact b.of_block fun hp => Below.heap_setCell _ _ _ _ (Ne.symm (h3 0 k (by omega) hk h1 hp))
  · rw [List.length_set] at hk
    rw [hlen] at hj0 hk0
    exact h3 j k hjk hk hj0 hk0

/-- The rows' lengths and numbers are small. -/
structure Small (xss : List (List Int)) : Prop where
  n : xss.length ≤ 8
  rows : ∀ r ∈ xss, r.length ≤ 8 ∧ ∀ x ∈ r, -1000 ≤ x ∧ x ≤ 1000
theorem Small.set0 {xss : List (List Int)} (h : Small xss) (h0 : 0 < xss.length) {x : Int} (hx : -1000 ≤ x ∧ x ≤ 1000) : Small (xss.set 0 ((gr xss 0).set 0 x)) := by
  have hm := h.rows _ (gr_mem h0)
  refine ⟨by rw [List.length_set]; exact h.n, fun r hr => ?_⟩
  rcases List.mem_or_eq_of_mem_set hr with hr | rfl
  · exact h.rows r hr
  · refine ⟨by rw [List.length_set]; exact hm.1, fun y hy => ?_⟩
    rcases List.mem_or_eq_of_mem_set hy with hy | rfl
    · exact hm.2 y hy
    · exact hx
theorem Small.snoc {xss : List (List Int)} (h : Small xss) (hn : xss.length ≤ 7) {x : Int} (hx : -1000 ≤ x ∧ x ≤ 1000) : Small (xss ++ [[x]]) :=
  ⟨by simp; omega, fun r hr => by
    rcases List.mem_append.1 hr with hr | hr
    · exact h.rows r hr
    · simp at hr; subst hr; exact ⟨by simp, fun y hy => by simp at hy; subst hy; exact hx⟩⟩
theorem Small.nil : Small [] := ⟨by simp, fun r hr => by simp at hr⟩

theorem TO.below {w0 wb g A l c p v vs xss w w'} (h : TO w0 wb g A l c p v vs xss w) (k : Below w.heap.size w w') : TO w0 wb g A l c p v vs xss w' :=
  ⟨h.rd.below_ k, (h.bo.below k).mono k.size, h.gl, grown_below h.up k⟩
theorem TO.one {w0 wb g A l c p p' v vs xss w w'} (h : TO w0 wb g A l c p v vs xss w) (hr : Rdr w0 w' g A l c p') (ho : One g w w') : TO w0 wb g A l c p' v vs xss w' := by
  have hgl := h.gl
  refine ⟨hr, ?_, h.gl, ?_⟩
  · rw [ho.size]; exact h.bo.of_blocks fun k h1 _ _ => ho.block k (by omega)
  · exact ⟨ho.os.trans h.up.os, ho.tape.trans h.up.tape, ho.output.trans h.up.output, by rw [ho.size]; exact h.up.size, fun k hk hne => (ho.block k (fun e => hne (by rw [e]))).trans (h.up.block k hk hne)⟩
theorem TO.fresh {w0 wb g A l c p v vs xss w} (h : TO w0 wb g A l c p v vs xss w) : TO w0 wb g A l c p (.slice (some ⟨w.heap.size, 0, none⟩) 0 0) [] [] (w.alloc (.cells #[] 22)) :=
  ⟨h.rd.below_ (below_alloc _ _), by rw [World.size_alloc]; exact Bld.make h.up.size, h.gl, grown_below h.up (below_alloc _ _)⟩
theorem TO.set0 {w0 wb g A l c p v vs xss w} (h : TO w0 wb g A l c p v vs xss w) (h0 : 0 < xss.length) (h1 : 0 < (gr xss 0).length) {x : Int} (hx : -1000 ≤ x ∧ x ≤ 1000) :
    ∃ b o cc, vs[0]? = some (.slice (some ⟨b, o, none⟩) (gr xss 0).length cc) ∧ (∃ y, w.cell? ⟨b, o, none⟩ = some (.int .i64 y)) ∧ w.frozen? ⟨b, o, none⟩ = false ∧
      TO w0 wb g A l c p v vs (xss.set 0 ((gr xss 0).set 0 x)) (w.setCell ⟨b, o, none⟩ (.int .i64 x)) := by
  obtain ⟨b, o, cc, e, hl, hc, hf, hb⟩ := h.bo.set0 h0 h1 (x := x) (by omega)
  have hgl := h.gl
  have hs : (w.setCell ⟨b, o, none⟩ (.int .i64 x)).heap.size = w.heap.size := by simp [World.setCell]
  refine ⟨b, o, cc, e, hc, hf, ⟨⟨blk_other h.rd.box (by show g ≠ b; omega) _, h.rd.bytes, h.rd.below.setCell (by show w0.heap.size ≤ b; have := h.rd.lt; omega) _, h.rd.lt, h.rd.small⟩, by rw [hs]; exact hb, h.gl, ?_⟩⟩
  exact ⟨h.up.os, h.up.tape, h.up.output, by rw [hs]; exact h.up.size, fun k hk hne => (Below.heap_setCell _ _ _ _ (by show k ≠ b; omega)).trans (h.up.block k hk hne)⟩
end Go.Proofs.Ytffbofkjefjlpaa

/- A list of ints that is written out. -/
namespace Go.Proofs.Ytffbofkjefjlpaa
open Go.RowKit

theorem Ints.lit (w : World) (xs : List Int) (hl : xs.length ≤ 1000) (hw : ∀ x ∈ xs, -9223372036854775808 ≤ x ∧ x ≤ 9223372036854775807) :
    Ints (w.alloc (.cells (xs.map iv).toArray 3)) (some ⟨w.heap.size, 0, none⟩) xs.length xs.length xs :=
  ⟨rfl, Nat.le_refl _, by omega, hw, fun _ => ⟨_, _, rfl, fun k hk => by
    simp only [World.cell?, Nat.zero_add, heap_alloc_new]
    rw [← getElem_iv hk]
    simp⟩⟩
theorem Ints.two (w : World) (x y : Int) (hx : -9223372036854775808 ≤ x ∧ x ≤ 9223372036854775807 := by omega) (hy : -9223372036854775808 ≤ y ∧ y ≤ 9223372036854775807 := by omega) : Ints (w.alloc (.cells #[iv x, iv y] 3)) (some ⟨w.heap.size, 0, none⟩) 2 2 [x, y] :=
  ⟨rfl, Nat.le_refl _, by omega, fun z hz => by simp at hz; omega, fun _ => ⟨_, _, rfl, fun k hk => by
    have h : k = 0 ∨ k = 1 := by omega
    rcases h with rfl | rfl <;> simp only [World.cell?, Nat.zero_add, heap_alloc_new] <;> rfl⟩⟩

end Go.Proofs.Ytffbofkjefjlpaa

/- A table spoiled now and then: the walk. -/
namespace Go.Proofs.Ytffbofkjefjlpaa
open Go.RowKit

/-- A row written out, of one number. -/
theorem TO.lit {w0 wb g A l c p v vs xss w} (h : TO w0 wb g A l c p v vs xss w) (x : Int) :
    TI w0 wb g A l c p w.heap.size v vs xss (.slice (some ⟨w.heap.size, 0, none⟩) 1 1) [x] (w.alloc (.cells #[iv x] 3)) :=
  ⟨h.rd.below_ (below_alloc _ _), h.bo.below (below_alloc _ _), by rw [World.size_alloc]; exact ⟨⟨by simp, .inr ⟨w.heap.size, 1, #[iv x], rfl, Nat.le_refl _, heap_alloc_new w _, Nat.le_refl _, by decide, rfl, by simp⟩⟩, fun k hk => by simp [Value.ownBlock] at hk; omega⟩, h.gl, h.up.size, by simp, grown_below h.up (below_alloc _ _)⟩

theorem Ints.drew {w A n c xs} (h : Ints w A n c xs) : Ints w.drew A n c xs := ⟨h.1, h.2, h.3, h.4, h.5⟩

theorem Bld.head_at {lo hi w b c n vs xss} (h : Bld lo hi w (.slice (some ⟨b, 0, none⟩) n c) vs xss) (h0 : 0 < xss.length) : w.cell? ⟨b, 0, none⟩ = vs[0]? := by
  obtain ⟨b', c', R, cc, e, _, h1, h2⟩ := h.head h0
  injection e with e
  injection e with e
  injection e with e _ _
  subst e
  rw [h1, h2]

theorem TO.set0_at {w0 wb g A l c p v vs xss w b o k cc} (h : TO w0 wb g A l c p v vs xss w) (h0 : 0 < xss.length) (h1 : 0 < (gr xss 0).length) (hv : vs[0]? = some (.slice (some ⟨b, o, none⟩) k cc)) {x : Int} (hx : -1000 ≤ x ∧ x ≤ 1000) :
    (∃ y, w.cell? ⟨b, o, none⟩ = some (.int .i64 y)) ∧ w.frozen? ⟨b, o, none⟩ = false ∧ TO w0 wb g A l c p v vs (xss.set 0 ((gr xss 0).set 0 x)) (w.setCell ⟨b, o, none⟩ (.int .i64 x)) := by
  obtain ⟨b', o', cc', e, h2⟩ := h.set0 h0 h1 hx
  rw [hv] at e
  injection e with e
  injection e with e _ _
  injection e with e
  injection e with e1 e2 _
  subst e1
  subst e2
  exact h2

def SpoilOut (w0 wb : World) (g : Nat) (A : Option Addr) (l c p : Nat) (e : Ending) (w' : World) : Prop :=
  ∃ v' vs' xss' p', e = .returned v' ∧ Small xss' ∧ TO w0 wb g A l c p' v' vs' xss' w' ∧ p' ≤ p + 2

set_option maxHeartbeats 1000000 in
theorem spoil_any (w0 wb w : World) (g : Nat) (A : Option Addr) (l c p : Nat) (Av : Option Addr) (cv : Nat) (vs : List Value) (xss : List (List Int)) (h : TO w0 wb g A l c p (.slice Av xss.length cv) vs xss w) (hp : p < 900000000) (hs : Small xss) (h7 : xss.length ≤ 7) :
    Calls Try.prog 85 #[.pointer (some ⟨g, 0, none⟩), .slice Av xss.length cv] w (SpoilOut w0 wb g A l c p) := by
  have HT := Lib.hid h
  have HC := Lib.hid (pick_any w0 w g A l c p 40 h.rd (by omega))
  have HS := Lib.hid hs
  clear h hs
  go_enter Try.func85, Try.ntmps85
  go_wp2_with fail
  refine HC.out.mono ?_
  rintro e w2 ⟨k, rfl, hk1, _, hr, z, hw⟩
  have hone := Rdr.one (g := g) w (.int .i64 (p + 1 : Nat)) z
  rw [← hw] at hone
  obtain ⟨k0, k1⟩ := hk1 (by omega)
  have HT2 := Lib.hid (HT.out.one hr hone)
  clear hr hone hw hk1 HC HT
  by_cases e0 : k = 0
  · subst e0
    by_cases hx0 : 0 < xss.length
    · obtain ⟨b0, c0, R0, cc0, ev, hb0, hv0, hcell0⟩ := HT2.out.bo.head hx0
      injection ev with ev1 _ ev3
      subst ev1
      subst ev3
      by_cases hx1 : 0 < (gr xss 0).length
      · obtain ⟨b, o, cc, ev, _⟩ := HT2.out.set0 hx0 hx1 (x := 10) (by omega)
        rw [hv0] at ev
        injection ev with ev
        injection ev with ev1 _ ev3
        subst ev1
        subst ev3
        have HTA := Lib.hid ((HT2.out.below (below_alloc w2 (.cells #[iv 10, iv (-10)] 3))).below ((Below.refl _ _).drew))
        have HCA := Lib.hid ((HTA.out.bo.head_at hx0).trans hv0)
        have HIA := Lib.hid (Ints.two w2 10 (-10)).drew
        have hgl := HT2.out.gl
        have hgw := HT2.out.up.size
        go_wp2_with fail
        go_region_held3 (fun W => W.cell? ⟨b0, 0, none⟩ = some (.slice (some ⟨b, o, none⟩) (gr xss 0).length cc0)) (first | exact hcell0 | exact HCA.out | exact HCB.out | exact HCC.out)
          (first
          | (go_at_call 83; refine (one_any w0 _ g A l c (p + 1) _ 2 2 [10, -10] ?_ (by omega) ?_ (by omega) ?_).mono ?_; exact HTA.out.rd; exact HIA.out; (intro b' o' e'; injection e' with e'; injection e' with e1 _ _; omega); rintro e w4 ⟨x, rfl, hx, hr, ho⟩; have HT4 := Lib.hid (HTA.out.one hr ho); have HCB := Lib.hid ((HT4.out.bo.head_at hx0).trans hv0); have hx3 : -1000 ≤ x ∧ x ≤ 1000 := (by simp at hx; omega); obtain ⟨⟨y, hc5⟩, hf5, hT5⟩ := HT4.out.set0_at hx0 hx1 hv0 hx3; have HT5 := Lib.hid hT5; have HCC := Lib.hid ((HT5.out.bo.head_at (by rw [List.length_set]; exact hx0)).trans hv0); clear hr ho hT5 hx HTA HIA))
        go_wp2
        go_ret
        exact ⟨_, _, _, _, rfl, HS.out.set0 hx0 hx3, HT5.out, by omega⟩
      · go_wp2
        go_ret
        exact ⟨_, _, _, _, rfl, HS.out, HT2.out, by omega⟩
    · go_wp2
      go_ret
      exact ⟨_, _, _, _, rfl, HS.out, HT2.out, by omega⟩
  · by_cases e1 : k = 1
    · subst e1
      have HI := Lib.hid (HT2.out.lit 1)
      clear HT2
      have hWs : (w2.alloc (.cells #[iv 1] 3)).heap.size = w2.heap.size + 1 := by simp
      obtain ⟨Ar, nr, cr, gg, e, hn, ho, _⟩ := HI.out.bi.owns (by simp) (fun x hx => by simp at hx; omega)
      injection e with e1 e2 e3
      subst e1
      subst e2
      subst e3
      have HO := Lib.hid ho
      have hb := below_alloc (w2.alloc (.cells #[iv 1] 3)) (.cells #[.slice (some ⟨w2.heap.size, 0, none⟩) 1 1] 22)
      have HB4 := Lib.hid (HI.out.bo.below hb).own
      have HN := Lib.hid (cell_one_new (w2.alloc (.cells #[iv 1] 3)) (.slice (some ⟨w2.heap.size, 0, none⟩) 1 1) 22)
      have hHs := HI.out.hs
      have hlh := HI.out.lh
      clear hb ho hn
      obtain ⟨i0, hi0, hz0, hz1, hz2⟩ := info_parts Try.info_row
      go_wp2_with (at_builtin; refine wpList_append_own_at _ rfl _ _ 23 rfl wb.heap.size 22 i0 (.slice none 0 0) 1 24 Try.underlying23 hi0 hz0 hz1 hz2 rfl (by decide) _ xss.length vs rfl HB4.out ⟨w2.heap.size + 1, 0, none⟩ 1 1 [.slice (some ⟨w2.heap.size, 0, none⟩) 1 1] rfl rfl ?d1 ?d2 ?d3 ?d4 ?d5 ?_)
      case d1 => have := HN.out; rw [hWs] at this; exact this
      case d2 => intro u hu; simp at hu; subst hu; rfl
      case d3 => unfold maxLen; omega
      case d4 => omega
      case d5 => simp; omega
      intro v' w5 hown' hgrow _ hat
      have HT5 := Lib.hid (TI.done (w := w2.alloc (.cells #[iv 1] 3)) (ys := [1]) (xss := xss) (v := .slice Av xss.length cv) (v' := v') (vs := vs) (Ar := some ⟨w2.heap.size, 0, none⟩) (cr := 1) HI.out HO.out hown' hgrow (by simpa using hat))
      clear HB4 HN hown' hgrow hat HI HO
      go_wp2
      go_ret
      exact ⟨_, _, _, _, rfl, HS.out.snoc h7 (by omega), HT5.out, by omega⟩
    · by_cases e2 : k = 2
      · subst e2
        have HF := Lib.hid HT2.out.fresh
        go_wp2
        go_ret
        exact ⟨_, _, _, _, rfl, Small.nil, HF.out, by omega⟩
      · go_wp2
        go_ret
        exact ⟨_, _, _, _, rfl, HS.out, HT2.out, by omega⟩
end Go.Proofs.Ytffbofkjefjlpaa

/- Some table. -/
namespace Go.Proofs.Ytffbofkjefjlpaa
open Go.RowKit

theorem grown_trans {g : Nat} {a b w : World} (h : a.grownBy b (some g)) (k : b.grownBy w (some g)) : a.grownBy w (some g) :=
  ⟨k.os.trans h.os, k.tape.trans h.tape, k.output.trans h.output, Nat.le_trans h.size k.size, fun i hi hne => (k.block i (Nat.lt_of_lt_of_le hi h.size) hne).trans (h.block i hi hne)⟩
theorem grown_of_below {g : Nat} {w w' : World} (k : Below w.heap.size w w') : w.grownBy w' (some g) := ⟨k.os, k.tape, k.output, k.size, fun i hi _ => k.block i hi⟩

/-- A number of a list that is written out. -/
def OneLit (w0 : World) (g : Nat) (A : Option Addr) (l c p : Nat) (xs : List Int) (w : World) (e : Ending) (w' : World) : Prop :=
  ∃ x, e = .returned (.int .i64 x) ∧ x ∈ xs ∧ Rdr w0 w' g A l c (p + 1) ∧ w.grownBy w' (some g)
theorem one_lit (w0 w W : World) (g : Nat) (A : Option Addr) (l c p b n : Nat) (xs : List Int) (h : Rdr w0 w g A l c p) (hp : p < 1000000000) (k : Below w.heap.size w W)
    (hb : w.heap.size ≤ b) (hi : Ints W (some ⟨b, 0, none⟩) n n xs) (h0 : 0 < n) :
    Calls Try.prog 83 #[.pointer (some ⟨g, 0, none⟩), .slice (some ⟨b, 0, none⟩) n n] W (OneLit w0 g A l c p xs w) := by
  have hg := blk_lt h.box
  refine (one_any w0 W g A l c p _ n n xs (h.below_ k) hp hi h0 (fun b' o' e' => by injection e' with e'; injection e' with e' _ _; omega)).mono ?_
  rintro e w4 ⟨x, rfl, hx, hr, ho⟩
  exact ⟨x, rfl, hx, hr, grown_trans (grown_of_below k) ho.grown⟩

/-- A table that the reader drew: its memory is from w on. -/
def SomeT (w0 : World) (g : Nat) (A : Option Addr) (l c p : Nat) (w : World) (e : Ending) (w' : World) : Prop :=
  ∃ wb v' vs' xss' p', e = .returned v' ∧ Small xss' ∧ TO w0 wb g A l c p' v' vs' xss' w' ∧ p' ≤ p + 30 ∧ w.grownBy wb (some g)

end Go.Proofs.Ytffbofkjefjlpaa

/- A row under way: its numbers may be set; shares drawn. -/
namespace Go.Proofs.Ytffbofkjefjlpaa
open Go.RowKit

theorem BldI.set {lo hi w v xs} (h : BldI lo hi w v xs) {j : Nat} (hj : j < xs.length) (x : Int) :
    ∃ b c, v = .slice (some ⟨b, 0, none⟩) xs.length c ∧ lo ≤ b ∧ b < hi ∧ w.cell? ⟨b, j, none⟩ = some (.int .i64 (gi xs j)) ∧ w.frozen? ⟨b, j, none⟩ = false ∧
      BldI lo hi (w.setCell ⟨b, j, none⟩ (.int .i64 x)) v (xs.set j x) := by
  have hh := h.hi_
  rcases h.own.2 with ⟨_, h0⟩ | ⟨g, cap, cur, rfl, hb, hg, hnc, hcm, hcs, htake⟩
  · omega
  · rw [Nat.mul_one] at htake hcs
    have hB : Blk w g 3 cur := hg
    have hc : cur[j]? = some (.int .i64 (gi xs j)) := by
      rw [← getElem_iv hj, ← htake, List.getElem?_take, if_pos hj]; simp
    refine ⟨g, cap, rfl, hb, hh g rfl, blk_cell hB hc, blk_frozen hB j, ⟨⟨by simp, .inr ⟨g, cap, cur.setIfInBounds j (.int .i64 x), by rw [List.length_set], hb, blk_set hB j _, by rw [List.length_set]; exact hnc, hcm, by simp [hcs], ?_⟩⟩, hh⟩⟩
    rw [List.length_set, Nat.mul_one, Array.toList_setIfInBounds, List.take_set, htake, List.map_set]
    rfl

/-- A row by itself, begun behind the world wb. -/
def SH (w0 wb : World) (g : Nat) (A : Option Addr) (l c p : Nat) (u : Value) (ys : List Int) (w : World) : Prop := TI w0 wb g A l c p wb.heap.size (.slice none 0 0) [] [] u ys w
theorem SH.start {w0 wb g A l c p} (h : Rdr w0 wb g A l c p) : SH w0 wb g A l c p (.slice (some ⟨wb.heap.size, 0, none⟩) 0 0) [] (wb.alloc (.cells #[] 3)) :=
  ⟨h.below_ (below_alloc _ _), Bld.nil _ _ _, by rw [World.size_alloc]; exact BldI.make (Nat.le_refl _), blk_lt h.box, Nat.le_refl _, by simp, grown_of_below (below_alloc _ _)⟩
theorem SH.below {w0 wb g A l c p u ys w w'} (h : SH w0 wb g A l c p u ys w) (k : Below w.heap.size w w') : SH w0 wb g A l c p u ys w' :=
  ⟨h.rd.below_ k, Bld.nil _ _ _, (h.bi.below k).mono k.size, h.gl, h.lh, Nat.le_trans h.hs k.size, grown_below h.up k⟩
theorem SH.one {w0 wb g A l c p p' u ys w w'} (h : SH w0 wb g A l c p u ys w) (hr : Rdr w0 w' g A l c p') (ho : One g w w') : SH w0 wb g A l c p' u ys w' := TI.one h hr ho
theorem SH.set {w0 wb g A l c p u ys w} (h : SH w0 wb g A l c p u ys w) {j : Nat} (hj : j < ys.length) (x : Int) :
    ∃ b cc, u = .slice (some ⟨b, 0, none⟩) ys.length cc ∧ w.cell? ⟨b, j, none⟩ = some (.int .i64 (gi ys j)) ∧ w.frozen? ⟨b, j, none⟩ = false ∧ SH w0 wb g A l c p u (ys.set j x) (w.setCell ⟨b, j, none⟩ (.int .i64 x)) := by
  obtain ⟨b, cc, e, h1, h2, h3, h4, h5⟩ := h.bi.set hj x
  have hgl := h.gl
  have hs : (w.setCell ⟨b, j, none⟩ (.int .i64 x)).heap.size = w.heap.size := by simp [World.setCell]
  refine ⟨b, cc, e, h3, h4, ⟨⟨blk_other h.rd.box (by show g ≠ b; omega) _, h.rd.bytes, h.rd.below.setCell (by show w0.heap.size ≤ b; have := h.rd.lt; omega) _, h.rd.lt, h.rd.small⟩, Bld.nil _ _ _, by rw [hs]; exact h5, h.gl, h.lh, by rw [hs]; exact h.hs, ?_⟩⟩
  exact ⟨h.up.os, h.up.tape, h.up.output, by rw [hs]; exact h.up.size, fun k hk hne => (Below.heap_setCell _ _ _ _ (by show k ≠ b; omega)).trans (h.up.block k hk hne)⟩
def SharesOut (w0 wb : World) (g : Nat) (A : Option Addr) (l c p n : Nat) (e : Ending) (w' : World) : Prop :=
  ∃ Av cv ys p', e = .returned (.slice Av ys.length cv) ∧ ys.length ≤ n + 1 ∧ (∀ x ∈ ys, -1 ≤ x ∧ x ≤ 1001) ∧ SH w0 wb g A l c p' (.slice Av ys.length cv) ys w' ∧ p' ≤ p + 3 * n + 3

end Go.Proofs.Ytffbofkjefjlpaa

/- A region that ends in one frame but for some slots, whatever the order: walked on once. -/
namespace Go.Proofs.Ytffbofkjefjlpaa
open Go.RowKit

/-- A frame with other values in some slots. -/
def frmL (a : Act) : List Nat → List Value → Act
  | d :: ds, u :: us => frmL (a.put (some d) u) ds us
  | _, _ => a
/-- At the end of a region: the frame but for some slots, and F of these and of the world. -/
def PutQ (a : Act) (ds : List Nat) (F : List Value → World → Prop) : Exit → Act → World → Prop
  | .normal, b, v => ∃ us, b = frmL a ds us ∧ F us v
  | _, _, _ => False
theorem PutQ.mk {a b : Act} {ds : List Nat} {F : List Value → World → Prop} {v : World} (us : List Value) (h : b = frmL a ds us) (f : F us v) : PutQ a ds F .normal b v := ⟨us, h, f⟩
theorem region_put {P : Program} {c : Code} {Q : Exit → Act → World → Prop} {a : Act} {w : World} (ds : List Nat) (F : List Value → World → Prop) (h : c.wp P (PutQ a ds F) a w) (k : ∀ us v, F us v → Q .normal (frmL a ds us) v) : c.wp P Q a w :=
  Code.wp_mono (fun e b v h => by
    cases e <;> first | exact (h : False).elim | (obtain ⟨us, rfl, hf⟩ := (h : ∃ us, b = frmL a ds us ∧ F us v); exact k us v hf)) h
end Go.Proofs.Ytffbofkjefjlpaa

/- A region that draws its order, by an invariant: each operation is run once, whatever has come up before it. -/
namespace Go.Proofs.Ytffbofkjefjlpaa
open Go.RowKit

/-- Operation j has come up. -/
def On (L : Array Bool) (j : Nat) : Prop := L.getD j false = true
theorem On.of_set {L : Array Bool} {i j : Nat} (h : On (L.setIfInBounds i true) j) (hne : i ≠ j) : On L j := by
  unfold On at *; rwa [getD_set_ne false hne] at h
theorem On.old {L : Array Bool} {i j : Nat} (h : On L j) : On (L.setIfInBounds i true) j := by
  unfold On at *; exact getD_set_true h
theorem On.not_start {n j : Nat} (h : On (Array.replicate n false) j) : False := by
  unfold On at h
  rcases Nat.lt_or_ge j n with h' | h'
  · simp [h'] at h
  · simp [h'] at h
/-- What an operation waits for. -/
def waitsOn (ops : Array Oper) (i : Nat) : List Nat :=
  match ops[i]? with
  | some o => (o.after.toList.filter (Region.binds .any)).map (·.on)
  | none => []
def earlierB (ops : Array Oper) : Bool := (List.range ops.size).all fun i => (waitsOn ops i).all fun j => decide (j < i)
theorem mem_waits {ops : Array Oper} {i : Nat} {o : Oper} (ho : ops[i]? = some o) {e : Edge} (he : e ∈ o.after) (hb : Region.binds .any e = true) : e.on ∈ waitsOn ops i := by
  unfold waitsOn; rw [ho]; exact List.mem_map.2 ⟨e, List.mem_filter.2 ⟨by simpa using he, hb⟩, rfl⟩
theorem waits_mem {ops : Array Oper} {i j : Nat} {o : Oper} (ho : ops[i]? = some o) (h : j ∈ waitsOn ops i) : ∃ e ∈ o.after, Region.binds .any e = true ∧ e.on = j := by
  unfold waitsOn at h; rw [ho] at h
  obtain ⟨e, he, hj⟩ := List.mem_map.1 h
  obtain ⟨h1, h2⟩ := List.mem_filter.1 he
  exact ⟨e, by simpa using h1, h2, hj⟩

section
variable {P : Program} {ops : Array Oper} {Q : Exit → Act → World → Prop} {I : Array Bool → Act → World → Prop}
/-- The operation i, run in whatever state the invariant allows. -/
def StepI (P : Program) (ops : Array Oper) (Q : Exit → Act → World → Prop) (I : Array Bool → Act → World → Prop) (i : Nat) : Prop :=
  ∀ L a w, I L a w → ¬ On L i → On (L.setIfInBounds i true) i → (∀ j ∈ waitsOn ops i, On L j) → wpOp P ops Q i (fun a' w' => I (L.setIfInBounds i true) a' w') a w
def StepsI (P : Program) (ops : Array Oper) (Q : Exit → Act → World → Prop) (I : Array Bool → Act → World → Prop) (rs : List Nat) : Prop := ∀ i ∈ rs, StepI P ops Q I i
theorem StepsI.nil : StepsI P ops Q I [] := fun _ h => by cases h
theorem StepsI.cons {i : Nat} {o : Oper} {ws rs : List Nat} (ho : ops[i]? = some o) (hw : waitsOn ops i = ws)
    (h : ∀ L a w, I L a w → ¬ On L i → On (L.setIfInBounds i true) i → (∀ j ∈ ws, On L j) → ∀ K' : Act → World → Prop, Shut (∀ a w, I (L.setIfInBounds i true) a w → K' a w) → if Region.wanted o (yielded ops a.tmps) = true then Oper.wp P o a w K' Q else K' (a.put o.dst undef) w)
    (hs : StepsI P ops Q I rs) : StepsI P ops Q I (i :: rs) := fun j hj => by
  rcases List.mem_cons.1 hj with rfl | hj
  · intro L a w hI hn hi hL
    rw [hw] at hL
    exact wpOp_step ho (fun K' hK => h L a w hI hn hi hL K' hK)
  · exact hs j hj

theorem wpAny_inv (hs : ∀ i, i < ops.size → StepI P ops Q I i) (he : earlierB ops = true) (hend : ∀ L a w, (∀ i, i < ops.size → On L i) → I L a w → Q .normal a w) :
    ∀ (fuel : Nat) (L : Array Bool) (a : Act) (w : World), L.size = ops.size → L.toList.countP (fun b => !b) ≤ fuel → I L a w → wpAny P .any ops Q fuel L a w := by
  have hall : ∀ L : Array Bool, L.size = ops.size → Region.ready .any ops L = [] → ∀ i, i < ops.size → On L i := by
    intro L hL hr i
    induction i using Nat.strongRecOn with
    | _ i ih =>
      intro hi
      apply Classical.byContradiction
      intro hn
      have ho : ops[i]? = some ops[i] := Array.getElem?_eq_getElem hi
      have hmem : i ∈ Region.ready .any ops L := by
        rw [mem_ready]
        refine ⟨?_, ops[i], ho, fun e hee hb => ?_⟩
        · have hiL : i < L.size := by omega
          unfold On at hn
          simp only [Array.getD_eq_getD_getElem?, Array.getElem?_eq_getElem hiL, Option.getD_some] at hn ⊢
          cases hx : L[i] with
          | true => exact absurd hx hn
          | false => rfl
        · have hm := mem_waits ho hee hb
          have hlt : e.on < i := by
            unfold earlierB at he
            have h1 := List.all_eq_true.1 he i (List.mem_range.2 hi)
            have h2 := List.all_eq_true.1 h1 _ hm
            simpa using h2
          exact ih e.on hlt (by omega)
      rw [hr] at hmem
      cases hmem
  intro fuel
  induction fuel with
  | zero =>
    intro L a w hL hc hI
    have hon : ∀ i, i < ops.size → On L i := fun i hi => by
      have hiL : i < L.size := by omega
      have h0 : L.toList.countP (fun b => !b) = 0 := by omega
      rw [List.countP_eq_zero] at h0
      have := h0 L[i] (by simp)
      unfold On
      simp only [Array.getD_eq_getD_getElem?, Array.getElem?_eq_getElem hiL, Option.getD_some]
      simpa using this
    refine ⟨?_, hend L a w hon hI⟩
    cases hr : Region.ready .any ops L with
    | nil => rfl
    | cons i rs =>
      have hi : i ∈ Region.ready .any ops L := by rw [hr]; simp
      obtain ⟨h0, o, ho, _⟩ := mem_ready.1 hi
      have hlt : i < ops.size := (Array.getElem?_eq_some_iff.1 ho).1
      have h1 := hon i hlt
      have hiL : i < L.size := by omega
      unfold On at h1
      simp only [Array.getD_eq_getD_getElem?, Array.getElem?_eq_getElem hiL, Option.getD_some] at h0 h1
      rw [h0] at h1; cases h1
  | succ fuel ih =>
    intro L a w hL hc hI
    refine ⟨fun hr => hend L a w (hall L hL hr) hI, fun i hi => ?_⟩
    obtain ⟨h0, o, ho, hw⟩ := mem_ready.1 hi
    have hlt : i < ops.size := (Array.getElem?_eq_some_iff.1 ho).1
    have hiL : i < L.size := by omega
    refine wpOp_mono (fun a' w' h => ih _ a' w' (by simpa using hL) ?_ h) (hs i hlt L a w hI ?_ ?_ (fun j hj => ?_))
    · have hb : L[i] = false := by simpa [Array.getD_eq_getD_getElem?, Array.getElem?_eq_getElem hiL] using h0
      rw [Array.toList_setIfInBounds, List.countP_set (by simpa using hiL)]
      have h1 : 0 < L.toList.countP (fun b => !b) := List.countP_pos_iff.2 ⟨L[i], by simp, by simp [hb]⟩
      have h2 : (if (!L.toList[i]'(by simpa using hiL)) = true then 1 else 0) = 1 := by simp [hb]
      have h3 : (if (!true) = true then 1 else 0) = 0 := by simp
      rw [h2, h3]
      omega
    · unfold On
      simp only [Array.getD_eq_getD_getElem?, Array.getElem?_eq_getElem hiL, Option.getD_some] at h0 ⊢
      rw [h0]; decide
    · unfold On
      simp [hiL]
    · obtain ⟨e, he1, he2, rfl⟩ := waits_mem ho hj
      exact hw e he1 he2

theorem wp_region_inv {id : Nat} {a : Act} {w : World} {rs : List Nat} (I : Array Bool → Act → World → Prop) (hm : P.follows .mixedOrders = true) (h0 : I (Array.replicate ops.size false) a w.drew)
    (hr : List.range ops.size = rs) (he : earlierB ops = true) (hs : StepsI P ops Q I rs) (hend : ∀ L a w, (∀ i, i ∈ rs → On L i) → I L a w → Q .normal a w) : (Code.region id ops true).wp P Q a w :=
  wp_region_any hm (wpAny_inv (I := I) (fun i hi => hs i (by rw [← hr]; exact List.mem_range.2 hi)) he (fun L a w h => hend L a w (fun i hi => h i (by rw [← hr] at hi; exact List.mem_range.1 hi))) ops.size _ a _ (by simp)
    (by rw [Array.toList_replicate]; exact Nat.le_trans List.countP_le_length (by simp)) h0)
end
/-- A frame with other values in some slots, and what is known of these and of the world. -/
def FI (a0 : Act) (ds : List Nat) (J : Array Bool → List Value → World → Prop) (L : Array Bool) (a : Act) (w : World) : Prop := ∃ us, a = frmL a0 ds us ∧ J L us w
theorem wp_region_invF {P : Program} {ops : Array Oper} {Q : Exit → Act → World → Prop} {id : Nat} {a : Act} {w : World} {rs : List Nat} (ds : List Nat) (J : Array Bool → List Value → World → Prop) (hm : P.follows .mixedOrders = true)
    (h0 : ∃ us, a = frmL a ds us ∧ J (Array.replicate ops.size false) us w.drew)
    (hr : List.range ops.size = rs) (he : earlierB ops = true) (hs : StepsI P ops Q (FI a ds J) rs) (hend : ∀ L us w, (∀ i, i ∈ rs → On L i) → J L us w → Q .normal (frmL a ds us) w) : (Code.region id ops true).wp P Q a w :=
  wp_region_inv (FI a ds J) hm h0 hr he hs (fun L a' w h ⟨us, e, hJ⟩ => by subst e; exact hend L us w h hJ)
end Go.Proofs.Ytffbofkjefjlpaa

/- A machine that is drawn: under way in a box of its own. -/
namespace Go.Proofs.Ytffbofkjefjlpaa
open Go.RowKit

def gvs (G : Nat → Nat) (n : Nat) : List Value := (List.range n).map fun k => .slice (some ⟨G k, 0, none⟩) 2 2
theorem gvs_len (G : Nat → Nat) (n : Nat) : (gvs G n).length = n := by simp [gvs]
theorem gvs_get (G : Nat → Nat) {n k : Nat} (h : k < n) : (gvs G n)[k]? = some (.slice (some ⟨G k, 0, none⟩) 2 2) := by
  unfold gvs; rw [List.getElem?_map, List.getElem?_range h]; rfl
theorem gvs_snoc (G : Nat → Nat) (n b : Nat) : gvs G n ++ [.slice (some ⟨b, 0, none⟩) 2 2] = gvs (fun k => if k < n then G k else b) (n + 1) := by
  unfold gvs
  rw [List.range_succ, List.map_append]
  congr 1
  · apply List.map_congr_left
    intro k hk
    show _ = Value.slice (some ⟨if k < n then G k else b, 0, none⟩) 2 2
    rw [if_pos (List.mem_range.1 hk)]
  · simp
theorem ints_two {W : World} {b : Nat} {x y : Int} (h : Blk W b 3 #[iv x, iv y]) (hx : -100 ≤ x ∧ x ≤ 100 := by decide) (hy : -100 ≤ y ∧ y ≤ 100 := by decide) : Ints W (some ⟨b, 0, none⟩) 2 2 [x, y] :=
  ⟨rfl, Nat.le_refl _, by omega, fun z hz => by simp only [List.mem_cons, List.not_mem_nil, or_false] at hz; omega, fun _ => ⟨b, 0, rfl, fun k hk => by
    rw [Nat.zero_add]
    match k, hk with
    | 0, _ => exact blk_cell h rfl
    | 1, _ => exact blk_cell h rfl⟩⟩
/-- The machine under way: its box q holds ub and vb; its acts u, its rows v. -/
structure SMp (w0 w : World) (g : Nat) (A : Option Addr) (l c p q : Nat) (ub vb u v : Value) (xs : List Int) (G : Nat → Nat) (ys : List (List Int)) (W : World) : Prop where
  rd : Rdr w0 W g A l c p
  gl : g < w.heap.size
  hq : w.heap.size ≤ q
  box : Blk W q 28 #[ub, vb]
  bi : W.ownsRow (q + 1) 3 1 u xs.length (xs.map iv)
  bo : W.ownsRow (q + 1) 22 1 v ys.length (gvs G ys.length)
  rows : ∀ k, k < ys.length → q < G k ∧ Blk W (G k) 3 #[iv (gi (gr ys k) 0), iv (gi (gr ys k) 1)] ∧ (gr ys k).length = 2
  d1 : ∀ b, u.ownBlock = some b → v.ownBlock ≠ some b
  d2 : ∀ k b, k < ys.length → u.ownBlock = some b → G k ≠ b
  d3 : ∀ k b, k < ys.length → v.ownBlock = some b → G k ≠ b
  d4 : ∀ j k, j < k → k < ys.length → G j ≠ G k
  sx : ∀ x ∈ xs, -1 ≤ x ∧ x ≤ 4
  sy : ∀ r ∈ ys, ∀ x ∈ r, -1 ≤ x ∧ x ≤ 4
  up : w.grownBy W (some g)
section
variable {w0 w : World} {g l c p q : Nat} {A : Option Addr} {ub vb u v : Value} {xs : List Int} {G : Nat → Nat} {ys : List (List Int)} {W W' : World}
theorem SMp.mv {p' : Nat} (h : SMp w0 w g A l c p q ub vb u v xs G ys W) (hr : Rdr w0 W' g A l c p') (hg : W.grownBy W' (some g)) : SMp w0 w g A l c p' q ub vb u v xs G ys W' := by
  have hgl := h.gl
  have hhq := h.hq
  have keep : ∀ b, w.heap.size ≤ b → b < W.heap.size → W'.heap[b]? = W.heap[b]? := fun b h1 h2 => hg.block b h2 (fun e => by injection e; omega)
  refine ⟨hr, h.gl, h.hq, (keep q hhq (blk_lt h.box)).trans h.box, blk_kept h.bi fun b hb => ?_, blk_kept h.bo fun b hb => ?_, fun k hk => ?_, h.d1, h.d2, h.d3, h.d4, h.sx, h.sy, grown_trans h.up hg⟩
  · obtain ⟨h1, h2⟩ := h.bi.lt b hb; exact keep b (by omega) h2
  · obtain ⟨h1, h2⟩ := h.bo.lt b hb; exact keep b (by omega) h2
  · obtain ⟨h1, h2, h3⟩ := h.rows k hk
    exact ⟨h1, (keep _ (by omega) (blk_lt h2)).trans h2, h3⟩
theorem SMp.next (h : SMp w0 w g A l c p q ub vb u v xs G ys W) (k : Below W.heap.size W W') : SMp w0 w g A l c p q ub vb u v xs G ys W' := h.mv (h.rd.below_ k) (grown_of_below k)
theorem SMp.one {p' : Nat} (h : SMp w0 w g A l c p q ub vb u v xs G ys W) (hr : Rdr w0 W' g A l c p') (ho : One g W W') : SMp w0 w g A l c p' q ub vb u v xs G ys W' := h.mv hr ho.grown
/-- Whatever turns blocks above q alone. -/
theorem SMp.rdr (h : SMp w0 w g A l c p q ub vb u v xs G ys W) {row : Option Nat} (hg : W.grownBy W' row) (hr : ∀ b, row = some b → q ≤ b) : Rdr w0 W' g A l c p := by
  have hgl := h.gl
  have hhq := h.hq
  have hlt := h.rd.lt
  have keep : ∀ b, b < q → b < W.heap.size → W'.heap[b]? = W.heap[b]? := fun b h1 h2 => hg.block b h2 (fun e => by have := hr b e.symm; omega)
  have hqw := blk_lt h.box
  exact ⟨(keep g (by omega) (by omega)).trans h.rd.box, h.rd.bytes, ⟨hg.os.trans h.rd.below.os, hg.tape.trans h.rd.below.tape, hg.output.trans h.rd.below.output, by have := h.rd.below.size; have := hg.size; omega,
    fun k hk => (keep k (by omega) (by omega)).trans (h.rd.below.block k hk)⟩, h.rd.lt, h.rd.small⟩
theorem SMp.pushU (h : SMp w0 w g A l c p q ub vb u v xs G ys W) {gg cap : Nat} {x : Int} (hx : -1 ≤ x ∧ x ≤ 4)
    (hown : W'.ownsRow (q + 1) 3 1 (.slice (some ⟨gg, 0, none⟩) (xs.length + 1) cap) (xs.length + 1) (xs.map iv ++ [iv x])) (hg : W.grownBy W' u.ownBlock) (hat : u.ownBlock = some gg ∨ gg = W.heap.size) :
    SMp w0 w g A l c p q ub vb (.slice (some ⟨gg, 0, none⟩) (xs.length + 1) cap) v (xs ++ [x]) G ys W' := by
  have hu : ∀ b, u.ownBlock = some b → q + 1 ≤ b := fun b hb => (h.bi.lt b hb).1
  have keep : ∀ b, u.ownBlock ≠ some b → b < W.heap.size → W'.heap[b]? = W.heap[b]? := fun b h1 h2 => hg.block b h2 (fun e => h1 e.symm)
  refine ⟨h.rdr hg (fun b hb => by have := hu b hb; omega), h.gl, h.hq, (keep q (fun e => by have := hu q e; omega) (blk_lt h.box)).trans h.box, ?_, blk_kept h.bo fun b hb => keep b (fun e => h.d1 b e hb) (h.bo.lt b hb).2, fun k hk => ?_, fun b hb => ?_, fun k b hk hb => ?_, h.d3, h.d4, ?_, h.sy, grown_app h.up hg (fun b hb => by have := hu b hb; have := h.hq; omega)⟩
  · rw [List.length_append, List.map_append]; exact hown
  · obtain ⟨h1, h2, h3⟩ := h.rows k hk
    exact ⟨h1, (keep _ (fun e => h.d2 k _ hk e rfl) (blk_lt h2)).trans h2, h3⟩
  · simp only [Value.ownBlock, Option.some.injEq] at hb
    subst hb
    rcases hat with hat | hat
    · exact h.d1 _ hat
    · intro e; have := (h.bo.lt _ e).2; omega
  · simp only [Value.ownBlock, Option.some.injEq] at hb
    subst hb
    rcases hat with hat | hat
    · exact h.d2 k _ hk hat
    · have := blk_lt (h.rows k hk).2.1; omega
  · intro y hy
    rcases List.mem_append.1 hy with hy | hy
    · exact h.sx y hy
    · rw [List.mem_singleton.1 hy]; exact hx
/-- A block that is newer than all of the machine. -/
structure Newer (b : Nat) (q : Nat) (u v : Value) (G : Nat → Nat) (n : Nat) : Prop where
  q_ : q < b
  u_ : ∀ x, u.ownBlock = some x → x < b
  v_ : ∀ x, v.ownBlock = some x → x < b
  g_ : ∀ k, k < n → G k < b
theorem SMp.newer (h : SMp w0 w g A l c p q ub vb u v xs G ys W) : Newer W.heap.size q u v G ys.length :=
  ⟨blk_lt h.box, fun x hx => (h.bi.lt x hx).2, fun x hx => (h.bo.lt x hx).2, fun k hk => blk_lt (h.rows k hk).2.1⟩
theorem SMp.pushV (h : SMp w0 w g A l c p q ub vb u v xs G ys W) {gg cap b : Nat} {x y : Int} (hx : -1 ≤ x ∧ x ≤ 4) (hy : -1 ≤ y ∧ y ≤ 4) (hb : Blk W b 3 #[iv x, iv y]) (hn : Newer b q u v G ys.length)
    (hown : W'.ownsRow (q + 1) 22 1 (.slice (some ⟨gg, 0, none⟩) (ys.length + 1) cap) (ys.length + 1) (gvs G ys.length ++ [.slice (some ⟨b, 0, none⟩) 2 2])) (hg : W.grownBy W' v.ownBlock) (hat : v.ownBlock = some gg ∨ gg = W.heap.size) :
    SMp w0 w g A l c p q ub vb u (.slice (some ⟨gg, 0, none⟩) (ys.length + 1) cap) xs (fun k => if k < ys.length then G k else b) (ys ++ [[x, y]]) W' := by
  have hv : ∀ b, v.ownBlock = some b → q + 1 ≤ b := fun b hb => (h.bo.lt b hb).1
  have keep : ∀ b, v.ownBlock ≠ some b → b < W.heap.size → W'.heap[b]? = W.heap[b]? := fun b h1 h2 => hg.block b h2 (fun e => h1 e.symm)
  have hbl := blk_lt hb
  have hnv : v.ownBlock ≠ some b := fun e => by have := hn.v_ b e; omega
  have hgg : ∀ x, (∀ z, v.ownBlock = some z → x ≠ z) → x < W.heap.size → x ≠ gg := fun x h1 h2 e => by
    rcases hat with hat | hat
    · exact h1 gg hat e
    · omega
  refine ⟨h.rdr hg (fun b hb => by have := hv b hb; omega), h.gl, h.hq, (keep q (fun e => by have := hv q e; omega) (blk_lt h.box)).trans h.box, blk_kept h.bi fun b hb => keep b (fun e => h.d1 b hb e) (h.bi.lt b hb).2, ?_, fun k hk => ?_, fun b1 hb1 => ?_, fun k b1 hk hb1 => ?_, fun k b1 hk hb1 => ?_, fun j k hjk hk => ?_, h.sx, ?_, grown_app h.up hg (fun b hb => by have := hv b hb; have := h.hq; omega)⟩
  · rw [List.length_append, List.length_singleton, ← gvs_snoc]; exact hown
  · rw [List.length_append, List.length_singleton] at hk
    by_cases e : k < ys.length
    · rw [if_pos e, gr_snoc_lt e]
      obtain ⟨h1, h2, h3⟩ := h.rows k e
      exact ⟨h1, (keep _ (fun e2 => h.d3 k _ e e2 rfl) (blk_lt h2)).trans h2, h3⟩
    · obtain rfl : k = ys.length := by omega
      rw [if_neg e, gr_snoc_eq]
      exact ⟨hn.q_, (keep b hnv hbl).trans hb, rfl⟩
  · simp only [Value.ownBlock]
    intro e
    injection e with e
    exact hgg b1 (fun z hz e2 => h.d1 b1 hb1 (by rw [e2]; exact hz)) (h.bi.lt b1 hb1).2 e.symm
  · rw [List.length_append, List.length_singleton] at hk
    by_cases e : k < ys.length
    · rw [if_pos e]; exact h.d2 k b1 e hb1
    · rw [if_neg e]; have := hn.u_ b1 hb1; omega
  · rw [List.length_append, List.length_singleton] at hk
    simp only [Value.ownBlock, Option.some.injEq] at hb1
    subst hb1
    by_cases e : k < ys.length
    · rw [if_pos e]; exact hgg _ (fun z hz => h.d3 k z e hz) (blk_lt (h.rows k e).2.1)
    · rw [if_neg e]; exact hgg _ (fun z hz e2 => hnv (by rw [e2]; exact hz)) hbl
  · rw [List.length_append, List.length_singleton] at hk
    have ej : j < ys.length := by omega
    rw [if_pos ej]
    by_cases e : k < ys.length
    · rw [if_pos e]; exact h.d4 j k hjk e
    · rw [if_neg e]; have := hn.g_ j ej; omega
  · intro r hr
    rcases List.mem_append.1 hr with hr | hr
    · exact h.sy r hr
    · rw [List.mem_singleton.1 hr]
      intro z hz
      simp only [List.mem_cons, List.not_mem_nil, or_false] at hz
      rcases hz with rfl | rfl
      · exact hx
      · exact hy
theorem SMp.start (h : Rdr w0 w g A l c p) : SMp w0 w g A l c p w.heap.size (.slice none 0 0) (.slice none 0 0) (.slice none 0 0) (.slice none 0 0) [] (fun _ => 0) [] (w.alloc (.cells #[.slice none 0 0, .slice none 0 0] 28)) :=
  ⟨h.below_ (below_alloc _ _), blk_lt h.box, Nat.le_refl _, blk_new _ _ _, World.ownsRow_nil _ _ _ _, World.ownsRow_nil _ _ _ _, fun k hk => absurd hk (by simp), fun b hb => by simp [Value.ownBlock] at hb, fun k b hk => absurd hk (by simp), fun k b hk => absurd hk (by simp), fun j k _ hk => absurd hk (by simp), fun x hx => by simp at hx, fun r hr => by simp at hr, grown_of_below (below_alloc _ _)⟩
/-- The machine is written anew: the one that gives back what was given. -/
theorem SMp.lit (h : SMp w0 w g A l c p q ub vb u v xs G ys W) :
    SMp w0 w g A l c p q ub vb (.slice (some ⟨W.heap.size, 0, none⟩) 2 2) (.slice (some ⟨W.heap.size + 1 + 1 + 1, 0, none⟩) 2 2) [0, 1] (fun k => W.heap.size + 1 + k) [[0, 1], [0, 1]]
      ((((W.alloc (.cells #[iv 0, iv 1] 3)).alloc (.cells #[iv 0, iv 1] 3)).alloc (.cells #[iv 0, iv 1] 3)).alloc (.cells #[.slice (some ⟨W.heap.size + 1, 0, none⟩) 2 2, .slice (some ⟨W.heap.size + 1 + 1, 0, none⟩) 2 2] 22)) := by
  have hqw := blk_lt h.box
  have b0 := blk_old (blk_old (blk_old (blk_new W 3 #[iv 0, iv 1]) (.cells #[iv 0, iv 1] 3)) (.cells #[iv 0, iv 1] 3)) (.cells #[.slice (some ⟨W.heap.size + 1, 0, none⟩) 2 2, .slice (some ⟨W.heap.size + 1 + 1, 0, none⟩) 2 2] 22)
  have b1 := blk_old (blk_old (blk_new (W.alloc (.cells #[iv 0, iv 1] 3)) 3 #[iv 0, iv 1]) (.cells #[iv 0, iv 1] 3)) (.cells #[.slice (some ⟨W.heap.size + 1, 0, none⟩) 2 2, .slice (some ⟨W.heap.size + 1 + 1, 0, none⟩) 2 2] 22)
  have b2 := blk_old (blk_new ((W.alloc (.cells #[iv 0, iv 1] 3)).alloc (.cells #[iv 0, iv 1] 3)) 3 #[iv 0, iv 1]) (.cells #[.slice (some ⟨W.heap.size + 1, 0, none⟩) 2 2, .slice (some ⟨W.heap.size + 1 + 1, 0, none⟩) 2 2] 22)
  have b3 := blk_new (((W.alloc (.cells #[iv 0, iv 1] 3)).alloc (.cells #[iv 0, iv 1] 3)).alloc (.cells #[iv 0, iv 1] 3)) 22 #[.slice (some ⟨W.heap.size + 1, 0, none⟩) 2 2, .slice (some ⟨W.heap.size + 1 + 1, 0, none⟩) 2 2]
  have hb := below_up (below_up (below_up (below_alloc W (.cells #[iv 0, iv 1] 3)) (below_alloc _ (.cells #[iv 0, iv 1] 3))) (below_alloc _ (.cells #[iv 0, iv 1] 3))) (below_alloc _ (.cells #[.slice (some ⟨W.heap.size + 1, 0, none⟩) 2 2, .slice (some ⟨W.heap.size + 1 + 1, 0, none⟩) 2 2] 22))
  have hn := h.next hb
  simp only [World.size_alloc] at b1 b2 b3
  refine ⟨hn.rd, h.gl, h.hq, hn.box, ⟨rfl, .inr ⟨W.heap.size, 2, _, rfl, by omega, b0, Nat.le_refl _, by unfold maxLen; omega, rfl, rfl⟩⟩, ⟨rfl, .inr ⟨W.heap.size + 1 + 1 + 1, 2, _, rfl, by omega, b3, Nat.le_refl _, by unfold maxLen; omega, rfl, rfl⟩⟩, fun k hk => ?_, fun b hb2 => ?_, fun k b hk hb2 => ?_, fun k b hk hb2 => ?_, fun j k hjk _ => by show W.heap.size + 1 + j ≠ W.heap.size + 1 + k; omega, fun x hx => ?_, fun r hr x hx => ?_, hn.up⟩
  · match k, hk with
    | 0, _ => exact ⟨by show q < W.heap.size + 1 + 0; omega, b1, rfl⟩
    | 1, _ => exact ⟨by show q < W.heap.size + 1 + 1; omega, b2, rfl⟩
  · intro e; simp only [Value.ownBlock, Option.some.injEq] at hb2 e; omega
  · simp only [Value.ownBlock, Option.some.injEq] at hb2; show W.heap.size + 1 + k ≠ b; omega
  · simp only [Value.ownBlock, Option.some.injEq] at hb2; simp only [List.length_cons, List.length_nil] at hk; show W.heap.size + 1 + k ≠ b; omega
  · simp only [List.mem_cons, List.not_mem_nil, or_false] at hx; omega
  · simp only [List.mem_cons, List.not_mem_nil, or_false] at hr
    rcases hr with rfl | rfl <;> (simp only [List.mem_cons, List.not_mem_nil, or_false] at hx; omega)
/-- The box is written. -/
theorem SMp.setBox (h : SMp w0 w g A l c p q ub vb u v xs G ys W) (i : Nat) (z : Value) : SMp w0 w g A l c p q (if i = 0 then z else ub) (if i = 1 then z else vb) u v xs G ys (W.setCell ⟨q, i, none⟩ z) := by
  have hgl := h.gl
  have hhq := h.hq
  have hg : W.grownBy (W.setCell ⟨q, i, none⟩ z) (some q) := ⟨rfl, rfl, rfl, by simp [World.setCell], fun k hk hne => Below.heap_setCell _ _ _ _ (fun e => hne (by rw [show k = q from e]))⟩
  have keep : ∀ b, b ≠ q → (W.setCell ⟨q, i, none⟩ z).heap[b]? = W.heap[b]? := fun b hb => Below.heap_setCell _ _ _ _ hb
  refine ⟨h.rdr hg (fun b hb => by injection hb; omega), h.gl, h.hq, ?_, blk_kept h.bi fun b hb => keep b (by have := (h.bi.lt b hb).1; omega), blk_kept h.bo fun b hb => keep b (by have := (h.bo.lt b hb).1; omega), fun k hk => ?_, h.d1, h.d2, h.d3, h.d4, h.sx, h.sy, grown_app h.up hg (fun b hb => by injection hb; omega)⟩
  · have hb := blk_set h.box i z
    match i with
    | 0 => exact hb
    | 1 => exact hb
    | i + 2 => rw [if_neg (by omega), if_neg (by omega)]; simpa using hb
  · obtain ⟨h1, h2, h3⟩ := h.rows k hk
    exact ⟨h1, (keep _ (by omega)).trans h2, h3⟩
theorem SMp.box0 {z : Value} (h : SMp w0 w g A l c p q ub vb u v xs G ys W) : SMp w0 w g A l c p q z vb u v xs G ys (W.setCell ⟨q, 0, none⟩ z) := h.setBox 0 z
theorem SMp.box1 {z : Value} (h : SMp w0 w g A l c p q ub vb u v xs G ys W) : SMp w0 w g A l c p q ub z u v xs G ys (W.setCell ⟨q, 1, none⟩ z) := h.setBox 1 z
/-- What is there at the end. -/
theorem SMp.owns (h : SMp w0 w g A l c p q u v u v xs G ys W) (h4 : xs.length ≤ 4) (h4' : ys.length ≤ 4) :
    ∃ A1 c1 b1 B1 d1 b2, u = .slice A1 xs.length c1 ∧ v = .slice B1 ys.length d1 ∧ OwnI w.heap.size W.heap.size W b1 A1 xs.length c1 xs ∧ OwnR w.heap.size W.heap.size W b2 B1 ys.length d1 ys := by
  have hhq := h.hq
  have bi : BldI (q + 1) W.heap.size W u xs := ⟨h.bi, fun k hk => (h.bi.lt k hk).2⟩
  obtain ⟨A1, n1, c1, b1, rfl, rfl, o1, _⟩ := bi.owns (by omega) (fun x hx => by have := h.sx x hx; omega)
  have bo : Bld (q + 1) W.heap.size W v (gvs G ys.length) ys := ⟨h.bo, fun k hk => (h.bo.lt k hk).2, G, fun k => some ⟨G k, 0, none⟩, fun _ => 2, fun k hk => by
    obtain ⟨r1, r2, r3⟩ := h.rows k hk
    refine ⟨by rw [r3]; exact gvs_get G hk, ⟨⟨rfl, show (gr ys k).length ≤ 2 from by omega, by omega, fun x hx => by have := h.sy _ (gr_mem hk) x hx; omega, fun _ => ⟨_, 0, rfl, fun j hj => ?_⟩⟩, fun _ => ⟨0, rfl, by omega, blk_lt r2, fun j _ => blk_frozen r2 _⟩⟩, fun _ e => h.d3 k _ hk e rfl⟩
    rw [r3] at hj
    rw [Nat.zero_add]
    match j, hj with
    | 0, _ => exact blk_cell r2 rfl
    | 1, _ => exact blk_cell r2 rfl, fun j k hjk hk _ _ => h.d4 j k hjk hk⟩
  obtain ⟨B1, n2, d1, b2, rfl, rfl, o2⟩ := bo.owns (by omega)
  exact ⟨A1, c1, b1, B1, d1, b2, rfl, rfl, o1.mono (by omega) (Nat.le_refl _), o2.mono (by omega) (Nat.le_refl _)⟩
/-- An act is written. -/
theorem SMp.setU (h : SMp w0 w g A l c p q ub vb u v xs G ys W) (h0 : 0 < xs.length) {x : Int} (hx : -1 ≤ x ∧ x ≤ 4) :
    ∃ b cc, u = .slice (some ⟨b, 0, none⟩) xs.length cc ∧ W.cell? ⟨b, 0, none⟩ = some (.int .i64 (gi xs 0)) ∧ W.frozen? ⟨b, 0, none⟩ = false ∧
      SMp w0 w g A l c p q ub vb u v (xs.set 0 x) G ys (W.setCell ⟨b, 0, none⟩ (.int .i64 x)) := by
  have hgl := h.gl
  have hhq := h.hq
  have bi : BldI (q + 1) W.heap.size W u xs := ⟨h.bi, fun k hk => (h.bi.lt k hk).2⟩
  obtain ⟨b, cc, rfl, _, _, h1, h2, h3⟩ := bi.set h0 x
  have hb := h.bi.lt b rfl
  have hg : W.grownBy (W.setCell ⟨b, 0, none⟩ (.int .i64 x)) (some b) := ⟨rfl, rfl, rfl, by simp [World.setCell], fun k hk hne => Below.heap_setCell _ _ _ _ (fun e => hne (by rw [show k = b from e]))⟩
  have keep : ∀ k, k ≠ b → (W.setCell ⟨b, 0, none⟩ (.int .i64 x)).heap[k]? = W.heap[k]? := fun k hk => Below.heap_setCell _ _ _ _ hk
  refine ⟨b, cc, rfl, h1, h2, h.rdr hg (fun k hk => by injection hk; omega), h.gl, h.hq, (keep q (by omega)).trans h.box, by simpa using h3.own, blk_kept h.bo fun k hk => keep k (fun e => h.d1 b rfl (by rw [← e]; exact hk)), fun k hk => ?_, h.d1, h.d2, h.d3, h.d4, fun y hy => ?_, h.sy, grown_app h.up hg (fun k hk => by injection hk; omega)⟩
  · obtain ⟨r1, r2, r3⟩ := h.rows k hk
    exact ⟨r1, (keep _ (h.d2 k b hk rfl)).trans r2, r3⟩
  · rcases List.mem_or_eq_of_mem_set hy with hy | rfl
    · exact h.sx y hy
    · exact hx
/-- The first number of the first row is written. -/
theorem SMp.setV (h : SMp w0 w g A l c p q ub vb u v xs G ys W) (h0 : 0 < ys.length) {x : Int} (hx : -1 ≤ x ∧ x ≤ 4) :
    ∃ b cc, v = .slice (some ⟨b, 0, none⟩) ys.length cc ∧ W.cell? ⟨b, 0, none⟩ = some (.slice (some ⟨G 0, 0, none⟩) 2 2) ∧ W.cell? ⟨G 0, 0, none⟩ = some (.int .i64 (gi (gr ys 0) 0)) ∧ W.frozen? ⟨G 0, 0, none⟩ = false ∧
      SMp w0 w g A l c p q ub vb u v xs G (ys.set 0 [x, gi (gr ys 0) 1]) (W.setCell ⟨G 0, 0, none⟩ (.int .i64 x)) := by
  have hgl := h.gl
  have hhq := h.hq
  obtain ⟨r1, r2, r3⟩ := h.rows 0 h0
  have hg : W.grownBy (W.setCell ⟨G 0, 0, none⟩ (.int .i64 x)) (some (G 0)) := ⟨rfl, rfl, rfl, by simp [World.setCell], fun k hk hne => Below.heap_setCell _ _ _ _ (fun e => hne (by rw [show k = G 0 from e]))⟩
  have keep : ∀ k, k ≠ G 0 → (W.setCell ⟨G 0, 0, none⟩ (.int .i64 x)).heap[k]? = W.heap[k]? := fun k hk => Below.heap_setCell _ _ _ _ hk
  have hcell : ∃ b cc, v = .slice (some ⟨b, 0, none⟩) ys.length cc ∧ W.cell? ⟨b, 0, none⟩ = some (.slice (some ⟨G 0, 0, none⟩) 2 2) := by
    rcases h.bo.2 with ⟨_, e⟩ | ⟨b, cap, cur, e, _, hb, _, _, _, ht⟩
    · omega
    · refine ⟨b, cap, e, ?_⟩
      rw [← gvs_get G h0, ← ht, List.getElem?_take, if_pos (by omega)]
      simp [World.cell?, hb]
  obtain ⟨b, cc, e, hc⟩ := hcell
  have c0 := blk_cell r2 (i := 0) (v := .int .i64 (gi (gr ys 0) 0)) rfl
  have f0 := blk_frozen r2 0
  have hlen : (ys.set 0 [x, gi (gr ys 0) 1]).length = ys.length := by simp
  refine ⟨b, cc, e, hc, c0, f0, h.rdr hg (fun k hk => by injection hk; omega), h.gl, h.hq, (keep q (by omega)).trans h.box, blk_kept h.bi fun k hk => keep k (fun e => h.d2 0 k h0 hk e.symm), by rw [hlen]; exact blk_kept h.bo fun k hk => keep k (fun e => h.d3 0 k h0 hk e.symm), fun k hk => ?_, h.d1, fun k b hk => h.d2 k b (by rw [hlen] at hk; exact hk), fun k b hk => h.d3 k b (by rw [hlen] at hk; exact hk), fun j k hjk hk => h.d4 j k hjk (by rw [hlen] at hk; exact hk), h.sx, fun r hr => ?_, grown_app h.up hg (fun k hk => by injection hk; omega)⟩
  · rw [hlen] at hk
    by_cases e : k = 0
    · subst e
      rw [gr_set_eq h0]
      exact ⟨r1, blk_set r2 0 _, rfl⟩
    · obtain ⟨s1, s2, s3⟩ := h.rows k hk
      rw [gr_set_ne e]
      exact ⟨s1, (keep _ (fun e2 => h.d4 0 k (by omega) hk e2.symm)).trans s2, s3⟩
  · rcases List.mem_or_eq_of_mem_set hr with hr | rfl
    · exact h.sy r hr
    · intro z hz
      simp only [List.mem_cons, List.not_mem_nil, or_false] at hz
      rcases hz with rfl | rfl
      · exact hx
      · exact h.sy _ (gr_mem h0) _ (gi_mem (by rw [r3]; omega))
theorem SMp.row0 (h : SMp w0 w g A l c p q ub vb u v xs G ys W) {b n cc : Nat} (e : v = .slice (some ⟨b, 0, none⟩) n cc) (h0 : 0 < ys.length) : W.cell? ⟨b, 0, none⟩ = some (.slice (some ⟨G 0, 0, none⟩) 2 2) := by
  rcases h.bo.2 with ⟨_, e0⟩ | ⟨b', cap, cur, e1, _, hb, _, _, _, ht⟩
  · omega
  · rw [e] at e1
    injection e1 with e1 _ _
    injection e1 with e1
    injection e1 with e1 _ _
    subst e1
    rw [← gvs_get G h0, ← ht, List.getElem?_take, if_pos (by omega)]
    simp [World.cell?, hb]
theorem SMp.setV' (h : SMp w0 w g A l c p q ub vb u v xs G ys W) (h0 : 0 < ys.length) {x : Int} (hx : -1 ≤ x ∧ x ≤ 4) : SMp w0 w g A l c p q ub vb u v xs G (ys.set 0 [x, gi (gr ys 0) 1]) (W.setCell ⟨G 0, 0, none⟩ (.int .i64 x)) := by
  obtain ⟨_, _, _, _, _, _, r⟩ := h.setV h0 hx
  exact r
theorem SMp.old {B : Nat} {t : TypeId} {cs : Array Value} (h : SMp w0 w g A l c p q ub vb u v xs G ys W) (hb : Blk w B t cs) (hg : g ≠ B) : Blk W B t cs := (h.up.block _ (blk_lt hb) (fun e => by injection e with e; exact hg e.symm)).trans hb
end
end Go.Proofs.Ytffbofkjefjlpaa

