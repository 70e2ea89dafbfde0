/- Texts merged: LiftB Math3 S1 LiftC R2 Own A3. -/
import Derived.Test.YticcigdknaganaaQ2
import Derived.ChangeSlices
/- An argument of bytes, opened. -/
namespace Go.Proofs.Yticcigdknaganaa
open Go.ChangeShapes Go.WideShapes Go.ChangeAt Go.RowKit Go.Deep

theorem Try.cells_u8 : Try.prog.cellsOf 5 = 1 := by kernel_rfl
theorem Try.bytes_u8 : Try.prog.bytesOf 5 = 1 := by kernel_rfl
set_option maxRecDepth 100000 in
theorem open_bytes {H : Type} {enc : TypeId × Value → H} {W : World} {v : Value} {d : DataW H} {p : List MemPlace} {b0 : Nat} (hval : Value.okWide Try.prog W .any b0 46 v)
    (h : DataW.Trod enc Try.prog W 0 (fun _ => true) true 46 v d p) (hw : ∀ n ∈ d.weights Try.prog 46, n ≤ reachBytes) :
    ∃ A n c, v = .slice A n c ∧ Bytes W A n c := by
  obtain ⟨a1, len, cap, rfl⟩ := okWide_slice Try.underlying46 hval
  obtain ⟨fuel, hf⟩ := h
  rcases open_ints Try.underlying46 Try.underlying5 Try.cells_u8 hf with ⟨hcs, hx⟩ | ⟨a, len', cap', zs, hcs, _, hl, hm, hz, hx, hcell, hwz⟩
  · simp [Value.cells] at hcs
    obtain ⟨rfl, rfl, rfl⟩ := hcs
    exact ⟨none, 0, 0, rfl, Nat.le_refl _, by omega, fun h => absurd h (by omega)⟩
  · simp [Value.cells] at hcs
    obtain ⟨rfl, rfl, rfl⟩ := hcs
    simp only [Prod.mk.injEq] at hx
    obtain ⟨rfl, rfl⟩ := hx
    simp only [if_true] at hz
    have h1 := hw _ (weights_slice Try.underlying46 (.inl rfl))
    simp only [lits, List.length_map, List.length_take, List.length_drop, Try.bytes_u8, reachBytes] at h1
    refine ⟨some a, len, cap, rfl, hl, by omega, fun hn => ?_⟩
    have hspot : a.spot = none := by simpa [Addr.add] using World.cell?_spot (hcell 0 (by omega))
    obtain ⟨b, o, sp⟩ := a
    simp only at hspot
    subst hspot
    refine ⟨b, o, rfl, fun k hk => ⟨zs.getD k 0, ?_, ?_, by rw [← add_plain]; exact hcell k (by omega)⟩⟩
    · rw [List.getD_eq_getElem?_getD]; have := hwz (zs.getD k 0) (by rw [List.getD_eq_getElem?_getD, List.getElem?_eq_getElem (show k < zs.length by omega)]; simp)
      simp [Lit.wf, IntKind.min, IntKind.max, IntKind.signed, IntKind.bits] at this
      omega
    · rw [List.getD_eq_getElem?_getD]; have := hwz (zs.getD k 0) (by rw [List.getD_eq_getElem?_getD, List.getElem?_eq_getElem (show k < zs.length by omega)]; simp)
      simp [Lit.wf, IntKind.min, IntKind.max, IntKind.signed, IntKind.bits] at this
      omega
end Go.Proofs.Yticcigdknaganaa

/- Chapter 2 as plain functions: sums, shares, fractions, means, the worst. -/
namespace Go.Proofs.Yticcigdknaganaa

/-- The sum of the first k numbers; of all. -/
def sm (xs : List Int) : Nat → Int
  | 0 => 0
  | k + 1 => sm xs k + gi xs k
def tot (xs : List Int) : Int := sm xs xs.length
theorem sm_bd {xs : List Int} {lo hi : Int} : ∀ {k : Nat}, (∀ j, j < k → lo ≤ gi xs j ∧ gi xs j ≤ hi) → lo * (k : Int) ≤ sm xs k ∧ sm xs k ≤ hi * (k : Int)
  | 0, _ => by simp [sm]
  | k + 1, h => by
    have h1 := sm_bd (k := k) fun j hj => h j (by omega)
    have h2 := h k (by omega)
    have e1 : lo * ((k + 1 : Nat) : Int) = lo * (k : Int) + lo := by rw [show ((k + 1 : Nat) : Int) = (k : Int) + 1 by omega, Int.mul_add, Int.mul_one]
    have e2 : hi * ((k + 1 : Nat) : Int) = hi * (k : Int) + hi := by rw [show ((k + 1 : Nat) : Int) = (k : Int) + 1 by omega, Int.mul_add, Int.mul_one]
    simp only [sm]
    omega
theorem sm_snoc {xs : List Int} {x : Int} : ∀ {k : Nat}, k ≤ xs.length → sm (xs ++ [x]) k = sm xs k
  | 0, _ => rfl
  | k + 1, h => by
    have h1 := sm_snoc (xs := xs) (x := x) (k := k) (by omega)
    have h2 : gi (xs ++ [x]) k = gi xs k := by rw [gi_get (by simp; omega), gi_get (by omega), List.getElem_append_left (by omega)]
    simp only [sm, h1, h2]
theorem tot_snoc (xs : List Int) (x : Int) : tot (xs ++ [x]) = tot xs + x := by
  unfold tot
  rw [List.length_append, List.length_singleton]
  have h2 : gi (xs ++ [x]) xs.length = x := by rw [gi_get (by simp), List.getElem_append_right (Nat.le_refl _)]; simp
  simp only [sm, sm_snoc (Nat.le_refl _), h2]

/-- Shares of n things. -/
def VS (w : List Int) (n : Int) : Prop := (w.length : Int) = n ∧ (∀ j, j < w.length → InR (gi w j) 0 1000) ∧ 0 < tot w
def VSn (w : List Int) (n : Int) : Prop := 1 ≤ n ∧ n ≤ 3 ∧ VS w n
theorem VS.bd {w : List Int} {n : Int} (v : VS w n) (hn : n ≤ 3) : 0 < tot w ∧ tot w ≤ 3000 := by
  obtain ⟨h1, h2, h3⟩ := v
  have := (sm_bd (xs := w) (lo := 0) (hi := 1000) (k := w.length) h2).2
  unfold tot at *
  omega

/-- The sum of payoffs with both weights: of the first i rows; in row i, of the first j columns. -/
def payR (a : List (List Int)) (x y : List Int) (i : Nat) : Nat → Int
  | 0 => 0
  | j + 1 => payR a x y i j + gi x i * gi y j * g2 a i j
def payU (a : List (List Int)) (x y : List Int) (m : Nat) : Nat → Int
  | 0 => 0
  | i + 1 => payU a x y m i + payR a x y i m

theorem mul_bd {x y a : Int} (hx : 0 ≤ x ∧ x ≤ 1000) (hy : 0 ≤ y ∧ y ≤ 1000) (ha : -9 ≤ a ∧ a ≤ 9) : -9000000 ≤ x * y * a ∧ x * y * a ≤ 9000000 := by
  have h1 : 0 ≤ x * y := Int.mul_nonneg hx.1 hy.1
  have h2 : x * y ≤ 1000 * 1000 := Int.mul_le_mul hx.2 hy.2 hy.1 (by omega)
  have h3 : x * y * a ≤ x * y * 9 := Int.mul_le_mul_of_nonneg_left ha.2 h1
  have h4 : x * y * -9 ≤ x * y * a := Int.mul_le_mul_of_nonneg_left ha.1 h1
  omega
theorem mul_bd2 {x y : Int} (hx : 0 ≤ x ∧ x ≤ 1000) (hy : 0 ≤ y ∧ y ≤ 1000) : 0 ≤ x * y ∧ x * y ≤ 1000000 := by
  have h1 : 0 ≤ x * y := Int.mul_nonneg hx.1 hy.1
  have h2 : x * y ≤ 1000 * 1000 := Int.mul_le_mul hx.2 hy.2 hy.1 (by omega)
  omega
theorem mul_bd3 {x a : Int} (hx : 0 ≤ x ∧ x ≤ 1000) (ha : -9 ≤ a ∧ a ≤ 9) : -9000 ≤ a * x ∧ a * x ≤ 9000 := by
  have h3 : a * x ≤ 9 * x := Int.mul_le_mul_of_nonneg_right ha.2 hx.1
  have h4 : -9 * x ≤ a * x := Int.mul_le_mul_of_nonneg_right ha.1 hx.1
  omega

/-- Shares and a table of which a mean is taken: bounds of all that is read. -/
structure PB (a : List (List Int)) (x y : List Int) (n m : Nat) : Prop where
  a : ∀ i j, i < n → j < m → -9 ≤ g2 a i j ∧ g2 a i j ≤ 9
  x : ∀ i, i < n → 0 ≤ gi x i ∧ gi x i ≤ 1000
  y : ∀ j, j < m → 0 ≤ gi y j ∧ gi y j ≤ 1000
theorem payR_bd {a x y n m} (h : PB a x y n m) {i : Nat} (hi : i < n) : ∀ {j : Nat}, j ≤ m → -9000000 * (j : Int) ≤ payR a x y i j ∧ payR a x y i j ≤ 9000000 * (j : Int)
  | 0, _ => by simp [payR]
  | j + 1, hj => by
    have h1 := payR_bd h hi (j := j) (by omega)
    have h2 := mul_bd (h.x i hi) (h.y j (by omega)) (h.a i j hi (by omega))
    simp only [payR]
    omega
theorem payU_bd {a x y n m} (h : PB a x y n m) (hm : m ≤ 3) : ∀ {i : Nat}, i ≤ n → -27000000 * (i : Int) ≤ payU a x y m i ∧ payU a x y m i ≤ 27000000 * (i : Int)
  | 0, _ => by simp [payU]
  | i + 1, hi => by
    have h1 := payU_bd h hm (i := i) (by omega)
    have h2 := payR_bd h (i := i) (by omega) (j := m) (Nat.le_refl _)
    simp only [payU]
    omega
theorem payP_bd {a x y n m} (h : PB a x y n m) (hm : m ≤ 3) (hn : n ≤ 3) {i j : Nat} (hi : i < n) (hj : j ≤ m) : -108000000 ≤ payU a x y m i + payR a x y i j ∧ payU a x y m i + payR a x y i j ≤ 108000000 := by
  have h1 := payU_bd h hm (i := i) (by omega)
  have h2 := payR_bd h hi hj
  omega

/-- The greatest common divisor, and what Go's loop does to it. -/
def gcdI (a b : Int) : Int := (Int.gcd a b : Int)
theorem gcdI_zero (a : Int) : gcdI a 0 = max a (-a) := by
  unfold gcdI; rw [Int.gcd_zero_right]; omega
theorem gcdI_zero_left (a : Int) : gcdI 0 a = max a (-a) := by
  unfold gcdI; rw [Int.gcd_zero_left]; omega
theorem gcdI_step (a b : Int) : gcdI b (a.tmod b) = gcdI a b := by
  have h : Nat.gcd b.natAbs (a.tmod b).natAbs = Nat.gcd a.natAbs b.natAbs := by
    rw [Int.natAbs_tmod, Nat.gcd_comm, ← Nat.gcd_rec, Nat.gcd_comm]
  exact congrArg Int.ofNat h
theorem gcdI_abs (a b : Int) : gcdI (max a (-a)) b = gcdI a b := by
  have h : Nat.gcd (max a (-a)).natAbs b.natAbs = Nat.gcd a.natAbs b.natAbs := by
    congr 1
    omega
  exact congrArg Int.ofNat h
theorem gcdI_pos {a b : Int} (h : b ≠ 0) : 1 ≤ gcdI a b := by
  unfold gcdI
  have := Int.gcd_pos_of_ne_zero_right a h
  omega
theorem gcdI_pos_left {a b : Int} (h : a ≠ 0) : 1 ≤ gcdI a b := by
  unfold gcdI
  have := Int.gcd_pos_of_ne_zero_left b h
  omega
theorem gcdI_nonneg (a b : Int) : 0 ≤ gcdI a b := by unfold gcdI; omega
theorem gcdI_dvd_left (a b : Int) : gcdI a b ∣ a := Int.gcd_dvd_left a b
theorem gcdI_dvd_right (a b : Int) : gcdI a b ∣ b := Int.gcd_dvd_right a b
theorem gcdI_le {a b : Int} (h : 0 < b) : gcdI a b ≤ b := Int.le_of_dvd h (gcdI_dvd_right a b)
theorem tmod_abs {a b : Int} (h : b ≠ 0) : (a.tmod b).natAbs < b.natAbs := by
  rw [Int.natAbs_tmod]; exact Nat.mod_lt _ (by omega)

/-- A fraction in lowest terms, as a pair of numbers. -/
def frU (u d : Int) : Int := u.tdiv (gcdI u d)
def frD (u d : Int) : Int := d.tdiv (gcdI u d)
theorem tdiv_bd {u g B : Int} (_ : 1 ≤ g) (h : -B ≤ u ∧ u ≤ B) : -B ≤ u.tdiv g ∧ u.tdiv g ≤ B := by
  have h1 : (u.tdiv g).natAbs ≤ u.natAbs := by rw [Int.natAbs_tdiv]; exact Nat.div_le_self _ _
  omega
theorem frU_bd {u d B : Int} (hd : 0 < d) (h : -B ≤ u ∧ u ≤ B) : -B ≤ frU u d ∧ frU u d ≤ B := tdiv_bd (gcdI_pos (by omega)) h
theorem frD_bd {u d B : Int} (hd : 0 < d) (h : d ≤ B) : 1 ≤ frD u d ∧ frD u d ≤ B := by
  have hg := gcdI_pos (a := u) (b := d) (by omega)
  have h1 := tdiv_bd (u := d) (g := gcdI u d) (B := B) hg (by omega)
  have h2 := gcdI_le (a := u) hd
  have h3 : 1 ≤ d / gcdI u d := by rw [Int.le_ediv_iff_mul_le (by omega)]; omega
  rw [Int.tdiv_eq_ediv_of_nonneg (by omega)] at h1
  unfold frD
  rw [Int.tdiv_eq_ediv_of_nonneg (by omega)]
  omega
theorem frU_mul (u d : Int) : frU u d * gcdI u d = u := Int.tdiv_mul_cancel (gcdI_dvd_left u d)
theorem frD_mul (u d : Int) : frD u d * gcdI u d = d := Int.tdiv_mul_cancel (gcdI_dvd_right u d)

/-- Less, of fractions with a positive number below. -/
def ltF (u d v e : Int) : Prop := u * e < v * d

/-- The shares of one of n alone. -/
def onl (n i : Nat) : List Int := (List.range n).map fun k => if k = i then 1 else 0
theorem onl_len (n i : Nat) : (onl n i).length = n := by simp [onl]
theorem gi_onl {n i k : Nat} (h : k < n) : gi (onl n i) k = if k = i then 1 else 0 := by
  rw [gi_get (by rw [onl_len]; exact h)]; simp [onl]
theorem sm_onl {n i : Nat} : ∀ {k : Nat}, k ≤ n → sm (onl n i) k = if i < k then 1 else 0
  | 0, _ => by simp [sm]
  | k + 1, h => by
    have h1 := sm_onl (n := n) (i := i) (k := k) (by omega)
    rw [sm, h1, gi_onl (by omega)]
    split <;> split <;> split <;> omega
theorem tot_onl {n i : Nat} (h : i < n) : tot (onl n i) = 1 := by
  unfold tot; rw [sm_onl (by rw [onl_len]; exact Nat.le_refl _), onl_len, if_pos h]
theorem onl_bd {n i k : Nat} (h : k < n) : 0 ≤ gi (onl n i) k ∧ gi (onl n i) k ≤ 1 := by
  rw [gi_onl h]; split <;> omega

/-- The mean against column j alone, above the line; the least of the first k + 1 of these. -/
def colU (a : List (List Int)) (x : List Int) (n m j : Nat) : Int := payU a x (onl m j) m n
def wst (a : List (List Int)) (x : List Int) (n m : Nat) : Nat → Int × Int
  | 0 => (frU (colU a x n m 0) (tot x), frD (colU a x n m 0) (tot x))
  | k + 1 =>
    let p := (frU (colU a x n m (k + 1)) (tot x), frD (colU a x n m (k + 1)) (tot x))
    if p.1 * (wst a x n m k).2 < (wst a x n m k).1 * p.2 then p else wst a x n m k

end Go.Proofs.Yticcigdknaganaa

/- Sums of numbers; shares: by both programs and the laws. -/
namespace Go.Proofs.Yticcigdknaganaa
open Go.RowKit

def Fit (x : Int) : Prop := -9223372036854775808 ≤ x ∧ x ≤ 9223372036854775807
/-- Numbers whose sums fit. -/
structure SumOk (xs : List Int) : Prop where
  n : xs.length ≤ 1000
  bd : ∀ j, j < xs.length → -1000000000000 ≤ gi xs j ∧ gi xs j ≤ 1000000000000
theorem SumOk.sm {xs : List Int} (h : SumOk xs) {k : Nat} (hk : k ≤ xs.length) : -1000000000000000 ≤ sm xs k ∧ sm xs k ≤ 1000000000000000 := by
  have h1 := sm_bd (xs := xs) (k := k) (lo := -1000000000000) (hi := 1000000000000) fun j hj => h.bd j (by omega)
  have h2 := h.n
  omega
theorem SumOk.of_small {xs : List Int} {B : Int} (hn : xs.length ≤ 1000) (h : ∀ j, j < xs.length → -B ≤ gi xs j ∧ gi xs j ≤ B) (hB : B ≤ 1000000000000) : SumOk xs :=
  ⟨hn, fun j hj => by have := h j hj; omega⟩
theorem VS.sumOk {xs : List Int} {n : Int} (h : VS xs n) (hn : n ≤ 3) : SumOk xs :=
  ⟨by have := h.1; omega, fun j hj => by have := h.2.1 j hj; unfold InR at this; omega⟩

set_option maxHeartbeats 400000 in
theorem sumOf_any (A : Option Addr) (n c : Nat) (xs : List Int) (w : World) (hx : Ints w A n c xs) (hs : SumOk xs) :
    Calls Try.prog 65 #[.slice A n c] w fun e w' => e = .returned (.int .i64 (tot xs)) ∧ Quiet w w' := by
  have hl : n ≤ 1000 := by rw [← hx.len]; exact hs.n
  have HX := Lib.hid hx
  have HS := Lib.hid hs
  have HL := Lib.hid hx.len
  clear hx hs
  go_enter Try.func65, Try.ntmps65
  go_wp2
  go_loopw [3, 8] (fun s i wr => ∃ k : Nat, k ≤ n ∧ i = .int .i64 k ∧ s = .int .i64 (sm xs k) ∧ Quiet w wr) (fun _ i _ => n - (intOf i).toNat)
  case atStart => exact ⟨0, Nat.zero_le _, rfl, rfl, Quiet.refl _⟩
  case round =>
    obtain ⟨k, hk, rfl, rfl, q, rfl⟩ := hrel
    by_cases hlt : k < n
    · obtain ⟨b, o, rfl, hc⟩ := HX.out.at_ (by omega)
      have c1 := hc k hlt
      obtain ⟨b1, b2⟩ := HS.out.sm (k := k) (by rw [HL.out]; exact hk)
      obtain ⟨b3, b4⟩ := HS.out.bd k (by rw [HL.out]; exact hlt)
      clear hc
      go_wp2
      go_roundw
      case rel => exact ⟨k + 1, by omega, by go_num, rfl, ⟨_, rfl⟩⟩
      case measure => simp [intOf]; omega
    · obtain rfl : k = n := by omega
      go_wp2
      go_ret
      exact ⟨ret_int (by rw [tot, HL.out]), ⟨_, rfl⟩⟩

theorem VS_no {xs : List Int} {n : Int} {k : Nat} (hk : k < xs.length) (h : ¬ InR (gi xs k) 0 1000) : pb (VS xs n) = false := pb_false fun v => h (v.2.1 k hk)

end Go.Proofs.Yticcigdknaganaa

/- Arguments that are a slice of ints, or an int, opened. -/
namespace Go.Proofs.Yticcigdknaganaa
open Go.ChangeShapes Go.WideShapes Go.ChangeAt Go.RowKit Go.Deep

set_option maxRecDepth 100000 in
theorem open_intS {H : Type} {enc : TypeId × Value → H} {W : World} {v : Value} {d : DataW H} {p : List MemPlace} {b0 : Nat} (hval : Value.okWide Try.prog W .any b0 36 v)
    (h : DataW.Trod enc Try.prog W 0 (fun _ => true) true 36 v d p) (hw : ∀ n ∈ d.weights Try.prog 36, n ≤ reachBytes) :
    ∃ A n c xs, v = .slice A n c ∧ Ints W A n c xs := by
  obtain ⟨a1, len, cap, rfl⟩ := okWide_slice Try.underlying36 hval
  obtain ⟨fuel, hf⟩ := h
  rcases open_ints Try.underlying36 Try.underlying3 Try.cells3 hf with ⟨hcs, hx⟩ | ⟨a, len', cap', zs, hcs, _, hl, hm, hz, hx, hcell, hwz⟩
  · simp [Value.cells] at hcs
    obtain ⟨rfl, rfl, rfl⟩ := hcs
    exact ⟨none, 0, 0, [], rfl, rfl, Nat.le_refl _, by omega, fun _ h => by simp at h, fun h => absurd h (by omega)⟩
  · simp [Value.cells] at hcs
    obtain ⟨rfl, rfl, rfl⟩ := hcs
    simp only [Prod.mk.injEq] at hx
    obtain ⟨rfl, rfl⟩ := hx
    simp only [if_true] at hz
    have h1 := hw _ (weights_slice Try.underlying36 (.inl rfl))
    simp only [lits, List.length_map, List.length_take, List.length_drop, Try.bytes3, reachBytes] at h1
    have hlen : (zs.take len).length = len := by rw [List.length_take]; omega
    refine ⟨some a, len, cap, zs.take len, rfl, hlen, hl, by omega, fun x hx => ?_, fun hn => ?_⟩
    · have := hwz x (List.mem_of_mem_take hx)
      simp [Lit.wf, IntKind.min, IntKind.max, IntKind.signed, IntKind.bits] at this
      omega
    have hspot : a.spot = none := by simpa [Addr.add] using World.cell?_spot (hcell 0 (by omega))
    obtain ⟨b, o, sp⟩ := a
    simp only at hspot
    subst hspot
    refine ⟨b, o, rfl, fun k hk => ?_⟩
    rw [← add_plain, hcell k (by omega)]
    congr 2
    rw [gi_get (by rw [hlen]; exact hk), List.getElem_take]
    simp [List.getD, show k < zs.length by omega]

set_option maxRecDepth 100000 in
theorem open_num {H : Type} {enc : TypeId × Value → H} {W : World} {v : Value} {d : DataW H} {p : List MemPlace} {b0 : Nat} (hval : Value.okWide Try.prog W .any b0 3 v)
    (h : DataW.Trod enc Try.prog W 0 (fun _ => true) true 3 v d p) : ∃ x, v = .int .i64 x ∧ Fit x := by
  obtain ⟨x, rfl, _, _, hw⟩ := open_int Try.underlying3 hval h
  refine ⟨x, rfl, ?_⟩
  simp [Lit.wf, IntKind.min, IntKind.max, IntKind.signed, IntKind.bits] at hw
  unfold Fit
  omega
end Go.Proofs.Yticcigdknaganaa

/- The reader behind its bytes. -/
namespace Go.Proofs.Yticcigdknaganaa
open Go.RowKit

theorem xor_pos {a b : Int} (ha : 0 ≤ a) (hb : 0 ≤ b) (ha1 : a ≤ 1000000000000) (hb1 : b ≤ 1000000000000) : ∃ x : Int, 0 ≤ x ∧ x ≤ 2305843009213693952 ∧ bits .xor .i64 a b = x := by
  obtain ⟨m, rfl⟩ := Int.eq_ofNat_of_zero_le ha
  obtain ⟨k, rfl⟩ := Int.eq_ofNat_of_zero_le hb
  have e : ∀ q : Nat, q ≤ 1000000000000 → (BitVec.ofInt 64 (q : Int)).toNat = q := fun q hq => by
    rw [BitVec.ofInt_natCast, BitVec.toNat_ofNat]
    exact Nat.mod_eq_of_lt (by omega)
  have hx : m ^^^ k < 2 ^ 60 := Nat.xor_lt_two_pow (by omega) (by omega)
  refine ⟨((m ^^^ k : Nat) : Int), by omega, by omega, ?_⟩
  show IntKind.i64.wrap ((BitVec.ofInt 64 (m : Int) ^^^ BitVec.ofInt 64 (k : Int)).toNat : Int) = _
  rw [BitVec.toNat_xor, e m (by omega), e k (by omega), IntKind.wrap_i64]
  omega

set_option maxRecDepth 100000 in
set_option maxHeartbeats 2000000 in
theorem pick_out (w0 w : World) (g : Nat) (A : Option Addr) (l c p : Nat) (n : Int) (h : Rdr w0 w g A l c p) (hp : p < 1000000000) (hl : 0 < l) (hpl : l ≤ p) (hz : 1 ≤ n) :
    Calls Try.prog 97 #[.pointer (some ⟨g, 0, none⟩), .int .i64 n] w (Picked w0 g A l c p n w) := by
  have k0 := blk_cell h.box (i := 0) (v := .slice A l c) rfl
  have k1 := blk_cell h.box (i := 1) (v := .int .i64 p) rfl
  have f1 := blk_frozen h.box 1
  have HS := Lib.hid h.step
  have j0 := blk_cell h.step.box (i := 0) (v := .slice A l c) rfl
  have j1 := blk_cell h.step.box (i := 1) (v := .int .i64 (p + 1 : Nat)) rfl
  have hs := h.small
  obtain ⟨b, o, rfl, hc⟩ := h.step.at_.at_ (by omega)
  obtain ⟨v, v0, v1, cb⟩ := hc (p % l) (Nat.mod_lt _ hl)
  obtain ⟨u, u0, u1, cu⟩ := hc ((p * 7 + 3) % l) (Nat.mod_lt _ hl)
  rw [cast_succ] at j0 j1 cb cu
  have hl0 : ((l : Int) == 0) = false := by simp; omega
  have m1 : (p : Int) % l < l := Int.emod_lt_of_pos _ (by omega)
  have m2 : 0 ≤ (p : Int) % l := Int.emod_nonneg _ (by omega)
  have m3 : ((p : Int) * 7 + 3) % l < l := Int.emod_lt_of_pos _ (by omega)
  have m4 : 0 ≤ ((p : Int) * 7 + 3) % l := Int.emod_nonneg _ (by omega)
  have m5 : 0 ≤ (p : Int) / l := Int.ediv_nonneg (by omega) (by omega)
  have m6 : (p : Int) / l ≤ p := Int.ediv_le_self _ (by omega)
  clear hc
  go_enter Try.func97, Try.ntmps97
  go_wp2
  generalize hW : (w.setCell ⟨g, 1, none⟩ (.int .i64 ((p : Int) + 1))) = W1 at *
  have HW := Lib.hid hW
  clear hW
  have hn1 : decide (n < 1) = false := by simp; omega
  go_quiet (fail)
  generalize hX : v * 131 + u * 1117 + (p : Int) * 29 + (p : Int) / l * 53 = X
  have X0 : 0 ≤ X := by omega
  have X1 : X ≤ 1000000000000 := by omega
  clear hX m1 m2 m3 m4 m5 m6 cb cu v0 v1 u0 u1
  obtain ⟨x, x0, x1, xe⟩ := xor_pos X0 (show 0 ≤ X / 64 by omega) X1 (show X / 64 ≤ 1000000000000 by omega)
  have y0 : 0 ≤ x % n := Int.emod_nonneg _ (by omega)
  have y1 : x % n < n := Int.emod_lt_of_pos _ (by omega)
  go_wp2
  go_ret
  exact ⟨x % n, rfl, fun _ => ⟨y0, y1⟩, fun h => absurd h (by omega), HS.out.quiet ⟨nq, by rw [cast_succ, HW.out]⟩, nq, by rw [cast_succ, HW.out]⟩

/-- Whatever the bytes and the number. -/
theorem pick_any (w0 w : World) (g : Nat) (A : Option Addr) (l c p : Nat) (n : Int) (h : Rdr w0 w g A l c p) (hp : p < 1000000000) :
    Calls Try.prog 97 #[.pointer (some ⟨g, 0, none⟩), .int .i64 n] w (Picked w0 g A l c p n w) := by
  by_cases hz : n < 1
  · exact pick_zero w0 w g A l c p n h hp hz
  · rcases Nat.eq_zero_or_pos l with rfl | hl
    · exact pick_none w0 w g A c p n h hp (by omega)
    · by_cases hpl : p < l
      · exact pick_in w0 w g A l c p n h hpl (by omega)
      · exact pick_out w0 w g A l c p n h hp hl (by omega) (by omega)

end Go.Proofs.Yticcigdknaganaa

/- Slices that a call makes by append: of ints, and of slices of ints. -/
namespace Go.Proofs.Yticcigdknaganaa
open Go.RowKit

def iv (x : Int) : Value := .int .i64 x
/-- A slice of ints, made by append, in a block from lo up to less than hi. -/
structure BldI (lo hi : Nat) (w : World) (v : Value) (xs : List Int) : Prop where
  own : w.ownsRow lo 3 1 v xs.length (xs.map iv)
  hi_ : ∀ k, v.ownBlock = some k → k < hi
theorem blk_kept {w w' : World} {base : Nat} {e : TypeId} {size n : Nat} {v : Value} {xs : List Value} (h : w.ownsRow base e size v n xs) (k : ∀ g, v.ownBlock = some g → w'.heap[g]? = w.heap[g]?) : w'.ownsRow base e size v n xs := by
  obtain ⟨h1, h2⟩ := h
  refine ⟨h1, ?_⟩
  rcases h2 with h2 | ⟨g, cap, cur, rfl, hb, hg, r⟩
  · exact .inl h2
  · exact .inr ⟨g, cap, cur, rfl, hb, (k g rfl).trans hg, r⟩
theorem BldI.nil (lo hi : Nat) (w : World) : BldI lo hi w (.slice none 0 0) [] := ⟨World.ownsRow_nil _ _ _ _, fun k h => by simp [Value.ownBlock] at h⟩
theorem BldI.below {lo hi w w' v xs} (h : BldI lo hi w v xs) (k : Below w.heap.size w w') : BldI lo hi w' v xs :=
  ⟨blk_kept h.own fun g hg => k.block g (h.own.lt g hg).2, h.hi_⟩
theorem BldI.mono {lo hi hi' w v xs} (h : BldI lo hi w v xs) (hh : hi ≤ hi') : BldI lo hi' w v xs := ⟨h.own, fun k hk => Nat.lt_of_lt_of_le (h.hi_ k hk) hh⟩
theorem BldI.touch {lo hi lo' hi' w w' v xs} (h : BldI lo hi w v xs) (k : Touch lo' hi' w w') (hd : hi ≤ lo' ∨ hi' ≤ lo) : BldI lo hi w' v xs :=
  ⟨blk_kept h.own fun g hg => k.block g (by have := h.hi_ g hg; have := (h.own.lt g hg).1; omega), h.hi_⟩
theorem getElem_iv {xs : List Int} {k : Nat} (h : k < xs.length) : (xs.map iv)[k]? = some (.int .i64 (gi xs k)) := by
  rw [List.getElem?_map, List.getElem?_eq_getElem h, gi_get h]; rfl
theorem BldI.owns {lo hi w v xs} (h : BldI lo hi w v xs) (hm : xs.length ≤ 17592186044416) (hwf : ∀ x ∈ xs, -9223372036854775808 ≤ x ∧ x ≤ 9223372036854775807) :
    ∃ A n c g, v = .slice A n c ∧ n = xs.length ∧ OwnI lo hi w g A n c xs ∧ ∀ k, v.ownBlock = some k → k = g := by
  have hh := h.hi_
  rcases h.own.2 with ⟨rfl, h0⟩ | ⟨g, cap, cur, rfl, hb, hg, hnc, _, hcs, htake⟩
  · have hx : xs = [] := List.eq_nil_of_length_eq_zero h0
    subst hx
    exact ⟨none, 0, 0, 0, rfl, rfl, OwnI.nil _ _ _ _, fun k hk => by simp [Value.ownBlock] at hk⟩
  · refine ⟨some ⟨g, 0, none⟩, xs.length, cap, g, rfl, rfl, ⟨⟨rfl, hnc, hm, hwf, fun _ => ⟨g, 0, rfl, fun k hk => ?_⟩⟩, fun _ => ⟨0, rfl, hb, hh g rfl, fun k _ => ?_⟩⟩, fun k hk => by simpa [Value.ownBlock] using hk.symm⟩
    · rw [Nat.zero_add, ← getElem_iv hk, ← htake, List.getElem?_take, if_pos (by omega)]
      simp [World.cell?, hg]
    · rw [Nat.zero_add]; simp [World.frozen?, hg]

theorem BldI.make {lo : Nat} {w : World} (hlo : lo ≤ w.heap.size) : BldI lo (w.heap.size + 1) (w.alloc (.cells #[] 3)) (.slice (some ⟨w.heap.size, 0, none⟩) 0 0) [] :=
  ⟨World.ownsRow_made (e := 3) (size := 1) w #[] 0 hlo (Nat.zero_le _) rfl, fun k hk => by simp [Value.ownBlock] at hk; omega⟩

/-- Slices of ints under construction: the outer slice made by append, its cells vs, each row in a block of its own. -/
structure Bld (lo hi : Nat) (w : World) (v : Value) (vs : List Value) (xss : List (List Int)) : Prop where
  own : w.ownsRow lo 36 1 v xss.length vs
  hi_ : ∀ k, v.ownBlock = some k → k < hi
  ex : ∃ (G : Nat → Nat) (R : Nat → Option Addr) (C : Nat → Nat), (∀ k, k < xss.length → vs[k]? = some (.slice (R k) (gr xss k).length (C k)) ∧ OwnI lo hi w (G k) (R k) (gr xss k).length (C k) (gr xss k) ∧ (0 < (gr xss k).length → v.ownBlock ≠ some (G k))) ∧
    ∀ j k, j < k → k < xss.length → 0 < (gr xss j).length → 0 < (gr xss k).length → G j ≠ G k
theorem Bld.nil (lo hi : Nat) (w : World) : Bld lo hi w (.slice none 0 0) [] [] :=
  ⟨World.ownsRow_nil _ _ _ _, fun k h => by simp [Value.ownBlock] at h, fun _ => 0, fun _ => none, fun _ => 0, fun k h => absurd h (by simp), fun _ k _ h => absurd h (by simp)⟩
theorem Bld.make {lo : Nat} {w : World} (hlo : lo ≤ w.heap.size) : Bld lo (w.heap.size + 1) (w.alloc (.cells #[] 36)) (.slice (some ⟨w.heap.size, 0, none⟩) 0 0) [] [] :=
  ⟨World.ownsRow_made (e := 36) (size := 1) w #[] 0 hlo (Nat.zero_le _) rfl, fun k hk => by simp [Value.ownBlock] at hk; omega, fun _ => 0, fun _ => none, fun _ => 0, fun k h => absurd h (by simp), fun _ k _ h => absurd h (by simp)⟩
theorem Bld.mono {lo hi hi' w v vs xss} (h : Bld lo hi w v vs xss) (hh : hi ≤ hi') : Bld lo hi' w v vs xss := by
  obtain ⟨h1, h4, G, R, C, h2, h3⟩ := h
  exact ⟨h1, fun k hk => Nat.lt_of_lt_of_le (h4 k hk) hh, G, R, C, fun k hk => ⟨(h2 k hk).1, (h2 k hk).2.1.mono (Nat.le_refl _) hh, (h2 k hk).2.2⟩, h3⟩
theorem Bld.of_blocks {lo hi w w' v vs xss} (h : Bld lo hi w v vs xss) (e : ∀ g, lo ≤ g → g < hi → g < w.heap.size → w'.heap[g]? = w.heap[g]?) : Bld lo hi w' v vs xss := by
  obtain ⟨h1, h4, G, R, C, h2, h3⟩ := h
  refine ⟨blk_kept h1 fun g hg => e g (h1.lt g hg).1 (h4 g hg) (h1.lt g hg).2, h4, G, R, C, fun k hk => ⟨(h2 k hk).1, (h2 k hk).2.1.of_block fun hp => ?_, (h2 k hk).2.2⟩, h3⟩
  obtain ⟨_, _, a, b, _⟩ := (h2 k hk).2.1.own hp
  exact e _ a b ((h2 k hk).2.1.lt hp)
theorem Bld.below {lo hi w w' v vs xss} (h : Bld lo hi w v vs xss) (k : Below w.heap.size w w') : Bld lo hi w' v vs xss := h.of_blocks fun g _ _ hg => k.block g hg

theorem gr_snoc_lt {xss : List (List Int)} {r : List Int} {k : Nat} (h : k < xss.length) : gr (xss ++ [r]) k = gr xss k := by
  rw [gr_get h, gr_get (by simp; omega), List.getElem_append_left h]
theorem gr_snoc_eq {xss : List (List Int)} {r : List Int} : gr (xss ++ [r]) xss.length = r := by
  rw [gr_get (by simp), List.getElem_append_right (Nat.le_refl _)]; simp

/-- One row more. -/
theorem Bld.push {lo hi : Nat} {w w1 w' : World} {v v' : Value} {vs : List Value} {xss : List (List Int)} {r : List Int} {g : Nat} {A : Option Addr} {c : Nat}
    (h : Bld lo hi w v vs xss) (hk : Below w.heap.size w w1) (hr : OwnI hi w1.heap.size w1 g A r.length c r)
    (hown : w'.ownsRow lo 36 1 v' (xss.length + 1) (vs ++ [.slice A r.length c]))
    (hgrow : w1.grownBy w' v.ownBlock) (hat : v'.ownBlock = v.ownBlock ∨ v'.ownBlock = some w1.heap.size) (hlo : lo ≤ hi) (hhi : hi ≤ w.heap.size) :
    Bld lo w'.heap.size w' v' (vs ++ [.slice A r.length c]) (xss ++ [r]) := by
  obtain ⟨h1, h4, G, R, C, h2, h3⟩ := h
  have hvl : vs.length = xss.length := by have := h1.1; omega
  have hsz := hk.size
  have hsz' := hgrow.size
  have keepI : ∀ {lo hi : Nat} {b : Nat} {B : Option Addr} {n c : Nat} {xs : List Int}, OwnI lo hi w1 b B n c xs → (0 < n → v.ownBlock ≠ some b) → OwnI lo hi w' b B n c xs :=
    fun ho hne => ho.of_block fun hp => hgrow.block _ (ho.lt hp) (fun e => hne hp e.symm)
  have hfar : 0 < r.length → v.ownBlock ≠ some g := fun hp e => by
    have a := h4 g e
    obtain ⟨_, _, b, _⟩ := hr.own hp
    omega
  refine ⟨by rw [List.length_append, List.length_singleton]; exact hown, fun k hk' => ?_, fun k => if k < xss.length then G k else g, fun k => if k < xss.length then R k else A, fun k => if k < xss.length then C k else c, ?_, ?_⟩
  · rcases hat with hat | hat
    · have := h4 k (by rw [← hat]; exact hk'); omega
    · have := (hown.lt k hk').2; omega
  · intro k hk'
    rw [List.length_append, List.length_singleton] at hk'
    by_cases e : k < xss.length
    · simp only [if_pos e, gr_snoc_lt e]
      obtain ⟨q0, a, b⟩ := h2 k e
      refine ⟨by rw [List.getElem?_append_left (by omega)]; exact q0, keepI ((a.below hk).mono (Nat.le_refl _) (by omega)) b, fun hp => ?_⟩
      rcases hat with hat | hat
      · rw [hat]; exact b hp
      · rw [hat]; intro e'; injection e' with e'; obtain ⟨_, _, _, q, _⟩ := a.own hp; omega
    · obtain rfl : k = xss.length := by omega
      simp only [if_neg e, gr_snoc_eq]
      refine ⟨by rw [← hvl, List.getElem?_append_right (Nat.le_refl _)]; simp, keepI (hr.mono hlo hsz') hfar, fun hp => ?_⟩
      rcases hat with hat | hat
      · rw [hat]; exact hfar hp
      · rw [hat]; intro e'; injection e' with e'; obtain ⟨_, _, _, q, _⟩ := hr.own hp; omega
  · intro j k hjk hk' hj0 hk0
    rw [List.length_append, List.length_singleton] at hk'
    have ej : j < xss.length := by omega
    simp only [if_pos ej]
    rw [gr_snoc_lt ej] at hj0
    by_cases e : k < xss.length
    · simp only [if_pos e]
      rw [gr_snoc_lt e] at hk0
      exact h3 j k hjk e hj0 hk0
    · obtain rfl : k = xss.length := by omega
      simp only [if_neg e]
      rw [gr_snoc_eq] at hk0
      obtain ⟨_, _, _, q, _⟩ := (h2 j ej).2.1.own hj0
      obtain ⟨_, _, q', _⟩ := hr.own hk0
      omega

theorem Bld.owns {lo hi w v vs xss} (h : Bld lo hi w v vs xss) (hm : xss.length ≤ 5864062014805) : ∃ A n c g, v = .slice A n c ∧ n = xss.length ∧ OwnR lo hi w g A n c xss := by
  obtain ⟨h1, hh, G, R, C, h2, h3⟩ := h
  rcases h1.2 with ⟨rfl, h0⟩ | ⟨g, cap, cur, rfl, hb, hg, hnc, _, hcs, htake⟩
  · have hx : xss = [] := List.eq_nil_of_length_eq_zero h0
    subst hx
    exact ⟨none, 0, 0, 0, rfl, rfl, OwnR.nil _ _ _ _⟩
  · refine ⟨some ⟨g, 0, none⟩, xss.length, cap, g, rfl, rfl, ⟨rfl, hnc, hm, fun _ => ⟨0, G, R, C, rfl, hb, hh g rfl, fun k hk => ⟨?_, ?_, (h2 k hk).2.1, fun hp e => (h2 k hk).2.2 hp (by rw [e]; rfl)⟩, h3⟩⟩⟩
    · rw [Nat.zero_add]; simp [World.frozen?, hg]
    · rw [Nat.zero_add, ← (h2 k hk).1, ← htake, List.getElem?_take, if_pos (by omega)]
      simp [World.cell?, hg]

theorem pair_own {lo : Nat} {w : World} (x y : Int) (hx : -9223372036854775808 ≤ x ∧ x ≤ 9223372036854775807) (hy : -9223372036854775808 ≤ y ∧ y ≤ 9223372036854775807) (hlo : lo ≤ w.heap.size) :
    OwnI lo (w.heap.size + 1) (w.alloc (.cells #[.int .i64 x, .int .i64 y] 3)) w.heap.size (some ⟨w.heap.size, 0, none⟩) 2 2 [x, y] := by
  have hb := blk_new w 3 #[.int .i64 x, .int .i64 y]
  refine ⟨⟨rfl, Nat.le_refl _, by omega, ?_, fun _ => ⟨_, 0, rfl, fun k hk => ?_⟩⟩, fun _ => ⟨0, rfl, hlo, Nat.lt_succ_self _, fun k _ => blk_frozen hb _⟩⟩
  · intro z hz
    simp only [List.mem_cons, List.not_mem_nil, or_false] at hz
    rcases hz with rfl | rfl
    · exact hx
    · exact hy
  · rw [Nat.zero_add]
    match k, hk with
    | 0, _ => exact blk_cell hb rfl
    | 1, _ => exact blk_cell hb rfl

/-- One pair more. -/
theorem push_pair {lo : Nat} {w w' : World} {v v' : Value} {vs : List Value} {xss : List (List Int)} {x y : Int}
    (h : Bld lo w.heap.size w v vs xss) (hx : -9223372036854775808 ≤ x ∧ x ≤ 9223372036854775807) (hy : -9223372036854775808 ≤ y ∧ y ≤ 9223372036854775807)
    (hown : w'.ownsRow lo 36 1 v' (xss.length + 1) (vs ++ [.slice (some ⟨w.heap.size, 0, none⟩) 2 2]))
    (hgrow : ((w.alloc (.cells #[.int .i64 x, .int .i64 y] 3)).alloc (.cells #[.slice (some ⟨w.heap.size, 0, none⟩) 2 2] 36)).grownBy w' v.ownBlock)
    (hat : v'.ownBlock = v.ownBlock ∨ v'.ownBlock = some (w.heap.size + 1 + 1)) (hlo : lo ≤ w.heap.size) :
    Bld lo w'.heap.size w' v' (vs ++ [.slice (some ⟨w.heap.size, 0, none⟩) 2 2]) (xss ++ [[x, y]]) ∧ Below lo w w' := by
  have hb3 := below_alloc w (.cells #[.int .i64 x, .int .i64 y] 3)
  have hb4 := below_alloc (w.alloc (.cells #[.int .i64 x, .int .i64 y] 3)) (.cells #[.slice (some ⟨w.heap.size, 0, none⟩) 2 2] 36)
  have hb := below_up hb3 hb4
  have ho := (pair_own (lo := w.heap.size) (w := w) x y hx hy (Nat.le_refl _)).below hb4
  refine ⟨h.push (r := [x, y]) hb (ho.mono (Nat.le_refl _) (by simp)) hown hgrow (by simpa using hat) hlo (Nat.le_refl _), ?_⟩
  exact (hb.mono hlo).grown hgrow (by simp; omega) fun k hk => (h.own.lt k hk).1
theorem Bld.form {lo hi w v vs xss} (h : Bld lo hi w v vs xss) : ∃ A c, v = .slice A xss.length c := by
  rcases h.own.2 with ⟨rfl, h0⟩ | ⟨g, cap, cur, rfl, _⟩
  · exact ⟨none, 0, by rw [h0]⟩
  · exact ⟨_, _, rfl⟩
theorem BldI.form {lo hi w v xs} (h : BldI lo hi w v xs) : ∃ A c, v = .slice A xs.length c := by
  rcases h.own.2 with ⟨rfl, h0⟩ | ⟨g, cap, cur, rfl, _⟩
  · exact ⟨none, 0, by rw [h0]⟩
  · exact ⟨_, _, rfl⟩
theorem BldI.of_blocks {lo hi w w' v xs} (h : BldI lo hi w v xs) (e : ∀ g, lo ≤ g → g < hi → g < w.heap.size → w'.heap[g]? = w.heap[g]?) : BldI lo hi w' v xs :=
  ⟨blk_kept h.own fun g hg => e g (h.own.lt g hg).1 (h.hi_ g hg) (h.own.lt g hg).2, h.hi_⟩

end Go.Proofs.Yticcigdknaganaa

/- The harness of the exact laws: games. -/
namespace Go.Proofs.Yticcigdknaganaa
open Go.RowKit

theorem szR_le (left : Int) (xs : List (List Int)) (h0 : 0 ≤ left) (h1 : left ≤ 1048576) : -1 ≤ szR left xs ∧ szR left xs ≤ 1048576 := by
  induction xs generalizing left with
  | nil => simp only [szR]; omega
  | cons x xs ih =>
    have := szI_le left x.length h0 h1
    rw [szR]
    split
    · omega
    · exact ih _ (by omega) (by omega)
theorem szRR_le (left : Int) (xs : List (List Int)) (h0 : 0 ≤ left) (h1 : left ≤ 1048576) : -1 ≤ szRR left xs ∧ szRR left xs ≤ 1048576 := by
  have := szI_le left xs.length h0 h1
  rw [szRR]
  split
  · omega
  · exact szR_le _ _ (by omega) (by omega)

def szG (left : Int) (xs ys : List (List Int)) : Int := if szRR left xs < 0 then -1 else if szRR (szRR left xs) ys < 0 then -1 else szRR (szRR left xs) ys
theorem szG_no1 {left : Int} {xs ys : List (List Int)} (h : szRR left xs < 0) : szG left xs ys = -1 := by rw [szG, if_pos h]
theorem szG_eq {left : Int} {xs ys : List (List Int)} (h : ¬ szRR left xs < 0) (h1 : -1 ≤ szRR (szRR left xs) ys) : szG left xs ys = szRR (szRR left xs) ys := by
  rw [szG, if_neg h]; split <;> omega
theorem szG_no2 {left : Int} {xs ys : List (List Int)} (h : ¬ szRR left xs < 0) (h1 : szRR (szRR left xs) ys < 0) : szG left xs ys = -1 := by
  rw [szG, if_neg h, if_pos h1]

set_option maxHeartbeats 400000 in
theorem szGame_any (A B : Option Addr) (n c m d : Nat) (xs ys : List (List Int)) (left : Int) (w : World) (hx : IntRows w A n c xs) (hy : IntRows w B m d ys) (h0 : 0 ≤ left) (h1 : left ≤ 1048576) :
    Calls Try.prog 13 #[.agg #[.slice A n c, .slice B m d], .int .i64 left] w fun e w' => e = .returned (.int .i64 (szG left xs ys)) ∧ Below w.heap.size w w' := by
  have HX := Lib.hid hx
  have HY := Lib.hid hy
  clear hx hy
  have hb := szRR_le left xs h0 h1
  by_cases hs : szRR left xs < 0
  · have HS := Lib.hid (szG_no1 (ys := ys) hs)
    go_enter Try.func13, Try.ntmps13
    go_wp2_with fail
    refine (szIntSS_any _ _ _ _ _ _ (HX.out.keep (Keep.below (below_alloc _ _))) h0 h1).mono ?_
    rintro e w1 ⟨rfl, q, rfl⟩
    go_wp2
    go_ret
    exact ⟨ret_int HS.out.symm, below_drewN (below_alloc _ _) _⟩
  · have hb2 := szRR_le (szRR left xs) ys (by omega) hb.2
    by_cases hs2 : szRR (szRR left xs) ys < 0
    · have HS := Lib.hid (szG_no2 hs hs2)
      go_enter Try.func13, Try.ntmps13
      go_wp2_with fail
      refine (szIntSS_any _ _ _ _ _ _ (HX.out.keep (Keep.below (below_alloc _ _))) h0 h1).mono ?_
      rintro e w1 ⟨rfl, q, rfl⟩
      go_wp2_with fail
      refine (szIntSS_any _ _ _ _ _ _ (HY.out.keep (Keep.below (below_drewN (below_alloc _ _) _))) (by omega) hb.2).mono ?_
      rintro e w1 ⟨rfl, q2, rfl⟩
      go_wp2
      go_ret
      exact ⟨ret_int HS.out.symm, by first | exact below_drewN (below_alloc _ _) _ | exact below_drewN (below_drewN (below_alloc _ _) _) _⟩
    · have HS := Lib.hid (szG_eq hs (ys := ys) (by omega))
      go_enter Try.func13, Try.ntmps13
      go_wp2_with fail
      refine (szIntSS_any _ _ _ _ _ _ (HX.out.keep (Keep.below (below_alloc _ _))) h0 h1).mono ?_
      rintro e w1 ⟨rfl, q, rfl⟩
      go_wp2_with fail
      refine (szIntSS_any _ _ _ _ _ _ (HY.out.keep (Keep.below (below_drewN (below_alloc _ _) _))) (by omega) hb.2).mono ?_
      rintro e w1 ⟨rfl, q2, rfl⟩
      go_wp2
      go_ret
      exact ⟨ret_int HS.out.symm, by first | exact below_drewN (below_alloc _ _) _ | exact below_drewN (below_drewN (below_alloc _ _) _) _⟩

def MadeG (w : World) (n m : Nat) (xs ys : List (List Int)) (e : Ending) (w' : World) : Prop :=
  ∃ g1 g2 mid, e = .returned (.agg #[.slice (some ⟨g1, 0, none⟩) n n, .slice (some ⟨g2, 0, none⟩) m m]) ∧ OwnR w.heap.size mid w' g1 (some ⟨g1, 0, none⟩) n n xs ∧ OwnR mid w'.heap.size w' g2 (some ⟨g2, 0, none⟩) m m ys ∧
    Below w.heap.size w w' ∧ w.heap.size ≤ mid ∧ mid ≤ w'.heap.size

set_option maxHeartbeats 400000 in
theorem toGame_any (A B : Option Addr) (n c m d : Nat) (xs ys : List (List Int)) (w : World) (hx : IntRows w A n c xs) (hy : IntRows w B m d ys) :
    Calls Try.prog 15 #[.agg #[.slice A n c, .slice B m d]] w (MadeG w n m xs ys) := by
  have HX := Lib.hid hx
  have HY := Lib.hid hy
  clear hx hy
  go_enter Try.func15, Try.ntmps15
  go_wp2_with fail
  have b0 := blk_old (blk_old (blk_new w 24 #[.slice A n c, .slice B m d]) (.cells #[.slice none 0 0, .slice none 0 0] 27)) (.cells #[.slice none 0 0, .slice none 0 0] 27)
  have b1 := blk_old (blk_new (w.alloc (.cells #[.slice A n c, .slice B m d] 24)) 27 #[.slice none 0 0, .slice none 0 0]) (.cells #[.slice none 0 0, .slice none 0 0] 27)
  have b2 := blk_new ((w.alloc (.cells #[.slice A n c, .slice B m d] 24)).alloc (.cells #[.slice none 0 0, .slice none 0 0] 27)) 27 #[.slice none 0 0, .slice none 0 0]
  have hb0 := below_up (below_up (below_alloc w (.cells #[.slice A n c, .slice B m d] 24)) (below_alloc _ (.cells #[.slice none 0 0, .slice none 0 0] 27))) (below_alloc _ (.cells #[.slice none 0 0, .slice none 0 0] 27))
  simp only [World.size_alloc] at b0 b1 b2
  generalize (((w.alloc (.cells #[.slice A n c, .slice B m d] 24)).alloc (.cells #[.slice none 0 0, .slice none 0 0] 27)).alloc (.cells #[.slice none 0 0, .slice none 0 0] 27)) = W1 at *
  refine (toIntSS_any _ _ _ _ _ (HX.out.keep (Keep.below hb0))).mono ?_
  rintro e w1 ⟨rfl, hown, hb, -⟩
  have HO := Lib.hid hown
  have HB1 := Lib.hid (below_up hb0 hb)
  have hz0 := blk_lt b2
  have b0 := blk_below b0 hb
  have b1 := blk_below b1 hb
  have b2 := blk_below b2 hb
  have hz : w.heap.size + 1 + 1 < W1.heap.size := hz0
  clear hown hb hb0
  generalize W1.heap.size = g1 at *
  have c1 := blk_cell b0 (i := 1) rfl
  have c2 := blk_cell b2 (i := 0) rfl
  have f2 := blk_frozen b2 0
  go_wp2_with fail
  clear c1 c2 f2
  have B2 := (blk_set b2 0 (.slice (some ⟨g1, 0, none⟩) n n))
  have b1 := (blk_other b1 (p := ⟨w.heap.size + 1 + 1, 0, none⟩) (by simp) (.slice (some ⟨g1, 0, none⟩) n n))
  have HB2 := HB1.out.setCell (p := ⟨w.heap.size + 1 + 1, 0, none⟩) (by simp; omega) (.slice (some ⟨g1, 0, none⟩) n n)
  have HO2 := Lib.hid (HO.out.of_blocks (w' := w1.setCell ⟨w.heap.size + 1 + 1, 0, none⟩ (.slice (some ⟨g1, 0, none⟩) n n)) fun g h1 _ _ => Below.heap_setCell _ _ _ _ (by show g ≠ w.heap.size + 1 + 1; omega))
  have hz3 : w.heap.size < w1.heap.size := by have := blk_lt b2; omega
  have hw1 : w1.heap.size = (w1.setCell ⟨w.heap.size + 1 + 1, 0, none⟩ (.slice (some ⟨g1, 0, none⟩) n n)).heap.size := by simp
  have HO := Lib.hid (HO2.out.mono (Nat.le_refl _) (Nat.le_of_eq hw1))
  clear HO2 HB1 b0 b2 hw1
  generalize w1.setCell ⟨w.heap.size + 1 + 1, 0, none⟩ (.slice (some ⟨g1, 0, none⟩) n n) = W2 at *
  refine (toIntSS_any _ _ _ _ _ (HY.out.keep (Keep.below HB2))).mono ?_
  rintro e w2 ⟨rfl, hown2, hb, -⟩
  have HP := Lib.hid hown2
  have HO2 := Lib.hid (HO.out.below hb)
  have hz5 := hb.size
  have HB3 := Lib.hid (below_up HB2 hb)
  have b1 := blk_below b1 hb
  have b2 := blk_below B2 hb
  have hz4 : w.heap.size + 1 + 1 < W2.heap.size := blk_lt B2
  clear hb hown2 HB2 B2 HO
  generalize W2.heap.size = g2 at *
  have c2 := blk_cell b2 (i := 0) rfl
  have c3 := blk_cell b2 (i := 1) rfl
  have f2 := blk_frozen b2 1
  have c4 := blk_cell b1 (i := 0) rfl
  have c5 := blk_cell b1 (i := 1) rfl
  have f4 := blk_frozen b1 0
  have f5 := blk_frozen b1 1

  go_wp2
  clear c2 c3 f2 c4 c5 f4 f5
  have hT := (((Touch.refl w.heap.size (w.heap.size + 1 + 1 + 1) w2).set (p := ⟨w.heap.size + 1 + 1, 1, none⟩) (by show w.heap.size ≤ w.heap.size + 1 + 1; omega) (by show w.heap.size + 1 + 1 < _; omega) (.slice (some ⟨g2, 0, none⟩) m m)).set
    (p := ⟨w.heap.size + 1, 0, none⟩) (by show w.heap.size ≤ w.heap.size + 1; omega) (by show w.heap.size + 1 < _; omega) (.slice (some ⟨g1, 0, none⟩) n n)).set
    (p := ⟨w.heap.size + 1, 1, none⟩) (by show w.heap.size ≤ w.heap.size + 1; omega) (by show w.heap.size + 1 < _; omega) (.slice (some ⟨g2, 0, none⟩) m m)
  have b1c := blk_set (blk_set (blk_other b1 (p := ⟨w.heap.size + 1 + 1, 1, none⟩) (by simp) (.slice (some ⟨g2, 0, none⟩) m m)) 0 (.slice (some ⟨g1, 0, none⟩) n n)) 1 (.slice (some ⟨g2, 0, none⟩) m m)
  generalize ((w2.setCell ⟨w.heap.size + 1 + 1, 1, none⟩ (.slice (some ⟨g2, 0, none⟩) m m)).setCell ⟨w.heap.size + 1, 0, none⟩ (.slice (some ⟨g1, 0, none⟩) n n)).setCell ⟨w.heap.size + 1, 1, none⟩ (.slice (some ⟨g2, 0, none⟩) m m) = W3 at *
  have k0 : W3.cell? ⟨w.heap.size + 1, 0, none⟩ = some (.slice (some ⟨g1, 0, none⟩) n n) := blk_cell b1c rfl
  have k1 : W3.cell? ⟨w.heap.size + 1, 1, none⟩ = some (.slice (some ⟨g2, 0, none⟩) m m) := blk_cell b1c rfl
  refine bodyPost_ret (v := .agg #[.slice (some ⟨g1, 0, none⟩) n n, .slice (some ⟨g2, 0, none⟩) m m]) (by simp [results, Try.results15, go_sem, k0, k1]) rfl ?_
  have hsz := hT.size
  exact ⟨g1, g2, g2, rfl, (HO2.out.touch hT (.inr (by omega))).mono (by omega) (Nat.le_refl _), (HP.out.touch hT (.inr (by omega))).mono (Nat.le_refl _) (Nat.le_of_eq hT.size.symm), Touch.below HB3.out hT (Nat.le_refl _), by omega, by omega⟩

def eqG (xs ys zs us : List (List Int)) : Bool := eqRR xs zs && eqRR ys us

set_option maxHeartbeats 400000 in
theorem eqGame_any (A B C D : Option Addr) (n c m d n' c' m' d' : Nat) (xs ys zs us : List (List Int)) (w : World) (hx : IntRows w A n c xs) (hy : IntRows w B m d ys) (hz : IntRows w C n' c' zs) (hu : IntRows w D m' d' us) :
    Calls Try.prog 18 #[.agg #[.slice A n c, .slice B m d], .agg #[.slice C n' c', .slice D m' d']] w fun e w' => e = .returned (.bool (eqG xs ys zs us)) ∧ Below w.heap.size w w' := by
  have HX := Lib.hid hx
  have HY := Lib.hid hy
  have HZ := Lib.hid hz
  have HU := Lib.hid hu
  clear hx hy hz hu
  cases h1 : eqRR xs zs with
  | false =>
    have HE := Lib.hid (show eqG xs ys zs us = false by simp [eqG, h1])
    go_enter Try.func18, Try.ntmps18
    go_wp2_with fail
    have hb0 := below_up (below_alloc w (.cells #[.slice A n c, .slice B m d] 27)) (below_alloc _ (.cells #[.slice C n' c', .slice D m' d'] 27))
    refine ((h1 ▸ eqIntSS_any _ _ _ _ _ _ _ _ _ (HX.out.keep (Keep.below hb0)) (HZ.out.keep (Keep.below hb0)))).mono ?_
    rintro e w1 ⟨rfl, hq⟩
    have HB := Lib.hid (below_quiet hb0 hq)
    clear hq hb0 h1
    go_wp2
    go_ret
    exact ⟨ret_bool HE.out.symm, HB.out⟩
  | true =>
    have HE := Lib.hid (show eqG xs ys zs us = eqRR ys us by simp [eqG, h1])
    go_enter Try.func18, Try.ntmps18
    go_wp2_with fail
    have hb0 := below_up (below_alloc w (.cells #[.slice A n c, .slice B m d] 27)) (below_alloc _ (.cells #[.slice C n' c', .slice D m' d'] 27))
    have b0 := blk_old (blk_new w 27 #[.slice A n c, .slice B m d]) (.cells #[.slice C n' c', .slice D m' d'] 27)
    have b1 := blk_new (w.alloc (.cells #[.slice A n c, .slice B m d] 27)) 27 #[.slice C n' c', .slice D m' d']
    simp only [World.size_alloc] at b1
    generalize (w.alloc (.cells #[.slice A n c, .slice B m d] 27)).alloc (.cells #[.slice C n' c', .slice D m' d'] 27) = W1 at *
    refine ((h1 ▸ eqIntSS_any _ _ _ _ _ _ _ _ _ (HX.out.keep (Keep.below hb0)) (HZ.out.keep (Keep.below hb0)))).mono ?_
    rintro e w1 ⟨rfl, hq⟩
    have hb1 := below_quiet hb0 hq
    have c0 := blk_cell (blk_quiet b0 hq) (i := 1) rfl
    have c1 := blk_cell (blk_quiet b1 hq) (i := 1) rfl
    have HB := Lib.hid hb1
    clear hq hb0 h1 b0 b1 hb1
    go_wp2_with fail
    cases h2 : eqRR ys us with
    | false =>
      refine ((h2 ▸ eqIntSS_any _ _ _ _ _ _ _ _ _ (HY.out.keep (Keep.below HB.out)) (HU.out.keep (Keep.below HB.out)))).mono ?_
      rintro e w2 ⟨rfl, hq⟩
      rw [h2] at HE
      have HB2 := Lib.hid (below_quiet HB.out hq)
      clear hq h2
      go_wp2
      go_ret
      exact ⟨ret_bool HE.out.symm, HB2.out⟩
    | true =>
      refine ((h2 ▸ eqIntSS_any _ _ _ _ _ _ _ _ _ (HY.out.keep (Keep.below HB.out)) (HU.out.keep (Keep.below HB.out)))).mono ?_
      rintro e w2 ⟨rfl, hq⟩
      rw [h2] at HE
      have HB2 := Lib.hid (below_quiet HB.out hq)
      clear hq h2
      go_wp2
      go_ret
      exact ⟨ret_bool HE.out.symm, HB2.out⟩
theorem eqG_refl (xs ys : List (List Int)) : eqG xs ys xs ys = true := by simp [eqG, eqRR]
end Go.Proofs.Yticcigdknaganaa

