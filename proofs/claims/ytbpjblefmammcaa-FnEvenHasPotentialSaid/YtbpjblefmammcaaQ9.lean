/- Texts merged: V6 V7 Math10 V8 Math11 V9 Y2 G8 Z2 LO1 LO2 LO4 LO5 LO6 LO7 Mix Math19 Z3. -/
import Derived.Test.YtbpjblefmammcaaQ8
import Derived.RegionTactic
/- Numbers put to their places, by the model. -/
namespace Go.Proofs.Ytbpjblefmammcaa
open Go.RowKit

/-- Numbers being put to their places, in a row of the call's own. -/
structure SU (w : World) (n : Nat) (ys : List Int) (wr : World) : Prop where
  own : OwnI w.heap.size (w.heap.size + 1) wr w.heap.size (some ⟨w.heap.size, 0, none⟩) n n ys
  up : Below w.heap.size w wr
  sz : w.heap.size + 1 ≤ wr.heap.size
theorem gi_repl {n k : Nat} (h : k < n) : gi (List.replicate n 0) k = 0 := by rw [gi_get (by simpa using h)]; simp
theorem SU.start (w : World) (n : Nat) (hn : n ≤ 100) : SU w n (List.replicate n 0) (w.alloc (.cells (madeCells #[.int .i64 0] n) 3)) :=
  ⟨OwnI.of_rowIs (by simp) (by omega) (fun x hx => by have := List.eq_of_mem_replicate hx; omega) (Nat.le_refl _) (by omega) (World.rowIs_made w (.int .i64 0) n 3) (fun k hk => by rw [gi_repl hk]), below_alloc _ _, by simp⟩
theorem SU.set {w n ys wr} (h : SU w n ys wr) {k : Nat} (hk : k < n) {v : Int} (hv : -9223372036854775808 ≤ v ∧ v ≤ 9223372036854775807) : SU w n (ys.set k v) (wr.setCell ⟨w.heap.size, k, none⟩ (.int .i64 v)) := by
  have h1 := h.own.set hk (v := v) hv
  rw [Nat.zero_add] at h1
  exact ⟨h1, h.up.setCell (p := ⟨w.heap.size, k, none⟩) (Nat.le_refl _) _, by simpa [World.setCell] using h.sz⟩
theorem SU.qu {w n ys wr wr'} (h : SU w n ys wr) (k : Quiet wr wr') : SU w n ys wr' := by
  obtain ⟨m, rfl⟩ := k; exact ⟨h.own.of_block fun _ => rfl, below_drewN h.up m, h.sz⟩
theorem SU.cell {w n ys wr} (h : SU w n ys wr) {k : Nat} (hk : k < n) : wr.cell? ⟨w.heap.size, k, none⟩ = some (.int .i64 (gi ys k)) := by
  obtain ⟨b, o, e, hc⟩ := h.own.ints.at_ (by omega)
  injection e with e; injection e with e1 e2 _; subst e1; subst e2
  have := hc k hk; rwa [Nat.zero_add] at this
theorem SU.frozen {w n ys wr} (h : SU w n ys wr) {k : Nat} (hk : k < n) : wr.frozen? ⟨w.heap.size, k, none⟩ = false := by
  obtain ⟨o, e, _, _, hf⟩ := h.own.own (by omega)
  injection e with e; injection e with _ e2 _; subst e2
  have := hf k hk; rwa [Nat.zero_add] at this
theorem SU.new {w n ys wr} (h : SU w n ys wr) (hl : n = ys.length) : NewI w ys (.returned (.slice (some ⟨w.heap.size, 0, none⟩) n n)) wr :=
  ⟨_, _, _, w.heap.size, rfl, hl, h.own.mono (Nat.le_refl _) h.sz, h.up⟩

end Go.Proofs.Ytbpjblefmammcaa

/- Numbers without a common factor and without signs, by the model. -/
namespace Go.Proofs.Ytbpjblefmammcaa
open Go.RowKit

def upB (xs : List Int) : Nat → Bool
  | 0 => false
  | k + 1 => upB xs k || decide (0 < gi xs k)
def dnB (xs : List Int) : Nat → Bool
  | 0 => false
  | k + 1 => dnB xs k || decide (gi xs k < 0)
theorem upB_false {xs : List Int} : ∀ {k}, upB xs k = false ↔ ∀ p, p < k → gi xs p ≤ 0
  | 0 => by simp [upB]
  | k + 1 => by
    have ih := upB_false (xs := xs) (k := k)
    simp only [upB, Bool.or_eq_false_iff, decide_eq_false_iff_not, ih]
    refine ⟨fun ⟨h1, h2⟩ p hp => ?_, fun h => ⟨fun p hp => h p (by omega), by have := h k (by omega); omega⟩⟩
    by_cases e : p = k
    · subst e; omega
    · exact h1 p (by omega)
theorem dnB_false {xs : List Int} : ∀ {k}, dnB xs k = false ↔ ∀ p, p < k → 0 ≤ gi xs p
  | 0 => by simp [dnB]
  | k + 1 => by
    have ih := dnB_false (xs := xs) (k := k)
    simp only [dnB, Bool.or_eq_false_iff, decide_eq_false_iff_not, ih]
    refine ⟨fun ⟨h1, h2⟩ p hp => ?_, fun h => ⟨fun p hp => h p (by omega), by have := h k (by omega); omega⟩⟩
    by_cases e : p = k
    · subst e; omega
    · exact h1 p (by omega)
theorem upB_succ {xs : List Int} {k : Nat} {x : Int} (h : gi xs k = x) : upB xs (k + 1) = (upB xs k || decide (0 < x)) := by rw [upB, h]
theorem dnB_succ {xs : List Int} {k : Nat} {x : Int} (h : gi xs k = x) : dnB xs (k + 1) = (dnB xs k || decide (x < 0)) := by rw [dnB, h]
/-- What the loop has come to tells whether the numbers are cleared. -/
theorem clr_yes {xs : List Int} {k : Nat} (hk : xs.length = k) (h : ClrP xs) : 0 < gcdL xs k ∧ (upB xs k = false ∨ dnB xs k = false) := by
  subst hk
  obtain ⟨⟨p, hp, hn⟩, hs⟩ := h
  refine ⟨?_, ?_⟩
  · have h1 := gcdL_nn xs xs.length
    have h2 : gcdL xs xs.length ≠ 0 := fun e => hn (gcdL_zero.1 e p hp)
    omega
  · rcases hs with hs | hs
    · exact .inr (dnB_false.2 hs)
    · exact .inl (upB_false.2 hs)
theorem clr_no {xs : List Int} {k : Nat} (hk : xs.length = k) (h : ¬ ClrP xs) : gcdL xs k = 0 ∨ (upB xs k = true ∧ dnB xs k = true) := by
  subst hk
  by_cases h0 : gcdL xs xs.length = 0
  · exact .inl h0
  · refine .inr ?_
    have nz : ∃ p, p < xs.length ∧ gi xs p ≠ 0 := by
      apply Classical.byContradiction; intro hn
      exact h0 (gcdL_zero.2 fun p hp => by
        apply Classical.byContradiction; intro e; exact hn ⟨p, hp, e⟩)
    by_cases hu : upB xs xs.length = false
    · exact absurd ⟨nz, .inr (upB_false.1 hu)⟩ h
    · by_cases hd : dnB xs xs.length = false
      · exact absurd ⟨nz, .inl (dnB_false.1 hd)⟩ h
      · exact ⟨by simpa using hu, by simpa using hd⟩

/-- Numbers cleared, and that they are; or that they are not. -/
def NewC (w : World) (xs : List Int) (e : Ending) (w' : World) : Prop :=
  (ClrP xs ∧ ∃ Av n c gg, e = .returned (.tuple #[.slice Av n c, .bool true]) ∧ n = xs.length ∧ OwnI w.heap.size w'.heap.size w' gg Av n c (clrL xs (gcdL xs xs.length) xs.length) ∧ Below w.heap.size w w') ∨
  (¬ ClrP xs ∧ e = .returned (.tuple #[.slice none 0 0, .bool false]) ∧ Below w.heap.size w w')

theorem clr_val {x G : Int} (hx : -1000000000000000 ≤ x ∧ x ≤ 1000000000000000) (hG : 0 < G) : IntKind.i64.wrap ((if x < IntKind.i64.wrap (-x) then IntKind.i64.wrap (-x) else x).tdiv G) = max x (-x) / G := by
  rw [wrapIn (x := -x) (by omega)]
  have e : (if x < -x then -x else x) = max x (-x) := by split <;> omega
  rw [e, Int.tdiv_eq_ediv_of_nonneg (by omega)]
  have h1 : 0 ≤ max x (-x) / G := Int.ediv_nonneg (by omega) (by omega)
  have h2 : max x (-x) / G ≤ max x (-x) := Int.ediv_le_self _ (by omega)
  exact wrapIn (by omega)
theorem clrL_bd {xs : List Int} {G : Int} (hG : 0 < G) {k : Nat} (h : ∀ p, p < k → Mid (gi xs p)) : ∀ y ∈ clrL xs G k, -1000000000000000 ≤ y ∧ y ≤ 1000000000000000 := fun y hy => by
  obtain ⟨p, hp, rfl⟩ := List.mem_map.1 hy
  have hm := h p (List.mem_range.1 hp)
  unfold Mid at hm
  have h1 : 0 ≤ max (gi xs p) (-(gi xs p)) / G := Int.ediv_nonneg (by omega) (by omega)
  have h2 : max (gi xs p) (-(gi xs p)) / G ≤ max (gi xs p) (-(gi xs p)) := Int.ediv_le_self _ (by omega)
  omega

end Go.Proofs.Ytbpjblefmammcaa

/- Parts of a table that tell best shares, as both programs try them. Plain. -/
namespace Go.Proofs.Ytbpjblefmammcaa
open V (sumN detN rowC colC cofN minorN skip sgn Asc Kern)

theorem asc_lt {n k : Nat} {r : Nat → Nat} (h : Asc n k r) : ∀ {p q : Nat}, p < q → q < k → r p < r q := fun {p q} => by
  induction q with
  | zero => intro hp _; omega
  | succ q ih =>
    intro hp hq
    have h1 := h.2 q hq
    by_cases e : p = q
    · subst e; exact h1
    · have := ih (by omega) (by omega); omega
theorem asc_ne {n k : Nat} {r : Nat → Nat} (h : Asc n k r) : ∀ p q, p < q → q < k → r p ≠ r q := fun _ _ hp hq => by have := asc_lt h hp hq; omega

/-- Numbers from 9 to 27. -/
def Up (k : Nat) (f : Nat → Nat → Int) : Prop := ∀ p q, p < k → q < k → 9 ≤ f p q ∧ f p q ≤ 27
theorem Up.ab {k f} (h : Up k f) : Ab k f := fun p q hp hq => by have := h p q hp hq; omega
theorem Up.tr {k f} (h : Up k f) : Up k (trN f) := fun p q hp hq => h q p hq hp
theorem two_bd {a b c d : Int} (ha : -18 ≤ a ∧ a ≤ 18) (hb : -18 ≤ b ∧ b ≤ 18) (hc : -18 ≤ c ∧ c ≤ 18) (hd : -18 ≤ d ∧ d ≤ 18) : -648 ≤ a * b - c * d ∧ a * b - c * d ≤ 648 := by
  have h1 := mulbd ha hb
  have h2 := mulbd hc hd
  omega
theorem rowC_bd {k : Nat} {f : Nat → Nat → Int} (hk : k ≤ 3) (h : Up k f) {p : Nat} (hp : p < k) : -648 ≤ rowC k f p ∧ rowC k f p ≤ 648 := by
  have : k = 1 ∨ k = 2 ∨ k = 3 := by omega
  rcases this with rfl | rfl | rfl
  · obtain rfl : p = 0 := by omega
    simp [rowC, sumN, cofN, sgn, detN]
  · have h00 := h 0 0 (by omega) (by omega)
    have h01 := h 0 1 (by omega) (by omega)
    have h10 := h 1 0 (by omega) (by omega)
    have h11 := h 1 1 (by omega) (by omega)
    have : p = 0 ∨ p = 1 := by omega
    rcases this with rfl | rfl <;> simp [rowC, sumN, cofN, sgn, detN, minorN, skip] <;> omega
  · obtain ⟨e0, e1, e2⟩ := V.rowC3 f
    have h00 := h 0 0 (by omega) (by omega)
    have h01 := h 0 1 (by omega) (by omega)
    have h02 := h 0 2 (by omega) (by omega)
    have h10 := h 1 0 (by omega) (by omega)
    have h11 := h 1 1 (by omega) (by omega)
    have h12 := h 1 2 (by omega) (by omega)
    have h20 := h 2 0 (by omega) (by omega)
    have h21 := h 2 1 (by omega) (by omega)
    have h22 := h 2 2 (by omega) (by omega)
    have : p = 0 ∨ p = 1 ∨ p = 2 := by omega
    rcases this with rfl | rfl | rfl
    · have := two_bd (a := f 1 1 - f 1 0) (b := f 2 2 - f 2 0) (c := f 1 2 - f 1 0) (d := f 2 1 - f 2 0) (by omega) (by omega) (by omega) (by omega)
      have e : rowC 3 f 0 = (f 1 1 - f 1 0) * (f 2 2 - f 2 0) - (f 1 2 - f 1 0) * (f 2 1 - f 2 0) := by rw [e0]; grind
      rw [e]; exact this
    · have := two_bd (a := f 0 2 - f 0 0) (b := f 2 1 - f 2 0) (c := f 0 1 - f 0 0) (d := f 2 2 - f 2 0) (by omega) (by omega) (by omega) (by omega)
      have e : rowC 3 f 1 = (f 0 2 - f 0 0) * (f 2 1 - f 2 0) - (f 0 1 - f 0 0) * (f 2 2 - f 2 0) := by rw [e1]; grind
      rw [e]; exact this
    · have := two_bd (a := f 0 1 - f 0 0) (b := f 1 2 - f 1 0) (c := f 0 2 - f 0 0) (d := f 1 1 - f 1 0) (by omega) (by omega) (by omega) (by omega)
      have e : rowC 3 f 2 = (f 0 1 - f 0 0) * (f 1 2 - f 1 0) - (f 0 2 - f 0 0) * (f 1 1 - f 1 0) := by rw [e2]; grind
      rw [e]; exact this

theorem gi_cofL {k : Nat} {f : Nat → Nat → Int} {i p : Nat} (h : p < i) : gi (cofL k f i) p = rowC k f p := by
  rw [gi_get (by rw [cofL_len]; exact h)]; simp [cofL]
/-- The square of a part, raised. -/
def kf (a : List (List Int)) (r s : Nat → Nat) : Nat → Nat → Int := fun p q => g2 a (r p) (s q) + 18
def kX (a : List (List Int)) (r s : Nat → Nat) (k : Nat) : List Int := cofL k (kf a r s) k
def kY (a : List (List Int)) (r s : Nat → Nat) (k : Nat) : List Int := cofL k (trN (kf a r s)) k
/-- Numbers cleared, put to their places. -/
def shr (n : Nat) (r : Nat → Nat) (X : List Int) (k : Nat) : List Int := putL n r (clrL X (gcdL X X.length) X.length) k
structure KerP (a : List (List Int)) (k : Nat) (r s : Nat → Nat) : Prop where
  det : detN k (kf a r s) ≠ 0
  cx : ClrP (kX a r s k)
  cy : ClrP (kY a r s k)
  eq : wlast a (shr a.length r (kX a r s k) k) = (- (wlast (ntab a) (shr (gr a 0).length s (kY a r s k) k)).1, (wlast (ntab a) (shr (gr a 0).length s (kY a r s k) k)).2)
theorem kX_len (a : List (List Int)) (r s : Nat → Nat) (k : Nat) : (kX a r s k).length = k := cofL_len _ _ _
theorem kY_len (a : List (List Int)) (r s : Nat → Nat) (k : Nat) : (kY a r s k).length = k := cofL_len _ _ _
theorem kf_up {a : List (List Int)} (v : VT a) {k : Nat} {r s : Nat → Nat} (hr : Asc a.length k r) (hs : Asc (gr a 0).length k s) : Up k (kf a r s) := fun p q hp hq => by
  have := v.bd (hr.1 p hp) (hs.1 q hq)
  unfold kf
  omega
theorem kX_bd {a : List (List Int)} (v : VT a) {k : Nat} (hk : k ≤ 3) {r s : Nat → Nat} (hr : Asc a.length k r) (hs : Asc (gr a 0).length k s) {p : Nat} (hp : p < (kX a r s k).length) : -648 ≤ gi (kX a r s k) p ∧ gi (kX a r s k) p ≤ 648 := by
  rw [kX_len] at hp
  unfold kX; rw [gi_cofL hp]; exact rowC_bd hk (kf_up v hr hs) hp
theorem kY_bd {a : List (List Int)} (v : VT a) {k : Nat} (hk : k ≤ 3) {r s : Nat → Nat} (hr : Asc a.length k r) (hs : Asc (gr a 0).length k s) {p : Nat} (hp : p < (kY a r s k).length) : -648 ≤ gi (kY a r s k) p ∧ gi (kY a r s k) p ≤ 648 := by
  rw [kY_len] at hp
  unfold kY; rw [gi_cofL hp]; exact rowC_bd hk (kf_up v hr hs).tr hp

/-- What is cleared and put to its places are shares. -/
theorem gi_shr {n k : Nat} {r : Nat → Nat} {X : List Int} (hl : X.length = k) (hr : Asc n k r) {i : Nat} (hi : i < n) :
    gi (shr n r X k) i = sumN (fun p => if r p = i then max (gi X p) (-(gi X p)) / gcdL X k else 0) k := by
  subst hl
  unfold shr
  rw [gi_putL hi (asc_ne hr)]
  exact sumN_congr fun p hp => by rw [gi_clrL hp]
theorem max_ediv_mul {x g : Int} (h : g ∣ x) : max x (-x) / g * g = max x (-x) := by
  apply Int.ediv_mul_cancel
  by_cases h0 : 0 ≤ x
  · rw [show max x (-x) = x by omega]; exact h
  · rw [show max x (-x) = -x by omega]; exact (Int.dvd_neg).2 h
/-- Of numbers without different signs: z is their sign. -/
theorem clr_sign {X : List Int} (h : ClrP X) : ∃ z : Int, (z = 1 ∨ z = -1) ∧ ∀ p, p < X.length → max (gi X p) (-(gi X p)) = z * gi X p := by
  rcases h.sg with h | h
  · exact ⟨1, .inl rfl, fun p hp => by have := h p hp; omega⟩
  · exact ⟨-1, .inr rfl, fun p hp => by have := h p hp; omega⟩
theorem clr_pos {X : List Int} (h : ClrP X) : 0 < gcdL X X.length := (clr_yes rfl h).1
theorem shr_key {n k : Nat} {r : Nat → Nat} {X : List Int} (hl : X.length = k) (hr : Asc n k r) (h : ClrP X) : ∃ z : Int, (z = 1 ∨ z = -1) ∧ (∀ p, p < k → 0 ≤ z * gi X p) ∧
    ∀ i, i < n → gi (shr n r X k) i * gcdL X k = z * sumN (fun p => if r p = i then gi X p else 0) k := by
  obtain ⟨z, hz, hm⟩ := clr_sign h
  refine ⟨z, hz, fun p hp => by have := hm p (by omega); omega, fun i hi => ?_⟩
  rw [gi_shr hl hr hi, Int.mul_comm, ← sumN_mul, ← sumN_mul]
  refine sumN_congr fun p hp => ?_
  by_cases e : r p = i
  · rw [if_pos e, if_pos e, Int.mul_comm, max_ediv_mul (gcdL_dvd X hp)]
    exact hm p (by omega)
  · rw [if_neg e, if_neg e]; omega
theorem sumN_pos {f : Nat → Int} : ∀ {n}, (∀ i, i < n → 0 ≤ f i) → (∃ i, i < n ∧ 0 < f i) → 0 < sumN f n
  | 0, _, ⟨i, hi, _⟩ => absurd hi (by omega)
  | n + 1, h, ⟨i, hi, hp⟩ => by
    have h0 : 0 ≤ sumN f n := by
      have := sumN_le (f := fun _ => 0) (g := f) (n := n) fun j hj => h j (by omega)
      rw [sumN_zero] at this; exact this
    rw [sumN]
    by_cases e : i = n
    · subst e; omega
    · have := sumN_pos (f := f) (n := n) (fun j hj => h j (by omega)) ⟨i, by omega, hp⟩
      have := h n (by omega); omega
theorem tot_shr {n k : Nat} {r : Nat → Nat} {X : List Int} (hl : X.length = k) (hr : Asc n k r) (h : ClrP X) : ∃ z : Int, (z = 1 ∨ z = -1) ∧ (∀ p, p < k → 0 ≤ z * gi X p) ∧
    (∀ i, i < n → gi (shr n r X k) i * gcdL X k = z * sumN (fun p => if r p = i then gi X p else 0) k) ∧ tot (shr n r X k) * gcdL X k = z * sumN (gi X) k ∧ 0 < z * sumN (gi X) k := by
  obtain ⟨z, hz, hp, hk⟩ := shr_key hl hr h
  refine ⟨z, hz, hp, hk, ?_, ?_⟩
  · have := spread_key (shr n r X k) n k r (gi X) (fun _ => 1) _ z hr.1 hk
    simp only [Int.mul_one] at this
    unfold tot
    rw [show (shr n r X k).length = n from putL_len _ _ _ _, sm_sum]
    exact this
  · rw [← sumN_mul]
    refine sumN_pos hp ?_
    obtain ⟨p, hpl, hn⟩ := h.nz
    refine ⟨p, by omega, ?_⟩
    have := hp p (by omega)
    rcases hz with rfl | rfl <;> omega
theorem shr_VS {n k : Nat} {r : Nat → Nat} {X : List Int} (hl : X.length = k) (hr : Asc n k r) (h : ClrP X) (hb : ∀ p, p < X.length → -648 ≤ gi X p ∧ gi X p ≤ 648) : VS (shr n r X k) n := by
  have hg : 0 < gcdL X k := by have := clr_pos h; rwa [hl] at this
  obtain ⟨z, hz, hp, hkk, ht, hpos⟩ := tot_shr hl hr h
  have hln : (shr n r X k).length = n := putL_len _ _ _ _
  refine ⟨by omega, fun i hi => ?_, ?_⟩
  · rw [hln] at hi
    rw [gi_shr hl hr hi]
    -- only one of the places is i
    have one : ∀ {j : Nat}, j ≤ k → 0 ≤ sumN (fun p => if r p = i then max (gi X p) (-(gi X p)) / gcdL X k else 0) j ∧ sumN (fun p => if r p = i then max (gi X p) (-(gi X p)) / gcdL X k else 0) j ≤ 648 ∧
        ((∀ p, p < j → r p ≠ i) → sumN (fun p => if r p = i then max (gi X p) (-(gi X p)) / gcdL X k else 0) j = 0) := by
      intro j
      induction j with
      | zero => intro _; simp [sumN]
      | succ j ih =>
        intro hj
        obtain ⟨h1, h2, h3⟩ := ih (by omega)
        rw [sumN]
        by_cases e : r j = i
        · have hz0 : sumN (fun p => if r p = i then max (gi X p) (-(gi X p)) / gcdL X k else 0) j = 0 := h3 fun p hp e2 => asc_ne hr p j hp (by omega) (e2.trans e.symm)
          rw [hz0, if_pos e]
          have hb1 := hb j (by omega)
          have q1 : 0 ≤ max (gi X j) (-(gi X j)) / gcdL X k := Int.ediv_nonneg (by omega) (by omega)
          have q2 : max (gi X j) (-(gi X j)) / gcdL X k ≤ max (gi X j) (-(gi X j)) := Int.ediv_le_self _ (by omega)
          exact ⟨by omega, by omega, fun hall => absurd e (hall j (by omega))⟩
        · rw [if_neg e]
          exact ⟨by omega, by omega, fun hall => by rw [h3 fun p hp => hall p (by omega)]; rfl⟩
    have := one (Nat.le_refl k)
    exact ⟨this.1, by omega⟩
  · apply Classical.byContradiction; intro hneg
    have : tot (shr n r X k) * gcdL X k ≤ 0 * gcdL X k := Int.mul_le_mul_of_nonneg_right (by omega) (by omega)
    omega
theorem KerP.shares {a : List (List Int)} {k : Nat} {r s : Nat → Nat} (v : VT a) (hk : k ≤ 3) (hr : Asc a.length k r) (hs : Asc (gr a 0).length k s) (hx : ClrP (kX a r s k)) (hy : ClrP (kY a r s k)) :
    VS (shr a.length r (kX a r s k) k) a.length ∧ VS (shr (gr a 0).length s (kY a r s k) k) (gr a 0).length :=
  ⟨shr_VS (kX_len _ _ _ _) hr hx (fun _ hp => kX_bd v hk hr hs hp), shr_VS (kY_len _ _ _ _) hs hy (fun _ hp => kY_bd v hk hr hs hp)⟩
theorem wlast_def (a : List (List Int)) (x : List Int) (n m : Nat) (hn : a.length = n) (hm : (gr a 0).length = m) : wlast a x = wst a x n m (m - 1) := by subst hn; subst hm; rfl
theorem VT.ntab_neg {a : List (List Int)} (_ : VT a) : ∀ i j, i < a.length → j < (gr a 0).length → g2 (Go.Proofs.Ytbpjblefmammcaa.ntab a) j i = - g2 a i j := fun i j hi hj => by
  unfold g2 Go.Proofs.Ytbpjblefmammcaa.ntab
  have h1 := flip_len a a.length (gr a 0).length
  rw [gr_get (by rw [mtab_len, h1]; exact hj)]
  simp only [mtab, List.getElem_map, List.getElem_range]
  rw [gr_flip hj, gi_get (by rw [mrow_len]; simpa using hi)]
  simp only [mrow, List.getElem_map, List.getElem_range]
  rw [gi_col hi]; rfl
theorem colC_rowC {k : Nat} (hk : k ≤ 3) (f : Nat → Nat → Int) (q : Nat) : colC k f q = rowC k (trN f) q := (rowC_tr hk f q).symm
/-- A part that tells best shares passes the test. -/
theorem ker_of {a : List (List Int)} (v : VT a) {k : Nat} {r s : Nat → Nat} (h1 : 1 ≤ k) (hk : k ≤ 3) (hr : Asc a.length k r) (hs : Asc (gr a 0).length k s)
    (K : Kern (up18 a a.length (gr a 0).length) a.length (gr a 0).length k r s) : KerP a k r s := by
  have hkf : ∀ p q, p < k → q < k → up18 a a.length (gr a 0).length (r p) (s q) = kf a r s p q := fun p q hp hq => by rw [up18_in (hr.1 p hp) (hs.1 q hq)]; rfl
  have hD : detN k (fun p q => up18 a a.length (gr a 0).length (r p) (s q)) = detN k (kf a r s) := detN_congr k hkf
  have hR : ∀ p, p < k → rowC k (fun p q => up18 a a.length (gr a 0).length (r p) (s q)) p = gi (kX a r s k) p := fun p hp => by rw [rowC_congr hkf hp]; unfold kX; rw [gi_cofL hp]
  have hC : ∀ q, q < k → colC k (fun p q => up18 a a.length (gr a 0).length (r p) (s q)) q = gi (kY a r s k) q := fun q hq => by
    rw [colC_congr hkf, colC_rowC hk]; unfold kY; rw [gi_cofL hq]
  have hSR : sumN (rowC k fun p q => up18 a a.length (gr a 0).length (r p) (s q)) k = sumN (gi (kX a r s k)) k := sumN_congr hR
  have hSC : sumN (colC k fun p q => up18 a a.length (gr a 0).length (r p) (s q)) k = sumN (gi (kY a r s k)) k := sumN_congr hC
  have hSE : sumN (gi (kY a r s k)) k = sumN (gi (kX a r s k)) k := by rw [← hSC, K.eq, hSR]
  have hS0 : sumN (gi (kX a r s k)) k ≠ 0 := by rw [← hSR]; exact K.tot
  have clr : ∀ X : List Int, X.length = k → sumN (gi X) k ≠ 0 → (∀ p, p < k → 0 ≤ sumN (gi X) k * gi X p) → ClrP X := fun X hl h0 h => by
    refine ⟨?_, ?_⟩
    · apply Classical.byContradiction; intro hn
      apply h0
      rw [sumN_congr (g := fun _ => 0) fun p hp => by apply Classical.byContradiction; intro e; exact hn ⟨p, by omega, e⟩, sumN_zero]
    · by_cases hp : 0 < sumN (gi X) k
      · refine .inl fun p hpl => ?_
        have := h p (by omega)
        apply Classical.byContradiction; intro hneg
        have := Int.mul_neg_of_pos_of_neg hp (show gi X p < 0 by omega)
        omega
      · refine .inr fun p hpl => ?_
        have := h p (by omega)
        apply Classical.byContradiction; intro hneg
        have := Int.mul_neg_of_neg_of_pos (show sumN (gi X) k < 0 by omega) (show 0 < gi X p by omega)
        omega
  have cx : ClrP (kX a r s k) := clr _ (kX_len _ _ _ _) hS0 fun p hp => by
    have := K.x p hp; rw [hSR, hR p hp] at this; exact this
  have cy : ClrP (kY a r s k) := clr _ (kY_len _ _ _ _) (by rw [hSE]; exact hS0) fun q hq => by
    have := K.y q hq; rw [hSR, hC q hq] at this; rw [hSE]; exact this
  refine ⟨by rw [← hD]; exact K.det, cx, cy, ?_⟩
  obtain ⟨z, hz, hzp, hx, _, hzs⟩ := tot_shr (n := a.length) (kX_len a r s k) hr cx
  obtain ⟨z', hz', hzp', hy, _, hzs'⟩ := tot_shr (n := (gr a 0).length) (kY_len a r s k) hs cy
  rw [hSE] at hzs'
  have hzz : z' = z := by
    rcases hz with rfl | rfl <;> rcases hz' with rfl | rfl <;> omega
  subst hzz
  have gx := clr_pos cx
  have gy := clr_pos cy
  rw [kX_len] at gx
  rw [kY_len] at gy
  have hb := kern_best a (ntab a) (shr a.length r (kX a r s k) k) (shr (gr a 0).length s (kY a r s k) k) a.length (gr a 0).length k r s v.n1 v.m1 h1 K hr.1 hs.1 v.ntab_neg (putL_len _ _ _ _) (putL_len _ _ _ _)
    (gcdL (kX a r s k) k) (gcdL (kY a r s k) k) z' gx gy hz (by rw [hSR]; exact hzs)
    (fun i hi => by
      rw [hx i hi]; congr 1
      exact sumN_congr fun p hp => by rw [hR p hp])
    (fun j hj => by
      rw [hy j hj]; congr 1
      exact sumN_congr fun q hq => by rw [hC q hq])
  rw [wlast_def a _ _ _ rfl rfl, wlast_def (ntab a) _ _ _ (ntab_len a) v.ntab_m]
  exact hb
theorem ker_exists {a : List (List Int)} (v : VT a) : ∃ k r s, 1 ≤ k ∧ k ≤ 3 ∧ Asc a.length k r ∧ Asc (gr a 0).length k s ∧ KerP a k r s := by
  obtain ⟨k, r, s, h1, h3, hr, hs, K⟩ := V.kern_exists (up18 a a.length (gr a 0).length) a.length (gr a 0).length v.n1 v.m1 v.n3 v.m3
    (fun i j hi hj => by rw [up18_in hi hj]; have := v.bd hi hj; omega) (fun i j h => by unfold up18; rw [if_neg h])
  exact ⟨k, r, s, h1, h3, hr, hs, ker_of v h1 h3 hr hs K⟩
end Go.Proofs.Ytbpjblefmammcaa

/- Best shares by a part of a table, by the model. -/
namespace Go.Proofs.Ytbpjblefmammcaa
open Go.RowKit
open V (sumN detN rowC colC cofN minorN skip sgn Asc Kern)

/-- Shares by a part, and that they are best; or that there are none. -/
def NewK (w : World) (a : List (List Int)) (k : Nat) (r s : Nat → Nat) (e : Ending) (w' : World) : Prop :=
  (KerP a k r s ∧ ∃ A1 c1 A2 c2, e = .returned (.tuple #[.slice A1 a.length c1, .slice A2 (gr a 0).length c2, .bool true]) ∧ Ints w' A1 a.length c1 (shr a.length r (kX a r s k) k) ∧
    Ints w' A2 (gr a 0).length c2 (shr (gr a 0).length s (kY a r s k) k) ∧ Below w.heap.size w w') ∨
  (¬ KerP a k r s ∧ ∃ v1 v2, e = .returned (.tuple #[v1, v2, .bool false]) ∧ Below w.heap.size w w')
theorem flip_tr {xss : List (List Int)} {k : Nat} {f : Nat → Nat → Int} (h : Sq k xss f) : Sq k (flip xss k k) (trN f) :=
  ⟨flip_len _ _ _, fun p hp => by rw [gr_flip hp]; simp, fun p q hp hq => by
    unfold g2; rw [gr_flip hp, gi_col hq]; exact h.eq q p hq hp⟩
theorem Pl.keep {w w' : World} {X k c r n} (h : Pl w X k c r n) (q : Keep w w') : Pl w' X k c r n := ⟨h.ints.keep q, h.lt⟩

/-- What cleared answers, with its flag as a letter. -/
def ClrV (w' : World) (xs : List Int) (ok : Bool) (v : Value) : Prop :=
  (ok = true ∧ ClrP xs ∧ ∃ A c, v = .slice A xs.length c ∧ Ints w' A xs.length c (clrL xs (gcdL xs xs.length) xs.length)) ∨ (ok = false ∧ ¬ ClrP xs)
theorem NewC.uni {w w' : World} {xs : List Int} {e : Ending} (h : NewC w xs e w') : ∃ ok v, e = .returned (.tuple #[v, .bool ok]) ∧ Below w.heap.size w w' ∧ ClrV w' xs ok v := by
  rcases h with ⟨h1, A, n, c, g, rfl, rfl, ho, hb⟩ | ⟨h1, rfl, hb⟩
  · exact ⟨true, _, rfl, hb, .inl ⟨rfl, h1, A, c, rfl, ho.ints⟩⟩
  · exact ⟨false, _, rfl, hb, .inr ⟨rfl, h1⟩⟩
theorem ClrV.keep {w' w2 : World} {xs : List Int} {ok : Bool} {v : Value} (h : ClrV w' xs ok v) (k : Keep w' w2) : ClrV w2 xs ok v := by
  rcases h with ⟨h1, h2, A, c, h3, h4⟩ | h
  · exact .inl ⟨h1, h2, A, c, h3, h4.keep k⟩
  · exact .inr h
theorem mid_of {x : Int} (h : -648 ≤ x ∧ x ≤ 648) : Mid x := by unfold Mid; omega

end Go.Proofs.Ytbpjblefmammcaa

/- The first part of a table that tells best shares; the best shares. Plain. -/
namespace Go.Proofs.Ytbpjblefmammcaa
open V (sumN detN rowC colC cofN minorN skip sgn Asc Kern)

def idx (S n : Nat) : Nat → Nat := fun p => (gi (memL S n) p).toNat
theorem memL_lt (S : Nat) : ∀ n p q, p < q → q < (memL S n).length → gi (memL S n) p < gi (memL S n) q
  | 0, p, q, _, h => by simp [memL] at h
  | n + 1, p, q, hpq, h => by
    by_cases e : S / 2 ^ n % 2 = 1
    · rw [memL_yes e] at h ⊢
      rw [List.length_append, List.length_singleton] at h
      by_cases hq : q < (memL S n).length
      · rw [gi_snoc_lt hq, gi_snoc_lt (by omega)]; exact memL_lt S n p q hpq hq
      · obtain rfl : q = (memL S n).length := by omega
        rw [gi_snoc_eq, gi_snoc_lt hpq]
        exact (memL_bd S n _ (gi_mem hpq)).2
    · rw [memL_no e] at h ⊢; exact memL_lt S n p q hpq h
theorem idx_int {S n p : Nat} (h : p < (memL S n).length) : ((idx S n p : Nat) : Int) = gi (memL S n) p := by
  have := (memL_bd S n _ (gi_mem h)).1
  unfold idx; omega
theorem idx_asc (S n : Nat) : Asc n (memL S n).length (idx S n) := by
  refine ⟨fun p hp => ?_, fun p hp => ?_⟩
  · have := (memL_bd S n _ (gi_mem hp)).2
    have := idx_int hp
    omega
  · have := memL_lt S n p (p + 1) (by omega) hp
    have := idx_int hp
    have := idx_int (S := S) (n := n) (p := p) (by omega)
    omega
theorem memL_idx (S n : Nat) : memL S n = lstN (idx S n) (memL S n).length :=
  gi_ext (by rw [lstN_len]) fun p hp => by rw [gi_lstN hp, idx_int hp]
theorem memL_mod : ∀ S, S < 8 → ∀ m, m < 4 → memL (S % 2 ^ m) m = memL S m := by decide
theorem memL_all3 : ∀ S, S < 8 → ∀ n, n < 4 → S < 2 ^ n → memL S 3 = memL S n := by decide
theorem memL_three : ∀ S, S < 8 → (memL S 3).length ≤ 3 := by decide

theorem set_of {n k : Nat} {r : Nat → Nat} (hn : n ≤ 3) (h1 : 1 ≤ k) (hr : Asc n k r) : ∃ S, 1 ≤ S ∧ S < 2 ^ n ∧ memL S n = lstN r k := by
  have hkn : k ≤ n := by
    have : ∀ p, p < k → p ≤ r p := fun p => by
      induction p with
      | zero => intro _; omega
      | succ p ih => intro hp; have := ih (by omega); have := hr.2 p hp; omega
    have h := this (k - 1) (by omega)
    have := hr.1 (k - 1) (by omega)
    omega
  have k3 : k = 1 ∨ k = 2 ∨ k = 3 := by omega
  have n3 : n = 1 ∨ n = 2 ∨ n = 3 := by omega
  rcases k3 with rfl | rfl | rfl
  · have h0 := hr.1 0 (by omega)
    have e : lstN r 1 = [(r 0 : Int)] := by simp [lstN, List.range_succ]
    rw [e]
    generalize r 0 = u at *
    rcases n3 with rfl | rfl | rfl
    · obtain rfl : u = 0 := by omega
      exact ⟨1, by decide⟩
    · have : u = 0 ∨ u = 1 := by omega
      rcases this with rfl | rfl
      · exact ⟨1, by decide⟩
      · exact ⟨2, by decide⟩
    · have : u = 0 ∨ u = 1 ∨ u = 2 := by omega
      rcases this with rfl | rfl | rfl
      · exact ⟨1, by decide⟩
      · exact ⟨2, by decide⟩
      · exact ⟨4, by decide⟩
  · have h0 := hr.1 0 (by omega)
    have h1 := hr.1 1 (by omega)
    have h2 := hr.2 0 (by omega)
    have e : lstN r 2 = [(r 0 : Int), (r 1 : Int)] := by simp [lstN, List.range_succ]
    rw [e]
    simp only [Nat.zero_add] at h2
    generalize r 0 = u at *
    generalize r 1 = t at *
    rcases n3 with rfl | rfl | rfl
    · omega
    · obtain ⟨rfl, rfl⟩ : u = 0 ∧ t = 1 := by omega
      exact ⟨3, by decide⟩
    · have : (u = 0 ∧ t = 1) ∨ (u = 0 ∧ t = 2) ∨ (u = 1 ∧ t = 2) := by omega
      rcases this with ⟨rfl, rfl⟩ | ⟨rfl, rfl⟩ | ⟨rfl, rfl⟩
      · exact ⟨3, by decide⟩
      · exact ⟨5, by decide⟩
      · exact ⟨6, by decide⟩
  · have h0 := hr.1 0 (by omega)
    have h1 := hr.1 1 (by omega)
    have h2 := hr.1 2 (by omega)
    have h3 := hr.2 0 (by omega)
    have h4 := hr.2 1 (by omega)
    have e : lstN r 3 = [(r 0 : Int), (r 1 : Int), (r 2 : Int)] := by simp [lstN, List.range_succ]
    rw [e]
    simp only [Nat.zero_add, Nat.reduceAdd] at h3 h4
    generalize r 0 = u at *
    generalize r 1 = t at *
    generalize r 2 = z at *
    obtain rfl : n = 3 := by omega
    obtain ⟨rfl, rfl, rfl⟩ : u = 0 ∧ t = 1 ∧ z = 2 := by omega
    exact ⟨7, by decide⟩

theorem putL_congr {n : Nat} {r r' : Nat → Nat} {xs : List Int} : ∀ {k}, (∀ p, p < k → r p = r' p) → putL n r xs k = putL n r' xs k
  | 0, _ => rfl
  | k + 1, h => by rw [putL, putL, putL_congr (k := k) fun p hp => h p (by omega), h k (by omega)]
theorem kX_congr {a : List (List Int)} {k : Nat} {r r' s s' : Nat → Nat} (hr : ∀ p, p < k → r p = r' p) (hs : ∀ p, p < k → s p = s' p) : kX a r s k = kX a r' s' k :=
  gi_ext (by rw [kX_len, kX_len]) fun p hp => by
    rw [kX_len] at hp
    unfold kX; rw [gi_cofL hp, gi_cofL hp]
    exact rowC_congr (fun i j hi hj => by unfold kf; rw [hr i hi, hs j hj]) hp
theorem kY_congr {a : List (List Int)} {k : Nat} {r r' s s' : Nat → Nat} (hr : ∀ p, p < k → r p = r' p) (hs : ∀ p, p < k → s p = s' p) : kY a r s k = kY a r' s' k :=
  gi_ext (by rw [kY_len, kY_len]) fun p hp => by
    rw [kY_len] at hp
    unfold kY; rw [gi_cofL hp, gi_cofL hp]
    exact rowC_congr (fun i j hi hj => by unfold trN kf; rw [hr j hj, hs i hi]) hp
theorem KerP.congr {a : List (List Int)} {k : Nat} {r r' s s' : Nat → Nat} (hr : ∀ p, p < k → r p = r' p) (hs : ∀ p, p < k → s p = s' p) (h : KerP a k r s) : KerP a k r' s' := by
  have e1 := kX_congr (a := a) hr hs
  have e2 := kY_congr (a := a) hr hs
  refine ⟨?_, by rw [← e1]; exact h.cx, by rw [← e2]; exact h.cy, ?_⟩
  · rw [← detN_congr k (f := kf a r s) fun p q hp hq => by unfold kf; rw [hr p hp, hs q hq]]; exact h.det
  · have := h.eq
    unfold shr at this ⊢
    rw [← e1, ← e2, ← putL_congr hr, ← putL_congr hs]
    exact this

/-- The part with these sets of rows and columns tells best shares. -/
def kerAt (a : List (List Int)) (S T : Nat) : Prop :=
  1 ≤ (memL S a.length).length ∧ (memL S a.length).length = (memL T (gr a 0).length).length ∧ KerP a (memL S a.length).length (idx S a.length) (idx T (gr a 0).length)
structure FirstK (a : List (List Int)) (S T : Nat) : Prop where
  s1 : 1 ≤ S
  sn : S < 2 ^ a.length
  t1 : 1 ≤ T
  tm : T < 2 ^ (gr a 0).length
  at_ : kerAt a S T
  noS : ∀ S' T', 1 ≤ S' → S' < S → 1 ≤ T' → T' < 8 → ¬ kerAt a S' T'
  noT : ∀ T', 1 ≤ T' → T' < T → ¬ kerAt a S T'
theorem pow_le8 {n : Nat} (h : n ≤ 3) : 2 ^ n ≤ 8 := by
  have : n = 0 ∨ n = 1 ∨ n = 2 ∨ n = 3 := by omega
  rcases this with rfl | rfl | rfl | rfl <;> decide
theorem least_of {P : Nat → Prop} : ∀ n, P n → ∃ m, m ≤ n ∧ P m ∧ ∀ k, k < m → ¬ P k := fun n => by
  induction n using Nat.strongRecOn with
  | _ n ih =>
    intro h
    by_cases e : ∃ k, k < n ∧ P k
    · obtain ⟨k, hk, hp⟩ := e
      obtain ⟨m, hm, h1, h2⟩ := ih k hk hp
      exact ⟨m, by omega, h1, h2⟩
    · exact ⟨n, Nat.le_refl _, h, fun k hk hp => e ⟨k, hk, hp⟩⟩
theorem kerAt_mod {a : List (List Int)} (v : VT a) {S T : Nat} (hT : T < 8) (h : kerAt a S T) : kerAt a S (T % 2 ^ (gr a 0).length) ∧ 1 ≤ T % 2 ^ (gr a 0).length := by
  have e := memL_mod T hT (gr a 0).length (by have := v.m3; omega)
  have e2 : idx (T % 2 ^ (gr a 0).length) (gr a 0).length = idx T (gr a 0).length := by unfold idx; rw [e]
  refine ⟨by unfold kerAt; rw [e, e2]; exact h, ?_⟩
  apply Classical.byContradiction; intro hn
  have h0 : T % 2 ^ (gr a 0).length = 0 := by omega
  have h1 := h.1
  rw [h.2.1, ← e, h0] at h1
  have z : ∀ m, memL 0 m = [] := fun m => by
    induction m with
    | zero => rfl
    | succ m ih => rw [memL_no (by simp), ih]
  rw [z] at h1
  simp at h1
theorem first_exists {a : List (List Int)} (v : VT a) : ∃ S T, FirstK a S T := by
  obtain ⟨k, r, s, h1, h3, hr, hs, K⟩ := ker_exists v
  obtain ⟨S0, s1, sn, es⟩ := set_of v.n3 h1 hr
  obtain ⟨T0, t1, tm, et⟩ := set_of v.m3 h1 hs
  have p8 := pow_le8 v.m3
  have ls : (memL S0 a.length).length = k := by rw [es, lstN_len]
  have lt : (memL T0 (gr a 0).length).length = k := by rw [et, lstN_len]
  have h0 : kerAt a S0 T0 := by
    refine ⟨by omega, by omega, ?_⟩
    rw [ls]
    exact K.congr (fun p hp => by unfold idx; rw [es, gi_lstN hp]; rfl) (fun p hp => by unfold idx; rw [et, gi_lstN hp]; rfl)
  obtain ⟨S, hS, ⟨hS1, T1, hT1, hT8, hK⟩, hSm⟩ := least_of (P := fun S => 1 ≤ S ∧ ∃ T, 1 ≤ T ∧ T < 8 ∧ kerAt a S T) S0 ⟨s1, T0, t1, by omega, h0⟩
  obtain ⟨T, hT, ⟨hT1', hK'⟩, hTm⟩ := least_of (P := fun T => 1 ≤ T ∧ kerAt a S T) T1 ⟨hT1, hK⟩
  refine ⟨S, T, hS1, by omega, hT1', ?_, hK', fun S' T' h1 h2 h3 h4 h5 => hSm S' h2 ⟨h1, T', h3, h4, h5⟩, fun T' h1 h2 h3 => hTm T' h2 ⟨h1, h3⟩⟩
  apply Classical.byContradiction; intro hn
  obtain ⟨q1, q2⟩ := kerAt_mod v (show T < 8 by omega) hK'
  have hlt : T % 2 ^ (gr a 0).length < 2 ^ (gr a 0).length := Nat.mod_lt _ (by have := Nat.two_pow_pos (gr a 0).length; omega)
  exact hTm _ (by omega) ⟨q2, q1⟩

/-- The sets of the first such part, and the shares that it tells. -/
noncomputable def vST (a : List (List Int)) : Nat × Nat := @dite _ (∃ p : Nat × Nat, FirstK a p.1 p.2) (Classical.propDecidable _) (fun h => Classical.choose h) fun _ => (0, 0)
noncomputable def vS (a : List (List Int)) : Nat := (vST a).1
noncomputable def vT (a : List (List Int)) : Nat := (vST a).2
theorem first_of {a : List (List Int)} (v : VT a) : FirstK a (vS a) (vT a) := by
  have h : ∃ p : Nat × Nat, FirstK a p.1 p.2 := let ⟨S, T, h⟩ := first_exists v; ⟨(S, T), h⟩
  have e : vST a = Classical.choose h := by unfold vST; rw [dif_pos h]
  unfold vS vT
  rw [e]
  exact Classical.choose_spec h
noncomputable def bxk (a : List (List Int)) : Nat := (memL (vS a) a.length).length
noncomputable def bx (a : List (List Int)) : List Int := shr a.length (idx (vS a) a.length) (kX a (idx (vS a) a.length) (idx (vT a) (gr a 0).length) (bxk a)) (bxk a)
noncomputable def by_ (a : List (List Int)) : List Int := shr (gr a 0).length (idx (vT a) (gr a 0).length) (kY a (idx (vS a) a.length) (idx (vT a) (gr a 0).length) (bxk a)) (bxk a)
theorem bxk_bd {a : List (List Int)} (v : VT a) : 1 ≤ bxk a ∧ bxk a ≤ 3 := by
  have h := (first_of v).at_.1
  have := memL_le (vS a) a.length
  have := v.n3
  unfold bxk
  omega
/-- They are best. -/
theorem best_is {a : List (List Int)} (v : VT a) : BestP a (bx a) (by_ a) := by
  have F := first_of v
  have hk := bxk_bd v
  obtain ⟨_, h2, K⟩ := F.at_
  have hr := idx_asc (vS a) a.length
  have hs := idx_asc (vT a) (gr a 0).length
  rw [← h2] at hs
  have sh := KerP.shares v hk.2 hr hs K.cx K.cy
  exact ⟨⟨v, sh.1, sh.2⟩, K.eq⟩
end Go.Proofs.Ytbpjblefmammcaa

/- The value's shares, by the model. -/
namespace Go.Proofs.Ytbpjblefmammcaa
open Go.RowKit
open V (Asc)

/-- The best shares of a table. -/
def NewV (w : World) (a : List (List Int)) (e : Ending) (w' : World) : Prop :=
  ∃ A1 c1 A2 c2, e = .returned (.tuple #[.slice A1 a.length c1, .slice A2 (gr a 0).length c2]) ∧ Ints w' A1 a.length c1 (bx a) ∧ Ints w' A2 (gr a 0).length c2 (by_ a) ∧ Below w.heap.size w w'
theorem NewK.no {w w' : World} {a : List (List Int)} {k : Nat} {r s : Nat → Nat} {e : Ending} (h : NewK w a k r s e w') (hn : ¬ KerP a k r s) : ∃ v1 v2, e = .returned (.tuple #[v1, v2, .bool false]) ∧ Below w.heap.size w w' := by
  rcases h with ⟨h1, _⟩ | ⟨_, h⟩
  · exact absurd h1 hn
  · exact h
theorem NewK.yes {w w' : World} {a : List (List Int)} {k : Nat} {r s : Nat → Nat} {e : Ending} (h : NewK w a k r s e w') (hn : KerP a k r s) :
    ∃ A1 c1 A2 c2, e = .returned (.tuple #[.slice A1 a.length c1, .slice A2 (gr a 0).length c2, .bool true]) ∧ Ints w' A1 a.length c1 (shr a.length r (kX a r s k) k) ∧
      Ints w' A2 (gr a 0).length c2 (shr (gr a 0).length s (kY a r s k) k) ∧ Below w.heap.size w w' := by
  rcases h with ⟨_, h⟩ | ⟨h1, _⟩
  · exact h
  · exact absurd hn h1
theorem memL_pl {w : World} {A : Option Addr} {n c S m : Nat} (h : Ints w A n c (memL S m)) (e : n = (memL S m).length) : Pl w A n c (idx S m) m := by
  subst e
  exact ⟨by rw [← memL_idx]; exact h, (idx_asc S m).1⟩

end Go.Proofs.Ytbpjblefmammcaa

/- A table and shares, drawn from bytes. -/
namespace Go.Proofs.Ytbpjblefmammcaa
open Go.RowKit

theorem OwnR.grown {lo hi w w' b A n c xss} {g : Nat} (h : OwnR lo hi w b A n c xss) (k : w.grownBy w' (some g)) (hg : g < lo) : OwnR lo hi w' b A n c xss :=
  h.of_blocks fun i h1 _ h3 => k.block i h3 (fun e => by injection e with e; omega)
theorem OwnI.grown {lo hi w w' b A n c xs} {g : Nat} (h : OwnI lo hi w b A n c xs) (k : w.grownBy w' (some g)) (hg : g < lo) : OwnI lo hi w' b A n c xs :=
  h.of_block fun hn => k.block _ (h.lt hn) (fun e => by obtain ⟨_, _, q, _⟩ := h.own hn; injection e with e; omega)
theorem Picked.one {w0 g A l c p n w e w'} (h : Picked w0 g A l c p n w e w') : ∃ m : Int, e = .returned (.int .i64 m) ∧ (1 ≤ n → 0 ≤ m ∧ m < n) ∧ Rdr w0 w' g A l c (p + 1) ∧ w.grownBy w' (some g) := by
  obtain ⟨m, h1, h2, _, h4, q, rfl⟩ := h
  exact ⟨m, h1, h2, h4, ⟨rfl, rfl, rfl, by simp [World.setCell], fun k _ hne => Below.heap_setCell _ _ _ _ (fun e => hne (by rw [e]))⟩⟩

/-- A table and shares. -/
def DrawnTS (w : World) (e : Ending) (w' : World) : Prop :=
  ∃ Av n c gg xss Bv m cb ys, e = .returned (.tuple #[.slice Av n c, .slice Bv m cb]) ∧ Small xss ∧ OwnR w.heap.size w'.heap.size w' gg Av n c xss ∧ Ints w' Bv m cb ys ∧ Below w.heap.size w w'
/-- A table and shares of both players. -/
def DrawnTSS (w : World) (e : Ending) (w' : World) : Prop :=
  ∃ Av n c gg xss Bv m cb xs Cv l cc ys, e = .returned (.tuple #[.slice Av n c, .slice Bv m cb, .slice Cv l cc]) ∧ Small xss ∧ OwnR w.heap.size w'.heap.size w' gg Av n c xss ∧ Ints w' Bv m cb xs ∧ Ints w' Cv l cc ys ∧ Below w.heap.size w w'

end Go.Proofs.Ytbpjblefmammcaa

/- Squares and fields drawn, with shares or alone. -/
namespace Go.Proofs.Ytbpjblefmammcaa
open Go.RowKit

set_option maxHeartbeats 400000 in
theorem DrawIsEven_any (A : Option Addr) (n c : Nat) (w : World) (h : Bytes w A n c) :
    Calls Try.prog 38 #[.slice A n c] w (DrawnT w) := by
  have H0 := Lib.hid (newReader_any A n c w h)
  clear h
  go_enter Try.func38, Try.ntmps38
  go_wp2_with fail
  refine H0.out.mono ?_
  rintro e w1 ⟨A1, l, c1, rfl, hl, hr, hs⟩
  have H1 := Lib.hid (someSquare_any w w1 w.heap.size A1 l c1 0 hr (by omega))
  clear hr hl H0
  go_wp2_with fail
  refine H1.out.mono ?_
  rintro e w2 ⟨wb, v', vs', xss', p', rfl, hsm, hto, hp, hg⟩
  have hsz := hg.size
  obtain ⟨Av, nv, cv, gg, rfl, hnv, hown⟩ := hto.bo.owns (by have := hsm.n; omega)
  have HO := Lib.hid (hown.mono (show w.heap.size ≤ wb.heap.size by omega) (Nat.le_refl _))
  have HB := Lib.hid hto.rd.below
  have HS := Lib.hid hsm
  clear hsm hto hown hg H1 hnv
  go_wp2
  go_ret
  exact ⟨_, _, _, _, _, rfl, HS.out, HO.out, HB.out⟩

end Go.Proofs.Ytbpjblefmammcaa

/- When one strategy holds against another one, by the model. -/
namespace Go.Proofs.Ytbpjblefmammcaa
open Go.RowKit

/-- Strategy i holds against j: more against i, or as much, and more against j. -/
def HoldP (a : List (List Int)) (i j : Nat) : Prop := g2 a j i < g2 a i i ∨ g2 a i i = g2 a j i ∧ g2 a j j < g2 a i j

end Go.Proofs.Ytbpjblefmammcaa

/- What is left over, by the model: numbers up to n, beaten rows, rows that are kept. -/
namespace Go.Proofs.Ytbpjblefmammcaa
open Go.RowKit

/-- Row r is more than row i in all of the first l columns told. -/
def BeatC (a : List (List Int)) (cols : List Int) (r i l : Nat) : Prop := ∀ y, y < l → g2 a i (gi cols y).toNat < g2 a r (gi cols y).toNat
theorem BeatC.zero (a : List (List Int)) (cols : List Int) (r i : Nat) : BeatC a cols r i 0 := fun _ h => absurd h (by omega)
theorem BeatC.succ {a : List (List Int)} {cols : List Int} {r i l : Nat} : BeatC a cols r i (l + 1) ↔ BeatC a cols r i l ∧ g2 a i (gi cols l).toNat < g2 a r (gi cols l).toNat := by
  constructor
  · exact fun h => ⟨fun j hj => h j (by omega), h l (by omega)⟩
  · rintro ⟨h1, h2⟩ j hj
    by_cases e : j = l
    · subst e; exact h2
    · exact h1 j (by omega)
def Beaten (a : List (List Int)) (rows cols : List Int) (i : Nat) : Prop := ∃ x, x < rows.length ∧ BeatC a cols (gi rows x).toNat i cols.length
/-- The rows before place k that are not beaten. -/
noncomputable def keepL (a : List (List Int)) (rows cols : List Int) : Nat → List Int
  | 0 => []
  | k + 1 => keepL a rows cols k ++ (if pb (Beaten a rows cols (gi rows k).toNat) = true then [] else [gi rows k])
theorem keepL_no {a : List (List Int)} {rows cols : List Int} {k : Nat} (h : Beaten a rows cols (gi rows k).toNat) : keepL a rows cols (k + 1) = keepL a rows cols k := by rw [keepL, if_pos (pb_true h), List.append_nil]
theorem keepL_yes {a : List (List Int)} {rows cols : List Int} {k : Nat} (h : ¬ Beaten a rows cols (gi rows k).toNat) : keepL a rows cols (k + 1) = keepL a rows cols k ++ [gi rows k] := by rw [keepL, if_neg (by rw [pb_false h]; decide)]
theorem keepL_len (a : List (List Int)) (rows cols : List Int) : ∀ k, (keepL a rows cols k).length ≤ k
  | 0 => by simp [keepL]
  | k + 1 => by
    have := keepL_len a rows cols k
    rw [keepL, List.length_append]
    split <;> simp <;> omega
theorem keepL_mem (a : List (List Int)) (rows cols : List Int) : ∀ k, ∀ y ∈ keepL a rows cols k, ∃ j, j < k ∧ y = gi rows j
  | 0, y, h => by simp [keepL] at h
  | k + 1, y, h => by
    rw [keepL, List.mem_append] at h
    rcases h with h | h
    · obtain ⟨j, hj, e⟩ := keepL_mem a rows cols k y h; exact ⟨j, by omega, e⟩
    · split at h
      · simp at h
      · simp only [List.mem_singleton] at h; exact ⟨k, by omega, h⟩
/-- The numbers before n. -/
def upL (n : Nat) : List Int := (List.range n).map fun (k : Nat) => (k : Int)
theorem upL_succ (n : Nat) : upL (n + 1) = upL n ++ [(n : Int)] := by simp [upL, List.range_succ]
theorem upL_len (n : Nat) : (upL n).length = n := by simp [upL]
theorem upL_bd (n : Nat) : ∀ y ∈ upL n, 0 ≤ y ∧ y < (n : Int) := fun y h => by
  simp only [upL, List.mem_map, List.mem_range] at h
  obtain ⟨k, hk, rfl⟩ := h
  omega

end Go.Proofs.Ytbpjblefmammcaa

/- What is left over, as sets: f tells which of the first n numbers are left. Plain. -/
namespace Go.Proofs.Ytbpjblefmammcaa

theorem keepL_filter (a : List (List Int)) (rows cols : List Int) : ∀ k, k ≤ rows.length → keepL a rows cols k = (rows.take k).filter fun y => !pb (Beaten a rows cols y.toNat)
  | 0, _ => by simp [keepL]
  | k + 1, h => by
    have hk : k < rows.length := by omega
    rw [keepL, keepL_filter a rows cols k (by omega), List.take_succ_eq_append_getElem hk, List.filter_append, gi_get hk]
    congr 1
    cases e : pb (Beaten a rows cols (rows[k].toNat)) <;> simp [e]
theorem keepL_all (a : List (List Int)) (rows cols : List Int) : keepL a rows cols rows.length = rows.filter fun y => !pb (Beaten a rows cols y.toNat) := by
  rw [keepL_filter a rows cols _ (Nat.le_refl _), List.take_length]
/-- The numbers before n that f tells, ascending. -/
def selL (f : Nat → Bool) (n : Nat) : List Int := ((List.range n).filter f).map fun (k : Nat) => (k : Int)
theorem selL_up (n : Nat) : selL (fun _ => true) n = upL n := by unfold selL upL; rw [List.filter_eq_self.2 (fun _ _ => rfl)]
theorem selL_mem {f : Nat → Bool} {n : Nat} {y : Int} : y ∈ selL f n ↔ ∃ k : Nat, k < n ∧ f k = true ∧ y = k := by
  simp only [selL, List.mem_map, List.mem_filter, List.mem_range]
  constructor
  · rintro ⟨k, ⟨h1, h2⟩, rfl⟩; exact ⟨k, h1, h2, rfl⟩
  · rintro ⟨k, h1, h2, rfl⟩; exact ⟨k, ⟨h1, h2⟩, rfl⟩
theorem selL_len (f : Nat → Bool) (n : Nat) : (selL f n).length ≤ n := by
  have := List.length_filter_le f (List.range n)
  simp [selL] at this ⊢; exact this
theorem selL_bd {f : Nat → Bool} {n x : Nat} (h : x < (selL f n).length) : 0 ≤ gi (selL f n) x ∧ gi (selL f n) x < n := by
  rw [gi_get h]
  obtain ⟨k, hk, _, e⟩ := selL_mem.1 (List.getElem_mem h)
  omega
/-- Row i is beaten among those that f tells, against the columns that h tells. -/
def BT (a : List (List Int)) (f h : Nat → Bool) (n m i : Nat) : Prop := ∃ r, r < n ∧ f r = true ∧ ∀ y, y < m → h y = true → g2 a i y < g2 a r y
theorem beaten_sel {a : List (List Int)} {f h : Nat → Bool} {n m i : Nat} : Beaten a (selL f n) (selL h m) i ↔ BT a f h n m i := by
  constructor
  · rintro ⟨x, hx, hb⟩
    obtain ⟨r, hr, hf, e⟩ := selL_mem.1 (List.getElem_mem hx)
    refine ⟨r, hr, hf, fun y hy hh => ?_⟩
    obtain ⟨l, hl, e2⟩ := List.mem_iff_getElem.1 (selL_mem.2 ⟨y, hy, hh, rfl⟩ : (y : Int) ∈ selL h m)
    have := hb l hl
    rw [gi_get hl, e2, gi_get hx, e] at this
    simpa using this
  · rintro ⟨r, hr, hf, hb⟩
    obtain ⟨x, hx, e⟩ := List.mem_iff_getElem.1 (selL_mem.2 ⟨r, hr, hf, rfl⟩ : (r : Int) ∈ selL f n)
    refine ⟨x, hx, fun l hl => ?_⟩
    obtain ⟨y, hy, hh, e2⟩ := selL_mem.1 (List.getElem_mem hl)
    rw [gi_get hl, e2, gi_get hx, e]
    simpa using hb y hy hh
/-- Those that stay. -/
noncomputable def stayF (a : List (List Int)) (f h : Nat → Bool) (n m : Nat) : Nat → Bool := fun i => f i && !pb (BT a f h n m i)
theorem keepL_sel (a : List (List Int)) (f h : Nat → Bool) (n m : Nat) : keepL a (selL f n) (selL h m) (selL f n).length = selL (stayF a f h n m) n := by
  rw [keepL_all]
  unfold selL stayF
  rw [List.filter_map, List.filter_filter]
  congr 1
  apply List.filter_congr
  intro k _
  have e : pb (Beaten a (selL f n) (selL h m) k) = pb (BT a f h n m k) := pb_congr beaten_sel
  unfold selL at e
  simp only [Function.comp, Int.toNat_natCast]
  rw [e, Bool.and_comm]
/-- One round: first the rows, then the columns against the rows that stay. -/
noncomputable def loStep (a b : List (List Int)) (n m : Nat) (s : (Nat → Bool) × (Nat → Bool)) : (Nat → Bool) × (Nat → Bool) :=
  (stayF a s.1 s.2 n m, stayF b s.2 (stayF a s.1 s.2 n m) m n)
noncomputable def loIt (a b : List (List Int)) (n m : Nat) : Nat → (Nat → Bool) × (Nat → Bool)
  | 0 => (fun _ => true, fun _ => true)
  | k + 1 => loStep a b n m (loIt a b n m k)
/-- The same numbers before n and before m. -/
def SameS (n m : Nat) (s t : (Nat → Bool) × (Nat → Bool)) : Prop := (∀ i, i < n → s.1 i = t.1 i) ∧ ∀ j, j < m → s.2 j = t.2 j
theorem BT_congr {a : List (List Int)} {f f' h h' : Nat → Bool} {n m : Nat} (hf : ∀ i, i < n → f i = f' i) (hh : ∀ j, j < m → h j = h' j) (i : Nat) : BT a f h n m i ↔ BT a f' h' n m i := by
  constructor
  · rintro ⟨r, h1, h2, h3⟩; exact ⟨r, h1, by rw [← hf r h1]; exact h2, fun y hy e => h3 y hy (by rw [hh y hy]; exact e)⟩
  · rintro ⟨r, h1, h2, h3⟩; exact ⟨r, h1, by rw [hf r h1]; exact h2, fun y hy e => h3 y hy (by rw [← hh y hy]; exact e)⟩
theorem stayF_congr {a : List (List Int)} {f f' h h' : Nat → Bool} {n m : Nat} (hf : ∀ i, i < n → f i = f' i) (hh : ∀ j, j < m → h j = h' j) (i : Nat) (hi : i < n) : stayF a f h n m i = stayF a f' h' n m i := by
  unfold stayF; rw [hf i hi, pb_congr (BT_congr hf hh i)]
theorem loStep_congr {a b : List (List Int)} {n m : Nat} {s t : (Nat → Bool) × (Nat → Bool)} (h : SameS n m s t) : SameS n m (loStep a b n m s) (loStep a b n m t) := by
  have h1 : ∀ i, i < n → stayF a s.1 s.2 n m i = stayF a t.1 t.2 n m i := fun i hi => stayF_congr h.1 h.2 i hi
  exact ⟨h1, fun j hj => stayF_congr h.2 h1 j hj⟩
theorem SameS.trans {n m s t u} (h : SameS n m s t) (k : SameS n m t u) : SameS n m s u := ⟨fun i hi => (h.1 i hi).trans (k.1 i hi), fun j hj => (h.2 j hj).trans (k.2 j hj)⟩
theorem SameS.symm {n m s t} (h : SameS n m s t) : SameS n m t s := ⟨fun i hi => (h.1 i hi).symm, fun j hj => (h.2 j hj).symm⟩
theorem SameS.refl (n m : Nat) (s : (Nat → Bool) × (Nat → Bool)) : SameS n m s s := ⟨fun _ _ => rfl, fun _ _ => rfl⟩
/-- Where a round changes nothing, none behind it does. -/
theorem loIt_fix {a b : List (List Int)} {n m k : Nat} (h : SameS n m (loIt a b n m (k + 1)) (loIt a b n m k)) : ∀ l, SameS n m (loIt a b n m (k + l)) (loIt a b n m k)
  | 0 => SameS.refl _ _ _
  | l + 1 => (show SameS n m (loStep a b n m (loIt a b n m (k + l))) (loIt a b n m k) from (loStep_congr (loIt_fix h l)).trans h)
/-- Two rounds that change nothing agree. -/
theorem loIt_one {a b : List (List Int)} {n m k l : Nat} (h : SameS n m (loIt a b n m (k + 1)) (loIt a b n m k)) (h' : SameS n m (loIt a b n m (l + 1)) (loIt a b n m l)) : SameS n m (loIt a b n m k) (loIt a b n m l) := by
  by_cases e : k ≤ l
  · obtain ⟨d, rfl⟩ := Nat.le.dest e; exact (loIt_fix h d).symm
  · obtain ⟨d, rfl⟩ := Nat.le.dest (show l ≤ k by omega); exact loIt_fix h' d
theorem selL_congr {f g : Nat → Bool} {n : Nat} (h : ∀ i, i < n → f i = g i) : selL f n = selL g n := by
  unfold selL; congr 1; exact List.filter_congr fun k hk => h k (List.mem_range.1 hk)
/-- What stays is all, if it is as many. -/
theorem sel_same {f g : Nat → Bool} {n : Nat} (hs : ∀ i, g i = true → f i = true) (h : (selL g n).length = (selL f n).length) : ∀ i, i < n → g i = f i := by
  have hl : (selL f n).filter (fun y => g y.toNat) = selL g n := by
    unfold selL
    rw [List.filter_map, List.filter_filter]
    congr 1
    apply List.filter_congr
    intro k _
    simp only [Function.comp, Int.toNat_natCast]
    cases e : g k
    · simp
    · rw [hs k e]; rfl
  have hall : ∀ y ∈ selL f n, g y.toNat = true := List.length_filter_eq_length_iff.1 (by rw [hl]; exact h)
  intro i hi
  cases e : f i
  · cases e2 : g i
    · rfl
    · rw [hs i e2] at e; cases e
  · simpa using hall i (selL_mem.2 ⟨i, hi, e, rfl⟩)
theorem stay_sub {a : List (List Int)} {f h : Nat → Bool} {n m i : Nat} (e : stayF a f h n m i = true) : f i = true := by
  unfold stayF at e; simp at e; exact e.1
theorem stay_le (a : List (List Int)) (f h : Nat → Bool) (n m : Nat) : (selL (stayF a f h n m) n).length ≤ (selL f n).length := by
  rw [← keepL_sel]; exact keepL_len a (selL f n) (selL h m) _
/-- As many as before: nothing was left out. -/
theorem lo_same {a b : List (List Int)} {n m : Nat} {s : (Nat → Bool) × (Nat → Bool)}
    (h : (selL (loStep a b n m s).1 n).length + (selL (loStep a b n m s).2 m).length = (selL s.1 n).length + (selL s.2 m).length) : SameS n m (loStep a b n m s) s := by
  have h1 := stay_le a s.1 s.2 n m
  have h2 := stay_le b s.2 (stayF a s.1 s.2 n m) m n
  simp only [loStep] at h
  exact ⟨sel_same (fun i => stay_sub) (by show (selL (stayF a s.1 s.2 n m) n).length = _; omega), sel_same (fun i => stay_sub) (by show (selL (stayF b s.2 (stayF a s.1 s.2 n m) m n) m).length = _; omega)⟩
theorem lo_less {a b : List (List Int)} {n m : Nat} {s : (Nat → Bool) × (Nat → Bool)}
    (h : (selL (loStep a b n m s).1 n).length + (selL (loStep a b n m s).2 m).length ≠ (selL s.1 n).length + (selL s.2 m).length) : (selL (loStep a b n m s).1 n).length + (selL (loStep a b n m s).2 m).length < (selL s.1 n).length + (selL s.2 m).length := by
  have h1 := stay_le a s.1 s.2 n m
  have h2 := stay_le b s.2 (stayF a s.1 s.2 n m) m n
  simp only [loStep] at h ⊢
  omega
end Go.Proofs.Ytbpjblefmammcaa

/- What is left over, by the program: rows compared at marks, beaten rows. -/
namespace Go.Proofs.Ytbpjblefmammcaa
open Go.RowKit

def cs3 (x : Nat → Int) : Array Value := #[.int .i64 (x 0), .int .i64 (x 1), .int .i64 (x 2)]
def bs3 (h : Nat → Bool) : Array Value := #[.bool (h 0), .bool (h 1), .bool (h 2)]
theorem cs3_get (x : Nat → Int) {k : Nat} (h : k < 3) : (cs3 x)[k]? = some (.int .i64 (x k)) := by
  have : k = 0 ∨ k = 1 ∨ k = 2 := by omega
  rcases this with rfl | rfl | rfl <;> rfl
theorem bs3_get (x : Nat → Bool) {k : Nat} (h : k < 3) : (bs3 x)[k]? = some (.bool (x k)) := by
  have : k = 0 ∨ k = 1 ∨ k = 2 := by omega
  rcases this with rfl | rfl | rfl <;> rfl
/-- Less at all marks. -/
def LA (x y : Nat → Int) (h : Nat → Bool) (l : Nat) : Prop := ∀ j, j < l → h j = true → x j < y j

end Go.Proofs.Ytbpjblefmammcaa

/- What is left over, by the program: is a row beaten. -/
namespace Go.Proofs.Ytbpjblefmammcaa
open Go.RowKit

/-- One of the first l own rows that are marked is more than row i at all marks of the other. -/
def BM (f : Nat → Nat → Int) (own h : Nat → Bool) (i l : Nat) : Prop := ∃ k, k < l ∧ own k = true ∧ LA (f i) (f k) h 3

end Go.Proofs.Ytbpjblefmammcaa

/- What is left over, by the program: who stays. -/
namespace Go.Proofs.Ytbpjblefmammcaa
open Go.RowKit

theorem und_marks : Try.prog.underlying 80 = some (.array 3 4) := by kernel_rfl
noncomputable def stM (f : Nat → Nat → Int) (own h : Nat → Bool) : Nat → Bool := fun i => own i && !pb (BM f own h i 3)
/-- The first k of them. -/
def partB (s : Nat → Bool) (k : Nat) : Nat → Bool := fun j => if j < k then s j else false
theorem partB_zero (s : Nat → Bool) : bs3 (partB s 0) = #[.bool false, .bool false, .bool false] := by simp [bs3, partB]
theorem partB_set (s : Nat → Bool) {k : Nat} (h : k < 3) : (bs3 (partB s k)).setIfInBounds k (.bool (s k)) = bs3 (partB s (k + 1)) := by
  have : k = 0 ∨ k = 1 ∨ k = 2 := by omega
  rcases this with rfl | rfl | rfl <;> simp [bs3, partB]
theorem partB_all (s : Nat → Bool) : bs3 (partB s 3) = bs3 s := by simp [bs3, partB]
/-- The boxes of unbeaten. -/
structure UW (f : Nat → Nat → Int) (own h s : Nat → Bool) (w : World) (k : Nat) (W : World) : Prop where
  tab : Blk W w.heap.size 75 (cs9 f)
  own : Blk W (w.heap.size + 1) 80 (bs3 own)
  oth : Blk W (w.heap.size + 1 + 1) 80 (bs3 h)
  box : Blk W (w.heap.size + 1 + 1 + 1) 80 #[.bool false, .bool false, .bool false]
  var : Blk W (w.heap.size + 1 + 1 + 1 + 1) 80 (bs3 (partB s k))
  below : Below w.heap.size w W
theorem UW.up {f own h s w k W W'} (u : UW f own h s w k W) (b : Below W.heap.size W W') : UW f own h s w k W' :=
  ⟨blk_below u.tab b, blk_below u.own b, blk_below u.oth b, blk_below u.box b, blk_below u.var b, below_up u.below b⟩
theorem UW.put {f own h s w k W} (u : UW f own h s w k W) (hk : k < 3) : UW f own h s w (k + 1) (W.setCell ⟨w.heap.size + 1 + 1 + 1 + 1, k, none⟩ (.bool (s k))) :=
  ⟨blk_other u.tab (by show w.heap.size ≠ w.heap.size + 1 + 1 + 1 + 1; omega) _, blk_other u.own (by show w.heap.size + 1 ≠ w.heap.size + 1 + 1 + 1 + 1; omega) _, blk_other u.oth (by show w.heap.size + 1 + 1 ≠ w.heap.size + 1 + 1 + 1 + 1; omega) _,
    blk_other u.box (by show w.heap.size + 1 + 1 + 1 ≠ w.heap.size + 1 + 1 + 1 + 1; omega) _, by have := blk_set u.var k (.bool (s k)); rw [partB_set s hk] at this; exact this, u.below.setCell (by show w.heap.size ≤ w.heap.size + 1 + 1 + 1 + 1; omega) _⟩
theorem UW.start (f : Nat → Nat → Int) (own h s : Nat → Bool) (w : World) : UW f own h s w 0 (((((w.alloc (.cells (cs9 f) 75)).alloc (.cells (bs3 own) 80)).alloc (.cells (bs3 h) 80)).alloc (.cells #[.bool false, .bool false, .bool false] 80)).alloc (.cells #[.bool false, .bool false, .bool false] 80)) := by
  have b0 := blk_new w 75 (cs9 f)
  have l0 := below_alloc w (.cells (cs9 f) 75)
  have e0 : (w.alloc (.cells (cs9 f) 75)).heap.size = w.heap.size + 1 := by rw [World.size_alloc]
  generalize w.alloc (.cells (cs9 f) 75) = w1 at *
  have b1 := blk_new w1 80 (bs3 own)
  have l1 := below_alloc w1 (.cells (bs3 own) 80)
  have e1 : (w1.alloc (.cells (bs3 own) 80)).heap.size = w.heap.size + 1 + 1 := by rw [World.size_alloc, e0]
  rw [e0] at b1
  generalize w1.alloc (.cells (bs3 own) 80) = w2 at *
  have b2 := blk_new w2 80 (bs3 h)
  have l2 := below_alloc w2 (.cells (bs3 h) 80)
  have e2 : (w2.alloc (.cells (bs3 h) 80)).heap.size = w.heap.size + 1 + 1 + 1 := by rw [World.size_alloc, e1]
  rw [e1] at b2
  generalize w2.alloc (.cells (bs3 h) 80) = w3 at *
  have b3 := blk_new w3 80 #[.bool false, .bool false, .bool false]
  have l3 := below_alloc w3 (.cells #[.bool false, .bool false, .bool false] 80)
  have e3 : (w3.alloc (.cells #[.bool false, .bool false, .bool false] 80)).heap.size = w.heap.size + 1 + 1 + 1 + 1 := by rw [World.size_alloc, e2]
  rw [e2] at b3
  generalize w3.alloc (.cells #[.bool false, .bool false, .bool false] 80) = w4 at *
  have b4 := blk_new w4 80 #[.bool false, .bool false, .bool false]
  have l4 := below_alloc w4 (.cells #[.bool false, .bool false, .bool false] 80)
  rw [e3] at b4
  refine ⟨?_, ?_, ?_, ?_, by rw [partB_zero]; exact b4, below_up (below_up (below_up (below_up l0 l1) l2) l3) l4⟩
  · exact blk_below (blk_below (blk_below (blk_below b0 l1) l2) l3) l4
  · exact blk_below (blk_below (blk_below b1 l2) l3) l4
  · exact blk_below (blk_below b2 l3) l4
  · exact blk_below b3 l4

end Go.Proofs.Ytbpjblefmammcaa

/- What is left over, by the program: all marks, and the marked. -/
namespace Go.Proofs.Ytbpjblefmammcaa
open Go.RowKit

/-- The boxes of allMarks. -/
structure AW (w : World) (n k : Nat) (W : World) : Prop where
  box : Blk W w.heap.size 80 #[.bool false, .bool false, .bool false]
  var : Blk W (w.heap.size + 1) 80 (bs3 fun j => decide (j < k))
  below : Below w.heap.size w W
theorem AW.start (n : Nat) (w : World) : AW w n 0 ((w.alloc (.cells #[.bool false, .bool false, .bool false] 80)).alloc (.cells #[.bool false, .bool false, .bool false] 80)) :=
  ⟨blk_old (blk_new _ _ _) _, by have := blk_new (w.alloc (.cells #[.bool false, .bool false, .bool false] 80)) 80 #[.bool false, .bool false, .bool false]; rw [World.size_alloc] at this; exact this, below_up (below_alloc _ _) (below_alloc _ _)⟩
theorem AW.put {w n k W} (u : AW w n k W) (hk : k < 3) : AW w n (k + 1) (W.setCell ⟨w.heap.size + 1, k, none⟩ (.bool true)) :=
  ⟨blk_other u.box (by show w.heap.size ≠ w.heap.size + 1; omega) _, by
    have := blk_set u.var k (.bool true)
    have e : (bs3 fun j => decide (j < k)).setIfInBounds k (.bool true) = bs3 fun j => decide (j < k + 1) := by
      have : k = 0 ∨ k = 1 ∨ k = 2 := by omega
      rcases this with rfl | rfl | rfl <;> simp [bs3]
    rw [e] at this; exact this, u.below.setCell (by show w.heap.size ≤ w.heap.size + 1; omega) _⟩
set_option maxRecDepth 100000 in
set_option maxHeartbeats 3200000 in
theorem allMarks_any (n : Nat) (w : World) (hn : n ≤ 3) :
    Calls Try.prog 91 #[.int .i64 n] w (Ret (.agg (bs3 fun j => decide (j < n))) w) := by
  have HS := Lib.hid (AW.start n w)
  go_enter Try.func91, Try.ntmps91
  go_wp2
  generalize (w.alloc (.cells #[.bool false, .bool false, .bool false] 80)).alloc (.cells #[.bool false, .bool false, .bool false] 80) = W5 at *
  go_loopw [6] (fun s wr => ∃ k : Nat, k ≤ n ∧ s = .int .i64 k ∧ Hid (AW w n k wr)) (fun s _ => n - (intOf s).toNat)
  case atStart => exact ⟨0, by omega, rfl, HS⟩
  case round =>
    clear HS
    obtain ⟨k, hk, rfl, HU⟩ := hrel
    by_cases hlt : k < n
    · have hk3 : (k : Int) < 3 := by omega
      have HN := Lib.hid (HU.out.put (by omega))
      have c2 := blk_cell HU.out.var (bs3_get (fun j => decide (j < k)) (show k < 3 by omega))
      have c3 := blk_frozen HU.out.var k
      clear HU
      go_wp2
      clear c2 c3
      go_roundw
      case rel => exact ⟨k + 1, by omega, by go_num, HN⟩
      case measure => simp [intOf]; omega
    · obtain rfl : k = n := by omega
      have HV := Lib.hid HU.out.var
      have HX := Lib.hid HU.out.box
      have HB := Lib.hid HU.out.below
      clear HU
      obtain ⟨F, hF⟩ : ∃ F : Nat → Bool, F = fun j => decide (j < k) := ⟨_, rfl⟩
      rw [← hF] at HV
      have HF := Lib.hid hF
      clear hF
      generalize wr = W0 at *
      have HSZ : Hid ((Try.prog.info? 80).map (·.size) = some (bs3 F).size) := Lib.hid (by show _ = some 3; kernel_rfl)
      have HS1 : Hid ((bs3 F).all (·.oneCell') = true) := Lib.hid (by simp [bs3, Value.oneCell'])
      go_wp2_with (first | (refine wpList_load_row rfl 80 _ rfl (w.heap.size + 1) rfl 80 (bs3 F) (0, 0) _ HV.out und_marks rfl HSZ.out ?_) | (refine wpList_store_row rfl 80 _ _ rfl w.heap.size (bs3 F) rfl rfl 80 _ HX.out HSZ.out rfl HS1.out ?_))
      have BB := Lib.hid (blk_row HX.out (bs3 F))
      have HBX := Lib.hid (below_row HB.out (g := w.heap.size) (by omega) (bs3 F))
      clear HX HV HB
      generalize W0.setRow w.heap.size (bs3 F) = W9 at *
      refine bodyPost_ret (v := .agg (bs3 F)) (results_cell_row (by rfl) _ _ w.heap.size 80 (bs3 F) (0, 0) _ (by rfl) BB.out und_marks rfl HSZ.out) rfl ?_
      exact ⟨by rw [HF.out], HBX.out⟩
end Go.Proofs.Ytbpjblefmammcaa

/- A list that a call owns; numbers of which the first have turned. -/
namespace Go.Proofs.Ytbpjblefmammcaa
open Go.RowKit

/-- A list that a call owns, in block g from its beginning on. -/
structure NX (w : World) (n g : Nat) (L : List Int) (W : World) : Prop where
  own : OwnI w.heap.size W.heap.size W g (some ⟨g, 0, none⟩) n n L
  up : Below w.heap.size w W
  lo : w.heap.size ≤ g
theorem NX.next {w n g L W W'} (h : NX w n g L W) (k : Below W.heap.size W W') : NX w n g L W' := ⟨(h.own.below k).mono (Nat.le_refl _) k.size, below_up h.up k, h.lo⟩
theorem NX.cell {w n g L W} (h : NX w n g L W) {i : Nat} (hi : i < n) : W.cell? ⟨g, i, none⟩ = some (.int .i64 (gi L i)) := by
  obtain ⟨b, o, e, hc⟩ := h.own.ints.at_ (by omega)
  injection e with e
  injection e with e1 e2
  subst e1
  subst e2
  have := hc i hi
  rw [Nat.zero_add] at this
  exact this
theorem NX.frozen {w n g L W} (h : NX w n g L W) {i : Nat} (hi : i < n) : W.frozen? ⟨g, i, none⟩ = false := by
  obtain ⟨o, e, _, _, hf⟩ := h.own.own (by omega)
  injection e with e
  injection e with _ e2
  subst e2
  have := hf i hi
  rw [Nat.zero_add] at this
  exact this
theorem NX.set {w n g L W} (h : NX w n g L W) {i : Nat} (hi : i < n) {v : Int} (hv : -9223372036854775808 ≤ v ∧ v ≤ 9223372036854775807) : NX w n g (L.set i v) (W.setCell ⟨g, i, none⟩ (.int .i64 v)) := by
  have h1 := h.own.set hi hv
  rw [Nat.zero_add] at h1
  exact ⟨h1.mono (Nat.le_refl _) (by simp [World.setCell]), h.up.setCell (p := ⟨g, i, none⟩) h.lo _, h.lo⟩
/-- Numbers of which the first k have turned. -/
def mixT (f h : Nat → Int) (n k : Nat) : List Int := (List.range n).map fun i => if i < k then f i else h i
theorem mixT_len (f h : Nat → Int) (n k : Nat) : (mixT f h n k).length = n := by simp [mixT]
theorem gi_mixT {f h : Nat → Int} {n k i : Nat} (hi : i < n) : gi (mixT f h n k) i = if i < k then f i else h i := by
  rw [gi_get (by rw [mixT_len]; exact hi)]; simp [mixT]
theorem mixT_set {f h : Nat → Int} {n k : Nat} : (mixT f h n k).set k (f k) = mixT f h n (k + 1) := gi_ext (by rw [List.length_set, mixT_len, mixT_len]) fun i hi => by
  rw [List.length_set, mixT_len] at hi
  rw [gi_mixT hi]
  by_cases e : i = k
  · subst e; rw [gi_set_eq (by rw [mixT_len]; exact hi), if_pos (by omega)]
  · rw [gi_set_ne (by rw [mixT_len]; exact hi) e, gi_mixT hi]
    by_cases h2 : i < k
    · rw [if_pos h2, if_pos (by omega)]
    · rw [if_neg h2, if_neg (by omega)]
theorem mixT_zero (f h : Nat → Int) (n : Nat) : mixT f h n 0 = (List.range n).map h := gi_ext (by rw [mixT_len]; simp) fun i hi => by
  rw [mixT_len] at hi
  rw [gi_mixT hi, if_neg (by omega), gi_get (by simpa using hi)]; simp
theorem mixT_all (f h : Nat → Int) (n : Nat) : mixT f h n n = (List.range n).map f := gi_ext (by rw [mixT_len]; simp) fun i hi => by
  rw [mixT_len] at hi
  rw [gi_mixT hi, if_pos hi, gi_get (by simpa using hi)]; simp
theorem list_range (x : List Int) : (List.range x.length).map (gi x) = x := gi_ext (by simp) fun i hi => by
  have hi' : i < x.length := by simpa using hi
  rw [gi_get hi]; simp
theorem gi_range {f : Nat → Int} {n i : Nat} (h : i < n) : gi ((List.range n).map f) i = f i := by rw [gi_get (by simpa using h)]; simp

end Go.Proofs.Ytbpjblefmammcaa

/- Sums of a row with shares. -/
namespace Go.Proofs.Ytbpjblefmammcaa

/-- What row i has against shares: the terms, and the sum of the first j of them. -/
def dotr (a : List (List Int)) (w : List Int) (i : Nat) : Nat → Int
  | 0 => 0
  | j + 1 => dotr a w i j + g2 a i j * gi w j
def termL (a : List (List Int)) (w : List Int) (i : Nat) : Nat → List Int
  | 0 => []
  | j + 1 => termL a w i j ++ [g2 a i j * gi w j]
theorem termL_len (a : List (List Int)) (w : List Int) (i : Nat) : ∀ j, (termL a w i j).length = j
  | 0 => rfl
  | j + 1 => by rw [termL, List.length_append, termL_len a w i j]; rfl
theorem termL_tot (a : List (List Int)) (w : List Int) (i : Nat) : ∀ j, tot (termL a w i j) = dotr a w i j
  | 0 => rfl
  | j + 1 => by rw [termL, tot_snoc, termL_tot a w i j, dotr]
theorem termL_bd {a : List (List Int)} {w : List Int} {i m : Nat} (ha : ∀ j, j < m → -9 ≤ g2 a i j ∧ g2 a i j ≤ 9) (hw : ∀ j, j < m → 0 ≤ gi w j ∧ gi w j ≤ 1000) :
    ∀ {j}, j ≤ m → ∀ t ∈ termL a w i j, -9000 ≤ t ∧ t ≤ 9000
  | 0, _, t, h => by simp [termL] at h
  | j + 1, hj, t, h => by
    rw [termL, List.mem_append] at h
    rcases h with h | h
    · exact termL_bd ha hw (j := j) (by omega) t h
    · simp only [List.mem_singleton] at h; subst h
      exact mul_bd3 (hw j (by omega)) (ha j (by omega))
theorem dotr_bd {a : List (List Int)} {w : List Int} {i m : Nat} (ha : ∀ j, j < m → -9 ≤ g2 a i j ∧ g2 a i j ≤ 9) (hw : ∀ j, j < m → 0 ≤ gi w j ∧ gi w j ≤ 1000) :
    ∀ {j}, j ≤ m → -9000 * (j : Int) ≤ dotr a w i j ∧ dotr a w i j ≤ 9000 * (j : Int)
  | 0, _ => by simp [dotr]
  | j + 1, hj => by
    have h1 := dotr_bd ha hw (j := j) (by omega)
    have h2 := mul_bd3 (hw j (by omega)) (ha j (by omega))
    simp only [dotr]
    omega
/-- .. against one strategy alone: a number of the table. -/
theorem dotr_onl (a : List (List Int)) (n i k : Nat) : ∀ {j}, j ≤ n → dotr a (onl n k) i j = if k < j then g2 a i k else 0
  | 0, _ => by simp [dotr]
  | j + 1, h => by
    rw [dotr, dotr_onl a n i k (j := j) (by omega), gi_onl (by omega)]
    by_cases e : j = k
    · subst e; rw [if_neg (by omega), if_pos rfl, if_pos (by omega)]; simp
    · rw [if_neg e]
      by_cases h2 : k < j
      · rw [if_pos h2, if_pos (by omega)]; simp
      · rw [if_neg h2, if_neg (by omega)]; simp
theorem dotr_alone (a : List (List Int)) (n i k : Nat) (hk : k < n) : dotr a (onl n k) i n = g2 a i k := by
  rw [dotr_onl a n i k (Nat.le_refl n), if_pos hk]
theorem payR_row (a : List (List Int)) (w : List Int) (n i k : Nat) (hk : k < n) : ∀ j, payR a (onl n i) w k j = if k = i then dotr a w i j else 0
  | 0 => by simp [payR, dotr]
  | j + 1 => by
    rw [payR, payR_row a w n i k hk j, gi_onl hk, dotr]
    by_cases e : k = i
    · subst e; rw [if_pos rfl, if_pos rfl, if_pos rfl, Int.one_mul, Int.mul_comm (gi w j)]
    · rw [if_neg e, if_neg e, if_neg e]; simp
theorem payU_row (a : List (List Int)) (w : List Int) (n m i : Nat) : ∀ {k}, k ≤ n → payU a (onl n i) w m k = if i < k then dotr a w i m else 0
  | 0, _ => by simp [payU]
  | k + 1, h => by
    rw [payU, payU_row a w n m i (k := k) (by omega), payR_row a w n i k (by omega)]
    by_cases e : k = i
    · subst e; rw [if_neg (by omega), if_pos rfl, if_pos (by omega)]; simp
    · rw [if_neg e]
      by_cases h2 : i < k
      · rw [if_pos h2, if_pos (by omega)]; simp
      · rw [if_neg h2, if_neg (by omega)]; simp
/-- The model's sum with one strategy alone is that of its row. -/
theorem payU_alone (a : List (List Int)) (w : List Int) (n m i : Nat) (hi : i < n) : payU a (onl n i) w m n = dotr a w i m := by
  rw [payU_row a w n m i (Nat.le_refl n), if_pos hi]
end Go.Proofs.Ytbpjblefmammcaa

/- Stable strategies, by the model. -/
namespace Go.Proofs.Ytbpjblefmammcaa
open Go.RowKit

/-- Strategy i holds against all others before number l. -/
def StP (a : List (List Int)) (i l : Nat) : Prop := ∀ j, j < l → i = j ∨ HoldP a i j
theorem StP.zero (a : List (List Int)) (i : Nat) : StP a i 0 := fun _ h => absurd h (by omega)
theorem StP.succ {a : List (List Int)} {i l : Nat} : StP a i (l + 1) ↔ StP a i l ∧ (i = l ∨ HoldP a i l) := by
  constructor
  · exact fun h => ⟨fun j hj => h j (by omega), h l (by omega)⟩
  · rintro ⟨h1, h2⟩ j hj
    by_cases e : j = l
    · subst e; exact h2
    · exact h1 j (by omega)
/-- The strategies before number k that hold against all n. -/
noncomputable def stL (a : List (List Int)) (n : Nat) : Nat → List Int
  | 0 => []
  | k + 1 => stL a n k ++ (if pb (StP a k n) = true then [(k : Int)] else [])
theorem stL_yes {a : List (List Int)} {n k : Nat} (h : StP a k n) : stL a n (k + 1) = stL a n k ++ [(k : Int)] := by rw [stL, if_pos (pb_true h)]
theorem stL_no {a : List (List Int)} {n k : Nat} (h : ¬ StP a k n) : stL a n (k + 1) = stL a n k := by rw [stL, if_neg (by rw [pb_false h]; decide), List.append_nil]
theorem stL_len (a : List (List Int)) (n : Nat) : ∀ k, (stL a n k).length ≤ k
  | 0 => by simp [stL]
  | k + 1 => by
    have := stL_len a n k
    rw [stL, List.length_append]
    split <;> simp <;> omega
theorem stL_bd (a : List (List Int)) (n : Nat) : ∀ k, ∀ y ∈ stL a n k, 0 ≤ y ∧ y < (k : Int)
  | 0, y, h => by simp [stL] at h
  | k + 1, y, h => by
    rw [stL, List.mem_append] at h
    rcases h with h | h
    · have := stL_bd a n k y h; omega
    · split at h
      · simp only [List.mem_singleton] at h; omega
      · simp at h
/-- What StableOf answers. -/
noncomputable def stF (a : List (List Int)) : List Int := if pb (VQ a) = true then stL a a.length a.length else []
theorem NewI.quiet {w w1 w' : World} {ys : List Int} {e : Ending} (h : Quiet w w1) (k : NewI w1 ys e w') : NewI w ys e w' := by
  obtain ⟨m, rfl⟩ := h
  obtain ⟨A, n, c, g, e1, e2, ho, hb⟩ := k
  exact ⟨A, n, c, g, e1, e2, ho, ⟨hb.os, hb.tape, hb.output, hb.size, hb.block⟩⟩
theorem IU.quiet {wb v ys w w'} (h : IU wb v ys w) (k : Quiet w w') : IU wb v ys w' := h.next k.below

end Go.Proofs.Ytbpjblefmammcaa

