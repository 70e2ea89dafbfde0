/- Texts merged: V6 V7 Math10 Math11 W5 B3 Math2 B5 D1 D3 C1. -/
import Derived.Test.YtjmfkodbilknlaaQ5
import Derived.RegionTactic
/- Numbers put to their places, by the model. -/
namespace Go.Proofs.Ytjmfkodbilknlaa
open Go.RowKit

/-- Numbers being put to their places, in a row of the call's own. -/
structure SU (w : World) (n : Nat) (ys : List Int) (wr : World) : Prop where
  own : OwnI w.heap.size (w.heap.size + 1) wr w.heap.size (some ⟨w.heap.size, 0, none⟩) n n ys
  up : Below w.heap.size w wr
  sz : w.heap.size + 1 ≤ wr.heap.size
theorem gi_repl {n k : Nat} (h : k < n) : gi (List.replicate n 0) k = 0 := by rw [gi_get (by simpa using h)]; simp
theorem SU.start (w : World) (n : Nat) (hn : n ≤ 100) : SU w n (List.replicate n 0) (w.alloc (.cells (madeCells #[.int .i64 0] n) 3)) :=
  ⟨OwnI.of_rowIs (by simp) (by omega) (fun x hx => by have := List.eq_of_mem_replicate hx; omega) (Nat.le_refl _) (by omega) (World.rowIs_made w (.int .i64 0) n 3) (fun k hk => by rw [gi_repl hk]), below_alloc _ _, by simp⟩
theorem SU.set {w n ys wr} (h : SU w n ys wr) {k : Nat} (hk : k < n) {v : Int} (hv : -9223372036854775808 ≤ v ∧ v ≤ 9223372036854775807) : SU w n (ys.set k v) (wr.setCell ⟨w.heap.size, k, none⟩ (.int .i64 v)) := by
  have h1 := h.own.set hk (v := v) hv
  rw [Nat.zero_add] at h1
  exact ⟨h1, h.up.setCell (p := ⟨w.heap.size, k, none⟩) (Nat.le_refl _) _, by simpa [World.setCell] using h.sz⟩
theorem SU.qu {w n ys wr wr'} (h : SU w n ys wr) (k : Quiet wr wr') : SU w n ys wr' := by
  obtain ⟨m, rfl⟩ := k; exact ⟨h.own.of_block fun _ => rfl, below_drewN h.up m, h.sz⟩
theorem SU.cell {w n ys wr} (h : SU w n ys wr) {k : Nat} (hk : k < n) : wr.cell? ⟨w.heap.size, k, none⟩ = some (.int .i64 (gi ys k)) := by
  obtain ⟨b, o, e, hc⟩ := h.own.ints.at_ (by omega)
  injection e with e; injection e with e1 e2 _; subst e1; subst e2
  have := hc k hk; rwa [Nat.zero_add] at this
theorem SU.frozen {w n ys wr} (h : SU w n ys wr) {k : Nat} (hk : k < n) : wr.frozen? ⟨w.heap.size, k, none⟩ = false := by
  obtain ⟨o, e, _, _, hf⟩ := h.own.own (by omega)
  injection e with e; injection e with _ e2 _; subst e2
  have := hf k hk; rwa [Nat.zero_add] at this
theorem SU.new {w n ys wr} (h : SU w n ys wr) (hl : n = ys.length) : NewI w ys (.returned (.slice (some ⟨w.heap.size, 0, none⟩) n n)) wr :=
  ⟨_, _, _, w.heap.size, rfl, hl, h.own.mono (Nat.le_refl _) h.sz, h.up⟩

end Go.Proofs.Ytjmfkodbilknlaa

/- Numbers without a common factor and without signs, by the model. -/
namespace Go.Proofs.Ytjmfkodbilknlaa
open Go.RowKit

def upB (xs : List Int) : Nat → Bool
  | 0 => false
  | k + 1 => upB xs k || decide (0 < gi xs k)
def dnB (xs : List Int) : Nat → Bool
  | 0 => false
  | k + 1 => dnB xs k || decide (gi xs k < 0)
theorem upB_false {xs : List Int} : ∀ {k}, upB xs k = false ↔ ∀ p, p < k → gi xs p ≤ 0
  | 0 => by simp [upB]
  | k + 1 => by
    have ih := upB_false (xs := xs) (k := k)
    simp only [upB, Bool.or_eq_false_iff, decide_eq_false_iff_not, ih]
    refine ⟨fun ⟨h1, h2⟩ p hp => ?_, fun h => ⟨fun p hp => h p (by omega), by have := h k (by omega); omega⟩⟩
    by_cases e : p = k
    · subst e; omega
    · exact h1 p (by omega)
theorem dnB_false {xs : List Int} : ∀ {k}, dnB xs k = false ↔ ∀ p, p < k → 0 ≤ gi xs p
  | 0 => by simp [dnB]
  | k + 1 => by
    have ih := dnB_false (xs := xs) (k := k)
    simp only [dnB, Bool.or_eq_false_iff, decide_eq_false_iff_not, ih]
    refine ⟨fun ⟨h1, h2⟩ p hp => ?_, fun h => ⟨fun p hp => h p (by omega), by have := h k (by omega); omega⟩⟩
    by_cases e : p = k
    · subst e; omega
    · exact h1 p (by omega)
theorem upB_succ {xs : List Int} {k : Nat} {x : Int} (h : gi xs k = x) : upB xs (k + 1) = (upB xs k || decide (0 < x)) := by rw [upB, h]
theorem dnB_succ {xs : List Int} {k : Nat} {x : Int} (h : gi xs k = x) : dnB xs (k + 1) = (dnB xs k || decide (x < 0)) := by rw [dnB, h]
/-- What the loop has come to tells whether the numbers are cleared. -/
theorem clr_yes {xs : List Int} {k : Nat} (hk : xs.length = k) (h : ClrP xs) : 0 < gcdL xs k ∧ (upB xs k = false ∨ dnB xs k = false) := by
  subst hk
  obtain ⟨⟨p, hp, hn⟩, hs⟩ := h
  refine ⟨?_, ?_⟩
  · have h1 := gcdL_nn xs xs.length
    have h2 : gcdL xs xs.length ≠ 0 := fun e => hn (gcdL_zero.1 e p hp)
    omega
  · rcases hs with hs | hs
    · exact .inr (dnB_false.2 hs)
    · exact .inl (upB_false.2 hs)
theorem clr_no {xs : List Int} {k : Nat} (hk : xs.length = k) (h : ¬ ClrP xs) : gcdL xs k = 0 ∨ (upB xs k = true ∧ dnB xs k = true) := by
  subst hk
  by_cases h0 : gcdL xs xs.length = 0
  · exact .inl h0
  · refine .inr ?_
    have nz : ∃ p, p < xs.length ∧ gi xs p ≠ 0 := by
      apply Classical.byContradiction; intro hn
      exact h0 (gcdL_zero.2 fun p hp => by
        apply Classical.byContradiction; intro e; exact hn ⟨p, hp, e⟩)
    by_cases hu : upB xs xs.length = false
    · exact absurd ⟨nz, .inr (upB_false.1 hu)⟩ h
    · by_cases hd : dnB xs xs.length = false
      · exact absurd ⟨nz, .inl (dnB_false.1 hd)⟩ h
      · exact ⟨by simpa using hu, by simpa using hd⟩

/-- Numbers cleared, and that they are; or that they are not. -/
def NewC (w : World) (xs : List Int) (e : Ending) (w' : World) : Prop :=
  (ClrP xs ∧ ∃ Av n c gg, e = .returned (.tuple #[.slice Av n c, .bool true]) ∧ n = xs.length ∧ OwnI w.heap.size w'.heap.size w' gg Av n c (clrL xs (gcdL xs xs.length) xs.length) ∧ Below w.heap.size w w') ∨
  (¬ ClrP xs ∧ e = .returned (.tuple #[.slice none 0 0, .bool false]) ∧ Below w.heap.size w w')

theorem clr_val {x G : Int} (hx : -1000000000000000 ≤ x ∧ x ≤ 1000000000000000) (hG : 0 < G) : IntKind.i64.wrap ((if x < IntKind.i64.wrap (-x) then IntKind.i64.wrap (-x) else x).tdiv G) = max x (-x) / G := by
  rw [wrapIn (x := -x) (by omega)]
  have e : (if x < -x then -x else x) = max x (-x) := by split <;> omega
  rw [e, Int.tdiv_eq_ediv_of_nonneg (by omega)]
  have h1 : 0 ≤ max x (-x) / G := Int.ediv_nonneg (by omega) (by omega)
  have h2 : max x (-x) / G ≤ max x (-x) := Int.ediv_le_self _ (by omega)
  exact wrapIn (by omega)
theorem clrL_bd {xs : List Int} {G : Int} (hG : 0 < G) {k : Nat} (h : ∀ p, p < k → Mid (gi xs p)) : ∀ y ∈ clrL xs G k, -1000000000000000 ≤ y ∧ y ≤ 1000000000000000 := fun y hy => by
  obtain ⟨p, hp, rfl⟩ := List.mem_map.1 hy
  have hm := h p (List.mem_range.1 hp)
  unfold Mid at hm
  have h1 : 0 ≤ max (gi xs p) (-(gi xs p)) / G := Int.ediv_nonneg (by omega) (by omega)
  have h2 : max (gi xs p) (-(gi xs p)) / G ≤ max (gi xs p) (-(gi xs p)) := Int.ediv_le_self _ (by omega)
  omega

end Go.Proofs.Ytjmfkodbilknlaa

/- Parts of a table that tell best shares, as both programs try them. Plain. -/
namespace Go.Proofs.Ytjmfkodbilknlaa
open V (sumN detN rowC colC cofN minorN skip sgn Asc Kern)

theorem asc_lt {n k : Nat} {r : Nat → Nat} (h : Asc n k r) : ∀ {p q : Nat}, p < q → q < k → r p < r q := fun {p q} => by
  induction q with
  | zero => intro hp _; omega
  | succ q ih =>
    intro hp hq
    have h1 := h.2 q hq
    by_cases e : p = q
    · subst e; exact h1
    · have := ih (by omega) (by omega); omega
theorem asc_ne {n k : Nat} {r : Nat → Nat} (h : Asc n k r) : ∀ p q, p < q → q < k → r p ≠ r q := fun _ _ hp hq => by have := asc_lt h hp hq; omega

/-- Numbers from 9 to 27. -/
def Up (k : Nat) (f : Nat → Nat → Int) : Prop := ∀ p q, p < k → q < k → 9 ≤ f p q ∧ f p q ≤ 27
theorem Up.ab {k f} (h : Up k f) : Ab k f := fun p q hp hq => by have := h p q hp hq; omega
theorem Up.tr {k f} (h : Up k f) : Up k (trN f) := fun p q hp hq => h q p hq hp
theorem two_bd {a b c d : Int} (ha : -18 ≤ a ∧ a ≤ 18) (hb : -18 ≤ b ∧ b ≤ 18) (hc : -18 ≤ c ∧ c ≤ 18) (hd : -18 ≤ d ∧ d ≤ 18) : -648 ≤ a * b - c * d ∧ a * b - c * d ≤ 648 := by
  have h1 := mulbd ha hb
  have h2 := mulbd hc hd
  omega
theorem rowC_bd {k : Nat} {f : Nat → Nat → Int} (hk : k ≤ 3) (h : Up k f) {p : Nat} (hp : p < k) : -648 ≤ rowC k f p ∧ rowC k f p ≤ 648 := by
  have : k = 1 ∨ k = 2 ∨ k = 3 := by omega
  rcases this with rfl | rfl | rfl
  · obtain rfl : p = 0 := by omega
    simp [rowC, sumN, cofN, sgn, detN]
  · have h00 := h 0 0 (by omega) (by omega)
    have h01 := h 0 1 (by omega) (by omega)
    have h10 := h 1 0 (by omega) (by omega)
    have h11 := h 1 1 (by omega) (by omega)
    have : p = 0 ∨ p = 1 := by omega
    rcases this with rfl | rfl <;> simp [rowC, sumN, cofN, sgn, detN, minorN, skip] <;> omega
  · obtain ⟨e0, e1, e2⟩ := V.rowC3 f
    have h00 := h 0 0 (by omega) (by omega)
    have h01 := h 0 1 (by omega) (by omega)
    have h02 := h 0 2 (by omega) (by omega)
    have h10 := h 1 0 (by omega) (by omega)
    have h11 := h 1 1 (by omega) (by omega)
    have h12 := h 1 2 (by omega) (by omega)
    have h20 := h 2 0 (by omega) (by omega)
    have h21 := h 2 1 (by omega) (by omega)
    have h22 := h 2 2 (by omega) (by omega)
    have : p = 0 ∨ p = 1 ∨ p = 2 := by omega
    rcases this with rfl | rfl | rfl
    · have := two_bd (a := f 1 1 - f 1 0) (b := f 2 2 - f 2 0) (c := f 1 2 - f 1 0) (d := f 2 1 - f 2 0) (by omega) (by omega) (by omega) (by omega)
      have e : rowC 3 f 0 = (f 1 1 - f 1 0) * (f 2 2 - f 2 0) - (f 1 2 - f 1 0) * (f 2 1 - f 2 0) := by rw [e0]; grind
      rw [e]; exact this
    · have := two_bd (a := f 0 2 - f 0 0) (b := f 2 1 - f 2 0) (c := f 0 1 - f 0 0) (d := f 2 2 - f 2 0) (by omega) (by omega) (by omega) (by omega)
      have e : rowC 3 f 1 = (f 0 2 - f 0 0) * (f 2 1 - f 2 0) - (f 0 1 - f 0 0) * (f 2 2 - f 2 0) := by rw [e1]; grind
      rw [e]; exact this
    · have := two_bd (a := f 0 1 - f 0 0) (b := f 1 2 - f 1 0) (c := f 0 2 - f 0 0) (d := f 1 1 - f 1 0) (by omega) (by omega) (by omega) (by omega)
      have e : rowC 3 f 2 = (f 0 1 - f 0 0) * (f 1 2 - f 1 0) - (f 0 2 - f 0 0) * (f 1 1 - f 1 0) := by rw [e2]; grind
      rw [e]; exact this

theorem gi_cofL {k : Nat} {f : Nat → Nat → Int} {i p : Nat} (h : p < i) : gi (cofL k f i) p = rowC k f p := by
  rw [gi_get (by rw [cofL_len]; exact h)]; simp [cofL]
/-- The square of a part, raised. -/
def kf (a : List (List Int)) (r s : Nat → Nat) : Nat → Nat → Int := fun p q => g2 a (r p) (s q) + 18
def kX (a : List (List Int)) (r s : Nat → Nat) (k : Nat) : List Int := cofL k (kf a r s) k
def kY (a : List (List Int)) (r s : Nat → Nat) (k : Nat) : List Int := cofL k (trN (kf a r s)) k
/-- Numbers cleared, put to their places. -/
def shr (n : Nat) (r : Nat → Nat) (X : List Int) (k : Nat) : List Int := putL n r (clrL X (gcdL X X.length) X.length) k
structure KerP (a : List (List Int)) (k : Nat) (r s : Nat → Nat) : Prop where
  det : detN k (kf a r s) ≠ 0
  cx : ClrP (kX a r s k)
  cy : ClrP (kY a r s k)
  eq : wlast a (shr a.length r (kX a r s k) k) = (- (wlast (ntab a) (shr (gr a 0).length s (kY a r s k) k)).1, (wlast (ntab a) (shr (gr a 0).length s (kY a r s k) k)).2)
theorem kX_len (a : List (List Int)) (r s : Nat → Nat) (k : Nat) : (kX a r s k).length = k := cofL_len _ _ _
theorem kY_len (a : List (List Int)) (r s : Nat → Nat) (k : Nat) : (kY a r s k).length = k := cofL_len _ _ _
theorem kf_up {a : List (List Int)} (v : VT a) {k : Nat} {r s : Nat → Nat} (hr : Asc a.length k r) (hs : Asc (gr a 0).length k s) : Up k (kf a r s) := fun p q hp hq => by
  have := v.bd (hr.1 p hp) (hs.1 q hq)
  unfold kf
  omega
theorem kX_bd {a : List (List Int)} (v : VT a) {k : Nat} (hk : k ≤ 3) {r s : Nat → Nat} (hr : Asc a.length k r) (hs : Asc (gr a 0).length k s) {p : Nat} (hp : p < (kX a r s k).length) : -648 ≤ gi (kX a r s k) p ∧ gi (kX a r s k) p ≤ 648 := by
  rw [kX_len] at hp
  unfold kX; rw [gi_cofL hp]; exact rowC_bd hk (kf_up v hr hs) hp
theorem kY_bd {a : List (List Int)} (v : VT a) {k : Nat} (hk : k ≤ 3) {r s : Nat → Nat} (hr : Asc a.length k r) (hs : Asc (gr a 0).length k s) {p : Nat} (hp : p < (kY a r s k).length) : -648 ≤ gi (kY a r s k) p ∧ gi (kY a r s k) p ≤ 648 := by
  rw [kY_len] at hp
  unfold kY; rw [gi_cofL hp]; exact rowC_bd hk (kf_up v hr hs).tr hp

/-- What is cleared and put to its places are shares. -/
theorem gi_shr {n k : Nat} {r : Nat → Nat} {X : List Int} (hl : X.length = k) (hr : Asc n k r) {i : Nat} (hi : i < n) :
    gi (shr n r X k) i = sumN (fun p => if r p = i then max (gi X p) (-(gi X p)) / gcdL X k else 0) k := by
  subst hl
  unfold shr
  rw [gi_putL hi (asc_ne hr)]
  exact sumN_congr fun p hp => by rw [gi_clrL hp]
theorem max_ediv_mul {x g : Int} (h : g ∣ x) : max x (-x) / g * g = max x (-x) := by
  apply Int.ediv_mul_cancel
  by_cases h0 : 0 ≤ x
  · rw [show max x (-x) = x by omega]; exact h
  · rw [show max x (-x) = -x by omega]; exact (Int.dvd_neg).2 h
/-- Of numbers without different signs: z is their sign. -/
theorem clr_sign {X : List Int} (h : ClrP X) : ∃ z : Int, (z = 1 ∨ z = -1) ∧ ∀ p, p < X.length → max (gi X p) (-(gi X p)) = z * gi X p := by
  rcases h.sg with h | h
  · exact ⟨1, .inl rfl, fun p hp => by have := h p hp; omega⟩
  · exact ⟨-1, .inr rfl, fun p hp => by have := h p hp; omega⟩
theorem clr_pos {X : List Int} (h : ClrP X) : 0 < gcdL X X.length := (clr_yes rfl h).1
theorem shr_key {n k : Nat} {r : Nat → Nat} {X : List Int} (hl : X.length = k) (hr : Asc n k r) (h : ClrP X) : ∃ z : Int, (z = 1 ∨ z = -1) ∧ (∀ p, p < k → 0 ≤ z * gi X p) ∧
    ∀ i, i < n → gi (shr n r X k) i * gcdL X k = z * sumN (fun p => if r p = i then gi X p else 0) k := by
  obtain ⟨z, hz, hm⟩ := clr_sign h
  refine ⟨z, hz, fun p hp => by have := hm p (by omega); omega, fun i hi => ?_⟩
  rw [gi_shr hl hr hi, Int.mul_comm, ← sumN_mul, ← sumN_mul]
  refine sumN_congr fun p hp => ?_
  by_cases e : r p = i
  · rw [if_pos e, if_pos e, Int.mul_comm, max_ediv_mul (gcdL_dvd X hp)]
    exact hm p (by omega)
  · rw [if_neg e, if_neg e]; omega
theorem sumN_pos {f : Nat → Int} : ∀ {n}, (∀ i, i < n → 0 ≤ f i) → (∃ i, i < n ∧ 0 < f i) → 0 < sumN f n
  | 0, _, ⟨i, hi, _⟩ => absurd hi (by omega)
  | n + 1, h, ⟨i, hi, hp⟩ => by
    have h0 : 0 ≤ sumN f n := by
      have := sumN_le (f := fun _ => 0) (g := f) (n := n) fun j hj => h j (by omega)
      rw [sumN_zero] at this; exact this
    rw [sumN]
    by_cases e : i = n
    · subst e; omega
    · have := sumN_pos (f := f) (n := n) (fun j hj => h j (by omega)) ⟨i, by omega, hp⟩
      have := h n (by omega); omega
theorem tot_shr {n k : Nat} {r : Nat → Nat} {X : List Int} (hl : X.length = k) (hr : Asc n k r) (h : ClrP X) : ∃ z : Int, (z = 1 ∨ z = -1) ∧ (∀ p, p < k → 0 ≤ z * gi X p) ∧
    (∀ i, i < n → gi (shr n r X k) i * gcdL X k = z * sumN (fun p => if r p = i then gi X p else 0) k) ∧ tot (shr n r X k) * gcdL X k = z * sumN (gi X) k ∧ 0 < z * sumN (gi X) k := by
  obtain ⟨z, hz, hp, hk⟩ := shr_key hl hr h
  refine ⟨z, hz, hp, hk, ?_, ?_⟩
  · have := spread_key (shr n r X k) n k r (gi X) (fun _ => 1) _ z hr.1 hk
    simp only [Int.mul_one] at this
    unfold tot
    rw [show (shr n r X k).length = n from putL_len _ _ _ _, sm_sum]
    exact this
  · rw [← sumN_mul]
    refine sumN_pos hp ?_
    obtain ⟨p, hpl, hn⟩ := h.nz
    refine ⟨p, by omega, ?_⟩
    have := hp p (by omega)
    rcases hz with rfl | rfl <;> omega
theorem shr_VS {n k : Nat} {r : Nat → Nat} {X : List Int} (hl : X.length = k) (hr : Asc n k r) (h : ClrP X) (hb : ∀ p, p < X.length → -648 ≤ gi X p ∧ gi X p ≤ 648) : VS (shr n r X k) n := by
  have hg : 0 < gcdL X k := by have := clr_pos h; rwa [hl] at this
  obtain ⟨z, hz, hp, hkk, ht, hpos⟩ := tot_shr hl hr h
  have hln : (shr n r X k).length = n := putL_len _ _ _ _
  refine ⟨by omega, fun i hi => ?_, ?_⟩
  · rw [hln] at hi
    rw [gi_shr hl hr hi]
    -- only one of the places is i
    have one : ∀ {j : Nat}, j ≤ k → 0 ≤ sumN (fun p => if r p = i then max (gi X p) (-(gi X p)) / gcdL X k else 0) j ∧ sumN (fun p => if r p = i then max (gi X p) (-(gi X p)) / gcdL X k else 0) j ≤ 648 ∧
        ((∀ p, p < j → r p ≠ i) → sumN (fun p => if r p = i then max (gi X p) (-(gi X p)) / gcdL X k else 0) j = 0) := by
      intro j
      induction j with
      | zero => intro _; simp [sumN]
      | succ j ih =>
        intro hj
        obtain ⟨h1, h2, h3⟩ := ih (by omega)
        rw [sumN]
        by_cases e : r j = i
        · have hz0 : sumN (fun p => if r p = i then max (gi X p) (-(gi X p)) / gcdL X k else 0) j = 0 := h3 fun p hp e2 => asc_ne hr p j hp (by omega) (e2.trans e.symm)
          rw [hz0, if_pos e]
          have hb1 := hb j (by omega)
          have q1 : 0 ≤ max (gi X j) (-(gi X j)) / gcdL X k := Int.ediv_nonneg (by omega) (by omega)
          have q2 : max (gi X j) (-(gi X j)) / gcdL X k ≤ max (gi X j) (-(gi X j)) := Int.ediv_le_self _ (by omega)
          exact ⟨by omega, by omega, fun hall => absurd e (hall j (by omega))⟩
        · rw [if_neg e]
          exact ⟨by omega, by omega, fun hall => by rw [h3 fun p hp => hall p (by omega)]; rfl⟩
    have := one (Nat.le_refl k)
    exact ⟨this.1, by omega⟩
  · apply Classical.byContradiction; intro hneg
    have : tot (shr n r X k) * gcdL X k ≤ 0 * gcdL X k := Int.mul_le_mul_of_nonneg_right (by omega) (by omega)
    omega
theorem KerP.shares {a : List (List Int)} {k : Nat} {r s : Nat → Nat} (v : VT a) (hk : k ≤ 3) (hr : Asc a.length k r) (hs : Asc (gr a 0).length k s) (hx : ClrP (kX a r s k)) (hy : ClrP (kY a r s k)) :
    VS (shr a.length r (kX a r s k) k) a.length ∧ VS (shr (gr a 0).length s (kY a r s k) k) (gr a 0).length :=
  ⟨shr_VS (kX_len _ _ _ _) hr hx (fun _ hp => kX_bd v hk hr hs hp), shr_VS (kY_len _ _ _ _) hs hy (fun _ hp => kY_bd v hk hr hs hp)⟩
theorem wlast_def (a : List (List Int)) (x : List Int) (n m : Nat) (hn : a.length = n) (hm : (gr a 0).length = m) : wlast a x = wst a x n m (m - 1) := by subst hn; subst hm; rfl
theorem VT.ntab_neg {a : List (List Int)} (_ : VT a) : ∀ i j, i < a.length → j < (gr a 0).length → g2 (Go.Proofs.Ytjmfkodbilknlaa.ntab a) j i = - g2 a i j := fun i j hi hj => by
  unfold g2 Go.Proofs.Ytjmfkodbilknlaa.ntab
  have h1 := flip_len a a.length (gr a 0).length
  rw [gr_get (by rw [mtab_len, h1]; exact hj)]
  simp only [mtab, List.getElem_map, List.getElem_range]
  rw [gr_flip hj, gi_get (by rw [mrow_len]; simpa using hi)]
  simp only [mrow, List.getElem_map, List.getElem_range]
  rw [gi_col hi]; rfl
theorem colC_rowC {k : Nat} (hk : k ≤ 3) (f : Nat → Nat → Int) (q : Nat) : colC k f q = rowC k (trN f) q := (rowC_tr hk f q).symm
/-- A part that tells best shares passes the test. -/
theorem ker_of {a : List (List Int)} (v : VT a) {k : Nat} {r s : Nat → Nat} (h1 : 1 ≤ k) (hk : k ≤ 3) (hr : Asc a.length k r) (hs : Asc (gr a 0).length k s)
    (K : Kern (up18 a a.length (gr a 0).length) a.length (gr a 0).length k r s) : KerP a k r s := by
  have hkf : ∀ p q, p < k → q < k → up18 a a.length (gr a 0).length (r p) (s q) = kf a r s p q := fun p q hp hq => by rw [up18_in (hr.1 p hp) (hs.1 q hq)]; rfl
  have hD : detN k (fun p q => up18 a a.length (gr a 0).length (r p) (s q)) = detN k (kf a r s) := detN_congr k hkf
  have hR : ∀ p, p < k → rowC k (fun p q => up18 a a.length (gr a 0).length (r p) (s q)) p = gi (kX a r s k) p := fun p hp => by rw [rowC_congr hkf hp]; unfold kX; rw [gi_cofL hp]
  have hC : ∀ q, q < k → colC k (fun p q => up18 a a.length (gr a 0).length (r p) (s q)) q = gi (kY a r s k) q := fun q hq => by
    rw [colC_congr hkf, colC_rowC hk]; unfold kY; rw [gi_cofL hq]
  have hSR : sumN (rowC k fun p q => up18 a a.length (gr a 0).length (r p) (s q)) k = sumN (gi (kX a r s k)) k := sumN_congr hR
  have hSC : sumN (colC k fun p q => up18 a a.length (gr a 0).length (r p) (s q)) k = sumN (gi (kY a r s k)) k := sumN_congr hC
  have hSE : sumN (gi (kY a r s k)) k = sumN (gi (kX a r s k)) k := by rw [← hSC, K.eq, hSR]
  have hS0 : sumN (gi (kX a r s k)) k ≠ 0 := by rw [← hSR]; exact K.tot
  have clr : ∀ X : List Int, X.length = k → sumN (gi X) k ≠ 0 → (∀ p, p < k → 0 ≤ sumN (gi X) k * gi X p) → ClrP X := fun X hl h0 h => by
    refine ⟨?_, ?_⟩
    · apply Classical.byContradiction; intro hn
      apply h0
      rw [sumN_congr (g := fun _ => 0) fun p hp => by apply Classical.byContradiction; intro e; exact hn ⟨p, by omega, e⟩, sumN_zero]
    · by_cases hp : 0 < sumN (gi X) k
      · refine .inl fun p hpl => ?_
        have := h p (by omega)
        apply Classical.byContradiction; intro hneg
        have := Int.mul_neg_of_pos_of_neg hp (show gi X p < 0 by omega)
        omega
      · refine .inr fun p hpl => ?_
        have := h p (by omega)
        apply Classical.byContradiction; intro hneg
        have := Int.mul_neg_of_neg_of_pos (show sumN (gi X) k < 0 by omega) (show 0 < gi X p by omega)
        omega
  have cx : ClrP (kX a r s k) := clr _ (kX_len _ _ _ _) hS0 fun p hp => by
    have := K.x p hp; rw [hSR, hR p hp] at this; exact this
  have cy : ClrP (kY a r s k) := clr _ (kY_len _ _ _ _) (by rw [hSE]; exact hS0) fun q hq => by
    have := K.y q hq; rw [hSR, hC q hq] at this; rw [hSE]; exact this
  refine ⟨by rw [← hD]; exact K.det, cx, cy, ?_⟩
  obtain ⟨z, hz, hzp, hx, _, hzs⟩ := tot_shr (n := a.length) (kX_len a r s k) hr cx
  obtain ⟨z', hz', hzp', hy, _, hzs'⟩ := tot_shr (n := (gr a 0).length) (kY_len a r s k) hs cy
  rw [hSE] at hzs'
  have hzz : z' = z := by
    rcases hz with rfl | rfl <;> rcases hz' with rfl | rfl <;> omega
  subst hzz
  have gx := clr_pos cx
  have gy := clr_pos cy
  rw [kX_len] at gx
  rw [kY_len] at gy
  have hb := kern_best a (ntab a) (shr a.length r (kX a r s k) k) (shr (gr a 0).length s (kY a r s k) k) a.length (gr a 0).length k r s v.n1 v.m1 h1 K hr.1 hs.1 v.ntab_neg (putL_len _ _ _ _) (putL_len _ _ _ _)
    (gcdL (kX a r s k) k) (gcdL (kY a r s k) k) z' gx gy hz (by rw [hSR]; exact hzs)
    (fun i hi => by
      rw [hx i hi]; congr 1
      exact sumN_congr fun p hp => by rw [hR p hp])
    (fun j hj => by
      rw [hy j hj]; congr 1
      exact sumN_congr fun q hq => by rw [hC q hq])
  rw [wlast_def a _ _ _ rfl rfl, wlast_def (ntab a) _ _ _ (ntab_len a) v.ntab_m]
  exact hb
theorem ker_exists {a : List (List Int)} (v : VT a) : ∃ k r s, 1 ≤ k ∧ k ≤ 3 ∧ Asc a.length k r ∧ Asc (gr a 0).length k s ∧ KerP a k r s := by
  obtain ⟨k, r, s, h1, h3, hr, hs, K⟩ := V.kern_exists (up18 a a.length (gr a 0).length) a.length (gr a 0).length v.n1 v.m1 v.n3 v.m3
    (fun i j hi hj => by rw [up18_in hi hj]; have := v.bd hi hj; omega) (fun i j h => by unfold up18; rw [if_neg h])
  exact ⟨k, r, s, h1, h3, hr, hs, ker_of v h1 h3 hr hs K⟩
end Go.Proofs.Ytjmfkodbilknlaa

/- The first part of a table that tells best shares; the best shares. Plain. -/
namespace Go.Proofs.Ytjmfkodbilknlaa
open V (sumN detN rowC colC cofN minorN skip sgn Asc Kern)

def idx (S n : Nat) : Nat → Nat := fun p => (gi (memL S n) p).toNat
theorem memL_lt (S : Nat) : ∀ n p q, p < q → q < (memL S n).length → gi (memL S n) p < gi (memL S n) q
  | 0, p, q, _, h => by simp [memL] at h
  | n + 1, p, q, hpq, h => by
    by_cases e : S / 2 ^ n % 2 = 1
    · rw [memL_yes e] at h ⊢
      rw [List.length_append, List.length_singleton] at h
      by_cases hq : q < (memL S n).length
      · rw [gi_snoc_lt hq, gi_snoc_lt (by omega)]; exact memL_lt S n p q hpq hq
      · obtain rfl : q = (memL S n).length := by omega
        rw [gi_snoc_eq, gi_snoc_lt hpq]
        exact (memL_bd S n _ (gi_mem hpq)).2
    · rw [memL_no e] at h ⊢; exact memL_lt S n p q hpq h
theorem idx_int {S n p : Nat} (h : p < (memL S n).length) : ((idx S n p : Nat) : Int) = gi (memL S n) p := by
  have := (memL_bd S n _ (gi_mem h)).1
  unfold idx; omega
theorem idx_asc (S n : Nat) : Asc n (memL S n).length (idx S n) := by
  refine ⟨fun p hp => ?_, fun p hp => ?_⟩
  · have := (memL_bd S n _ (gi_mem hp)).2
    have := idx_int hp
    omega
  · have := memL_lt S n p (p + 1) (by omega) hp
    have := idx_int hp
    have := idx_int (S := S) (n := n) (p := p) (by omega)
    omega
theorem memL_idx (S n : Nat) : memL S n = lstN (idx S n) (memL S n).length :=
  gi_ext (by rw [lstN_len]) fun p hp => by rw [gi_lstN hp, idx_int hp]
theorem memL_mod : ∀ S, S < 8 → ∀ m, m < 4 → memL (S % 2 ^ m) m = memL S m := by decide
theorem memL_all3 : ∀ S, S < 8 → ∀ n, n < 4 → S < 2 ^ n → memL S 3 = memL S n := by decide
theorem memL_three : ∀ S, S < 8 → (memL S 3).length ≤ 3 := by decide

theorem set_of {n k : Nat} {r : Nat → Nat} (hn : n ≤ 3) (h1 : 1 ≤ k) (hr : Asc n k r) : ∃ S, 1 ≤ S ∧ S < 2 ^ n ∧ memL S n = lstN r k := by
  have hkn : k ≤ n := by
    have : ∀ p, p < k → p ≤ r p := fun p => by
      induction p with
      | zero => intro _; omega
      | succ p ih => intro hp; have := ih (by omega); have := hr.2 p hp; omega
    have h := this (k - 1) (by omega)
    have := hr.1 (k - 1) (by omega)
    omega
  have k3 : k = 1 ∨ k = 2 ∨ k = 3 := by omega
  have n3 : n = 1 ∨ n = 2 ∨ n = 3 := by omega
  rcases k3 with rfl | rfl | rfl
  · have h0 := hr.1 0 (by omega)
    have e : lstN r 1 = [(r 0 : Int)] := by simp [lstN, List.range_succ]
    rw [e]
    generalize r 0 = u at *
    rcases n3 with rfl | rfl | rfl
    · obtain rfl : u = 0 := by omega
      exact ⟨1, by decide⟩
    · have : u = 0 ∨ u = 1 := by omega
      rcases this with rfl | rfl
      · exact ⟨1, by decide⟩
      · exact ⟨2, by decide⟩
    · have : u = 0 ∨ u = 1 ∨ u = 2 := by omega
      rcases this with rfl | rfl | rfl
      · exact ⟨1, by decide⟩
      · exact ⟨2, by decide⟩
      · exact ⟨4, by decide⟩
  · have h0 := hr.1 0 (by omega)
    have h1 := hr.1 1 (by omega)
    have h2 := hr.2 0 (by omega)
    have e : lstN r 2 = [(r 0 : Int), (r 1 : Int)] := by simp [lstN, List.range_succ]
    rw [e]
    simp only [Nat.zero_add] at h2
    generalize r 0 = u at *
    generalize r 1 = t at *
    rcases n3 with rfl | rfl | rfl
    · omega
    · obtain ⟨rfl, rfl⟩ : u = 0 ∧ t = 1 := by omega
      exact ⟨3, by decide⟩
    · have : (u = 0 ∧ t = 1) ∨ (u = 0 ∧ t = 2) ∨ (u = 1 ∧ t = 2) := by omega
      rcases this with ⟨rfl, rfl⟩ | ⟨rfl, rfl⟩ | ⟨rfl, rfl⟩
      · exact ⟨3, by decide⟩
      · exact ⟨5, by decide⟩
      · exact ⟨6, by decide⟩
  · have h0 := hr.1 0 (by omega)
    have h1 := hr.1 1 (by omega)
    have h2 := hr.1 2 (by omega)
    have h3 := hr.2 0 (by omega)
    have h4 := hr.2 1 (by omega)
    have e : lstN r 3 = [(r 0 : Int), (r 1 : Int), (r 2 : Int)] := by simp [lstN, List.range_succ]
    rw [e]
    simp only [Nat.zero_add, Nat.reduceAdd] at h3 h4
    generalize r 0 = u at *
    generalize r 1 = t at *
    generalize r 2 = z at *
    obtain rfl : n = 3 := by omega
    obtain ⟨rfl, rfl, rfl⟩ : u = 0 ∧ t = 1 ∧ z = 2 := by omega
    exact ⟨7, by decide⟩

theorem putL_congr {n : Nat} {r r' : Nat → Nat} {xs : List Int} : ∀ {k}, (∀ p, p < k → r p = r' p) → putL n r xs k = putL n r' xs k
  | 0, _ => rfl
  | k + 1, h => by rw [putL, putL, putL_congr (k := k) fun p hp => h p (by omega), h k (by omega)]
theorem kX_congr {a : List (List Int)} {k : Nat} {r r' s s' : Nat → Nat} (hr : ∀ p, p < k → r p = r' p) (hs : ∀ p, p < k → s p = s' p) : kX a r s k = kX a r' s' k :=
  gi_ext (by rw [kX_len, kX_len]) fun p hp => by
    rw [kX_len] at hp
    unfold kX; rw [gi_cofL hp, gi_cofL hp]
    exact rowC_congr (fun i j hi hj => by unfold kf; rw [hr i hi, hs j hj]) hp
theorem kY_congr {a : List (List Int)} {k : Nat} {r r' s s' : Nat → Nat} (hr : ∀ p, p < k → r p = r' p) (hs : ∀ p, p < k → s p = s' p) : kY a r s k = kY a r' s' k :=
  gi_ext (by rw [kY_len, kY_len]) fun p hp => by
    rw [kY_len] at hp
    unfold kY; rw [gi_cofL hp, gi_cofL hp]
    exact rowC_congr (fun i j hi hj => by unfold trN kf; rw [hr j hj, hs i hi]) hp
theorem KerP.congr {a : List (List Int)} {k : Nat} {r r' s s' : Nat → Nat} (hr : ∀ p, p < k → r p = r' p) (hs : ∀ p, p < k → s p = s' p) (h : KerP a k r s) : KerP a k r' s' := by
  have e1 := kX_congr (a := a) hr hs
  have e2 := kY_congr (a := a) hr hs
  refine ⟨?_, by rw [← e1]; exact h.cx, by rw [← e2]; exact h.cy, ?_⟩
  · rw [← detN_congr k (f := kf a r s) fun p q hp hq => by unfold kf; rw [hr p hp, hs q hq]]; exact h.det
  · have := h.eq
    unfold shr at this ⊢
    rw [← e1, ← e2, ← putL_congr hr, ← putL_congr hs]
    exact this

/-- The part with these sets of rows and columns tells best shares. -/
def kerAt (a : List (List Int)) (S T : Nat) : Prop :=
  1 ≤ (memL S a.length).length ∧ (memL S a.length).length = (memL T (gr a 0).length).length ∧ KerP a (memL S a.length).length (idx S a.length) (idx T (gr a 0).length)
structure FirstK (a : List (List Int)) (S T : Nat) : Prop where
  s1 : 1 ≤ S
  sn : S < 2 ^ a.length
  t1 : 1 ≤ T
  tm : T < 2 ^ (gr a 0).length
  at_ : kerAt a S T
  noS : ∀ S' T', 1 ≤ S' → S' < S → 1 ≤ T' → T' < 8 → ¬ kerAt a S' T'
  noT : ∀ T', 1 ≤ T' → T' < T → ¬ kerAt a S T'
theorem pow_le8 {n : Nat} (h : n ≤ 3) : 2 ^ n ≤ 8 := by
  have : n = 0 ∨ n = 1 ∨ n = 2 ∨ n = 3 := by omega
  rcases this with rfl | rfl | rfl | rfl <;> decide
theorem least_of {P : Nat → Prop} : ∀ n, P n → ∃ m, m ≤ n ∧ P m ∧ ∀ k, k < m → ¬ P k := fun n => by
  induction n using Nat.strongRecOn with
  | _ n ih =>
    intro h
    by_cases e : ∃ k, k < n ∧ P k
    · obtain ⟨k, hk, hp⟩ := e
      obtain ⟨m, hm, h1, h2⟩ := ih k hk hp
      exact ⟨m, by omega, h1, h2⟩
    · exact ⟨n, Nat.le_refl _, h, fun k hk hp => e ⟨k, hk, hp⟩⟩
theorem kerAt_mod {a : List (List Int)} (v : VT a) {S T : Nat} (hT : T < 8) (h : kerAt a S T) : kerAt a S (T % 2 ^ (gr a 0).length) ∧ 1 ≤ T % 2 ^ (gr a 0).length := by
  have e := memL_mod T hT (gr a 0).length (by have := v.m3; omega)
  have e2 : idx (T % 2 ^ (gr a 0).length) (gr a 0).length = idx T (gr a 0).length := by unfold idx; rw [e]
  refine ⟨by unfold kerAt; rw [e, e2]; exact h, ?_⟩
  apply Classical.byContradiction; intro hn
  have h0 : T % 2 ^ (gr a 0).length = 0 := by omega
  have h1 := h.1
  rw [h.2.1, ← e, h0] at h1
  have z : ∀ m, memL 0 m = [] := fun m => by
    induction m with
    | zero => rfl
    | succ m ih => rw [memL_no (by simp), ih]
  rw [z] at h1
  simp at h1
theorem first_exists {a : List (List Int)} (v : VT a) : ∃ S T, FirstK a S T := by
  obtain ⟨k, r, s, h1, h3, hr, hs, K⟩ := ker_exists v
  obtain ⟨S0, s1, sn, es⟩ := set_of v.n3 h1 hr
  obtain ⟨T0, t1, tm, et⟩ := set_of v.m3 h1 hs
  have p8 := pow_le8 v.m3
  have ls : (memL S0 a.length).length = k := by rw [es, lstN_len]
  have lt : (memL T0 (gr a 0).length).length = k := by rw [et, lstN_len]
  have h0 : kerAt a S0 T0 := by
    refine ⟨by omega, by omega, ?_⟩
    rw [ls]
    exact K.congr (fun p hp => by unfold idx; rw [es, gi_lstN hp]; rfl) (fun p hp => by unfold idx; rw [et, gi_lstN hp]; rfl)
  obtain ⟨S, hS, ⟨hS1, T1, hT1, hT8, hK⟩, hSm⟩ := least_of (P := fun S => 1 ≤ S ∧ ∃ T, 1 ≤ T ∧ T < 8 ∧ kerAt a S T) S0 ⟨s1, T0, t1, by omega, h0⟩
  obtain ⟨T, hT, ⟨hT1', hK'⟩, hTm⟩ := least_of (P := fun T => 1 ≤ T ∧ kerAt a S T) T1 ⟨hT1, hK⟩
  refine ⟨S, T, hS1, by omega, hT1', ?_, hK', fun S' T' h1 h2 h3 h4 h5 => hSm S' h2 ⟨h1, T', h3, h4, h5⟩, fun T' h1 h2 h3 => hTm T' h2 ⟨h1, h3⟩⟩
  apply Classical.byContradiction; intro hn
  obtain ⟨q1, q2⟩ := kerAt_mod v (show T < 8 by omega) hK'
  have hlt : T % 2 ^ (gr a 0).length < 2 ^ (gr a 0).length := Nat.mod_lt _ (by have := Nat.two_pow_pos (gr a 0).length; omega)
  exact hTm _ (by omega) ⟨q2, q1⟩

/-- The sets of the first such part, and the shares that it tells. -/
noncomputable def vST (a : List (List Int)) : Nat × Nat := @dite _ (∃ p : Nat × Nat, FirstK a p.1 p.2) (Classical.propDecidable _) (fun h => Classical.choose h) fun _ => (0, 0)
noncomputable def vS (a : List (List Int)) : Nat := (vST a).1
noncomputable def vT (a : List (List Int)) : Nat := (vST a).2
theorem first_of {a : List (List Int)} (v : VT a) : FirstK a (vS a) (vT a) := by
  have h : ∃ p : Nat × Nat, FirstK a p.1 p.2 := let ⟨S, T, h⟩ := first_exists v; ⟨(S, T), h⟩
  have e : vST a = Classical.choose h := by unfold vST; rw [dif_pos h]
  unfold vS vT
  rw [e]
  exact Classical.choose_spec h
noncomputable def bxk (a : List (List Int)) : Nat := (memL (vS a) a.length).length
noncomputable def bx (a : List (List Int)) : List Int := shr a.length (idx (vS a) a.length) (kX a (idx (vS a) a.length) (idx (vT a) (gr a 0).length) (bxk a)) (bxk a)
noncomputable def by_ (a : List (List Int)) : List Int := shr (gr a 0).length (idx (vT a) (gr a 0).length) (kY a (idx (vS a) a.length) (idx (vT a) (gr a 0).length) (bxk a)) (bxk a)
theorem bxk_bd {a : List (List Int)} (v : VT a) : 1 ≤ bxk a ∧ bxk a ≤ 3 := by
  have h := (first_of v).at_.1
  have := memL_le (vS a) a.length
  have := v.n3
  unfold bxk
  omega
/-- They are best. -/
theorem best_is {a : List (List Int)} (v : VT a) : BestP a (bx a) (by_ a) := by
  have F := first_of v
  have hk := bxk_bd v
  obtain ⟨_, h2, K⟩ := F.at_
  have hr := idx_asc (vS a) a.length
  have hs := idx_asc (vT a) (gr a 0).length
  rw [← h2] at hs
  have sh := KerP.shares v hk.2 hr hs K.cx K.cy
  exact ⟨⟨v, sh.1, sh.2⟩, K.eq⟩
end Go.Proofs.Ytjmfkodbilknlaa

/- The sums of rows; a square turned: by the program. -/
namespace Go.Proofs.Ytjmfkodbilknlaa
open Go.RowKit
open V (sumN detN rowC colC cofN minorN skip sgn)

/-- The sums of the first i of n rows, and 0 for the others. -/
def rsT (xss : List (List Int)) (n i : Nat) : List Int := (List.range n).map fun p => if p < i then tot (gr xss p) else 0
def rsL (xss : List (List Int)) (n : Nat) : List Int := (List.range n).map fun p => tot (gr xss p)
theorem rsT_len (xss : List (List Int)) (n i : Nat) : (rsT xss n i).length = n := by simp [rsT]
theorem gi_rsT {xss : List (List Int)} {n i p : Nat} (h : p < n) : gi (rsT xss n i) p = if p < i then tot (gr xss p) else 0 := by rw [gi_get (by rw [rsT_len]; exact h)]; simp [rsT]
theorem rsL_len (xss : List (List Int)) (n : Nat) : (rsL xss n).length = n := by simp [rsL]
theorem gi_rsL {xss : List (List Int)} {n p : Nat} (h : p < n) : gi (rsL xss n) p = tot (gr xss p) := by rw [gi_get (by rw [rsL_len]; exact h)]; simp [rsL]
theorem rsT_zero (xss : List (List Int)) (n : Nat) : rsT xss n 0 = List.replicate n 0 := gi_ext (by rw [rsT_len]; simp) fun p hp => by rw [rsT_len] at hp; rw [gi_rsT hp, gi_repl hp, if_neg (by omega)]
theorem rsT_all (xss : List (List Int)) (n : Nat) : rsT xss n n = rsL xss n := gi_ext (by rw [rsT_len, rsL_len]) fun p hp => by rw [rsT_len] at hp; rw [gi_rsT hp, gi_rsL hp, if_pos hp]
theorem rsT_set {xss : List (List Int)} {n i : Nat} : (rsT xss n i).set i (tot (gr xss i)) = rsT xss n (i + 1) := gi_ext (by rw [List.length_set, rsT_len, rsT_len]) fun p hp => by
  rw [List.length_set, rsT_len] at hp
  rw [gi_set_at (by rw [rsT_len]; exact hp), gi_rsT hp, gi_rsT hp]
  by_cases e : i = p
  · subst e; rw [if_pos rfl, if_pos (by omega)]
  · rw [if_neg e]; split <;> split <;> first | rfl | omega

theorem SU.next {w n ys wr wr'} (h : SU w n ys wr) (k : Below wr.heap.size wr wr') : SU w n ys wr' :=
  ⟨h.own.below k, below_up h.up k, Nat.le_trans h.sz k.size⟩

/-- A square with numbers of any size in memory, every cell. -/
structure TabX (w : World) (b o : Nat) (rb ro cc : Nat → Nat) (n : Nat) (xs : List (List Int)) : Prop where
  row : ∀ i, i < n → w.cell? ⟨b, o + i, none⟩ = some (.slice (some ⟨rb i, ro i, none⟩) n (cc i))
  cell : ∀ i j, i < n → j < n → w.cell? ⟨rb i, ro i + j, none⟩ = some (.int .i64 (g2 xs i j))
  bd : ∀ i j, i < n → j < n → -1000000000000000 ≤ g2 xs i j ∧ g2 xs i j ≤ 1000000000000000
theorem TabX.keep {w w' : World} {b o rb ro cc n xs} (h : TabX w b o rb ro cc n xs) (k : Keep w w') : TabX w' b o rb ro cc n xs :=
  ⟨fun i hi => k _ _ (h.row i hi), fun i j hi hj => k _ _ (h.cell i j hi hj), h.bd⟩
theorem IntRows.tabX {w A n c xs f} (h : IntRows w A n c xs) (q : Sq n xs f) (h0 : 0 < n) (hb : ∀ i j, i < n → j < n → -1000000000000000 ≤ f i j ∧ f i j ≤ 1000000000000000) : ∃ b o rb ro cc, A = some ⟨b, o, none⟩ ∧ TabX w b o rb ro cc n xs := by
  obtain ⟨b, o, rfl, hr⟩ := h.at_ h0
  have each : ∀ i, i < n → ∃ y : Nat × Nat × Nat, w.cell? ⟨b, o + i, none⟩ = some (.slice (some ⟨y.1, y.2.1, none⟩) n y.2.2) ∧ ∀ j, j < n → w.cell? ⟨y.1, y.2.1 + j, none⟩ = some (.int .i64 (g2 xs i j)) := by
    intro i hi
    obtain ⟨R, c', h1, h2⟩ := hr i hi
    have hrow := q.row i hi
    obtain ⟨b2, o2, rfl, hc⟩ := h2.at_ (by omega)
    exact ⟨(b2, o2, c'), by rw [← hrow]; rw [hrow] at h1 ⊢; exact h1, fun j hj => hc j (by omega)⟩
  obtain ⟨y, hy⟩ := Go.Deep.choose_lt each
  exact ⟨b, o, fun i => (y i).1, fun i => (y i).2.1, fun i => (y i).2.2, rfl, fun i hi => (hy i hi).1, fun i j hi hj => (hy i hi).2 j hj, fun i j hi hj => by rw [q.eq i j hi hj]; exact hb i j hi hj⟩
theorem turnO_ownX {w wr : World} {n m : Nat} {xs : List (List Int)} (h : TurnO w wr n m m xs) (hn : n ≤ 3) (hm : m ≤ 3) (hbd : ∀ i j, i < n → j < m → -1000000000000000 ≤ g2 xs i j ∧ g2 xs i j ≤ 1000000000000000) :
    OwnR w.heap.size wr.heap.size wr w.heap.size (some ⟨w.heap.size, 0, none⟩) m m (flip xs n m) := by
  have hs := h.size
  refine ⟨by simp [flip], Nat.le_refl _, by omega, fun _ => ⟨0, fun k => w.heap.size + 1 + k, fun k => some ⟨w.heap.size + 1 + k, 0, none⟩, fun _ => n, rfl, Nat.le_refl _, h.top.lt, fun k hk => ?_, fun j k hj _ _ _ => by show w.heap.size + 1 + j ≠ w.heap.size + 1 + k; omega⟩⟩
  have hl : ((List.range n).map fun i => g2 xs i k).length = n := by simp
  rw [gr_flip hk, hl]
  refine ⟨by rw [Nat.zero_add]; exact h.top.frozen k, by rw [Nat.zero_add, h.top.cell hk, ttop, if_pos hk], OwnI.of_rowIs hl (by omega) ?_ (by show w.heap.size ≤ w.heap.size + 1 + k; omega) (by show w.heap.size + 1 + k < _; omega) (h.done k hk) (fun i hi => by rw [gi_col hi]), fun _ => by show w.heap.size + 1 + k ≠ w.heap.size; omega⟩
  intro x hx
  obtain ⟨i, hi, rfl⟩ := List.mem_map.1 hx
  have := hbd i k (List.mem_range.1 hi) hk
  omega

set_option maxHeartbeats 1000000 in
theorem turnedX_any (b o : Nat) (rb ro cc : Nat → Nat) (n c : Nat) (xs : List (List Int)) (w : World) (h : TabX w b o rb ro cc n xs) (hn1 : 0 < n) (hn3 : n ≤ 3) :
    Calls Try.prog 63 #[.slice (some ⟨b, o, none⟩) n c] w (MadeT w n n xs) := by
  have HT := Lib.hid h
  have r0 := h.row 0 (by omega)
  simp only [Nat.add_zero] at r0
  clear h
  have hmk := run_make_row' (P := Try.prog) 22 36 (.slice none 0 0) 24 Try.underlying22 Try.info36 rfl .i64 .i64 n (by omega) (by omega)
  go_enter Try.func63, Try.ntmps63
  go_wp2
  clear hmk
  go_loopw [13] (fun s wr => ∃ k : Nat, k ≤ n ∧ s = .int .i64 k ∧ Hid (TurnO w wr n n k xs)) (fun s _ => n - (intOf s).toNat)
  case atStart => exact ⟨0, Nat.zero_le _, rfl, Lib.hid (turnO_start w n n xs)⟩
  case round =>
    obtain ⟨k, hk, rfl, HO⟩ := hrel
    by_cases hlt : k < n
    · have hmk2 := run_make_row' (P := Try.prog) 36 3 (.int .i64 0) 8 Try.underlying36 Try.info3 rfl .i64 .i64 n (by omega) (by omega)
      have c1 := (HO.out.top.alloc (.cells (madeCells #[.int .i64 0] n) 3)).cell hlt
      simp only [ttop, if_neg (Nat.lt_irrefl k)] at c1
      have c2 := (HO.out.top.alloc (.cells (madeCells #[.int .i64 0] n) 3)).frozen k
      have HI := Lib.hid (turnI_start HO.out)
      clear HO
      go_wp2
      clear hmk2 c1 c2
      go_loopw [24] (fun s wi => ∃ r : Nat, r ≤ n ∧ s = .int .i64 r ∧ Hid (TurnI w wi n n k r xs)) (fun s _ => n - (intOf s).toNat)
      case atStart => exact ⟨0, Nat.zero_le _, rfl, HI⟩
      case round =>
        clear HI
        obtain ⟨r, hr, rfl, HI⟩ := hrel
        by_cases hrn : r < n
        · have c1 := HI.out.top.cell hlt
          simp only [ttop, if_pos (Nat.lt_succ_self k)] at c1
          have hsrc := (HT.out.keep (Keep.below HI.out.below)).row r hrn
          have hel := (HT.out.keep (Keep.below HI.out.below)).cell r k hrn hlt
          have c3 := HI.out.cur.cell hrn
          simp only [if_neg (Nat.lt_irrefl r)] at c3
          have c4 := HI.out.cur.frozen r
          have HN := Lib.hid ((turnI_step HI.out (Quiet.refl _)).drew)
          go_wp2
          go_region
          all_goals
            clear c1 hsrc hel c3 c4 HI
            go_wp2
            go_roundw
            case rel => exact ⟨r + 1, by omega, by go_num, HN⟩
            case measure => simp [intOf]; omega
        · go_wp2
          go_roundw
          case rel => exact ⟨k + 1, by omega, by go_num, Lib.hid (turnI_done (by have h := HI.out; rw [show r = n by omega] at h; exact h))⟩
          case measure => simp [intOf]; omega
    · go_wp2
      go_ret
      obtain rfl : k = n := by omega
      exact ⟨rfl, turnO_ownX HO.out hn3 hn3 HT.out.bd, HO.out.below, HO.out.top.lt⟩

/-- The sums of cofactors, of rows and of columns. -/
theorem rsL_cofM (n : Nat) (f : Nat → Nat → Int) : rsL (cofM n f n) n = cofL n f n := gi_ext (by rw [rsL_len, cofL_len]) fun p hp => by
  rw [rsL_len] at hp
  rw [gi_rsL hp, gr_cofM hp, gi_cofL hp]
  unfold tot rowC
  rw [cofR_len, sm_sum]
  exact sumN_congr fun q hq => gi_cofR hq
theorem rsL_flip {n : Nat} (hn : n ≤ 3) (f : Nat → Nat → Int) : rsL (flip (cofM n f n) n n) n = cofL n (trN f) n := gi_ext (by rw [rsL_len, cofL_len]) fun q hq => by
  rw [rsL_len] at hq
  rw [gi_rsL hq, gi_cofL hq, rowC_tr hn, gr_flip hq]
  unfold tot colC
  rw [sm_sum, List.length_map, List.length_range]
  exact sumN_congr fun p hp => by rw [gi_col hp]; exact (cofM_sq n f).eq p q hp hq
end Go.Proofs.Ytjmfkodbilknlaa

/- Valid games, by both programs. -/
namespace Go.Proofs.Ytjmfkodbilknlaa
open Go.RowKit

set_option maxHeartbeats 400000 in
theorem validGame_any_a (A B : Option Addr) (n c m d : Nat) (xs ys : List (List Int)) (w : World) (hx : IntRows w A n c xs) (hy : IntRows w B m d ys) (h1 : ¬ VT xs) :
    Calls Try.prog 57 #[.agg #[.slice A n c, .slice B m d]] w (Ret (.bool (pb (VG xs ys))) w) := by
  have hb0 := below_alloc w (.cells #[.slice A n c, .slice B m d] 43)
  have b0 := blk_new w 43 #[.slice A n c, .slice B m d]
  have ca := blk_cell b0 (i := 0) (v := .slice A n c) rfl
  have cb := blk_cell b0 (i := 1) (v := .slice B m d) rfl
  have hx1 := hx.keep (Keep.below hb0)
  have hy1 := hy.keep (Keep.below hb0)
  have HB := Lib.hid hb0
  have HX := Lib.hid hx1
  have HY := Lib.hid hy1
  have lx := hx.cap
  have mx := hx.max
  have ly := hy.cap
  have my := hy.max
  clear hb0 b0 hx hy hx1 hy1
  have HV := Lib.hid (pb_false (p := VG xs ys) fun v => h1 v.ta)
  have p1 := pb_false h1
  clear h1
  go_enter Try.func57, Try.ntmps57
  go_wp2
  generalize w.alloc (.cells #[.slice A n c, .slice B m d] 43) = W1 at *
  have QX := Lib.hid (fun W (hW : Quiet W1 W) => (p1 ▸ validTable_any _ _ _ _ W (HX.out.keep (Keep.quiet hW))))
  go_quiet ((go_at_call 76; (with_reducible refine quiet_fit (QX.out _ ?_) (fun m => ?_)); exact ⟨_, rfl⟩; exact drewN_to1 _ _ _))
  go_wp2
  go_ret
  exact ⟨ret_bool HV.out.symm, below_drewN HB.out _⟩

set_option maxHeartbeats 400000 in
theorem validGame_any_b (A B : Option Addr) (n c m d : Nat) (xs ys : List (List Int)) (w : World) (hx : IntRows w A n c xs) (hy : IntRows w B m d ys) (h1 : VT xs) (h2 : ¬ VT ys) :
    Calls Try.prog 57 #[.agg #[.slice A n c, .slice B m d]] w (Ret (.bool (pb (VG xs ys))) w) := by
  have hb0 := below_alloc w (.cells #[.slice A n c, .slice B m d] 43)
  have b0 := blk_new w 43 #[.slice A n c, .slice B m d]
  have ca := blk_cell b0 (i := 0) (v := .slice A n c) rfl
  have cb := blk_cell b0 (i := 1) (v := .slice B m d) rfl
  have hx1 := hx.keep (Keep.below hb0)
  have hy1 := hy.keep (Keep.below hb0)
  have HB := Lib.hid hb0
  have HX := Lib.hid hx1
  have HY := Lib.hid hy1
  have lx := hx.cap
  have mx := hx.max
  have ly := hy.cap
  have my := hy.max
  clear hb0 b0 hx hy hx1 hy1
  have HV := Lib.hid (pb_false (p := VG xs ys) fun v => h2 v.tb)
  have p1 := pb_true h1
  have p2 := pb_false h2
  clear h1 h2
  go_enter Try.func57, Try.ntmps57
  go_wp2
  generalize w.alloc (.cells #[.slice A n c, .slice B m d] 43) = W1 at *
  have QX := Lib.hid (fun W (hW : Quiet W1 W) => (p1 ▸ validTable_any _ _ _ _ W (HX.out.keep (Keep.quiet hW))))
  have QY := Lib.hid (fun W (hW : Quiet W1 W) => (p2 ▸ validTable_any _ _ _ _ W (HY.out.keep (Keep.quiet hW))))
  go_quiet ((go_at_call 76; (first | (with_reducible refine quiet_fit (QX.out _ ?_) (fun m => ?_)) | (with_reducible refine quiet_fit (QY.out _ ?_) (fun m => ?_))); exact ⟨_, rfl⟩; exact drewN_to1 _ _ _))
  go_wp2
  go_ret
  exact ⟨ret_bool HV.out.symm, below_drewN HB.out _⟩

set_option maxHeartbeats 400000 in
theorem validGame_any_c (A B : Option Addr) (n c m d : Nat) (xs ys : List (List Int)) (w : World) (hx : IntRows w A n c xs) (hy : IntRows w B m d ys) (h1 : VT xs) (h2 : VT ys) (h3 : n ≠ m) :
    Calls Try.prog 57 #[.agg #[.slice A n c, .slice B m d]] w (Ret (.bool (pb (VG xs ys))) w) := by
  have hb0 := below_alloc w (.cells #[.slice A n c, .slice B m d] 43)
  have b0 := blk_new w 43 #[.slice A n c, .slice B m d]
  have ca := blk_cell b0 (i := 0) (v := .slice A n c) rfl
  have cb := blk_cell b0 (i := 1) (v := .slice B m d) rfl
  have hx1 := hx.keep (Keep.below hb0)
  have hy1 := hy.keep (Keep.below hb0)
  have HB := Lib.hid hb0
  have HX := Lib.hid hx1
  have HY := Lib.hid hy1
  have lx := hx.cap
  have mx := hx.max
  have ly := hy.cap
  have my := hy.max
  clear hb0 b0 hx hy hx1 hy1
  have HV := Lib.hid (pb_false (p := VG xs ys) fun v => h3 (by have := v.n; rw [HX.out.len, HY.out.len] at this; exact this))
  have h3' : ((n : Int) == (m : Int)) = false := by simp; omega
  have p1 := pb_true h1
  have p2 := pb_true h2
  clear h1 h2 h3
  go_enter Try.func57, Try.ntmps57
  go_wp2
  generalize w.alloc (.cells #[.slice A n c, .slice B m d] 43) = W1 at *
  have QX := Lib.hid (fun W (hW : Quiet W1 W) => (p1 ▸ validTable_any _ _ _ _ W (HX.out.keep (Keep.quiet hW))))
  have QY := Lib.hid (fun W (hW : Quiet W1 W) => (p2 ▸ validTable_any _ _ _ _ W (HY.out.keep (Keep.quiet hW))))
  go_quiet ((go_at_call 76; (first | (with_reducible refine quiet_fit (QX.out _ ?_) (fun m => ?_)) | (with_reducible refine quiet_fit (QY.out _ ?_) (fun m => ?_))); exact ⟨_, rfl⟩; exact drewN_to1 _ _ _))
  go_wp2
  go_ret
  exact ⟨ret_bool HV.out.symm, below_drewN HB.out _⟩

set_option maxHeartbeats 400000 in
theorem validGame_any_d (A B : Option Addr) (n c m d : Nat) (xs ys : List (List Int)) (w : World) (hx : IntRows w A n c xs) (hy : IntRows w B m d ys) (h1 : VT xs) (h2 : VT ys) (h3 : n = m) (h4 : (gr xs 0).length ≠ (gr ys 0).length) :
    Calls Try.prog 57 #[.agg #[.slice A n c, .slice B m d]] w (Ret (.bool (pb (VG xs ys))) w) := by
  have hb0 := below_alloc w (.cells #[.slice A n c, .slice B m d] 43)
  have b0 := blk_new w 43 #[.slice A n c, .slice B m d]
  have ca := blk_cell b0 (i := 0) (v := .slice A n c) rfl
  have cb := blk_cell b0 (i := 1) (v := .slice B m d) rfl
  have hx1 := hx.keep (Keep.below hb0)
  have hy1 := hy.keep (Keep.below hb0)
  have HB := Lib.hid hb0
  have HX := Lib.hid hx1
  have HY := Lib.hid hy1
  have lx := hx.cap
  have mx := hx.max
  have ly := hy.cap
  have my := hy.max
  clear hb0 b0 hx hy hx1 hy1
  have HV := Lib.hid (pb_false (p := VG xs ys) fun v => h4 v.m)
  have h4' : (((gr xs 0).length : Int) == ((gr ys 0).length : Int)) = false := by simp; omega
  have hn0 : 0 < n := by have := h1.n1; rw [HX.out.len] at this; omega
  have p1 := pb_true h1
  have p2 := pb_true h2
  obtain rfl : m = n := h3.symm
  clear h1 h2 h4
  go_enter Try.func57, Try.ntmps57
  go_wp2
  generalize w.alloc (.cells #[.slice A m c, .slice B m d] 43) = W1 at *
  obtain ⟨b, o, rfl, hc⟩ := HX.out.at_ hn0
  obtain ⟨R0, cc0, c0, hR0⟩ := hc 0 hn0
  obtain ⟨b2, o2, rfl, hc2⟩ := HY.out.at_ hn0
  obtain ⟨R2, cc2, c2, hR2⟩ := hc2 0 hn0
  simp only [Nat.add_zero] at c0 c2
  have hL0 : (gr xs 0).length ≤ 17592186044416 := hR0.max
  have hL2 : (gr ys 0).length ≤ 17592186044416 := hR2.max
  clear hc hc2 hR0 hR2
  have QX := Lib.hid (fun W (hW : Quiet W1 W) => (p1 ▸ validTable_any _ _ _ _ W (HX.out.keep (Keep.quiet hW))))
  have QY := Lib.hid (fun W (hW : Quiet W1 W) => (p2 ▸ validTable_any _ _ _ _ W (HY.out.keep (Keep.quiet hW))))
  go_quiet ((go_at_call 76; (first | (with_reducible refine quiet_fit (QX.out _ ?_) (fun m => ?_)) | (with_reducible refine quiet_fit (QY.out _ ?_) (fun m => ?_))); exact ⟨_, rfl⟩; exact drewN_to1 _ _ _))
  go_wp2
  go_ret
  exact ⟨ret_bool HV.out.symm, below_drewN HB.out _⟩

set_option maxHeartbeats 400000 in
theorem validGame_any_e (A B : Option Addr) (n c m d : Nat) (xs ys : List (List Int)) (w : World) (hx : IntRows w A n c xs) (hy : IntRows w B m d ys) (h1 : VT xs) (h2 : VT ys) (h3 : n = m) (h4 : (gr xs 0).length = (gr ys 0).length) :
    Calls Try.prog 57 #[.agg #[.slice A n c, .slice B m d]] w (Ret (.bool (pb (VG xs ys))) w) := by
  have hb0 := below_alloc w (.cells #[.slice A n c, .slice B m d] 43)
  have b0 := blk_new w 43 #[.slice A n c, .slice B m d]
  have ca := blk_cell b0 (i := 0) (v := .slice A n c) rfl
  have cb := blk_cell b0 (i := 1) (v := .slice B m d) rfl
  have hx1 := hx.keep (Keep.below hb0)
  have hy1 := hy.keep (Keep.below hb0)
  have HB := Lib.hid hb0
  have HX := Lib.hid hx1
  have HY := Lib.hid hy1
  have lx := hx.cap
  have mx := hx.max
  have ly := hy.cap
  have my := hy.max
  clear hb0 b0 hx hy hx1 hy1
  have HV := Lib.hid (pb_true (p := VG xs ys) ⟨h1, h2, by rw [HX.out.len, HY.out.len, h3], h4⟩)
  have h4' : (((gr xs 0).length : Int) == ((gr ys 0).length : Int)) = true := by simp [h4]
  have hn0 : 0 < n := by have := h1.n1; rw [HX.out.len] at this; omega
  have p1 := pb_true h1
  have p2 := pb_true h2
  obtain rfl : m = n := h3.symm
  clear h1 h2 h4
  go_enter Try.func57, Try.ntmps57
  go_wp2
  generalize w.alloc (.cells #[.slice A m c, .slice B m d] 43) = W1 at *
  obtain ⟨b, o, rfl, hc⟩ := HX.out.at_ hn0
  obtain ⟨R0, cc0, c0, hR0⟩ := hc 0 hn0
  obtain ⟨b2, o2, rfl, hc2⟩ := HY.out.at_ hn0
  obtain ⟨R2, cc2, c2, hR2⟩ := hc2 0 hn0
  simp only [Nat.add_zero] at c0 c2
  have hL0 : (gr xs 0).length ≤ 17592186044416 := hR0.max
  have hL2 : (gr ys 0).length ≤ 17592186044416 := hR2.max
  clear hc hc2 hR0 hR2
  have QX := Lib.hid (fun W (hW : Quiet W1 W) => (p1 ▸ validTable_any _ _ _ _ W (HX.out.keep (Keep.quiet hW))))
  have QY := Lib.hid (fun W (hW : Quiet W1 W) => (p2 ▸ validTable_any _ _ _ _ W (HY.out.keep (Keep.quiet hW))))
  go_quiet ((go_at_call 76; (first | (with_reducible refine quiet_fit (QX.out _ ?_) (fun m => ?_)) | (with_reducible refine quiet_fit (QY.out _ ?_) (fun m => ?_))); exact ⟨_, rfl⟩; exact drewN_to1 _ _ _))
  go_wp2
  go_ret
  exact ⟨ret_bool HV.out.symm, below_drewN HB.out _⟩

theorem validGame_any (A B : Option Addr) (n c m d : Nat) (xs ys : List (List Int)) (w : World) (hx : IntRows w A n c xs) (hy : IntRows w B m d ys) :
    Calls Try.prog 57 #[.agg #[.slice A n c, .slice B m d]] w (Ret (.bool (pb (VG xs ys))) w) := by
  by_cases h1 : VT xs
  · by_cases h2 : VT ys
    · by_cases h3 : n = m
      · by_cases h4 : (gr xs 0).length = (gr ys 0).length
        · exact validGame_any_e _ _ _ _ _ _ _ _ _ hx hy h1 h2 h3 h4
        · exact validGame_any_d _ _ _ _ _ _ _ _ _ hx hy h1 h2 h3 h4
      · exact validGame_any_c _ _ _ _ _ _ _ _ _ hx hy h1 h2 h3
    · exact validGame_any_b _ _ _ _ _ _ _ _ _ hx hy h1 h2
  · exact validGame_any_a _ _ _ _ _ _ _ _ _ hx hy h1

set_option maxHeartbeats 400000 in
theorem ValidGame_impl_a (A B : Option Addr) (n c m d : Nat) (xs ys : List (List Int)) (w : World) (hx : IntRows w A n c xs) (hy : IntRows w B m d ys) (h1 : ¬ VT xs) :
    Calls Try.prog 28 #[.agg #[.slice A n c, .slice B m d]] w (Ret (.bool (pb (VG xs ys))) w) := by
  have hb0 := below_alloc w (.cells #[.slice A n c, .slice B m d] 43)
  have b0 := blk_new w 43 #[.slice A n c, .slice B m d]
  have ca := blk_cell b0 (i := 0) (v := .slice A n c) rfl
  have cb := blk_cell b0 (i := 1) (v := .slice B m d) rfl
  have hx1 := hx.keep (Keep.below hb0)
  have hy1 := hy.keep (Keep.below hb0)
  have HB := Lib.hid hb0
  have HX := Lib.hid hx1
  have HY := Lib.hid hy1
  have lx := hx.cap
  have mx := hx.max
  have ly := hy.cap
  have my := hy.max
  clear hb0 b0 hx hy hx1 hy1
  have HV := Lib.hid (pb_false (p := VG xs ys) fun v => h1 v.ta)
  have p1 := pb_false h1
  clear h1
  go_enter Try.func28, Try.ntmps28
  go_wp2
  generalize w.alloc (.cells #[.slice A n c, .slice B m d] 43) = W1 at *
  have QX := Lib.hid (fun W (hW : Quiet W1 W) => (p1 ▸ ValidTable_impl _ _ _ _ W (HX.out.keep (Keep.quiet hW))))
  go_quiet ((go_at_call 62; (with_reducible refine quiet_fit (QX.out _ ?_) (fun m => ?_)); exact ⟨_, rfl⟩; exact drewN_to1 _ _ _))
  go_wp2
  go_ret
  exact ⟨ret_bool HV.out.symm, below_drewN HB.out _⟩

set_option maxHeartbeats 400000 in
theorem ValidGame_impl_b (A B : Option Addr) (n c m d : Nat) (xs ys : List (List Int)) (w : World) (hx : IntRows w A n c xs) (hy : IntRows w B m d ys) (h1 : VT xs) (h2 : ¬ VT ys) :
    Calls Try.prog 28 #[.agg #[.slice A n c, .slice B m d]] w (Ret (.bool (pb (VG xs ys))) w) := by
  have hb0 := below_alloc w (.cells #[.slice A n c, .slice B m d] 43)
  have b0 := blk_new w 43 #[.slice A n c, .slice B m d]
  have ca := blk_cell b0 (i := 0) (v := .slice A n c) rfl
  have cb := blk_cell b0 (i := 1) (v := .slice B m d) rfl
  have hx1 := hx.keep (Keep.below hb0)
  have hy1 := hy.keep (Keep.below hb0)
  have HB := Lib.hid hb0
  have HX := Lib.hid hx1
  have HY := Lib.hid hy1
  have lx := hx.cap
  have mx := hx.max
  have ly := hy.cap
  have my := hy.max
  clear hb0 b0 hx hy hx1 hy1
  have HV := Lib.hid (pb_false (p := VG xs ys) fun v => h2 v.tb)
  have p1 := pb_true h1
  have p2 := pb_false h2
  clear h1 h2
  go_enter Try.func28, Try.ntmps28
  go_wp2
  generalize w.alloc (.cells #[.slice A n c, .slice B m d] 43) = W1 at *
  have QX := Lib.hid (fun W (hW : Quiet W1 W) => (p1 ▸ ValidTable_impl _ _ _ _ W (HX.out.keep (Keep.quiet hW))))
  have QY := Lib.hid (fun W (hW : Quiet W1 W) => (p2 ▸ ValidTable_impl _ _ _ _ W (HY.out.keep (Keep.quiet hW))))
  go_quiet ((go_at_call 62; (first | (with_reducible refine quiet_fit (QX.out _ ?_) (fun m => ?_)) | (with_reducible refine quiet_fit (QY.out _ ?_) (fun m => ?_))); exact ⟨_, rfl⟩; exact drewN_to1 _ _ _))
  go_wp2
  go_ret
  exact ⟨ret_bool HV.out.symm, below_drewN HB.out _⟩

set_option maxHeartbeats 400000 in
theorem ValidGame_impl_c (A B : Option Addr) (n c m d : Nat) (xs ys : List (List Int)) (w : World) (hx : IntRows w A n c xs) (hy : IntRows w B m d ys) (h1 : VT xs) (h2 : VT ys) (h3 : n ≠ m) :
    Calls Try.prog 28 #[.agg #[.slice A n c, .slice B m d]] w (Ret (.bool (pb (VG xs ys))) w) := by
  have hb0 := below_alloc w (.cells #[.slice A n c, .slice B m d] 43)
  have b0 := blk_new w 43 #[.slice A n c, .slice B m d]
  have ca := blk_cell b0 (i := 0) (v := .slice A n c) rfl
  have cb := blk_cell b0 (i := 1) (v := .slice B m d) rfl
  have hx1 := hx.keep (Keep.below hb0)
  have hy1 := hy.keep (Keep.below hb0)
  have HB := Lib.hid hb0
  have HX := Lib.hid hx1
  have HY := Lib.hid hy1
  have lx := hx.cap
  have mx := hx.max
  have ly := hy.cap
  have my := hy.max
  clear hb0 b0 hx hy hx1 hy1
  have HV := Lib.hid (pb_false (p := VG xs ys) fun v => h3 (by have := v.n; rw [HX.out.len, HY.out.len] at this; exact this))
  have h3' : ((n : Int) == (m : Int)) = false := by simp; omega
  have p1 := pb_true h1
  have p2 := pb_true h2
  clear h1 h2 h3
  go_enter Try.func28, Try.ntmps28
  go_wp2
  generalize w.alloc (.cells #[.slice A n c, .slice B m d] 43) = W1 at *
  have QX := Lib.hid (fun W (hW : Quiet W1 W) => (p1 ▸ ValidTable_impl _ _ _ _ W (HX.out.keep (Keep.quiet hW))))
  have QY := Lib.hid (fun W (hW : Quiet W1 W) => (p2 ▸ ValidTable_impl _ _ _ _ W (HY.out.keep (Keep.quiet hW))))
  go_quiet ((go_at_call 62; (first | (with_reducible refine quiet_fit (QX.out _ ?_) (fun m => ?_)) | (with_reducible refine quiet_fit (QY.out _ ?_) (fun m => ?_))); exact ⟨_, rfl⟩; exact drewN_to1 _ _ _))
  go_wp2
  go_ret
  exact ⟨ret_bool HV.out.symm, below_drewN HB.out _⟩

set_option maxHeartbeats 400000 in
theorem ValidGame_impl_d (A B : Option Addr) (n c m d : Nat) (xs ys : List (List Int)) (w : World) (hx : IntRows w A n c xs) (hy : IntRows w B m d ys) (h1 : VT xs) (h2 : VT ys) (h3 : n = m) (h4 : (gr xs 0).length ≠ (gr ys 0).length) :
    Calls Try.prog 28 #[.agg #[.slice A n c, .slice B m d]] w (Ret (.bool (pb (VG xs ys))) w) := by
  have hb0 := below_alloc w (.cells #[.slice A n c, .slice B m d] 43)
  have b0 := blk_new w 43 #[.slice A n c, .slice B m d]
  have ca := blk_cell b0 (i := 0) (v := .slice A n c) rfl
  have cb := blk_cell b0 (i := 1) (v := .slice B m d) rfl
  have hx1 := hx.keep (Keep.below hb0)
  have hy1 := hy.keep (Keep.below hb0)
  have HB := Lib.hid hb0
  have HX := Lib.hid hx1
  have HY := Lib.hid hy1
  have lx := hx.cap
  have mx := hx.max
  have ly := hy.cap
  have my := hy.max
  clear hb0 b0 hx hy hx1 hy1
  have HV := Lib.hid (pb_false (p := VG xs ys) fun v => h4 v.m)
  have h4' : (((gr xs 0).length : Int) == ((gr ys 0).length : Int)) = false := by simp; omega
  have hn0 : 0 < n := by have := h1.n1; rw [HX.out.len] at this; omega
  have p1 := pb_true h1
  have p2 := pb_true h2
  obtain rfl : m = n := h3.symm
  clear h1 h2 h4
  go_enter Try.func28, Try.ntmps28
  go_wp2
  generalize w.alloc (.cells #[.slice A m c, .slice B m d] 43) = W1 at *
  obtain ⟨b, o, rfl, hc⟩ := HX.out.at_ hn0
  obtain ⟨R0, cc0, c0, hR0⟩ := hc 0 hn0
  obtain ⟨b2, o2, rfl, hc2⟩ := HY.out.at_ hn0
  obtain ⟨R2, cc2, c2, hR2⟩ := hc2 0 hn0
  simp only [Nat.add_zero] at c0 c2
  have hL0 : (gr xs 0).length ≤ 17592186044416 := hR0.max
  have hL2 : (gr ys 0).length ≤ 17592186044416 := hR2.max
  clear hc hc2 hR0 hR2
  have QX := Lib.hid (fun W (hW : Quiet W1 W) => (p1 ▸ ValidTable_impl _ _ _ _ W (HX.out.keep (Keep.quiet hW))))
  have QY := Lib.hid (fun W (hW : Quiet W1 W) => (p2 ▸ ValidTable_impl _ _ _ _ W (HY.out.keep (Keep.quiet hW))))
  go_quiet ((go_at_call 62; (first | (with_reducible refine quiet_fit (QX.out _ ?_) (fun m => ?_)) | (with_reducible refine quiet_fit (QY.out _ ?_) (fun m => ?_))); exact ⟨_, rfl⟩; exact drewN_to1 _ _ _))
  go_wp2
  go_ret
  exact ⟨ret_bool HV.out.symm, below_drewN HB.out _⟩

set_option maxHeartbeats 400000 in
theorem ValidGame_impl_e (A B : Option Addr) (n c m d : Nat) (xs ys : List (List Int)) (w : World) (hx : IntRows w A n c xs) (hy : IntRows w B m d ys) (h1 : VT xs) (h2 : VT ys) (h3 : n = m) (h4 : (gr xs 0).length = (gr ys 0).length) :
    Calls Try.prog 28 #[.agg #[.slice A n c, .slice B m d]] w (Ret (.bool (pb (VG xs ys))) w) := by
  have hb0 := below_alloc w (.cells #[.slice A n c, .slice B m d] 43)
  have b0 := blk_new w 43 #[.slice A n c, .slice B m d]
  have ca := blk_cell b0 (i := 0) (v := .slice A n c) rfl
  have cb := blk_cell b0 (i := 1) (v := .slice B m d) rfl
  have hx1 := hx.keep (Keep.below hb0)
  have hy1 := hy.keep (Keep.below hb0)
  have HB := Lib.hid hb0
  have HX := Lib.hid hx1
  have HY := Lib.hid hy1
  have lx := hx.cap
  have mx := hx.max
  have ly := hy.cap
  have my := hy.max
  clear hb0 b0 hx hy hx1 hy1
  have HV := Lib.hid (pb_true (p := VG xs ys) ⟨h1, h2, by rw [HX.out.len, HY.out.len, h3], h4⟩)
  have h4' : (((gr xs 0).length : Int) == ((gr ys 0).length : Int)) = true := by simp [h4]
  have hn0 : 0 < n := by have := h1.n1; rw [HX.out.len] at this; omega
  have p1 := pb_true h1
  have p2 := pb_true h2
  obtain rfl : m = n := h3.symm
  clear h1 h2 h4
  go_enter Try.func28, Try.ntmps28
  go_wp2
  generalize w.alloc (.cells #[.slice A m c, .slice B m d] 43) = W1 at *
  obtain ⟨b, o, rfl, hc⟩ := HX.out.at_ hn0
  obtain ⟨R0, cc0, c0, hR0⟩ := hc 0 hn0
  obtain ⟨b2, o2, rfl, hc2⟩ := HY.out.at_ hn0
  obtain ⟨R2, cc2, c2, hR2⟩ := hc2 0 hn0
  simp only [Nat.add_zero] at c0 c2
  have hL0 : (gr xs 0).length ≤ 17592186044416 := hR0.max
  have hL2 : (gr ys 0).length ≤ 17592186044416 := hR2.max
  clear hc hc2 hR0 hR2
  have QX := Lib.hid (fun W (hW : Quiet W1 W) => (p1 ▸ ValidTable_impl _ _ _ _ W (HX.out.keep (Keep.quiet hW))))
  have QY := Lib.hid (fun W (hW : Quiet W1 W) => (p2 ▸ ValidTable_impl _ _ _ _ W (HY.out.keep (Keep.quiet hW))))
  go_quiet ((go_at_call 62; (first | (with_reducible refine quiet_fit (QX.out _ ?_) (fun m => ?_)) | (with_reducible refine quiet_fit (QY.out _ ?_) (fun m => ?_))); exact ⟨_, rfl⟩; exact drewN_to1 _ _ _))
  go_wp2
  go_ret
  exact ⟨ret_bool HV.out.symm, below_drewN HB.out _⟩

theorem ValidGame_impl (A B : Option Addr) (n c m d : Nat) (xs ys : List (List Int)) (w : World) (hx : IntRows w A n c xs) (hy : IntRows w B m d ys) :
    Calls Try.prog 28 #[.agg #[.slice A n c, .slice B m d]] w (Ret (.bool (pb (VG xs ys))) w) := by
  by_cases h1 : VT xs
  · by_cases h2 : VT ys
    · by_cases h3 : n = m
      · by_cases h4 : (gr xs 0).length = (gr ys 0).length
        · exact ValidGame_impl_e _ _ _ _ _ _ _ _ _ hx hy h1 h2 h3 h4
        · exact ValidGame_impl_d _ _ _ _ _ _ _ _ _ hx hy h1 h2 h3 h4
      · exact ValidGame_impl_c _ _ _ _ _ _ _ _ _ hx hy h1 h2 h3
    · exact ValidGame_impl_b _ _ _ _ _ _ _ _ _ hx hy h1 h2
  · exact ValidGame_impl_a _ _ _ _ _ _ _ _ _ hx hy h1

end Go.Proofs.Ytjmfkodbilknlaa

/- The greatest of a row; rests by the greatest of a column and of a row. -/
namespace Go.Proofs.Ytjmfkodbilknlaa
def mx (xs : List Int) : Nat → Int
  | 0 => gi xs 0
  | k + 1 => max (mx xs k) (gi xs (k + 1))
def mxl (xs : List Int) : Int := mx xs (xs.length - 1)
theorem mx_ge (xs : List Int) : ∀ {k j : Nat}, j ≤ k → gi xs j ≤ mx xs k
  | 0, j, h => by obtain rfl : j = 0 := by omega
                  exact Int.le_refl _
  | k + 1, j, h => by
    simp only [mx]
    by_cases e : j = k + 1
    · subst e; omega
    · have := mx_ge xs (k := k) (j := j) (by omega); omega
theorem mx_at (xs : List Int) : ∀ k, ∃ j, j ≤ k ∧ gi xs j = mx xs k
  | 0 => ⟨0, Nat.le_refl _, rfl⟩
  | k + 1 => by
    obtain ⟨j, hj, e⟩ := mx_at xs k
    by_cases h : gi xs (k + 1) ≤ mx xs k
    · exact ⟨j, by omega, by simp only [mx]; omega⟩
    · exact ⟨k + 1, Nat.le_refl _, by simp only [mx]; omega⟩
theorem mxl_iff {xs : List Int} {j : Nat} (h : j < xs.length) : gi xs j = mxl xs ↔ ∀ k, k < xs.length → gi xs k ≤ gi xs j := by
  constructor
  · intro e k hk
    rw [e]
    exact mx_ge xs (by omega)
  · intro hall
    obtain ⟨i, hi, e⟩ := mx_at xs (xs.length - 1)
    have h1 := hall i (by omega)
    have h2 := mx_ge xs (k := xs.length - 1) (j := j) (by omega)
    unfold mxl
    omega
end Go.Proofs.Ytjmfkodbilknlaa

/- No rounds, by the model. -/
namespace Go.Proofs.Ytjmfkodbilknlaa
open Go.RowKit

theorem upTo_ {P : Nat → Prop} {a : Nat} (h : ∀ l, l < a → P l) (z : P a) : ∀ l, l < a + 1 → P l := fun l hl => by
  by_cases hla : l < a
  · exact h l hla
  · obtain rfl : l = a := by omega
    exact z

end Go.Proofs.Ytjmfkodbilknlaa

/- Pure rests, by the model. -/
namespace Go.Proofs.Ytjmfkodbilknlaa
open Go.RowKit

/-- It returns rows of its own. -/
def RetR (xss : List (List Int)) (w : World) (e : Ending) (w' : World) : Prop :=
  ∃ A n c g, e = .returned (.slice A n c) ∧ n = xss.length ∧ OwnR w.heap.size w'.heap.size w' g A n c xss ∧ Below w.heap.size w w'

end Go.Proofs.Ytjmfkodbilknlaa

/- Pure rests, by the program. -/
namespace Go.Proofs.Ytjmfkodbilknlaa
open Go.RowKit

set_option maxHeartbeats 400000 in
theorem Max_any (A : Option Addr) (n c : Nat) (r : List Int) (w : World) (hx : Ints w A n c r) (h0 : 0 < n) :
    Calls Try.prog 64 #[.slice A n c] w fun e w' => e = .returned (.int .i64 (mxl r)) ∧ Quiet w w' := by
  obtain ⟨lx, cx, mx_, _, hx⟩ := hx
  have Lx := Lib.hid lx
  clear lx
  obtain ⟨b, o, rfl, hc⟩ := hx h0
  have c0 := hc 0 h0
  simp only [Nat.add_zero] at c0
  go_enter Try.func64, Try.ntmps64
  go_wp2
  go_loopw [3, 4] (fun m i wr => ∃ k : Nat, k < n ∧ i = .int .i64 (k + 1 : Nat) ∧ m = .int .i64 (mx r k) ∧ Quiet w wr) (fun _ i _ => n - (intOf i).toNat)
  case atStart => exact ⟨0, h0, rfl, rfl, Quiet.refl _⟩
  case round =>
    obtain ⟨k, hk, rfl, rfl, q, rfl⟩ := hrel
    by_cases hlt : k + 1 < n
    · have c1 := hc (k + 1) hlt
      clear c0 hc
      go_wp2
      go_roundw
      case rel => exact ⟨k + 1, hlt, by go_num, congrArg (Value.int .i64) (by simp only [mx]; split <;> omega), ⟨_, rfl⟩⟩
      case measure => simp [intOf]; omega
    · obtain rfl : n = k + 1 := by omega
      go_wp2
      go_ret
      exact ⟨ret_int (by rw [mxl, Lx.out]; rfl), ⟨_, rfl⟩⟩

theorem RestAt_iff {xs ys : List (List Int)} {n m i j : Nat} (hi : i < n) (hj : j < m) (hl : (gr ys i).length = m) :
    RestAt xs ys n m i j ↔ g2 xs i j = mxl (gr (flip xs n m) j) ∧ g2 ys i j = mxl (gr ys i) := by
  have hc : gi (gr (flip xs n m) j) i = g2 xs i j := by rw [gr_flip hj, gi_col hi]
  have hcl : (gr (flip xs n m) j).length = n := by rw [gr_flip hj]; simp
  rw [← hc, mxl_iff (by rw [hcl]; exact hi), show g2 ys i j = gi (gr ys i) j from rfl, mxl_iff (by rw [hl]; exact hj), hcl, hl]
  constructor
  · rintro ⟨h1, h2⟩
    exact ⟨fun k hk => by rw [hc, gr_flip hj, gi_col hk]; exact h1 k hk, h2⟩
  · rintro ⟨h1, h2⟩
    exact ⟨fun k hk => by have := h1 k hk; rw [hc, gr_flip hj, gi_col hk] at this; exact this, h2⟩

theorem OwnR.row0 {lo hi w b n c xss} (h : OwnR lo hi w b (some ⟨b, 0, none⟩) n c xss) {k : Nat} (hk : k < n) : ∃ R cc, w.cell? ⟨b, k, none⟩ = some (.slice R (gr xss k).length cc) ∧ Ints w R (gr xss k).length cc (gr xss k) := by
  obtain ⟨o, G, R, C, e, _, _, hr, _⟩ := h.at_ (by omega)
  injection e with e
  injection e with _ e _
  subst e
  have := (hr k hk).2.1
  rw [Nat.zero_add] at this
  exact ⟨R k, C k, this, (hr k hk).2.2.1.ints⟩
end Go.Proofs.Ytjmfkodbilknlaa

/- The least of a row; the safe row. -/
namespace Go.Proofs.Ytjmfkodbilknlaa
open Go.RowKit

/-- What a valid table's rows are, each with its length. -/
theorem VT.len {a : List (List Int)} (v : VT a) {i : Nat} (hi : i < a.length) : (gr a i).length = (gr a 0).length := (v.rows i hi).1

noncomputable def srAt (a : List (List Int)) : Int := if pb (VT a) = true then (bst a a.length : Int) else 0
noncomputable def srNum (a : List (List Int)) : Int := if pb (VT a) = true then lst (gr a (bst a a.length)) else 0
end Go.Proofs.Ytjmfkodbilknlaa

