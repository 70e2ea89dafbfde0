/- Texts merged: V6 V7 Math10 V8 Math11 V9 Y2 N22 Z1 Math54 Math56 N16 Math50 Math2. -/
import Derived.Test.YtjkmgpiiamffgaaQ3
import Derived.RegionTactic
/- Numbers put to their places, by the model. -/
namespace Go.Proofs.Ytjkmgpiiamffgaa
open Go.RowKit

/-- Numbers being put to their places, in a row of the call's own. -/
structure SU (w : World) (n : Nat) (ys : List Int) (wr : World) : Prop where
  own : OwnI w.heap.size (w.heap.size + 1) wr w.heap.size (some ⟨w.heap.size, 0, none⟩) n n ys
  up : Below w.heap.size w wr
  sz : w.heap.size + 1 ≤ wr.heap.size
theorem gi_repl {n k : Nat} (h : k < n) : gi (List.replicate n 0) k = 0 := by rw [gi_get (by simpa using h)]; simp
theorem SU.start (w : World) (n : Nat) (hn : n ≤ 100) : SU w n (List.replicate n 0) (w.alloc (.cells (madeCells #[.int .i64 0] n) 3)) :=
  ⟨OwnI.of_rowIs (by simp) (by omega) (fun x hx => by have := List.eq_of_mem_replicate hx; omega) (Nat.le_refl _) (by omega) (World.rowIs_made w (.int .i64 0) n 3) (fun k hk => by rw [gi_repl hk]), below_alloc _ _, by simp⟩
theorem SU.set {w n ys wr} (h : SU w n ys wr) {k : Nat} (hk : k < n) {v : Int} (hv : -9223372036854775808 ≤ v ∧ v ≤ 9223372036854775807) : SU w n (ys.set k v) (wr.setCell ⟨w.heap.size, k, none⟩ (.int .i64 v)) := by
  have h1 := h.own.set hk (v := v) hv
  rw [Nat.zero_add] at h1
  exact ⟨h1, h.up.setCell (p := ⟨w.heap.size, k, none⟩) (Nat.le_refl _) _, by simpa [World.setCell] using h.sz⟩
theorem SU.qu {w n ys wr wr'} (h : SU w n ys wr) (k : Quiet wr wr') : SU w n ys wr' := by
  obtain ⟨m, rfl⟩ := k; exact ⟨h.own.of_block fun _ => rfl, below_drewN h.up m, h.sz⟩
theorem SU.cell {w n ys wr} (h : SU w n ys wr) {k : Nat} (hk : k < n) : wr.cell? ⟨w.heap.size, k, none⟩ = some (.int .i64 (gi ys k)) := by
  obtain ⟨b, o, e, hc⟩ := h.own.ints.at_ (by omega)
  injection e with e; injection e with e1 e2 _; subst e1; subst e2
  have := hc k hk; rwa [Nat.zero_add] at this
theorem SU.frozen {w n ys wr} (h : SU w n ys wr) {k : Nat} (hk : k < n) : wr.frozen? ⟨w.heap.size, k, none⟩ = false := by
  obtain ⟨o, e, _, _, hf⟩ := h.own.own (by omega)
  injection e with e; injection e with _ e2 _; subst e2
  have := hf k hk; rwa [Nat.zero_add] at this
theorem SU.new {w n ys wr} (h : SU w n ys wr) (hl : n = ys.length) : NewI w ys (.returned (.slice (some ⟨w.heap.size, 0, none⟩) n n)) wr :=
  ⟨_, _, _, w.heap.size, rfl, hl, h.own.mono (Nat.le_refl _) h.sz, h.up⟩

end Go.Proofs.Ytjkmgpiiamffgaa

/- Numbers without a common factor and without signs, by the model. -/
namespace Go.Proofs.Ytjkmgpiiamffgaa
open Go.RowKit

def upB (xs : List Int) : Nat → Bool
  | 0 => false
  | k + 1 => upB xs k || decide (0 < gi xs k)
def dnB (xs : List Int) : Nat → Bool
  | 0 => false
  | k + 1 => dnB xs k || decide (gi xs k < 0)
theorem upB_false {xs : List Int} : ∀ {k}, upB xs k = false ↔ ∀ p, p < k → gi xs p ≤ 0
  | 0 => by simp [upB]
  | k + 1 => by
    have ih := upB_false (xs := xs) (k := k)
    simp only [upB, Bool.or_eq_false_iff, decide_eq_false_iff_not, ih]
    refine ⟨fun ⟨h1, h2⟩ p hp => ?_, fun h => ⟨fun p hp => h p (by omega), by have := h k (by omega); omega⟩⟩
    by_cases e : p = k
    · subst e; omega
    · exact h1 p (by omega)
theorem dnB_false {xs : List Int} : ∀ {k}, dnB xs k = false ↔ ∀ p, p < k → 0 ≤ gi xs p
  | 0 => by simp [dnB]
  | k + 1 => by
    have ih := dnB_false (xs := xs) (k := k)
    simp only [dnB, Bool.or_eq_false_iff, decide_eq_false_iff_not, ih]
    refine ⟨fun ⟨h1, h2⟩ p hp => ?_, fun h => ⟨fun p hp => h p (by omega), by have := h k (by omega); omega⟩⟩
    by_cases e : p = k
    · subst e; omega
    · exact h1 p (by omega)
theorem upB_succ {xs : List Int} {k : Nat} {x : Int} (h : gi xs k = x) : upB xs (k + 1) = (upB xs k || decide (0 < x)) := by rw [upB, h]
theorem dnB_succ {xs : List Int} {k : Nat} {x : Int} (h : gi xs k = x) : dnB xs (k + 1) = (dnB xs k || decide (x < 0)) := by rw [dnB, h]
/-- What the loop has come to tells whether the numbers are cleared. -/
theorem clr_yes {xs : List Int} {k : Nat} (hk : xs.length = k) (h : ClrP xs) : 0 < gcdL xs k ∧ (upB xs k = false ∨ dnB xs k = false) := by
  subst hk
  obtain ⟨⟨p, hp, hn⟩, hs⟩ := h
  refine ⟨?_, ?_⟩
  · have h1 := gcdL_nn xs xs.length
    have h2 : gcdL xs xs.length ≠ 0 := fun e => hn (gcdL_zero.1 e p hp)
    omega
  · rcases hs with hs | hs
    · exact .inr (dnB_false.2 hs)
    · exact .inl (upB_false.2 hs)
theorem clr_no {xs : List Int} {k : Nat} (hk : xs.length = k) (h : ¬ ClrP xs) : gcdL xs k = 0 ∨ (upB xs k = true ∧ dnB xs k = true) := by
  subst hk
  by_cases h0 : gcdL xs xs.length = 0
  · exact .inl h0
  · refine .inr ?_
    have nz : ∃ p, p < xs.length ∧ gi xs p ≠ 0 := by
      apply Classical.byContradiction; intro hn
      exact h0 (gcdL_zero.2 fun p hp => by
        apply Classical.byContradiction; intro e; exact hn ⟨p, hp, e⟩)
    by_cases hu : upB xs xs.length = false
    · exact absurd ⟨nz, .inr (upB_false.1 hu)⟩ h
    · by_cases hd : dnB xs xs.length = false
      · exact absurd ⟨nz, .inl (dnB_false.1 hd)⟩ h
      · exact ⟨by simpa using hu, by simpa using hd⟩

/-- Numbers cleared, and that they are; or that they are not. -/
def NewC (w : World) (xs : List Int) (e : Ending) (w' : World) : Prop :=
  (ClrP xs ∧ ∃ Av n c gg, e = .returned (.tuple #[.slice Av n c, .bool true]) ∧ n = xs.length ∧ OwnI w.heap.size w'.heap.size w' gg Av n c (clrL xs (gcdL xs xs.length) xs.length) ∧ Below w.heap.size w w') ∨
  (¬ ClrP xs ∧ e = .returned (.tuple #[.slice none 0 0, .bool false]) ∧ Below w.heap.size w w')

theorem clr_val {x G : Int} (hx : -1000000000000000 ≤ x ∧ x ≤ 1000000000000000) (hG : 0 < G) : IntKind.i64.wrap ((if x < IntKind.i64.wrap (-x) then IntKind.i64.wrap (-x) else x).tdiv G) = max x (-x) / G := by
  rw [wrapIn (x := -x) (by omega)]
  have e : (if x < -x then -x else x) = max x (-x) := by split <;> omega
  rw [e, Int.tdiv_eq_ediv_of_nonneg (by omega)]
  have h1 : 0 ≤ max x (-x) / G := Int.ediv_nonneg (by omega) (by omega)
  have h2 : max x (-x) / G ≤ max x (-x) := Int.ediv_le_self _ (by omega)
  exact wrapIn (by omega)
theorem clrL_bd {xs : List Int} {G : Int} (hG : 0 < G) {k : Nat} (h : ∀ p, p < k → Mid (gi xs p)) : ∀ y ∈ clrL xs G k, -1000000000000000 ≤ y ∧ y ≤ 1000000000000000 := fun y hy => by
  obtain ⟨p, hp, rfl⟩ := List.mem_map.1 hy
  have hm := h p (List.mem_range.1 hp)
  unfold Mid at hm
  have h1 : 0 ≤ max (gi xs p) (-(gi xs p)) / G := Int.ediv_nonneg (by omega) (by omega)
  have h2 : max (gi xs p) (-(gi xs p)) / G ≤ max (gi xs p) (-(gi xs p)) := Int.ediv_le_self _ (by omega)
  omega

end Go.Proofs.Ytjkmgpiiamffgaa

/- Parts of a table that tell best shares, as both programs try them. Plain. -/
namespace Go.Proofs.Ytjkmgpiiamffgaa
open V (sumN detN rowC colC cofN minorN skip sgn Asc Kern)

theorem asc_lt {n k : Nat} {r : Nat → Nat} (h : Asc n k r) : ∀ {p q : Nat}, p < q → q < k → r p < r q := fun {p q} => by
  induction q with
  | zero => intro hp _; omega
  | succ q ih =>
    intro hp hq
    have h1 := h.2 q hq
    by_cases e : p = q
    · subst e; exact h1
    · have := ih (by omega) (by omega); omega
theorem asc_ne {n k : Nat} {r : Nat → Nat} (h : Asc n k r) : ∀ p q, p < q → q < k → r p ≠ r q := fun _ _ hp hq => by have := asc_lt h hp hq; omega

/-- Numbers from 9 to 27. -/
def Up (k : Nat) (f : Nat → Nat → Int) : Prop := ∀ p q, p < k → q < k → 9 ≤ f p q ∧ f p q ≤ 27
theorem Up.ab {k f} (h : Up k f) : Ab k f := fun p q hp hq => by have := h p q hp hq; omega
theorem Up.tr {k f} (h : Up k f) : Up k (trN f) := fun p q hp hq => h q p hq hp
theorem two_bd {a b c d : Int} (ha : -18 ≤ a ∧ a ≤ 18) (hb : -18 ≤ b ∧ b ≤ 18) (hc : -18 ≤ c ∧ c ≤ 18) (hd : -18 ≤ d ∧ d ≤ 18) : -648 ≤ a * b - c * d ∧ a * b - c * d ≤ 648 := by
  have h1 := mulbd ha hb
  have h2 := mulbd hc hd
  omega
theorem rowC_bd {k : Nat} {f : Nat → Nat → Int} (hk : k ≤ 3) (h : Up k f) {p : Nat} (hp : p < k) : -648 ≤ rowC k f p ∧ rowC k f p ≤ 648 := by
  have : k = 1 ∨ k = 2 ∨ k = 3 := by omega
  rcases this with rfl | rfl | rfl
  · obtain rfl : p = 0 := by omega
    simp [rowC, sumN, cofN, sgn, detN]
  · have h00 := h 0 0 (by omega) (by omega)
    have h01 := h 0 1 (by omega) (by omega)
    have h10 := h 1 0 (by omega) (by omega)
    have h11 := h 1 1 (by omega) (by omega)
    have : p = 0 ∨ p = 1 := by omega
    rcases this with rfl | rfl <;> simp [rowC, sumN, cofN, sgn, detN, minorN, skip] <;> omega
  · obtain ⟨e0, e1, e2⟩ := V.rowC3 f
    have h00 := h 0 0 (by omega) (by omega)
    have h01 := h 0 1 (by omega) (by omega)
    have h02 := h 0 2 (by omega) (by omega)
    have h10 := h 1 0 (by omega) (by omega)
    have h11 := h 1 1 (by omega) (by omega)
    have h12 := h 1 2 (by omega) (by omega)
    have h20 := h 2 0 (by omega) (by omega)
    have h21 := h 2 1 (by omega) (by omega)
    have h22 := h 2 2 (by omega) (by omega)
    have : p = 0 ∨ p = 1 ∨ p = 2 := by omega
    rcases this with rfl | rfl | rfl
    · have := two_bd (a := f 1 1 - f 1 0) (b := f 2 2 - f 2 0) (c := f 1 2 - f 1 0) (d := f 2 1 - f 2 0) (by omega) (by omega) (by omega) (by omega)
      have e : rowC 3 f 0 = (f 1 1 - f 1 0) * (f 2 2 - f 2 0) - (f 1 2 - f 1 0) * (f 2 1 - f 2 0) := by rw [e0]; grind
      rw [e]; exact this
    · have := two_bd (a := f 0 2 - f 0 0) (b := f 2 1 - f 2 0) (c := f 0 1 - f 0 0) (d := f 2 2 - f 2 0) (by omega) (by omega) (by omega) (by omega)
      have e : rowC 3 f 1 = (f 0 2 - f 0 0) * (f 2 1 - f 2 0) - (f 0 1 - f 0 0) * (f 2 2 - f 2 0) := by rw [e1]; grind
      rw [e]; exact this
    · have := two_bd (a := f 0 1 - f 0 0) (b := f 1 2 - f 1 0) (c := f 0 2 - f 0 0) (d := f 1 1 - f 1 0) (by omega) (by omega) (by omega) (by omega)
      have e : rowC 3 f 2 = (f 0 1 - f 0 0) * (f 1 2 - f 1 0) - (f 0 2 - f 0 0) * (f 1 1 - f 1 0) := by rw [e2]; grind
      rw [e]; exact this

theorem gi_cofL {k : Nat} {f : Nat → Nat → Int} {i p : Nat} (h : p < i) : gi (cofL k f i) p = rowC k f p := by
  rw [gi_get (by rw [cofL_len]; exact h)]; simp [cofL]
/-- The square of a part, raised. -/
def kf (a : List (List Int)) (r s : Nat → Nat) : Nat → Nat → Int := fun p q => g2 a (r p) (s q) + 18
def kX (a : List (List Int)) (r s : Nat → Nat) (k : Nat) : List Int := cofL k (kf a r s) k
def kY (a : List (List Int)) (r s : Nat → Nat) (k : Nat) : List Int := cofL k (trN (kf a r s)) k
/-- Numbers cleared, put to their places. -/
def shr (n : Nat) (r : Nat → Nat) (X : List Int) (k : Nat) : List Int := putL n r (clrL X (gcdL X X.length) X.length) k
structure KerP (a : List (List Int)) (k : Nat) (r s : Nat → Nat) : Prop where
  det : detN k (kf a r s) ≠ 0
  cx : ClrP (kX a r s k)
  cy : ClrP (kY a r s k)
  eq : wlast a (shr a.length r (kX a r s k) k) = (- (wlast (ntab a) (shr (gr a 0).length s (kY a r s k) k)).1, (wlast (ntab a) (shr (gr a 0).length s (kY a r s k) k)).2)
theorem kX_len (a : List (List Int)) (r s : Nat → Nat) (k : Nat) : (kX a r s k).length = k := cofL_len _ _ _
theorem kY_len (a : List (List Int)) (r s : Nat → Nat) (k : Nat) : (kY a r s k).length = k := cofL_len _ _ _
theorem kf_up {a : List (List Int)} (v : VT a) {k : Nat} {r s : Nat → Nat} (hr : Asc a.length k r) (hs : Asc (gr a 0).length k s) : Up k (kf a r s) := fun p q hp hq => by
  have := v.bd (hr.1 p hp) (hs.1 q hq)
  unfold kf
  omega
theorem kX_bd {a : List (List Int)} (v : VT a) {k : Nat} (hk : k ≤ 3) {r s : Nat → Nat} (hr : Asc a.length k r) (hs : Asc (gr a 0).length k s) {p : Nat} (hp : p < (kX a r s k).length) : -648 ≤ gi (kX a r s k) p ∧ gi (kX a r s k) p ≤ 648 := by
  rw [kX_len] at hp
  unfold kX; rw [gi_cofL hp]; exact rowC_bd hk (kf_up v hr hs) hp
theorem kY_bd {a : List (List Int)} (v : VT a) {k : Nat} (hk : k ≤ 3) {r s : Nat → Nat} (hr : Asc a.length k r) (hs : Asc (gr a 0).length k s) {p : Nat} (hp : p < (kY a r s k).length) : -648 ≤ gi (kY a r s k) p ∧ gi (kY a r s k) p ≤ 648 := by
  rw [kY_len] at hp
  unfold kY; rw [gi_cofL hp]; exact rowC_bd hk (kf_up v hr hs).tr hp

/-- What is cleared and put to its places are shares. -/
theorem gi_shr {n k : Nat} {r : Nat → Nat} {X : List Int} (hl : X.length = k) (hr : Asc n k r) {i : Nat} (hi : i < n) :
    gi (shr n r X k) i = sumN (fun p => if r p = i then max (gi X p) (-(gi X p)) / gcdL X k else 0) k := by
  subst hl
  unfold shr
  rw [gi_putL hi (asc_ne hr)]
  exact sumN_congr fun p hp => by rw [gi_clrL hp]
theorem max_ediv_mul {x g : Int} (h : g ∣ x) : max x (-x) / g * g = max x (-x) := by
  apply Int.ediv_mul_cancel
  by_cases h0 : 0 ≤ x
  · rw [show max x (-x) = x by omega]; exact h
  · rw [show max x (-x) = -x by omega]; exact (Int.dvd_neg).2 h
/-- Of numbers without different signs: z is their sign. -/
theorem clr_sign {X : List Int} (h : ClrP X) : ∃ z : Int, (z = 1 ∨ z = -1) ∧ ∀ p, p < X.length → max (gi X p) (-(gi X p)) = z * gi X p := by
  rcases h.sg with h | h
  · exact ⟨1, .inl rfl, fun p hp => by have := h p hp; omega⟩
  · exact ⟨-1, .inr rfl, fun p hp => by have := h p hp; omega⟩
theorem clr_pos {X : List Int} (h : ClrP X) : 0 < gcdL X X.length := (clr_yes rfl h).1
theorem shr_key {n k : Nat} {r : Nat → Nat} {X : List Int} (hl : X.length = k) (hr : Asc n k r) (h : ClrP X) : ∃ z : Int, (z = 1 ∨ z = -1) ∧ (∀ p, p < k → 0 ≤ z * gi X p) ∧
    ∀ i, i < n → gi (shr n r X k) i * gcdL X k = z * sumN (fun p => if r p = i then gi X p else 0) k := by
  obtain ⟨z, hz, hm⟩ := clr_sign h
  refine ⟨z, hz, fun p hp => by have := hm p (by omega); omega, fun i hi => ?_⟩
  rw [gi_shr hl hr hi, Int.mul_comm, ← sumN_mul, ← sumN_mul]
  refine sumN_congr fun p hp => ?_
  by_cases e : r p = i
  · rw [if_pos e, if_pos e, Int.mul_comm, max_ediv_mul (gcdL_dvd X hp)]
    exact hm p (by omega)
  · rw [if_neg e, if_neg e]; omega
theorem sumN_pos {f : Nat → Int} : ∀ {n}, (∀ i, i < n → 0 ≤ f i) → (∃ i, i < n ∧ 0 < f i) → 0 < sumN f n
  | 0, _, ⟨i, hi, _⟩ => absurd hi (by omega)
  | n + 1, h, ⟨i, hi, hp⟩ => by
    have h0 : 0 ≤ sumN f n := by
      have := sumN_le (f := fun _ => 0) (g := f) (n := n) fun j hj => h j (by omega)
      rw [sumN_zero] at this; exact this
    rw [sumN]
    by_cases e : i = n
    · subst e; omega
    · have := sumN_pos (f := f) (n := n) (fun j hj => h j (by omega)) ⟨i, by omega, hp⟩
      have := h n (by omega); omega
theorem tot_shr {n k : Nat} {r : Nat → Nat} {X : List Int} (hl : X.length = k) (hr : Asc n k r) (h : ClrP X) : ∃ z : Int, (z = 1 ∨ z = -1) ∧ (∀ p, p < k → 0 ≤ z * gi X p) ∧
    (∀ i, i < n → gi (shr n r X k) i * gcdL X k = z * sumN (fun p => if r p = i then gi X p else 0) k) ∧ tot (shr n r X k) * gcdL X k = z * sumN (gi X) k ∧ 0 < z * sumN (gi X) k := by
  obtain ⟨z, hz, hp, hk⟩ := shr_key hl hr h
  refine ⟨z, hz, hp, hk, ?_, ?_⟩
  · have := spread_key (shr n r X k) n k r (gi X) (fun _ => 1) _ z hr.1 hk
    simp only [Int.mul_one] at this
    unfold tot
    rw [show (shr n r X k).length = n from putL_len _ _ _ _, sm_sum]
    exact this
  · rw [← sumN_mul]
    refine sumN_pos hp ?_
    obtain ⟨p, hpl, hn⟩ := h.nz
    refine ⟨p, by omega, ?_⟩
    have := hp p (by omega)
    rcases hz with rfl | rfl <;> omega
theorem shr_VS {n k : Nat} {r : Nat → Nat} {X : List Int} (hl : X.length = k) (hr : Asc n k r) (h : ClrP X) (hb : ∀ p, p < X.length → -648 ≤ gi X p ∧ gi X p ≤ 648) : VS (shr n r X k) n := by
  have hg : 0 < gcdL X k := by have := clr_pos h; rwa [hl] at this
  obtain ⟨z, hz, hp, hkk, ht, hpos⟩ := tot_shr hl hr h
  have hln : (shr n r X k).length = n := putL_len _ _ _ _
  refine ⟨by omega, fun i hi => ?_, ?_⟩
  · rw [hln] at hi
    rw [gi_shr hl hr hi]
    -- only one of the places is i
    have one : ∀ {j : Nat}, j ≤ k → 0 ≤ sumN (fun p => if r p = i then max (gi X p) (-(gi X p)) / gcdL X k else 0) j ∧ sumN (fun p => if r p = i then max (gi X p) (-(gi X p)) / gcdL X k else 0) j ≤ 648 ∧
        ((∀ p, p < j → r p ≠ i) → sumN (fun p => if r p = i then max (gi X p) (-(gi X p)) / gcdL X k else 0) j = 0) := by
      intro j
      induction j with
      | zero => intro _; simp [sumN]
      | succ j ih =>
        intro hj
        obtain ⟨h1, h2, h3⟩ := ih (by omega)
        rw [sumN]
        by_cases e : r j = i
        · have hz0 : sumN (fun p => if r p = i then max (gi X p) (-(gi X p)) / gcdL X k else 0) j = 0 := h3 fun p hp e2 => asc_ne hr p j hp (by omega) (e2.trans e.symm)
          rw [hz0, if_pos e]
          have hb1 := hb j (by omega)
          have q1 : 0 ≤ max (gi X j) (-(gi X j)) / gcdL X k := Int.ediv_nonneg (by omega) (by omega)
          have q2 : max (gi X j) (-(gi X j)) / gcdL X k ≤ max (gi X j) (-(gi X j)) := Int.ediv_le_self _ (by omega)
          exact ⟨by omega, by omega, fun hall => absurd e (hall j (by omega))⟩
        · rw [if_neg e]
          exact ⟨by omega, by omega, fun hall => by rw [h3 fun p hp => hall p (by omega)]; rfl⟩
    have := one (Nat.le_refl k)
    exact ⟨this.1, by omega⟩
  · apply Classical.byContradiction; intro hneg
    have : tot (shr n r X k) * gcdL X k ≤ 0 * gcdL X k := Int.mul_le_mul_of_nonneg_right (by omega) (by omega)
    omega
theorem KerP.shares {a : List (List Int)} {k : Nat} {r s : Nat → Nat} (v : VT a) (hk : k ≤ 3) (hr : Asc a.length k r) (hs : Asc (gr a 0).length k s) (hx : ClrP (kX a r s k)) (hy : ClrP (kY a r s k)) :
    VS (shr a.length r (kX a r s k) k) a.length ∧ VS (shr (gr a 0).length s (kY a r s k) k) (gr a 0).length :=
  ⟨shr_VS (kX_len _ _ _ _) hr hx (fun _ hp => kX_bd v hk hr hs hp), shr_VS (kY_len _ _ _ _) hs hy (fun _ hp => kY_bd v hk hr hs hp)⟩
theorem wlast_def (a : List (List Int)) (x : List Int) (n m : Nat) (hn : a.length = n) (hm : (gr a 0).length = m) : wlast a x = wst a x n m (m - 1) := by subst hn; subst hm; rfl
theorem VT.ntab_neg {a : List (List Int)} (_ : VT a) : ∀ i j, i < a.length → j < (gr a 0).length → g2 (Go.Proofs.Ytjkmgpiiamffgaa.ntab a) j i = - g2 a i j := fun i j hi hj => by
  unfold g2 Go.Proofs.Ytjkmgpiiamffgaa.ntab
  have h1 := flip_len a a.length (gr a 0).length
  rw [gr_get (by rw [mtab_len, h1]; exact hj)]
  simp only [mtab, List.getElem_map, List.getElem_range]
  rw [gr_flip hj, gi_get (by rw [mrow_len]; simpa using hi)]
  simp only [mrow, List.getElem_map, List.getElem_range]
  rw [gi_col hi]; rfl
theorem colC_rowC {k : Nat} (hk : k ≤ 3) (f : Nat → Nat → Int) (q : Nat) : colC k f q = rowC k (trN f) q := (rowC_tr hk f q).symm
/-- A part that tells best shares passes the test. -/
theorem ker_of {a : List (List Int)} (v : VT a) {k : Nat} {r s : Nat → Nat} (h1 : 1 ≤ k) (hk : k ≤ 3) (hr : Asc a.length k r) (hs : Asc (gr a 0).length k s)
    (K : Kern (up18 a a.length (gr a 0).length) a.length (gr a 0).length k r s) : KerP a k r s := by
  have hkf : ∀ p q, p < k → q < k → up18 a a.length (gr a 0).length (r p) (s q) = kf a r s p q := fun p q hp hq => by rw [up18_in (hr.1 p hp) (hs.1 q hq)]; rfl
  have hD : detN k (fun p q => up18 a a.length (gr a 0).length (r p) (s q)) = detN k (kf a r s) := detN_congr k hkf
  have hR : ∀ p, p < k → rowC k (fun p q => up18 a a.length (gr a 0).length (r p) (s q)) p = gi (kX a r s k) p := fun p hp => by rw [rowC_congr hkf hp]; unfold kX; rw [gi_cofL hp]
  have hC : ∀ q, q < k → colC k (fun p q => up18 a a.length (gr a 0).length (r p) (s q)) q = gi (kY a r s k) q := fun q hq => by
    rw [colC_congr hkf, colC_rowC hk]; unfold kY; rw [gi_cofL hq]
  have hSR : sumN (rowC k fun p q => up18 a a.length (gr a 0).length (r p) (s q)) k = sumN (gi (kX a r s k)) k := sumN_congr hR
  have hSC : sumN (colC k fun p q => up18 a a.length (gr a 0).length (r p) (s q)) k = sumN (gi (kY a r s k)) k := sumN_congr hC
  have hSE : sumN (gi (kY a r s k)) k = sumN (gi (kX a r s k)) k := by rw [← hSC, K.eq, hSR]
  have hS0 : sumN (gi (kX a r s k)) k ≠ 0 := by rw [← hSR]; exact K.tot
  have clr : ∀ X : List Int, X.length = k → sumN (gi X) k ≠ 0 → (∀ p, p < k → 0 ≤ sumN (gi X) k * gi X p) → ClrP X := fun X hl h0 h => by
    refine ⟨?_, ?_⟩
    · apply Classical.byContradiction; intro hn
      apply h0
      rw [sumN_congr (g := fun _ => 0) fun p hp => by apply Classical.byContradiction; intro e; exact hn ⟨p, by omega, e⟩, sumN_zero]
    · by_cases hp : 0 < sumN (gi X) k
      · refine .inl fun p hpl => ?_
        have := h p (by omega)
        apply Classical.byContradiction; intro hneg
        have := Int.mul_neg_of_pos_of_neg hp (show gi X p < 0 by omega)
        omega
      · refine .inr fun p hpl => ?_
        have := h p (by omega)
        apply Classical.byContradiction; intro hneg
        have := Int.mul_neg_of_neg_of_pos (show sumN (gi X) k < 0 by omega) (show 0 < gi X p by omega)
        omega
  have cx : ClrP (kX a r s k) := clr _ (kX_len _ _ _ _) hS0 fun p hp => by
    have := K.x p hp; rw [hSR, hR p hp] at this; exact this
  have cy : ClrP (kY a r s k) := clr _ (kY_len _ _ _ _) (by rw [hSE]; exact hS0) fun q hq => by
    have := K.y q hq; rw [hSR, hC q hq] at this; rw [hSE]; exact this
  refine ⟨by rw [← hD]; exact K.det, cx, cy, ?_⟩
  obtain ⟨z, hz, hzp, hx, _, hzs⟩ := tot_shr (n := a.length) (kX_len a r s k) hr cx
  obtain ⟨z', hz', hzp', hy, _, hzs'⟩ := tot_shr (n := (gr a 0).length) (kY_len a r s k) hs cy
  rw [hSE] at hzs'
  have hzz : z' = z := by
    rcases hz with rfl | rfl <;> rcases hz' with rfl | rfl <;> omega
  subst hzz
  have gx := clr_pos cx
  have gy := clr_pos cy
  rw [kX_len] at gx
  rw [kY_len] at gy
  have hb := kern_best a (ntab a) (shr a.length r (kX a r s k) k) (shr (gr a 0).length s (kY a r s k) k) a.length (gr a 0).length k r s v.n1 v.m1 h1 K hr.1 hs.1 v.ntab_neg (putL_len _ _ _ _) (putL_len _ _ _ _)
    (gcdL (kX a r s k) k) (gcdL (kY a r s k) k) z' gx gy hz (by rw [hSR]; exact hzs)
    (fun i hi => by
      rw [hx i hi]; congr 1
      exact sumN_congr fun p hp => by rw [hR p hp])
    (fun j hj => by
      rw [hy j hj]; congr 1
      exact sumN_congr fun q hq => by rw [hC q hq])
  rw [wlast_def a _ _ _ rfl rfl, wlast_def (ntab a) _ _ _ (ntab_len a) v.ntab_m]
  exact hb
theorem ker_exists {a : List (List Int)} (v : VT a) : ∃ k r s, 1 ≤ k ∧ k ≤ 3 ∧ Asc a.length k r ∧ Asc (gr a 0).length k s ∧ KerP a k r s := by
  obtain ⟨k, r, s, h1, h3, hr, hs, K⟩ := V.kern_exists (up18 a a.length (gr a 0).length) a.length (gr a 0).length v.n1 v.m1 v.n3 v.m3
    (fun i j hi hj => by rw [up18_in hi hj]; have := v.bd hi hj; omega) (fun i j h => by unfold up18; rw [if_neg h])
  exact ⟨k, r, s, h1, h3, hr, hs, ker_of v h1 h3 hr hs K⟩
end Go.Proofs.Ytjkmgpiiamffgaa

/- Best shares by a part of a table, by the model. -/
namespace Go.Proofs.Ytjkmgpiiamffgaa
open Go.RowKit
open V (sumN detN rowC colC cofN minorN skip sgn Asc Kern)

/-- Shares by a part, and that they are best; or that there are none. -/
def NewK (w : World) (a : List (List Int)) (k : Nat) (r s : Nat → Nat) (e : Ending) (w' : World) : Prop :=
  (KerP a k r s ∧ ∃ A1 c1 A2 c2, e = .returned (.tuple #[.slice A1 a.length c1, .slice A2 (gr a 0).length c2, .bool true]) ∧ Ints w' A1 a.length c1 (shr a.length r (kX a r s k) k) ∧
    Ints w' A2 (gr a 0).length c2 (shr (gr a 0).length s (kY a r s k) k) ∧ Below w.heap.size w w') ∨
  (¬ KerP a k r s ∧ ∃ v1 v2, e = .returned (.tuple #[v1, v2, .bool false]) ∧ Below w.heap.size w w')
theorem flip_tr {xss : List (List Int)} {k : Nat} {f : Nat → Nat → Int} (h : Sq k xss f) : Sq k (flip xss k k) (trN f) :=
  ⟨flip_len _ _ _, fun p hp => by rw [gr_flip hp]; simp, fun p q hp hq => by
    unfold g2; rw [gr_flip hp, gi_col hq]; exact h.eq q p hq hp⟩
theorem Pl.keep {w w' : World} {X k c r n} (h : Pl w X k c r n) (q : Keep w w') : Pl w' X k c r n := ⟨h.ints.keep q, h.lt⟩

/-- What cleared answers, with its flag as a letter. -/
def ClrV (w' : World) (xs : List Int) (ok : Bool) (v : Value) : Prop :=
  (ok = true ∧ ClrP xs ∧ ∃ A c, v = .slice A xs.length c ∧ Ints w' A xs.length c (clrL xs (gcdL xs xs.length) xs.length)) ∨ (ok = false ∧ ¬ ClrP xs)
theorem NewC.uni {w w' : World} {xs : List Int} {e : Ending} (h : NewC w xs e w') : ∃ ok v, e = .returned (.tuple #[v, .bool ok]) ∧ Below w.heap.size w w' ∧ ClrV w' xs ok v := by
  rcases h with ⟨h1, A, n, c, g, rfl, rfl, ho, hb⟩ | ⟨h1, rfl, hb⟩
  · exact ⟨true, _, rfl, hb, .inl ⟨rfl, h1, A, c, rfl, ho.ints⟩⟩
  · exact ⟨false, _, rfl, hb, .inr ⟨rfl, h1⟩⟩
theorem ClrV.keep {w' w2 : World} {xs : List Int} {ok : Bool} {v : Value} (h : ClrV w' xs ok v) (k : Keep w' w2) : ClrV w2 xs ok v := by
  rcases h with ⟨h1, h2, A, c, h3, h4⟩ | h
  · exact .inl ⟨h1, h2, A, c, h3, h4.keep k⟩
  · exact .inr h
theorem mid_of {x : Int} (h : -648 ≤ x ∧ x ≤ 648) : Mid x := by unfold Mid; omega

end Go.Proofs.Ytjkmgpiiamffgaa

/- The first part of a table that tells best shares; the best shares. Plain. -/
namespace Go.Proofs.Ytjkmgpiiamffgaa
open V (sumN detN rowC colC cofN minorN skip sgn Asc Kern)

def idx (S n : Nat) : Nat → Nat := fun p => (gi (memL S n) p).toNat
theorem memL_lt (S : Nat) : ∀ n p q, p < q → q < (memL S n).length → gi (memL S n) p < gi (memL S n) q
  | 0, p, q, _, h => by simp [memL] at h
  | n + 1, p, q, hpq, h => by
    by_cases e : S / 2 ^ n % 2 = 1
    · rw [memL_yes e] at h ⊢
      rw [List.length_append, List.length_singleton] at h
      by_cases hq : q < (memL S n).length
      · rw [gi_snoc_lt hq, gi_snoc_lt (by omega)]; exact memL_lt S n p q hpq hq
      · obtain rfl : q = (memL S n).length := by omega
        rw [gi_snoc_eq, gi_snoc_lt hpq]
        exact (memL_bd S n _ (gi_mem hpq)).2
    · rw [memL_no e] at h ⊢; exact memL_lt S n p q hpq h
theorem idx_int {S n p : Nat} (h : p < (memL S n).length) : ((idx S n p : Nat) : Int) = gi (memL S n) p := by
  have := (memL_bd S n _ (gi_mem h)).1
  unfold idx; omega
theorem idx_asc (S n : Nat) : Asc n (memL S n).length (idx S n) := by
  refine ⟨fun p hp => ?_, fun p hp => ?_⟩
  · have := (memL_bd S n _ (gi_mem hp)).2
    have := idx_int hp
    omega
  · have := memL_lt S n p (p + 1) (by omega) hp
    have := idx_int hp
    have := idx_int (S := S) (n := n) (p := p) (by omega)
    omega
theorem memL_idx (S n : Nat) : memL S n = lstN (idx S n) (memL S n).length :=
  gi_ext (by rw [lstN_len]) fun p hp => by rw [gi_lstN hp, idx_int hp]
theorem memL_mod : ∀ S, S < 8 → ∀ m, m < 4 → memL (S % 2 ^ m) m = memL S m := by decide
theorem memL_all3 : ∀ S, S < 8 → ∀ n, n < 4 → S < 2 ^ n → memL S 3 = memL S n := by decide
theorem memL_three : ∀ S, S < 8 → (memL S 3).length ≤ 3 := by decide

theorem set_of {n k : Nat} {r : Nat → Nat} (hn : n ≤ 3) (h1 : 1 ≤ k) (hr : Asc n k r) : ∃ S, 1 ≤ S ∧ S < 2 ^ n ∧ memL S n = lstN r k := by
  have hkn : k ≤ n := by
    have : ∀ p, p < k → p ≤ r p := fun p => by
      induction p with
      | zero => intro _; omega
      | succ p ih => intro hp; have := ih (by omega); have := hr.2 p hp; omega
    have h := this (k - 1) (by omega)
    have := hr.1 (k - 1) (by omega)
    omega
  have k3 : k = 1 ∨ k = 2 ∨ k = 3 := by omega
  have n3 : n = 1 ∨ n = 2 ∨ n = 3 := by omega
  rcases k3 with rfl | rfl | rfl
  · have h0 := hr.1 0 (by omega)
    have e : lstN r 1 = [(r 0 : Int)] := by simp [lstN, List.range_succ]
    rw [e]
    generalize r 0 = u at *
    rcases n3 with rfl | rfl | rfl
    · obtain rfl : u = 0 := by omega
      exact ⟨1, by decide⟩
    · have : u = 0 ∨ u = 1 := by omega
      rcases this with rfl | rfl
      · exact ⟨1, by decide⟩
      · exact ⟨2, by decide⟩
    · have : u = 0 ∨ u = 1 ∨ u = 2 := by omega
      rcases this with rfl | rfl | rfl
      · exact ⟨1, by decide⟩
      · exact ⟨2, by decide⟩
      · exact ⟨4, by decide⟩
  · have h0 := hr.1 0 (by omega)
    have h1 := hr.1 1 (by omega)
    have h2 := hr.2 0 (by omega)
    have e : lstN r 2 = [(r 0 : Int), (r 1 : Int)] := by simp [lstN, List.range_succ]
    rw [e]
    simp only [Nat.zero_add] at h2
    generalize r 0 = u at *
    generalize r 1 = t at *
    rcases n3 with rfl | rfl | rfl
    · omega
    · obtain ⟨rfl, rfl⟩ : u = 0 ∧ t = 1 := by omega
      exact ⟨3, by decide⟩
    · have : (u = 0 ∧ t = 1) ∨ (u = 0 ∧ t = 2) ∨ (u = 1 ∧ t = 2) := by omega
      rcases this with ⟨rfl, rfl⟩ | ⟨rfl, rfl⟩ | ⟨rfl, rfl⟩
      · exact ⟨3, by decide⟩
      · exact ⟨5, by decide⟩
      · exact ⟨6, by decide⟩
  · have h0 := hr.1 0 (by omega)
    have h1 := hr.1 1 (by omega)
    have h2 := hr.1 2 (by omega)
    have h3 := hr.2 0 (by omega)
    have h4 := hr.2 1 (by omega)
    have e : lstN r 3 = [(r 0 : Int), (r 1 : Int), (r 2 : Int)] := by simp [lstN, List.range_succ]
    rw [e]
    simp only [Nat.zero_add, Nat.reduceAdd] at h3 h4
    generalize r 0 = u at *
    generalize r 1 = t at *
    generalize r 2 = z at *
    obtain rfl : n = 3 := by omega
    obtain ⟨rfl, rfl, rfl⟩ : u = 0 ∧ t = 1 ∧ z = 2 := by omega
    exact ⟨7, by decide⟩

theorem putL_congr {n : Nat} {r r' : Nat → Nat} {xs : List Int} : ∀ {k}, (∀ p, p < k → r p = r' p) → putL n r xs k = putL n r' xs k
  | 0, _ => rfl
  | k + 1, h => by rw [putL, putL, putL_congr (k := k) fun p hp => h p (by omega), h k (by omega)]
theorem kX_congr {a : List (List Int)} {k : Nat} {r r' s s' : Nat → Nat} (hr : ∀ p, p < k → r p = r' p) (hs : ∀ p, p < k → s p = s' p) : kX a r s k = kX a r' s' k :=
  gi_ext (by rw [kX_len, kX_len]) fun p hp => by
    rw [kX_len] at hp
    unfold kX; rw [gi_cofL hp, gi_cofL hp]
    exact rowC_congr (fun i j hi hj => by unfold kf; rw [hr i hi, hs j hj]) hp
theorem kY_congr {a : List (List Int)} {k : Nat} {r r' s s' : Nat → Nat} (hr : ∀ p, p < k → r p = r' p) (hs : ∀ p, p < k → s p = s' p) : kY a r s k = kY a r' s' k :=
  gi_ext (by rw [kY_len, kY_len]) fun p hp => by
    rw [kY_len] at hp
    unfold kY; rw [gi_cofL hp, gi_cofL hp]
    exact rowC_congr (fun i j hi hj => by unfold trN kf; rw [hr j hj, hs i hi]) hp
theorem KerP.congr {a : List (List Int)} {k : Nat} {r r' s s' : Nat → Nat} (hr : ∀ p, p < k → r p = r' p) (hs : ∀ p, p < k → s p = s' p) (h : KerP a k r s) : KerP a k r' s' := by
  have e1 := kX_congr (a := a) hr hs
  have e2 := kY_congr (a := a) hr hs
  refine ⟨?_, by rw [← e1]; exact h.cx, by rw [← e2]; exact h.cy, ?_⟩
  · rw [← detN_congr k (f := kf a r s) fun p q hp hq => by unfold kf; rw [hr p hp, hs q hq]]; exact h.det
  · have := h.eq
    unfold shr at this ⊢
    rw [← e1, ← e2, ← putL_congr hr, ← putL_congr hs]
    exact this

/-- The part with these sets of rows and columns tells best shares. -/
def kerAt (a : List (List Int)) (S T : Nat) : Prop :=
  1 ≤ (memL S a.length).length ∧ (memL S a.length).length = (memL T (gr a 0).length).length ∧ KerP a (memL S a.length).length (idx S a.length) (idx T (gr a 0).length)
structure FirstK (a : List (List Int)) (S T : Nat) : Prop where
  s1 : 1 ≤ S
  sn : S < 2 ^ a.length
  t1 : 1 ≤ T
  tm : T < 2 ^ (gr a 0).length
  at_ : kerAt a S T
  noS : ∀ S' T', 1 ≤ S' → S' < S → 1 ≤ T' → T' < 8 → ¬ kerAt a S' T'
  noT : ∀ T', 1 ≤ T' → T' < T → ¬ kerAt a S T'
theorem pow_le8 {n : Nat} (h : n ≤ 3) : 2 ^ n ≤ 8 := by
  have : n = 0 ∨ n = 1 ∨ n = 2 ∨ n = 3 := by omega
  rcases this with rfl | rfl | rfl | rfl <;> decide
theorem least_of {P : Nat → Prop} : ∀ n, P n → ∃ m, m ≤ n ∧ P m ∧ ∀ k, k < m → ¬ P k := fun n => by
  induction n using Nat.strongRecOn with
  | _ n ih =>
    intro h
    by_cases e : ∃ k, k < n ∧ P k
    · obtain ⟨k, hk, hp⟩ := e
      obtain ⟨m, hm, h1, h2⟩ := ih k hk hp
      exact ⟨m, by omega, h1, h2⟩
    · exact ⟨n, Nat.le_refl _, h, fun k hk hp => e ⟨k, hk, hp⟩⟩
theorem kerAt_mod {a : List (List Int)} (v : VT a) {S T : Nat} (hT : T < 8) (h : kerAt a S T) : kerAt a S (T % 2 ^ (gr a 0).length) ∧ 1 ≤ T % 2 ^ (gr a 0).length := by
  have e := memL_mod T hT (gr a 0).length (by have := v.m3; omega)
  have e2 : idx (T % 2 ^ (gr a 0).length) (gr a 0).length = idx T (gr a 0).length := by unfold idx; rw [e]
  refine ⟨by unfold kerAt; rw [e, e2]; exact h, ?_⟩
  apply Classical.byContradiction; intro hn
  have h0 : T % 2 ^ (gr a 0).length = 0 := by omega
  have h1 := h.1
  rw [h.2.1, ← e, h0] at h1
  have z : ∀ m, memL 0 m = [] := fun m => by
    induction m with
    | zero => rfl
    | succ m ih => rw [memL_no (by simp), ih]
  rw [z] at h1
  simp at h1
theorem first_exists {a : List (List Int)} (v : VT a) : ∃ S T, FirstK a S T := by
  obtain ⟨k, r, s, h1, h3, hr, hs, K⟩ := ker_exists v
  obtain ⟨S0, s1, sn, es⟩ := set_of v.n3 h1 hr
  obtain ⟨T0, t1, tm, et⟩ := set_of v.m3 h1 hs
  have p8 := pow_le8 v.m3
  have ls : (memL S0 a.length).length = k := by rw [es, lstN_len]
  have lt : (memL T0 (gr a 0).length).length = k := by rw [et, lstN_len]
  have h0 : kerAt a S0 T0 := by
    refine ⟨by omega, by omega, ?_⟩
    rw [ls]
    exact K.congr (fun p hp => by unfold idx; rw [es, gi_lstN hp]; rfl) (fun p hp => by unfold idx; rw [et, gi_lstN hp]; rfl)
  obtain ⟨S, hS, ⟨hS1, T1, hT1, hT8, hK⟩, hSm⟩ := least_of (P := fun S => 1 ≤ S ∧ ∃ T, 1 ≤ T ∧ T < 8 ∧ kerAt a S T) S0 ⟨s1, T0, t1, by omega, h0⟩
  obtain ⟨T, hT, ⟨hT1', hK'⟩, hTm⟩ := least_of (P := fun T => 1 ≤ T ∧ kerAt a S T) T1 ⟨hT1, hK⟩
  refine ⟨S, T, hS1, by omega, hT1', ?_, hK', fun S' T' h1 h2 h3 h4 h5 => hSm S' h2 ⟨h1, T', h3, h4, h5⟩, fun T' h1 h2 h3 => hTm T' h2 ⟨h1, h3⟩⟩
  apply Classical.byContradiction; intro hn
  obtain ⟨q1, q2⟩ := kerAt_mod v (show T < 8 by omega) hK'
  have hlt : T % 2 ^ (gr a 0).length < 2 ^ (gr a 0).length := Nat.mod_lt _ (by have := Nat.two_pow_pos (gr a 0).length; omega)
  exact hTm _ (by omega) ⟨q2, q1⟩

/-- The sets of the first such part, and the shares that it tells. -/
noncomputable def vST (a : List (List Int)) : Nat × Nat := @dite _ (∃ p : Nat × Nat, FirstK a p.1 p.2) (Classical.propDecidable _) (fun h => Classical.choose h) fun _ => (0, 0)
noncomputable def vS (a : List (List Int)) : Nat := (vST a).1
noncomputable def vT (a : List (List Int)) : Nat := (vST a).2
theorem first_of {a : List (List Int)} (v : VT a) : FirstK a (vS a) (vT a) := by
  have h : ∃ p : Nat × Nat, FirstK a p.1 p.2 := let ⟨S, T, h⟩ := first_exists v; ⟨(S, T), h⟩
  have e : vST a = Classical.choose h := by unfold vST; rw [dif_pos h]
  unfold vS vT
  rw [e]
  exact Classical.choose_spec h
noncomputable def bxk (a : List (List Int)) : Nat := (memL (vS a) a.length).length
noncomputable def bx (a : List (List Int)) : List Int := shr a.length (idx (vS a) a.length) (kX a (idx (vS a) a.length) (idx (vT a) (gr a 0).length) (bxk a)) (bxk a)
noncomputable def by_ (a : List (List Int)) : List Int := shr (gr a 0).length (idx (vT a) (gr a 0).length) (kY a (idx (vS a) a.length) (idx (vT a) (gr a 0).length) (bxk a)) (bxk a)
theorem bxk_bd {a : List (List Int)} (v : VT a) : 1 ≤ bxk a ∧ bxk a ≤ 3 := by
  have h := (first_of v).at_.1
  have := memL_le (vS a) a.length
  have := v.n3
  unfold bxk
  omega
/-- They are best. -/
theorem best_is {a : List (List Int)} (v : VT a) : BestP a (bx a) (by_ a) := by
  have F := first_of v
  have hk := bxk_bd v
  obtain ⟨_, h2, K⟩ := F.at_
  have hr := idx_asc (vS a) a.length
  have hs := idx_asc (vT a) (gr a 0).length
  rw [← h2] at hs
  have sh := KerP.shares v hk.2 hr hs K.cx K.cy
  exact ⟨⟨v, sh.1, sh.2⟩, K.eq⟩
end Go.Proofs.Ytjkmgpiiamffgaa

/- The value's shares, by the model. -/
namespace Go.Proofs.Ytjkmgpiiamffgaa
open Go.RowKit
open V (Asc)

/-- The best shares of a table. -/
def NewV (w : World) (a : List (List Int)) (e : Ending) (w' : World) : Prop :=
  ∃ A1 c1 A2 c2, e = .returned (.tuple #[.slice A1 a.length c1, .slice A2 (gr a 0).length c2]) ∧ Ints w' A1 a.length c1 (bx a) ∧ Ints w' A2 (gr a 0).length c2 (by_ a) ∧ Below w.heap.size w w'
theorem NewK.no {w w' : World} {a : List (List Int)} {k : Nat} {r s : Nat → Nat} {e : Ending} (h : NewK w a k r s e w') (hn : ¬ KerP a k r s) : ∃ v1 v2, e = .returned (.tuple #[v1, v2, .bool false]) ∧ Below w.heap.size w w' := by
  rcases h with ⟨h1, _⟩ | ⟨_, h⟩
  · exact absurd h1 hn
  · exact h
theorem NewK.yes {w w' : World} {a : List (List Int)} {k : Nat} {r s : Nat → Nat} {e : Ending} (h : NewK w a k r s e w') (hn : KerP a k r s) :
    ∃ A1 c1 A2 c2, e = .returned (.tuple #[.slice A1 a.length c1, .slice A2 (gr a 0).length c2, .bool true]) ∧ Ints w' A1 a.length c1 (shr a.length r (kX a r s k) k) ∧
      Ints w' A2 (gr a 0).length c2 (shr (gr a 0).length s (kY a r s k) k) ∧ Below w.heap.size w w' := by
  rcases h with ⟨_, h⟩ | ⟨h1, _⟩
  · exact h
  · exact absurd hn h1
theorem memL_pl {w : World} {A : Option Addr} {n c S m : Nat} (h : Ints w A n c (memL S m)) (e : n = (memL S m).length) : Pl w A n c (idx S m) m := by
  subst e
  exact ⟨by rw [← memL_idx]; exact h, (idx_asc S m).1⟩

end Go.Proofs.Ytjkmgpiiamffgaa

/- A table and shares, drawn from bytes. -/
namespace Go.Proofs.Ytjkmgpiiamffgaa
open Go.RowKit

theorem OwnR.grown {lo hi w w' b A n c xss} {g : Nat} (h : OwnR lo hi w b A n c xss) (k : w.grownBy w' (some g)) (hg : g < lo) : OwnR lo hi w' b A n c xss :=
  h.of_blocks fun i h1 _ h3 => k.block i h3 (fun e => by injection e with e; omega)
theorem OwnI.grown {lo hi w w' b A n c xs} {g : Nat} (h : OwnI lo hi w b A n c xs) (k : w.grownBy w' (some g)) (hg : g < lo) : OwnI lo hi w' b A n c xs :=
  h.of_block fun hn => k.block _ (h.lt hn) (fun e => by obtain ⟨_, _, q, _⟩ := h.own hn; injection e with e; omega)
theorem Picked.one {w0 g A l c p n w e w'} (h : Picked w0 g A l c p n w e w') : ∃ m : Int, e = .returned (.int .i64 m) ∧ (1 ≤ n → 0 ≤ m ∧ m < n) ∧ Rdr w0 w' g A l c (p + 1) ∧ w.grownBy w' (some g) := by
  obtain ⟨m, h1, h2, _, h4, q, rfl⟩ := h
  exact ⟨m, h1, h2, h4, ⟨rfl, rfl, rfl, by simp [World.setCell], fun k _ hne => Below.heap_setCell _ _ _ _ (fun e => hne (by rw [e]))⟩⟩

/-- A table and shares. -/
def DrawnTS (w : World) (e : Ending) (w' : World) : Prop :=
  ∃ Av n c gg xss Bv m cb ys, e = .returned (.tuple #[.slice Av n c, .slice Bv m cb]) ∧ Small xss ∧ OwnR w.heap.size w'.heap.size w' gg Av n c xss ∧ Ints w' Bv m cb ys ∧ Below w.heap.size w w'
/-- A table and shares of both players. -/
def DrawnTSS (w : World) (e : Ending) (w' : World) : Prop :=
  ∃ Av n c gg xss Bv m cb xs Cv l cc ys, e = .returned (.tuple #[.slice Av n c, .slice Bv m cb, .slice Cv l cc]) ∧ Small xss ∧ OwnR w.heap.size w'.heap.size w' gg Av n c xss ∧ Ints w' Bv m cb xs ∧ Ints w' Cv l cc ys ∧ Below w.heap.size w w'

end Go.Proofs.Ytjkmgpiiamffgaa

/- A square and a ring drawn. -/
namespace Go.Proofs.Ytjkmgpiiamffgaa
open Go.RowKit

theorem SH.ints2 {w0 wb g A l c p u ys w} (h : SH w0 wb g A l c p u ys w) (hl : ys.length ≤ 100) (hb : ∀ x ∈ ys, -1000000 ≤ x ∧ x ≤ 1000000) : ∃ Av cv, u = .slice Av ys.length cv ∧ Ints w Av ys.length cv ys := by
  obtain ⟨Av, n, cv, b, rfl, rfl, ho, _⟩ := h.bi.owns (by omega) (fun x hx => by have := hb x hx; omega)
  exact ⟨Av, cv, rfl, ho.ints⟩
set_option maxRecDepth 100000 in
set_option maxHeartbeats 2000000 in
theorem DrawCopyRing_any (A : Option Addr) (n c : Nat) (w : World) (h : Bytes w A n c) :
    Calls Try.prog 28 #[.slice A n c] w (DrawnTS w) := by
  have H0 := Lib.hid (newReader_any A n c w h)
  clear h
  obtain ⟨i0, hi0, hz0, hz1, hz2⟩ := info_parts Try.info_int
  go_enter Try.func28, Try.ntmps28
  go_wp2_with fail
  refine H0.out.mono ?_
  rintro e w1 ⟨A1, l, c1, rfl, hl, hr, hs⟩
  have H1 := Lib.hid (someSquare_any w w1 w.heap.size A1 l c1 0 hr (by omega))
  clear hr hl H0
  go_wp2_with fail
  refine H1.out.mono ?_
  rintro e w2 ⟨wb, v', vs', xss', p', rfl, hsm, hto, hp, hg⟩
  have hsz := hg.size
  obtain ⟨Av, nv, cv, gg, rfl, hnv, hown⟩ := hto.bo.owns (by have := hsm.n; omega)
  have HO := Lib.hid (hown.mono (show w.heap.size + 1 ≤ wb.heap.size by have := hto.gl; omega) (Nat.le_refl _))
  have HS := Lib.hid hsm
  have hn8 : nv ≤ 8 := by rw [hnv]; exact hsm.n
  have HS0 := Lib.hid (SH.start hto.rd)
  have HS1 := Lib.hid (HS0.out.below (below_alloc _ (.cells #[iv 5, iv 6, iv 4, iv 3, iv 8, iv 7, iv 2, iv 9] 3)))
  have hgw : w.heap.size < (w2.alloc (.cells #[] 3)).heap.size := blk_lt HS0.out.rd.box
  have HIN := Lib.hid (Ints.lit (w2.alloc (.cells #[] 3)) [5, 6, 4, 3, 8, 7, 2, 9] (by simp) (by intro x hx; simp at hx; omega))
  have hsa : (w2.alloc (.cells #[] 3)).heap.size = w2.heap.size + 1 := World.size_alloc _ _
  rw [hsa] at HIN
  have HC := Lib.hid (one_any w ((w2.alloc (.cells #[] 3)).alloc (.cells #[iv 5, iv 6, iv 4, iv 3, iv 8, iv 7, iv 2, iv 9] 3)) w.heap.size A1 l c1 p' _ 8 8 [5, 6, 4, 3, 8, 7, 2, 9] HS1.out.rd (by omega) HIN.out (by omega) (fun b' o' e' => by injection e' with e'; injection e' with e' _ _; omega))
  clear hsm hto hown hg H1 hnv HS0 HIN
  go_wp2_with fail
  refine HC.out.mono ?_
  rintro e w3 ⟨K, rfl, hx, hr, ho⟩
  have HS2 := Lib.hid (HS1.out.one hr ho)
  obtain ⟨k, rfl, hk9, hk1⟩ : ∃ k : Nat, K = (k : Int) ∧ k ≤ 9 ∧ 1 ≤ k := ⟨K.toNat, by simp at hx; omega⟩
  clear hx hr ho HC HS1 hgw hsa
  go_wp2
  go_loopw [6] (fun u wr => ∃ (ys : List Int) (q : Nat), ys.length ≤ k ∧ q ≤ p' + 1 + ys.length ∧ Hid (∀ x ∈ ys, 0 ≤ x ∧ x ≤ 8) ∧ Hid (SH w w2 w.heap.size A1 l c1 q u ys wr)) (fun u _ => k - (match u with | .slice _ k _ => k | _ => 0))
  case atStart => exact ⟨[], p' + 1, Nat.zero_le _, by simp, Lib.hid (by simp), HS2⟩
  case round =>
    clear HS2
    obtain ⟨ys, q, hyn, hq, HR, HI⟩ := hrel
    obtain ⟨Au, cu, rfl⟩ := HI.out.bi.form
    by_cases hlt : ys.length < k
    · have HC := Lib.hid (pick_any w _ w.heap.size A1 l c1 q nv HI.out.rd (by omega))
      go_wp2_with fail
      refine HC.out.mono ?_
      rintro e w4 ⟨x, rfl, hx1, hx2, hr, z, hw⟩
      have hone := Rdr.one (g := w.heap.size) wr (.int .i64 (q + 1 : Nat)) z
      rw [← hw] at hone
      have hx : 0 ≤ x ∧ x ≤ 8 := by
        by_cases h0 : 1 ≤ (nv : Int)
        · have := hx1 h0; omega
        · have := hx2 (by omega); omega
      have HX := Lib.hid hx
      have HI5 := Lib.hid (HI.out.one hr hone)
      clear hr hone hw hx1 hx2 hx HC HI
      have hb := below_alloc w4 (.cells #[iv x] 3)
      have HB4 := Lib.hid (HI5.out.bi.below hb).own
      have HN := Lib.hid (cell_one_new w4 (iv x) 3)
      have hHs := HI5.out.hs
      clear hb
      go_wp2_with (at_builtin; refine wpList_append_own_at _ rfl _ _ 30 rfl w2.heap.size 3 i0 (.int .i64 0) 1 8 Try.underlying30 hi0 hz0 hz1 hz2 rfl (by decide) _ ys.length (ys.map iv) rfl HB4.out ⟨w4.heap.size, 0, none⟩ 1 1 [iv x] rfl rfl ?c1 ?c2 ?c3 ?c4 ?c5 ?_)
      case c1 => exact HN.out
      case c2 => intro u hu; simp at hu; subst hu; rfl
      case c3 => unfold maxLen; omega
      case c4 => omega
      case c5 => simp; omega
      intro v' w5 hown' hgrow _ hat
      have HI6 := Lib.hid (show SH w w2 w.heap.size A1 l c1 (q + 1) v' (ys ++ [x]) w5 from TI.push HI5.out hown' hgrow (by simpa using hat))
      clear HB4 HN hown' hgrow hat HI5
      obtain ⟨Au2, cu2, rfl⟩ := HI6.out.bi.form
      go_wp2
      go_roundw
      case rel => exact ⟨ys ++ [x], q + 1, by simp; omega, by simp; omega, Lib.hid (fun y hy => by
        rcases List.mem_append.1 hy with hy | hy
        · exact HR.out y hy
        · simp at hy; subst hy; exact HX.out), HI6⟩
      case measure => simp; omega
    · have hnx : ys.length = k := by omega
      have HC := Lib.hid (pick_any w _ w.heap.size A1 l c1 q 30 HI.out.rd (by omega))
      go_wp2_with fail
      refine HC.out.mono ?_
      rintro e w4 ⟨m, rfl, hx1, hx2, hr, z, hw⟩
      have hone := Rdr.one (g := w.heap.size) wr (.int .i64 (q + 1 : Nat)) z
      rw [← hw] at hone
      have HI5 := Lib.hid (HI.out.one hr hone)
      clear hr hone hw hx1 hx2 HC HI
      by_cases h0 : m = 0
      · have hz : (m == 0) = true := by simpa using h0
        clear h0
        have HI4 := Lib.hid (HI5.out.below (below_alloc w4 (.cells #[iv (-1), iv 3] 3)))
        have HIN := Lib.hid (Ints.lit w4 [-1, 3] (by simp) (by intro x hx; simp at hx; omega))
        have hgw : w.heap.size < w4.heap.size := blk_lt HI5.out.rd.box
        have HC := Lib.hid (one_any w (w4.alloc (.cells #[iv (-1), iv 3] 3)) w.heap.size A1 l c1 (q + 1) _ 2 2 [-1, 3] HI4.out.rd (by omega) HIN.out (by omega) (fun b' o' e' => by injection e' with e'; injection e' with e' _ _; omega))
        clear HIN HI5
        go_wp2_with fail
        refine HC.out.mono ?_
        rintro e w5 ⟨x, rfl, hx, hr, ho⟩
        have hx5 : -1 ≤ x ∧ x ≤ 3 := by simp at hx; omega
        have HI6 := Lib.hid (HI4.out.one hr ho)
        clear hx hr ho HC HI4
        obtain ⟨b0, cc0, e, hc0, hf0, hset⟩ := HI6.out.set (j := 0) (by omega) x
        injection e with e1 e2 e3
        subst e1
        have HI7 := Lib.hid hset
        have HE := Lib.hid (show ∃ e', e' = (Value.slice (some ⟨b0, 0, none⟩) ys.length cu) ∧ DrawnTS w (.returned (.tuple #[.slice Av nv cv, e'])) (w5.setCell ⟨b0, 0, none⟩ (.int .i64 x)) from by
          obtain ⟨Bv, cb, e, hi⟩ := HI7.out.ints2 (by rw [List.length_set]; omega) (fun y hy => by
            rcases List.mem_or_eq_of_mem_set hy with hy | rfl
            · have := HR.out y hy; omega
            · omega)
          rw [List.length_set] at e hi
          injection e with e1 e2 e3
          subst e1
          subst e3
          exact ⟨_, rfl, Av, nv, cv, gg, xss', _, _, _, _, rfl, HS.out, (HO.out.grown HI7.out.up (by omega)).mono (Nat.le_succ _) HI7.out.up.size, hi, HI7.out.rd.below⟩)
        rw [hnx] at HE
        clear hset HI6 e2 e3
        go_wp2
        go_ret2
        obtain ⟨_, rfl, h⟩ := HE.out
        exact h
      · have hz : (m == 0) = false := by simpa using h0
        clear h0
        have HE := Lib.hid (show DrawnTS w (.returned (.tuple #[.slice Av nv cv, .slice Au ys.length cu])) w4 from by
          obtain ⟨Bv, cb, e, hi⟩ := HI5.out.ints2 (by omega) (fun y hy => by have := HR.out y hy; omega)
          injection e with e1 e2 e3
          subst e1
          subst e3
          exact ⟨Av, nv, cv, gg, xss', _, _, _, _, rfl, HS.out, (HO.out.grown HI5.out.up (by omega)).mono (Nat.le_succ _) HI5.out.up.size, hi, HI5.out.rd.below⟩)
        rw [hnx] at HE
        clear HI5
        go_wp2
        go_ret2
        exact HE.out
end Go.Proofs.Ytjkmgpiiamffgaa

/- Squares, by both programs. -/
namespace Go.Proofs.Ytjkmgpiiamffgaa
open Go.RowKit

/-- A valid table with as many rows as columns. -/
def VQ (a : List (List Int)) : Prop := VT a ∧ a.length = (gr a 0).length

set_option maxHeartbeats 400000 in
theorem validSquare_any (A : Option Addr) (n c : Nat) (a : List (List Int)) (w : World) (hx : IntRows w A n c a) :
    Calls Try.prog 76 #[.slice A n c] w fun e w' => e = .returned (.bool (pb (VQ a))) ∧ Quiet w w' := by
  have hl := hx.len
  by_cases hv : VT a
  · have h1 := hv.n1
    obtain ⟨b, o, rfl, hc⟩ := hx.at_ (by omega)
    obtain ⟨R, cc, h0, -⟩ := hc 0 (by omega)
    simp only [Nat.add_zero] at h0
    have H0 := Lib.hid h0
    have HC := Lib.hid (pb_true hv ▸ validTable_any _ n c a w hx)
    have hn : 0 < n := by omega
    by_cases hs : a.length = (gr a 0).length
    · rw [pb_true (p := VQ a) ⟨hv, hs⟩]
      have hm : (gr a 0).length = n := by omega
      rw [hm] at H0
      clear hm hs hc h0 hv hx h1 hl
      go_enter Try.func76, Try.ntmps76
      go_wp2_with fail
      refine HC.out.mono ?_
      rintro e w1 ⟨rfl, hq⟩
      have h0 := Keep.quiet hq _ _ H0.out
      go_wp2
      go_ret
      exact ⟨rfl, hq⟩
    · rw [pb_false (p := VQ a) (fun h => hs h.2)]
      have hm : ¬ n = (gr a 0).length := by omega
      clear hs hc h0 hv hx h1 hl
      generalize (gr a 0).length = m at *
      have hz : ((n : Int) == (m : Int)) = false := by rw [beq_eq_false_iff_ne]; omega
      go_enter Try.func76, Try.ntmps76
      go_wp2_with fail
      refine HC.out.mono ?_
      rintro e w1 ⟨rfl, hq⟩
      have h0 := Keep.quiet hq _ _ H0.out
      go_wp2
      go_ret
      exact ⟨rfl, hq⟩
  · rw [pb_false (p := VQ a) (fun h => hv h.1)]
    have HC := Lib.hid (pb_false hv ▸ validTable_any A n c a w hx)
    clear hv hx hl
    go_enter Try.func76, Try.ntmps76
    go_wp2_with fail
    refine HC.out.mono ?_
    rintro e w1 ⟨rfl, hq⟩
    go_wp2
    go_ret
    exact ⟨rfl, hq⟩

set_option maxHeartbeats 400000 in
theorem ValidSquare_impl (A : Option Addr) (n c : Nat) (a : List (List Int)) (w : World) (hx : IntRows w A n c a) :
    Calls Try.prog 99 #[.slice A n c] w fun e w' => e = .returned (.bool (pb (VQ a))) ∧ Quiet w w' := by
  have hl := hx.len
  by_cases hv : VT a
  · have h1 := hv.n1
    obtain ⟨b, o, rfl, hc⟩ := hx.at_ (by omega)
    obtain ⟨R, cc, h0, -⟩ := hc 0 (by omega)
    simp only [Nat.add_zero] at h0
    have H0 := Lib.hid h0
    have HC := Lib.hid (pb_true hv ▸ ValidTable_impl _ n c a w hx)
    have hn : 0 < n := by omega
    by_cases hs : a.length = (gr a 0).length
    · rw [pb_true (p := VQ a) ⟨hv, hs⟩]
      have hm : (gr a 0).length = n := by omega
      rw [hm] at H0
      clear hm hs hc h0 hv hx h1 hl
      go_enter Try.func99, Try.ntmps99
      go_wp2_with fail
      refine HC.out.mono ?_
      rintro e w1 ⟨rfl, hq⟩
      have h0 := Keep.quiet hq _ _ H0.out
      go_wp2
      go_ret
      exact ⟨rfl, hq⟩
    · rw [pb_false (p := VQ a) (fun h => hs h.2)]
      have hm : ¬ n = (gr a 0).length := by omega
      clear hs hc h0 hv hx h1 hl
      generalize (gr a 0).length = m at *
      have hz : ((n : Int) == (m : Int)) = false := by rw [beq_eq_false_iff_ne]; omega
      go_enter Try.func99, Try.ntmps99
      go_wp2_with fail
      refine HC.out.mono ?_
      rintro e w1 ⟨rfl, hq⟩
      have h0 := Keep.quiet hq _ _ H0.out
      go_wp2
      go_ret
      exact ⟨rfl, hq⟩
  · rw [pb_false (p := VQ a) (fun h => hv h.1)]
    have HC := Lib.hid (pb_false hv ▸ ValidTable_impl A n c a w hx)
    clear hv hx hl
    go_enter Try.func99, Try.ntmps99
    go_wp2_with fail
    refine HC.out.mono ?_
    rintro e w1 ⟨rfl, hq⟩
    go_wp2
    go_ret
    exact ⟨rfl, hq⟩
end Go.Proofs.Ytjkmgpiiamffgaa

/- Rings that copy: plain. -/
namespace Go.Proofs.Ytjkmgpiiamffgaa

/-- The places ahead and behind; the strategy of a place; what it has. -/
def rl (n i : Nat) : Nat := (i + n - 1) % n
def rr (n i : Nat) : Nat := (i + 1) % n
def rix (x : List Int) (i : Nat) : Nat := (gi x i).toNat
def scv (a : List (List Int)) (x : List Int) (n i : Nat) : Int := g2 a (rix x i) (rix x (rr n i)) + g2 a (rix x i) (rix x (rl n i))
def bat1 (a : List (List Int)) (x : List Int) (n i : Nat) : Nat := if scv a x n i < scv a x n (rl n i) then rl n i else i
def bat (a : List (List Int)) (x : List Int) (n i : Nat) : Nat := if scv a x n (bat1 a x n i) < scv a x n (rr n i) then rr n i else bat1 a x n i
def scL (a : List (List Int)) (x : List Int) (n k : Nat) : List Int := (List.range k).map (scv a x n)
def cpL (a : List (List Int)) (x : List Int) (n k : Nat) : List Int := (List.range k).map fun i => gi x (bat a x n i)
theorem rl_lt {n i : Nat} (h : 0 < n) : rl n i < n := Nat.mod_lt _ h
theorem rr_lt {n i : Nat} (h : 0 < n) : rr n i < n := Nat.mod_lt _ h
theorem bat1_lt {a x n i} (h : i < n) : bat1 a x n i < n := by unfold bat1; split; exact rl_lt (by omega); exact h
theorem bat_lt {a x n i} (h : i < n) : bat a x n i < n := by unfold bat; split; exact rr_lt (by omega); exact bat1_lt h
/-- A ring of strategies. -/
structure RgQ (a : List (List Int)) (x : List Int) : Prop where
  v : VQ a
  s : ∀ i, i < x.length → InR (gi x i) 0 ((a.length : Int) - 1)
  n3 : 3 ≤ x.length
  n8 : x.length ≤ 8
theorem RgQ.ix {a x} (h : RgQ a x) {i : Nat} (hi : i < x.length) : gi x i = ((rix x i : Nat) : Int) ∧ rix x i < a.length := by
  have := h.s i hi
  unfold InR at this
  unfold rix
  omega
noncomputable def cpF (a : List (List Int)) (x : List Int) : List Int := if pb (RgQ a x) = true then cpL a x x.length x.length else []
theorem cpF_yes {a x} (h : RgQ a x) : cpF a x = cpL a x x.length x.length := if_pos (pb_true h)
theorem cpF_no {a x} (h : ¬ RgQ a x) : cpF a x = [] := if_neg (by rw [pb_false h]; decide)
theorem cpL_len (a : List (List Int)) (x : List Int) (n k : Nat) : (cpL a x n k).length = k := by simp [cpL]
theorem scL_len (a : List (List Int)) (x : List Int) (n k : Nat) : (scL a x n k).length = k := by simp [scL]
theorem cpF_le (a : List (List Int)) (x : List Int) : (cpF a x).length ≤ 100 := by
  by_cases h : RgQ a x
  · rw [cpF_yes h, cpL_len]; have := h.n8; omega
  · rw [cpF_no h]; simp

end Go.Proofs.Ytjkmgpiiamffgaa

/- A ring turned by one place; a ring of one strategy. -/
namespace Go.Proofs.Ytjkmgpiiamffgaa

theorem rr_eq {n i : Nat} (h : i < n) : rr n i = if i + 1 = n then 0 else i + 1 := by
  unfold rr
  split
  · next e => rw [e]; exact Nat.mod_self n
  · exact Nat.mod_eq_of_lt (by omega)
theorem rl_eq {n i : Nat} (h : i < n) : rl n i = if i = 0 then n - 1 else i - 1 := by
  unfold rl
  split
  · next e => subst e; rw [Nat.mod_eq_of_lt (by omega)]; omega
  · rw [show i + n - 1 = (i - 1) + n by omega, Nat.add_mod_right]; exact Nat.mod_eq_of_lt (by omega)
theorem rr_rl {n i : Nat} (h : i < n) : rr n (rl n i) = i := by
  rw [rr_eq (rl_lt (by omega)), rl_eq h]
  split <;> split <;> omega
theorem rl_rr {n i : Nat} (h : i < n) : rl n (rr n i) = i := by
  rw [rl_eq (rr_lt (by omega)), rr_eq h]
  split <;> split <;> omega
/-- The ring turned by one place. -/
def nxt (x : List Int) : List Int := x.drop 1 ++ [gi x 0]
theorem nxt_len {x : List Int} (h : 0 < x.length) : (nxt x).length = x.length := by simp [nxt]; omega
theorem gi_nxt {x : List Int} {i : Nat} (h : i < x.length) : gi (nxt x) i = gi x (rr x.length i) := by
  rw [rr_eq h]
  unfold nxt
  by_cases e : i + 1 = x.length
  · rw [if_pos e]
    have : (x.drop 1).length = i := by rw [List.length_drop]; omega
    rw [← this]; exact gi_snoc_eq
  · rw [if_neg e, gi_snoc_lt (by rw [List.length_drop]; omega), gi_get (by rw [List.length_drop]; omega), gi_get (by omega), List.getElem_drop]
    congr 1; omega
theorem RgQ.nxt {a x} (h : RgQ a x) : RgQ a (nxt x) := by
  have h3 := h.n3
  have hl := nxt_len (x := x) (by omega)
  refine ⟨h.v, fun i hi => ?_, by rw [hl]; exact h.n3, by rw [hl]; exact h.n8⟩
  rw [hl] at hi
  rw [gi_nxt hi]
  exact h.s _ (rr_lt (by omega))
theorem rix_nxt {x : List Int} {i : Nat} (h : i < x.length) : rix (nxt x) i = rix x (rr x.length i) := by unfold rix; rw [gi_nxt h]
theorem scv_nxt {a : List (List Int)} {x : List Int} {i : Nat} (h : i < x.length) : scv a (nxt x) x.length i = scv a x x.length (rr x.length i) := by
  unfold scv
  rw [rix_nxt h, rix_nxt (rr_lt (by omega)), rix_nxt (rl_lt (by omega)), rr_rl h, rl_rr h]
theorem bat1_nxt {a : List (List Int)} {x : List Int} {i : Nat} (h : i < x.length) : rr x.length (bat1 a (nxt x) x.length i) = bat1 a x x.length (rr x.length i) := by
  have hr : rl x.length i < x.length := rl_lt (by omega)
  unfold bat1
  rw [scv_nxt h, scv_nxt hr, rr_rl h, rl_rr h]
  split
  · exact rr_rl h
  · rfl
theorem bat_nxt {a : List (List Int)} {x : List Int} {i : Nat} (h : i < x.length) : rr x.length (bat a (nxt x) x.length i) = bat a x x.length (rr x.length i) := by
  have hr : rr x.length i < x.length := rr_lt (by omega)
  unfold bat
  rw [scv_nxt (bat1_lt h), scv_nxt hr, bat1_nxt h]
  split
  · rfl
  · exact bat1_nxt h
theorem gi_cpL' {a x} {n k : Nat} (h : k < n) : gi (cpL a x n n) k = gi x (bat a x n k) := by
  unfold cpL; rw [gi_get (by simpa using h)]; simp
theorem cpF_len {a x} (h : RgQ a x) : (cpF a x).length = x.length := by rw [cpF_yes h, cpL_len]
/-- The turned ring's copy is the copy turned. -/
theorem cp_turn {a x} (h : RgQ a x) {i : Nat} (hi : i < x.length) : gi (cpF a (nxt x)) i = gi (cpF a x) (rr x.length i) := by
  have hl := nxt_len (x := x) (by omega)
  rw [cpF_yes h, cpF_yes h.nxt, hl, gi_cpL' hi, gi_cpL' (rr_lt (by omega)), gi_nxt (bat_lt hi), bat_nxt hi]
/-- Copied strategies are the ring's own. -/
theorem cp_in {a x} (h : RgQ a x) {i : Nat} (hi : i < x.length) : ∃ k, k < x.length ∧ gi x k = gi (cpF a x) i := by
  rw [cpF_yes h, gi_cpL' hi]
  exact ⟨_, bat_lt hi, rfl⟩
/-- A ring of one strategy. -/
def rpl (x : List Int) (k : Nat) : List Int := List.replicate k (gi x 0)
theorem rpl_len (x : List Int) (k : Nat) : (rpl x k).length = k := by simp [rpl]
theorem rpl_succ (x : List Int) (k : Nat) : rpl x (k + 1) = rpl x k ++ [gi x 0] := by unfold rpl; rw [List.replicate_succ']
theorem gi_rpl {x : List Int} {k i : Nat} (h : i < k) : gi (rpl x k) i = gi x 0 := by
  rw [gi_get (by rw [rpl_len]; exact h)]; simp [rpl]
theorem RgQ.rpl {a x} (h : RgQ a x) : RgQ a (rpl x x.length) := by
  have h3 := h.n3
  refine ⟨h.v, fun i hi => ?_, by rw [rpl_len]; exact h.n3, by rw [rpl_len]; exact h.n8⟩
  rw [rpl_len] at hi
  rw [gi_rpl hi]
  exact h.s 0 (by omega)
theorem cp_same {a x} (h : RgQ a x) : cpF a (rpl x x.length) = rpl x x.length := by
  have hl := rpl_len x x.length
  rw [cpF_yes h.rpl, hl]
  apply List.ext_getElem
  · rw [cpL_len, hl]
  · intro i h1 h2
    rw [cpL_len] at h1
    rw [← gi_get (by rw [cpL_len]; exact h1), ← gi_get h2, gi_cpL' h1, gi_rpl (bat_lt h1), gi_rpl h1]
end Go.Proofs.Ytjkmgpiiamffgaa

/- CopyRing, by the model. -/
namespace Go.Proofs.Ytjkmgpiiamffgaa
open Go.RowKit

set_option maxRecDepth 100000 in
set_option maxHeartbeats 800000 in
theorem validRing_any (X : Option Addr) (n c : Nat) (x : List Int) (s : Nat) (w : World) (hx : Ints w X n c x) (hs : s ≤ 3) :
    Calls Try.prog 77 #[.slice X n c, .int .i64 s] w fun e w' => e = .returned (.bool (pb ((∀ i, i < x.length → InR (gi x i) 0 ((s : Int) - 1)) ∧ 3 ≤ x.length ∧ x.length ≤ 8))) ∧ Quiet w w' := by
  have HX := Lib.hid hx
  have HL := Lib.hid hx.len
  have hmx := hx.max
  clear hx
  go_enter Try.func77, Try.ntmps77
  go_wp2
  go_loop [5] (fun i => ∃ v : Nat, v ≤ n ∧ i = .int .i64 v ∧ Hid (∀ j, j < v → InR (gi x j) 0 ((s : Int) - 1))) (fun i => n - (intOf i).toNat)
  case atStart => exact ⟨0, Nat.zero_le _, rfl, Lib.hid (fun _ h => absurd h (by omega))⟩
  case round =>
    obtain ⟨v, hv, rfl, HI⟩ := hrel
    by_cases hlt : v < n
    · obtain ⟨b, o, rfl, hc⟩ := HX.out.at_ (by omega)
      have c1 := hc v hlt
      clear hc
      by_cases hin : InR (gi x v) 0 ((s : Int) - 1)
      · have HIN := Lib.hid (fun W => pb_true hin ▸ inRange_any (gi x v) 0 ((s : Int) - 1) W)
        have HN := Lib.hid (show ∀ j, j < v + 1 → InR (gi x j) 0 ((s : Int) - 1) from fun j hj => by
          by_cases hjv : j < v
          · exact HI.out j hjv
          · obtain rfl : j = v := by omega
            exact hin)
        clear hin
        go_wp2_with (go_at_call 62; refine (HIN.out _).mono ?_; rintro e w' ⟨rfl, rfl⟩)
        go_round
        case rel => exact ⟨v + 1, by omega, by go_num, HN⟩
        case measure => simp [intOf]; omega
      · have HIN := Lib.hid (fun W => pb_false hin ▸ inRange_any (gi x v) 0 ((s : Int) - 1) W)
        have HE := Lib.hid (pb_false (p := (∀ i, i < x.length → InR (gi x i) 0 ((s : Int) - 1)) ∧ 3 ≤ x.length ∧ x.length ≤ 8) (fun k => hin (k.1 v (by rw [HL.out]; exact hlt))))
        clear hin
        go_wp2_with (go_at_call 62; refine (HIN.out _).mono ?_; rintro e w' ⟨rfl, rfl⟩)
        go_ret
        exact ⟨ret_bool HE.out.symm, Quiet.refl _⟩
    · obtain rfl : v = n := by omega
      have HE : Hid (pb (InR (v : Int) 3 8) = pb ((∀ i, i < x.length → InR (gi x i) 0 ((s : Int) - 1)) ∧ 3 ≤ x.length ∧ x.length ≤ 8)) := Lib.hid (pb_congr ⟨fun h => ⟨fun i hi => HI.out i (by rw [← HL.out]; exact hi), by rw [HL.out]; unfold InR at h; omega⟩, fun h => by have := h.2; rw [HL.out] at this; unfold InR; omega⟩)
      have HIN := Lib.hid (fun W => HE.out ▸ inRange_any (v : Int) 3 8 W)
      clear HI HE
      generalize hr : pb ((∀ i, i < x.length → InR (gi x i) 0 ((s : Int) - 1)) ∧ 3 ≤ x.length ∧ x.length ≤ 8) = r at *
      have HR := Lib.hid hr
      clear hr
      go_wp2_with (go_at_call 62; refine (HIN.out _).mono ?_; rintro e w' ⟨rfl, rfl⟩)
      go_ret
      exact ⟨ret_bool HR.out.symm, Quiet.refl _⟩
theorem tmod_nat (a n : Nat) : ((a : Nat) : Int).tmod (n : Int) = ((a % n : Nat) : Int) := by
  rw [Int.tmod_eq_emod_of_nonneg (by omega)]; simp
theorem scv_bd {a : List (List Int)} {x : List Int} (h : RgQ a x) {i : Nat} (hi : i < x.length) : -18 ≤ scv a x x.length i ∧ scv a x x.length i ≤ 18 := by
  have h0 : 0 < x.length := by omega
  have b1 := h.v.1.bd (i := rix x i) (j := rix x (rr x.length i)) (h.ix hi).2 (by rw [← h.v.2]; exact (h.ix (rr_lt h0)).2)
  have b2 := h.v.1.bd (i := rix x i) (j := rix x (rl x.length i)) (h.ix hi).2 (by rw [← h.v.2]; exact (h.ix (rl_lt h0)).2)
  unfold scv; omega
set_option maxRecDepth 100000 in
set_option maxHeartbeats 3200000 in
theorem scores_any (b o : Nat) (rb ro cc : Nat → Nat) (s ca : Nat) (X : Option Addr) (n c : Nat) (a : List (List Int)) (x : List Int) (w : World) (ht : Tab w b o rb ro cc s s a) (hx : Ints w X n c x) (h : RgQ a x) (hs : a.length = s) :
    Calls Try.prog 102 #[.slice (some ⟨b, o, none⟩) s ca, .slice X n c] w (NewI w (scL a x n n)) := by
  have HT := Lib.hid ht
  have hl := hx.len
  have hn3 : 3 ≤ n := by rw [← hl]; exact h.n3
  have hn8 : n ≤ 8 := by rw [← hl]; exact h.n8
  obtain ⟨bx, ox, rfl, hcx⟩ := hx.at_ (by omega)
  have HCX := Lib.hid hcx
  have HIX := Lib.hid (fun i (hi : i < n) => show gi x i = ((rix x i : Nat) : Int) ∧ rix x i < s from by rw [← hs]; exact h.ix (by rw [hl]; exact hi))
  have HSB := Lib.hid (fun i (hi : i < n) => show -18 ≤ scv a x n i ∧ scv a x n i ≤ 18 from by have := scv_bd h (i := i) (by rw [hl]; exact hi); rwa [hl] at this)
  have HSV := Lib.hid (fun i => show scv a x n i = g2 a (rix x i) (rix x (rr n i)) + g2 a (rix x i) (rix x (rl n i)) from rfl)
  have HS0 := Lib.hid (show IU w (.slice (some ⟨w.heap.size, 0, none⟩) 0 0) (scL a x n 0) (w.alloc (.cells #[] 3)) from IU.start w)
  obtain ⟨i0, hi0, hz0, hz1, hz2⟩ := info_parts Try.info_int
  clear ht hx h hs hl hcx
  go_enter Try.func102, Try.ntmps102
  go_wp2
  go_loopw [5, 7] (fun v i wr => ∃ k : Nat, k ≤ n ∧ i = .int .i64 k ∧ Hid (IU w v (scL a x n k) wr)) (fun _ i _ => n - (intOf i).toNat)
  case atStart => exact ⟨0, Nat.zero_le _, rfl, HS0⟩
  case round =>
    clear HS0
    obtain ⟨k, hk, rfl, HI⟩ := hrel
    obtain ⟨Av, cv, rfl⟩ := HI.out.bi.form
    by_cases hlt : k < n
    · have hr := rr_lt (n := n) (i := k) (by omega)
      have hll := rl_lt (n := n) (i := k) (by omega)
      obtain ⟨e1, j1⟩ := HIX.out k hlt
      obtain ⟨e2, j2⟩ := HIX.out (rr n k) hr
      obtain ⟨e3, j3⟩ := HIX.out (rl n k) hll
      have p1 := HCX.out k hlt
      have p2 := HCX.out (rr n k) hr
      have p3 := HCX.out (rl n k) hll
      rw [e1] at p1
      rw [e2] at p2
      rw [e3] at p3
      have hb1 := HT.out.bd (rix x k) (rix x (rr n k)) j1 j2
      have hb2 := HT.out.bd (rix x k) (rix x (rl n k)) j1 j3
      have hsv := HSV.out k
      have HSW := Lib.hid (fun W (q : Below w.heap.size w W) => show (W.cell? ⟨bx, ox + k, none⟩ = some (.int .i64 (rix x k : Nat)) ∧ W.cell? ⟨bx, ox + rr n k, none⟩ = some (.int .i64 (rix x (rr n k) : Nat)) ∧ W.cell? ⟨bx, ox + rl n k, none⟩ = some (.int .i64 (rix x (rl n k) : Nat))) ∧ W.cell? ⟨b, o + rix x k, none⟩ = some (.slice (some ⟨rb (rix x k), ro (rix x k), none⟩) s (cc (rix x k))) ∧ W.cell? ⟨rb (rix x k), ro (rix x k) + rix x (rr n k), none⟩ = some (.int .i64 (g2 a (rix x k) (rix x (rr n k)))) ∧ W.cell? ⟨rb (rix x k), ro (rix x k) + rix x (rl n k), none⟩ = some (.int .i64 (g2 a (rix x k) (rix x (rl n k)))) from
        ⟨⟨Keep.below q _ _ p1, Keep.below q _ _ p2, Keep.below q _ _ p3⟩, Keep.below q _ _ (HT.out.row _ j1), Keep.below q _ _ (HT.out.cell _ _ j1 j2), Keep.below q _ _ (HT.out.cell _ _ j1 j3)⟩)
      have HNX := Lib.hid (show scL a x n (k + 1) = scL a x n k ++ [scv a x n k] by simp [scL, List.range_succ])
      have HYL : Hid ((scL a x n k).length = k) := Lib.hid (scL_len _ _ _ _)
      have t1 : ((k : Int) + 1).tmod (n : Int) = ((rr n k : Nat) : Int) := by have := tmod_nat (k + 1) n; rw [Int.natCast_add] at this; exact this
      have t2 : ((k : Int) + (n : Int) - 1).tmod (n : Int) = ((rl n k : Nat) : Int) := by
        have := tmod_nat (k + n - 1) n
        rw [show ((k + n - 1 : Nat) : Int) = (k : Int) + (n : Int) - 1 by omega] at this
        exact this
      have w1_ : IntKind.i64.wrap ((k : Int) + 1) = (k : Int) + 1 := wrapIn (by omega)
      have w2_ : IntKind.i64.wrap ((k : Int) + (n : Int)) = (k : Int) + (n : Int) := wrapIn (by omega)
      have w3_ : IntKind.i64.wrap ((k : Int) + (n : Int) - 1) = (k : Int) + (n : Int) - 1 := wrapIn (by omega)
      have w4_ : IntKind.i64.wrap (((rr n k : Nat) : Int)) = ((rr n k : Nat) : Int) := wrapIn (by omega)
      have w5_ : IntKind.i64.wrap (((rl n k : Nat) : Int)) = ((rl n k : Nat) : Int) := wrapIn (by omega)
      clear p1 p2 p3 e1 e2 e3
      have hup := HI.out.up
      have hwz := hup.size
      have HSE := Lib.hid hsv
      clear hsv
      have hn0 : ((n : Int) == 0) = false := by rw [beq_eq_false_iff_ne]; omega
      have hn0' : ¬ (n = 0) := by omega
      have hw6 : IntKind.i64.wrap (g2 a (rix x k) (rix x (rr n k)) + g2 a (rix x k) (rix x (rl n k))) = g2 a (rix x k) (rix x (rr n k)) + g2 a (rix x k) (rix x (rl n k)) := wrapIn (by omega)
      have HCAP := Lib.hid (HT.out.cap _ j1)
      generalize g2 a (rix x k) (rix x (rr n k)) = ga at *
      generalize g2 a (rix x k) (rix x (rl n k)) = gb at *
      generalize rix x (rr n k) = xr at *
      generalize rix x (rl n k) = xl at *
      generalize rix x k = xk at *
      generalize rr n k = r1 at *
      generalize rl n k = l1 at *
      generalize hys : scL a x n k = ys at *
      clear hys
      have SX := Lib.hid (HSW.out wr hup)
      have DX := Lib.hid hup
      have HHUP := Lib.hid hup
      clear hup
      go_wp2
      go_region_held3 (fun W => (W.cell? ⟨bx, ox + k, none⟩ = some (.int .i64 (xk : Nat)) ∧ W.cell? ⟨bx, ox + r1, none⟩ = some (.int .i64 (xr : Nat)) ∧ W.cell? ⟨bx, ox + l1, none⟩ = some (.int .i64 (xl : Nat))) ∧ W.cell? ⟨b, o + xk, none⟩ = some (.slice (some ⟨rb xk, ro xk, none⟩) s (cc xk)) ∧ W.cell? ⟨rb xk, ro xk + xr, none⟩ = some (.int .i64 ga) ∧ W.cell? ⟨rb xk, ro xk + xl, none⟩ = some (.int .i64 gb))
        (first | exact SX.out | exact HSW.out _ DX.out | exact HSW.out _ DX.out.drew | exact HSW.out _ (below_up DX.out (below_alloc _ _)) | exact HSW.out _ (below_up DX.out (below_alloc _ _)).drew | go_keep)
        (first
        | (refine step_append_lies _ (by rfl) _ _ _ (by rfl) w.heap.size 3 i0 _ 1 8 Try.underlying30 hi0 hz0 hz1 hz2 rfl (by omega) (.slice Av ys.length cv) ys.length (ys.map iv) (by rfl) ((HI.out.bi.own.alloc _).drew) ⟨wr.heap.size, 0, none⟩ 1 1 [iv (ga + gb)] (by rfl) (by rfl) (World.news_of_block (w := (wr.alloc (.cells #[iv (ga + gb)] 3)).drew) (cs := #[iv (ga + gb)]) (t := 3) (fr := (0, 0)) (heap_alloc_new wr _)) (by simp [Value.oneCell', iv]) (by omega) (by have := HYL.out; unfold maxLen; omega) (by have := HYL.out; omega) (by simp; omega) (wr.heap.size + 1) (by simp) ?_; intro gg cap w1a hown1 hgrow hat hlt1; have HI2 := Lib.hid (show IU w (.slice (some ⟨gg, 0, none⟩) (ys.length + 1) cap) (ys ++ [ga + gb]) w1a from IU.push (w := wr.drew) (HI.out.next (Quiet.below ⟨1, rfl⟩)) hown1 hgrow (hat.elim (fun h => .inl h.symm) (fun h => .inr (congrArg some h)))); have SX := Lib.hid (HSW.out _ HI2.out.up); clear hown1 hgrow hat hlt1)
        | fail)
      all_goals
        clear SX DX HSW HHUP HI
        go_wp2
        go_roundw
        case rel => exact ⟨k + 1, by omega, by go_num, Lib.hid (by rw [HNX.out, HSE.out]; exact HI2.out)⟩
        case measure => simp [intOf]; omega
    · obtain rfl : k = n := by omega
      have HNW := Lib.hid (HI.out.new (by rw [scL_len]; omega) (fun y hy => by
        obtain ⟨i, hi, rfl⟩ := List.mem_map.1 hy
        have := HSB.out i (List.mem_range.1 hi); omega))
      go_wp2
      go_ret
      exact HNW.out
set_option maxRecDepth 100000 in
set_option maxHeartbeats 3200000 in
theorem copied_any (b o : Nat) (rb ro cc : Nat → Nat) (s ca : Nat) (X : Option Addr) (n c : Nat) (a : List (List Int)) (x : List Int) (w : World) (ht : Tab w b o rb ro cc s s a) (hx : Ints w X n c x) (h : RgQ a x) (hs : a.length = s) :
    Calls Try.prog 78 #[.slice (some ⟨b, o, none⟩) s ca, .slice X n c] w (NewI w (cpL a x n n)) := by
  have HSC := Lib.hid (scores_any b o rb ro cc s ca X n c a x w ht hx h hs)
  have hl := hx.len
  have hn3 : 3 ≤ n := by rw [← hl]; exact h.n3
  have hn8 : n ≤ 8 := by rw [← hl]; exact h.n8
  have HXB := Lib.hid (fun i (hi : i < n) => show -1000 ≤ gi x i ∧ gi x i ≤ 1000 from by have := h.s i (by rw [hl]; exact hi); have := h.v.1.n3; unfold InR at *; omega)
  obtain ⟨bx, ox, rfl, hcx⟩ := hx.at_ (by omega)
  have HCX := Lib.hid hcx
  obtain ⟨i0, hi0, hz0, hz1, hz2⟩ := info_parts Try.info_int
  clear ht hx h hs hl hcx
  go_enter Try.func78, Try.ntmps78
  go_wp2_with fail
  refine HSC.out.mono ?_
  rintro e w1 ⟨As, ns, cs, gs, rfl, hns, ho, hb⟩
  rw [scL_len] at hns
  obtain rfl : n = ns := hns.symm
  clear hns
  have HB3 := Lib.hid hb
  obtain ⟨bs, os, rfl, hcs⟩ := ho.ints.at_ (by omega)
  have HCS := Lib.hid (fun i (hi : i < n) => show w1.cell? ⟨bs, os + i, none⟩ = some (.int .i64 (scv a x n i)) from by
    have := hcs i hi
    rwa [show gi (scL a x n n) i = scv a x n i from by unfold scL; rw [gi_get (by simpa using hi)]; simp] at this)
  have HS0 := Lib.hid (show IU w1 (.slice (some ⟨w1.heap.size, 0, none⟩) 0 0) (cpL a x n 0) (w1.alloc (.cells #[] 3)) from IU.start w1)
  clear hcs ho hb HSC
  go_wp2
  go_loopw [7, 8] (fun v i wr => ∃ k : Nat, k ≤ n ∧ i = .int .i64 k ∧ Hid (IU w1 v (cpL a x n k) wr)) (fun _ i _ => n - (intOf i).toNat)
  case atStart => exact ⟨0, Nat.zero_le _, rfl, HS0⟩
  case round =>
    clear HS0
    obtain ⟨k, hk, rfl, HI⟩ := hrel
    obtain ⟨Av, cv, rfl⟩ := HI.out.bi.form
    by_cases hlt : k < n
    · have hr := rr_lt (n := n) (i := k) (by omega)
      have hll := rl_lt (n := n) (i := k) (by omega)
      have t1 : ((k : Int) + 1).tmod (n : Int) = ((rr n k : Nat) : Int) := by have := tmod_nat (k + 1) n; rw [Int.natCast_add] at this; exact this
      have t2 : ((k : Int) + (n : Int) - 1).tmod (n : Int) = ((rl n k : Nat) : Int) := by
        have := tmod_nat (k + n - 1) n
        rw [show ((k + n - 1 : Nat) : Int) = (k : Int) + (n : Int) - 1 by omega] at this
        exact this
      have hn0 : ((n : Int) == 0) = false := by rw [beq_eq_false_iff_ne]; omega
      have hn0' : ¬ (n = 0) := by omega
      have q1 := Keep.below HI.out.up _ _ (HCS.out k hlt)
      have q2 := Keep.below HI.out.up _ _ (HCS.out (rr n k) hr)
      have q3 := Keep.below HI.out.up _ _ (HCS.out (rl n k) hll)
      have HYL : Hid ((cpL a x n k).length = k) := Lib.hid (cpL_len _ _ _ _)
      by_cases h1 : scv a x n k < scv a x n (rl n k)
      · by_cases h2 : scv a x n (rl n k) < scv a x n (rr n k)
        · have HB1 := Lib.hid (show bat1 a x n k = rl n k from if_pos h1)
          have HBT := Lib.hid (show bat a x n k = rr n k from by unfold bat; rw [HB1.out]; exact if_pos h2)
          have HNX := Lib.hid (show cpL a x n (k + 1) = cpL a x n k ++ [gi x (rr n k)] from by simp only [cpL, List.range_succ, List.map_append, List.map_cons, List.map_nil]; rw [HBT.out])
          have d1 : decide (scv a x n k < scv a x n (rl n k)) = true := decide_eq_true h1
          have d2 : decide (scv a x n (rl n k) < scv a x n (rr n k)) = true := decide_eq_true h2
          have px := Keep.below (below_up HB3.out HI.out.up) _ _ (HCX.out (rr n k) hr)
          clear h1 h2 HB1 HBT
          generalize scv a x n k = s1 at *
          generalize scv a x n (rl n k) = s2 at *
          generalize scv a x n (rr n k) = s3 at *
          generalize hgx : gi x (rr n k) = gx at *
          clear hgx
          generalize rl n k = r1 at *
          generalize rr n k = r2 at *
          generalize hys : cpL a x n k = ys at *
          clear hys
          have HIM := Lib.hid (fun m => HI.out.next (Quiet.below (B := wr.heap.size) ⟨m, rfl⟩))
          have hwz := HI.out.up.size
          clear HI
          go_wp2
          go_quiet (fail)
          go_wp2
          go_quiet (fail)
          go_wp2_with (at_builtin; refine wpList_append_own_at _ rfl _ _ 30 rfl w1.heap.size 3 i0 (.int .i64 0) 1 8 Try.underlying30 hi0 hz0 hz1 hz2 rfl (by decide) _ ys.length (ys.map iv) rfl ((HIM.out _).bi.below (below_alloc _ _)).own ⟨wr.heap.size, 0, none⟩ 1 1 [iv gx] rfl rfl ?c1 ?c2 ?c3 ?c4 ?c5 ?_)
          case c1 => exact cell_one_new _ _ _
          case c2 => intro u hu; simp at hu; subst hu; rfl
          case c3 => have := HYL.out; unfold maxLen; omega
          case c4 => have := HYL.out; omega
          case c5 => simp; omega
          intro v' w5 hown' hgrow _ hat
          have HI5 := Lib.hid ((HIM.out _).push hown' hgrow (by simpa using hat))
          clear hown' hgrow hat HIM px q1 q2 q3
          go_wp2
          go_roundw
          case rel => exact ⟨k + 1, by omega, by go_num, Lib.hid (by rw [HNX.out]; exact HI5.out)⟩
          case measure => simp [intOf]; omega
        · have HB1 := Lib.hid (show bat1 a x n k = rl n k from if_pos h1)
          have HBT := Lib.hid (show bat a x n k = rl n k from by unfold bat; rw [HB1.out]; exact if_neg h2)
          have HNX := Lib.hid (show cpL a x n (k + 1) = cpL a x n k ++ [gi x (rl n k)] from by simp only [cpL, List.range_succ, List.map_append, List.map_cons, List.map_nil]; rw [HBT.out])
          have d1 : decide (scv a x n k < scv a x n (rl n k)) = true := decide_eq_true h1
          have d2 : decide (scv a x n (rl n k) < scv a x n (rr n k)) = false := decide_eq_false h2
          have px := Keep.below (below_up HB3.out HI.out.up) _ _ (HCX.out (rl n k) hll)
          clear h1 h2 HB1 HBT
          generalize scv a x n k = s1 at *
          generalize scv a x n (rl n k) = s2 at *
          generalize scv a x n (rr n k) = s3 at *
          generalize hgx : gi x (rl n k) = gx at *
          clear hgx
          generalize rl n k = r1 at *
          generalize rr n k = r2 at *
          generalize hys : cpL a x n k = ys at *
          clear hys
          have HIM := Lib.hid (fun m => HI.out.next (Quiet.below (B := wr.heap.size) ⟨m, rfl⟩))
          have hwz := HI.out.up.size
          clear HI
          go_wp2
          go_quiet (fail)
          go_wp2
          go_quiet (fail)
          go_wp2_with (at_builtin; refine wpList_append_own_at _ rfl _ _ 30 rfl w1.heap.size 3 i0 (.int .i64 0) 1 8 Try.underlying30 hi0 hz0 hz1 hz2 rfl (by decide) _ ys.length (ys.map iv) rfl ((HIM.out _).bi.below (below_alloc _ _)).own ⟨wr.heap.size, 0, none⟩ 1 1 [iv gx] rfl rfl ?c1 ?c2 ?c3 ?c4 ?c5 ?_)
          case c1 => exact cell_one_new _ _ _
          case c2 => intro u hu; simp at hu; subst hu; rfl
          case c3 => have := HYL.out; unfold maxLen; omega
          case c4 => have := HYL.out; omega
          case c5 => simp; omega
          intro v' w5 hown' hgrow _ hat
          have HI5 := Lib.hid ((HIM.out _).push hown' hgrow (by simpa using hat))
          clear hown' hgrow hat HIM px q1 q2 q3
          go_wp2
          go_roundw
          case rel => exact ⟨k + 1, by omega, by go_num, Lib.hid (by rw [HNX.out]; exact HI5.out)⟩
          case measure => simp [intOf]; omega
      · by_cases h2 : scv a x n k < scv a x n (rr n k)
        · have HB1 := Lib.hid (show bat1 a x n k = k from if_neg h1)
          have HBT := Lib.hid (show bat a x n k = rr n k from by unfold bat; rw [HB1.out]; exact if_pos h2)
          have HNX := Lib.hid (show cpL a x n (k + 1) = cpL a x n k ++ [gi x (rr n k)] from by simp only [cpL, List.range_succ, List.map_append, List.map_cons, List.map_nil]; rw [HBT.out])
          have d1 : decide (scv a x n k < scv a x n (rl n k)) = false := decide_eq_false h1
          have d2 : decide (scv a x n (k) < scv a x n (rr n k)) = true := decide_eq_true h2
          have px := Keep.below (below_up HB3.out HI.out.up) _ _ (HCX.out (rr n k) hr)
          clear h1 h2 HB1 HBT
          generalize scv a x n k = s1 at *
          generalize scv a x n (rl n k) = s2 at *
          generalize scv a x n (rr n k) = s3 at *
          generalize hgx : gi x (rr n k) = gx at *
          clear hgx
          generalize rl n k = r1 at *
          generalize rr n k = r2 at *
          generalize hys : cpL a x n k = ys at *
          clear hys
          have HIM := Lib.hid (fun m => HI.out.next (Quiet.below (B := wr.heap.size) ⟨m, rfl⟩))
          have hwz := HI.out.up.size
          clear HI
          go_wp2
          go_quiet (fail)
          go_wp2
          go_quiet (fail)
          go_wp2_with (at_builtin; refine wpList_append_own_at _ rfl _ _ 30 rfl w1.heap.size 3 i0 (.int .i64 0) 1 8 Try.underlying30 hi0 hz0 hz1 hz2 rfl (by decide) _ ys.length (ys.map iv) rfl ((HIM.out _).bi.below (below_alloc _ _)).own ⟨wr.heap.size, 0, none⟩ 1 1 [iv gx] rfl rfl ?c1 ?c2 ?c3 ?c4 ?c5 ?_)
          case c1 => exact cell_one_new _ _ _
          case c2 => intro u hu; simp at hu; subst hu; rfl
          case c3 => have := HYL.out; unfold maxLen; omega
          case c4 => have := HYL.out; omega
          case c5 => simp; omega
          intro v' w5 hown' hgrow _ hat
          have HI5 := Lib.hid ((HIM.out _).push hown' hgrow (by simpa using hat))
          clear hown' hgrow hat HIM px q1 q2 q3
          go_wp2
          go_roundw
          case rel => exact ⟨k + 1, by omega, by go_num, Lib.hid (by rw [HNX.out]; exact HI5.out)⟩
          case measure => simp [intOf]; omega
        · have HB1 := Lib.hid (show bat1 a x n k = k from if_neg h1)
          have HBT := Lib.hid (show bat a x n k = k from by unfold bat; rw [HB1.out]; exact if_neg h2)
          have HNX := Lib.hid (show cpL a x n (k + 1) = cpL a x n k ++ [gi x (k)] from by simp only [cpL, List.range_succ, List.map_append, List.map_cons, List.map_nil]; rw [HBT.out])
          have d1 : decide (scv a x n k < scv a x n (rl n k)) = false := decide_eq_false h1
          have d2 : decide (scv a x n (k) < scv a x n (rr n k)) = false := decide_eq_false h2
          have px := Keep.below (below_up HB3.out HI.out.up) _ _ (HCX.out (k) hlt)
          clear h1 h2 HB1 HBT
          generalize scv a x n k = s1 at *
          generalize scv a x n (rl n k) = s2 at *
          generalize scv a x n (rr n k) = s3 at *
          generalize hgx : gi x (k) = gx at *
          clear hgx
          generalize rl n k = r1 at *
          generalize rr n k = r2 at *
          generalize hys : cpL a x n k = ys at *
          clear hys
          have HIM := Lib.hid (fun m => HI.out.next (Quiet.below (B := wr.heap.size) ⟨m, rfl⟩))
          have hwz := HI.out.up.size
          clear HI
          go_wp2
          go_quiet (fail)
          go_wp2
          go_quiet (fail)
          go_wp2_with (at_builtin; refine wpList_append_own_at _ rfl _ _ 30 rfl w1.heap.size 3 i0 (.int .i64 0) 1 8 Try.underlying30 hi0 hz0 hz1 hz2 rfl (by decide) _ ys.length (ys.map iv) rfl ((HIM.out _).bi.below (below_alloc _ _)).own ⟨wr.heap.size, 0, none⟩ 1 1 [iv gx] rfl rfl ?c1 ?c2 ?c3 ?c4 ?c5 ?_)
          case c1 => exact cell_one_new _ _ _
          case c2 => intro u hu; simp at hu; subst hu; rfl
          case c3 => have := HYL.out; unfold maxLen; omega
          case c4 => have := HYL.out; omega
          case c5 => simp; omega
          intro v' w5 hown' hgrow _ hat
          have HI5 := Lib.hid ((HIM.out _).push hown' hgrow (by simpa using hat))
          clear hown' hgrow hat HIM px q1 q2 q3
          go_wp2
          go_roundw
          case rel => exact ⟨k + 1, by omega, by go_num, Lib.hid (by rw [HNX.out]; exact HI5.out)⟩
          case measure => simp [intOf]; omega
    · obtain rfl : k = n := by omega
      have HNW := Lib.hid (HI.out.new (by rw [cpL_len]; omega) (fun y hy => by
        obtain ⟨i, hi, rfl⟩ := List.mem_map.1 hy
        have := HXB.out (bat a x k i) (bat_lt (List.mem_range.1 hi)); omega))
      have HE := Lib.hid (show NewI w (cpL a x k k) (.returned (.slice Av (cpL a x k k).length cv)) wr from by
        obtain ⟨A', n', c', g', e', q1, q2, q3⟩ := HNW.out
        exact ⟨A', n', c', g', e', q1, q2.mono HB3.out.size (Nat.le_refl _), below_up HB3.out q3⟩)
      clear HNW HI
      go_wp2
      go_ret
      exact HE.out
theorem validRing_iff {a : List (List Int)} {x : List Int} (hv : VQ a) : ((∀ i, i < x.length → InR (gi x i) 0 ((a.length : Int) - 1)) ∧ 3 ≤ x.length ∧ x.length ≤ 8) ↔ RgQ a x :=
  ⟨fun h => ⟨hv, h.1, h.2.1, h.2.2⟩, fun h => ⟨h.s, h.n3, h.n8⟩⟩
set_option maxRecDepth 100000 in
set_option maxHeartbeats 1600000 in
theorem CopyRing_spec (A : Option Addr) (l ca : Nat) (a : List (List Int)) (X : Option Addr) (n c : Nat) (x : List Int) (w : World) (ha : IntRows w A l ca a) (hx : Ints w X n c x) :
    Calls Try.prog 31 #[.slice A l ca, .slice X n c] w (NewI w (cpF a x)) := by
  have HA := Lib.hid ha
  have HX := Lib.hid hx
  have hl := ha.len
  have HVS := Lib.hid (validSquare_any A l ca a w ha)
  by_cases hv : VQ a
  · have hl3 : l ≤ 3 := by rw [← hl]; exact hv.1.n3
    rw [pb_true hv] at HVS
    have HVR := Lib.hid (fun W q => validRing_any X n c x l W q hl3)
    have HPR : Hid (pb ((∀ i, i < x.length → InR (gi x i) 0 ((l : Int) - 1)) ∧ 3 ≤ x.length ∧ x.length ≤ 8) = pb (RgQ a x)) := Lib.hid (by rw [← hl]; exact pb_congr (validRing_iff hv))
    rw [HPR.out] at HVR
    by_cases hr : RgQ a x
    · obtain ⟨b, o, rb, ro, cc, rfl, tab⟩ := HA.out.tab hv.1
      rw [← hv.2, hl] at tab
      have HT := Lib.hid tab
      have HF := Lib.hid (cpF_yes hr)
      have HLX := Lib.hid hx.len
      have HCO := Lib.hid (fun W q1 q2 => copied_any b o rb ro cc l ca X n c a x W q1 q2 hr hl)
      rw [pb_true hr] at HVR
      clear ha hx hv hr tab HPR hl
      go_enter Try.func31, Try.ntmps31
      go_wp2_with fail
      refine HVS.out.mono ?_
      rintro e w1 ⟨rfl, hq1⟩
      have HQ1 := Lib.hid hq1
      have HC := Lib.hid (HVR.out w1 (HX.out.keep (Keep.quiet hq1)))
      clear hq1 HVS HVR
      go_wp2_with fail
      refine HC.out.mono ?_
      rintro e w2 ⟨rfl, hq2⟩
      have HQ2 := Lib.hid (HQ1.out.trans hq2)
      have HC2 := Lib.hid (HCO.out w2 (HT.out.keep (Keep.quiet HQ2.out)) (HX.out.keep (Keep.quiet HQ2.out)))
      clear hq2 HC HCO HQ1
      go_wp2_with fail
      refine HC2.out.mono ?_
      rintro e w3 hnew
      obtain ⟨A', n', c', g', rfl, q1, q2, q3⟩ := hnew
      have hb := HQ2.out.below (B := w.heap.size)
      have HE := Lib.hid (show NewI w (cpF a x) (.returned (.slice A' n' c')) w3 from by
        rw [HF.out, HLX.out]
        exact ⟨A', n', c', g', rfl, q1, q2.mono hb.size (Nat.le_refl _), below_up hb q3⟩)
      clear hb q1 q2 q3 HC2
      go_wp2
      go_ret
      exact HE.out
    · have HF := Lib.hid (cpF_no hr)
      rw [pb_false hr] at HVR
      clear ha hx hv hr HPR hl
      go_enter Try.func31, Try.ntmps31
      go_wp2_with fail
      refine HVS.out.mono ?_
      rintro e w1 ⟨rfl, hq1⟩
      have HQ1 := Lib.hid hq1
      have HC := Lib.hid (HVR.out w1 (HX.out.keep (Keep.quiet hq1)))
      clear hq1 HVS HVR
      go_wp2_with fail
      refine HC.out.mono ?_
      rintro e w2 ⟨rfl, hq2⟩
      have HE := Lib.hid (show NewI w (cpF a x) (.returned (.slice none 0 0)) w2 from by
        rw [HF.out]
        exact ⟨none, 0, 0, 0, rfl, rfl, OwnI.nil _ _ _ _, (HQ1.out.trans hq2).below⟩)
      clear hq2 HC HQ1
      go_wp2
      go_ret
      exact HE.out
  · rw [pb_false hv] at HVS
    have HF := Lib.hid (cpF_no (x := x) (fun h : RgQ a x => hv h.v))
    clear ha hx hv hl
    go_enter Try.func31, Try.ntmps31
    go_wp2_with fail
    refine HVS.out.mono ?_
    rintro e w1 ⟨rfl, hq1⟩
    have HE := Lib.hid (show NewI w (cpF a x) (.returned (.slice none 0 0)) w1 from by
      rw [HF.out]
      exact ⟨none, 0, 0, 0, rfl, rfl, OwnI.nil _ _ _ _, hq1.below⟩)
    clear hq1 HVS
    go_wp2
    go_ret
    exact HE.out

end Go.Proofs.Ytjkmgpiiamffgaa

/- Graphs as lists of sets: all of them; how they are reached: plain. -/
namespace Go.Proofs.Ytjkmgpiiamffgaa

/-- Whether u is a neighbour of v. -/
def bt (g : List Int) (v u : Nat) : Nat := (gi g v).toNat / 2 ^ u % 2
theorem bt_lt (g : List Int) (v u : Nat) : bt g v u < 2 := Nat.mod_lt _ (by decide)
def InG (g : List Int) : Prop := ∀ v, v < g.length → InR (gi g v) 0 (2 ^ g.length - 1)
def SyG (g : List Int) : Prop := ∀ v, v < g.length → bt g v v = 0 ∧ ∀ u, u < v → bt g v u = bt g u v
/-- Sets that are one another's neighbours, none its own: whether all are reached is left open. -/
structure GB (g : List Int) : Prop where
  inn : InG g
  sym : SyG g
  n2 : 2 ≤ g.length
  n5 : g.length ≤ 5
/-- The set of the neighbours of v, out of the bits of all pairs. -/
def grE (l : List Nat) (v : Nat) : Nat → Nat
  | 0 => 0
  | u + 1 => grE l v u + 2 ^ u * (if u < v then l.getD (v * (v - 1) / 2 + u) 0 else if v < u then l.getD (u * (u - 1) / 2 + v) 0 else 0)
def grN (n : Nat) (l : List Nat) : List Int := (List.range n).map fun v => ((grE l v n : Nat) : Int)
def bitsN : Nat → List (List Nat)
  | 0 => [[]]
  | k + 1 => (bitsN k).flatMap fun l => [0 :: l, 1 :: l]
theorem mem_bits : ∀ l : List Nat, (∀ x ∈ l, x < 2) → l ∈ bitsN l.length
  | [], _ => List.mem_singleton.2 rfl
  | x :: l, h => by
    have h0 := h x (List.mem_cons_self ..)
    refine List.mem_flatMap.2 ⟨l, mem_bits l fun y hy => h y (List.mem_cons_of_mem _ hy), ?_⟩
    have : x = 0 ∨ x = 1 := by omega
    rcases this with rfl | rfl <;> simp
def graphsN (n : Nat) : List (List Int) := (bitsN (n * (n - 1) / 2)).map (grN n)
/-- All of them. -/
def graphs : List (List Int) := graphsN 2 ++ graphsN 3 ++ graphsN 4 ++ graphsN 5
theorem grN_len (n : Nat) (l : List Nat) : (grN n l).length = n := by simp [grN]
def bsum (x : Nat) : Nat → Nat
  | 0 => 0
  | u + 1 => bsum x u + 2 ^ u * (x / 2 ^ u % 2)
theorem bsum_mod (x : Nat) : ∀ n, bsum x n = x % 2 ^ n
  | 0 => by simp [bsum, Nat.mod_one]
  | n + 1 => by rw [bsum, bsum_mod x n, Nat.pow_succ, Nat.mod_mul]
theorem grE_eq {g : List Int} {l : List Nat} (hs : SyG g) {v : Nat} (hv : v < g.length) (hl : ∀ v, v < g.length → ∀ u, u < v → l.getD (v * (v - 1) / 2 + u) 0 = bt g v u) : ∀ m, m ≤ g.length → grE l v m = bsum (gi g v).toNat m
  | 0, _ => rfl
  | m + 1, h => by
    rw [grE, bsum, grE_eq hs hv hl m (by omega)]
    congr 2
    by_cases h1 : m < v
    · rw [if_pos h1, hl v hv m h1]; rfl
    · by_cases h2 : v < m
      · rw [if_neg h1, if_pos h2, hl m (by omega) v h2, (hs m (by omega)).2 v h2]; rfl
      · obtain rfl : m = v := by omega
        rw [if_neg h1, if_neg h2]
        exact (hs m hv).1.symm
theorem grN_eq {g : List Int} {l : List Nat} (hi : InG g) (hs : SyG g) (hl : ∀ v, v < g.length → ∀ u, u < v → l.getD (v * (v - 1) / 2 + u) 0 = bt g v u) : g = grN g.length l := by
  refine gi_ext (by rw [grN_len]) fun k hk => ?_
  have h1 := hi k hk
  unfold InR at h1
  have h2 : ((2 ^ g.length : Nat) : Int) = (2 : Int) ^ g.length := by simp
  have h3 : gi (grN g.length l) k = ((grE l k g.length : Nat) : Int) := by rw [gi_get (by rw [grN_len]; omega)]; simp [grN]
  rw [h3, grE_eq hs hk hl _ (Nat.le_refl _), bsum_mod, Nat.mod_eq_of_lt (by omega)]
  omega
theorem mem_graphs {g : List Int} (h : GB g) : g ∈ graphs := by
  obtain ⟨hin, hsy, h2, h5⟩ := h
  have hn : g.length = 2 ∨ g.length = 3 ∨ g.length = 4 ∨ g.length = 5 := by omega
  have key : ∀ (n : Nat) (l : List Nat), g.length = n → l.length = n * (n - 1) / 2 → (∀ x ∈ l, x < 2) → (∀ v, v < n → ∀ u, u < v → l.getD (v * (v - 1) / 2 + u) 0 = bt g v u) → g ∈ graphsN n := fun n l hl hk hb hv => by
    subst hl
    refine List.mem_map.2 ⟨l, ?_, (grN_eq hin hsy hv).symm⟩
    rw [← hk]; exact mem_bits l hb
  unfold graphs
  simp only [List.mem_append]
  rcases hn with hn | hn | hn | hn
  · refine .inl (.inl (.inl (key 2 [bt g 1 0] hn rfl ?_ ?_)))
    · intro x hx; simp only [List.mem_cons, List.not_mem_nil, or_false] at hx; rcases hx with rfl <;> exact bt_lt _ _ _
    · intro v hv u hu
      match v, u, hv, hu with
      | 1, 0, _, _ => rfl
  · refine .inl (.inl (.inr (key 3 [bt g 1 0, bt g 2 0, bt g 2 1] hn rfl ?_ ?_)))
    · intro x hx; simp only [List.mem_cons, List.not_mem_nil, or_false] at hx; rcases hx with rfl | rfl | rfl <;> exact bt_lt _ _ _
    · intro v hv u hu
      match v, u, hv, hu with
      | 1, 0, _, _ => rfl
      | 2, 0, _, _ => rfl
      | 2, 1, _, _ => rfl
  · refine .inl (.inr (key 4 [bt g 1 0, bt g 2 0, bt g 2 1, bt g 3 0, bt g 3 1, bt g 3 2] hn rfl ?_ ?_))
    · intro x hx; simp only [List.mem_cons, List.not_mem_nil, or_false] at hx; rcases hx with rfl | rfl | rfl | rfl | rfl | rfl <;> exact bt_lt _ _ _
    · intro v hv u hu
      match v, u, hv, hu with
      | 1, 0, _, _ => rfl
      | 2, 0, _, _ => rfl
      | 2, 1, _, _ => rfl
      | 3, 0, _, _ => rfl
      | 3, 1, _, _ => rfl
      | 3, 2, _, _ => rfl
  · refine .inr (key 5 [bt g 1 0, bt g 2 0, bt g 2 1, bt g 3 0, bt g 3 1, bt g 3 2, bt g 4 0, bt g 4 1, bt g 4 2, bt g 4 3] hn rfl ?_ ?_)
    · intro x hx; simp only [List.mem_cons, List.not_mem_nil, or_false] at hx; rcases hx with rfl | rfl | rfl | rfl | rfl | rfl | rfl | rfl | rfl | rfl <;> exact bt_lt _ _ _
    · intro v hv u hu
      match v, u, hv, hu with
      | 1, 0, _, _ => rfl
      | 2, 0, _, _ => rfl
      | 2, 1, _, _ => rfl
      | 3, 0, _, _ => rfl
      | 3, 1, _, _ => rfl
      | 3, 2, _, _ => rfl
      | 4, 0, _, _ => rfl
      | 4, 1, _, _ => rfl
      | 4, 2, _, _ => rfl
      | 4, 3, _, _ => rfl

/-- The neighbours of v, ascending. -/
def nb (g : List Int) (v : Nat) : List Int := memL (gi g v).toNat 5
def ndAnd (a b : Nat) : Nat := a - (a &&& b)
/-- One way over all places: what is reached; whether something was new. -/
def lkR (g : List Int) (out : Nat) : Nat → Nat
  | 0 => out
  | v + 1 => if lkR g out v / 2 ^ v % 2 = 1 ∧ ndAnd (gi g v).toNat (lkR g out v) ≠ 0 then lkR g out v ||| (gi g v).toNat else lkR g out v
def lkA (g : List Int) (out : Nat) : Nat → Bool
  | 0 => false
  | v + 1 => if lkR g out v / 2 ^ v % 2 = 1 ∧ ndAnd (gi g v).toNat (lkR g out v) ≠ 0 then true else lkA g out v
def lkI (g : List Int) : Nat → Nat
  | 0 => 1
  | k + 1 => lkR g (lkI g k) g.length
def agF (g : List Int) : Nat → Bool
  | 0 => true
  | k + 1 => lkA g (lkI g k) g.length
def lnk (g : List Int) : Nat := lkI g 6
/-- The list of places that are reached, as the program makes it. -/
def addN (R : List Nat) (x : Nat) : List Nat := if R.contains x then R else R ++ [x]
def rIn (R : List Nat) (ms : List Int) : Nat → List Nat
  | 0 => R
  | j + 1 => addN (rIn R ms j) (gi ms j).toNat
def rO (g : List Int) : Nat → List Nat
  | 0 => [0]
  | i + 1 => if i < (rO g i).length then rIn (rO g i) (nb g ((rO g i).getD i 0)) (nb g ((rO g i).getD i 0)).length else rO g i
def lkOk (g : List Int) : Bool :=
  (List.range 7).all (fun k => decide (lkI g k < 32) && (List.range 6).all (fun v => decide (lkR g (lkI g k) v < 32)) && (agF g k || lkI g k == lkI g 6)) && (List.range 6).all (fun k => if agF g (k + 1) then decide (lkI g k < lkI g (k + 1)) else lkI g k == lkI g (k + 1)) && !agF g 6
def rOk (g : List Int) : Bool :=
  (List.range 7).all (fun i => decide ((rO g i).length ≤ g.length) && (rO g i).all (fun x => decide (x < g.length)) && decide (1 ≤ (rO g i).length)) && rO g 6 == rO g 5 && ((rO g 5).length == g.length) == (lnk g == 2 ^ g.length - 1)
theorem lk_table : graphs.all (fun g => lkOk g && rOk g) = true := by decide +kernel
/-- Graphs, all of whose places are reached. -/
structure GR (g : List Int) : Prop where
  b : GB g
  all : lnk g = 2 ^ g.length - 1
def degT (g : List Int) : Bool := !(lnk g == 2 ^ g.length - 1) || (List.range g.length).all fun v => decide (1 ≤ (nb g v).length) && decide ((nb g v).length ≤ 4) && (nb g v).all fun u => decide (u.toNat < g.length)
theorem deg_table : graphs.all degT = true := by decide +kernel
end Go.Proofs.Ytjkmgpiiamffgaa

/- The greatest of a row; rests by the greatest of a column and of a row. -/
namespace Go.Proofs.Ytjkmgpiiamffgaa
def mx (xs : List Int) : Nat → Int
  | 0 => gi xs 0
  | k + 1 => max (mx xs k) (gi xs (k + 1))
def mxl (xs : List Int) : Int := mx xs (xs.length - 1)
theorem mx_ge (xs : List Int) : ∀ {k j : Nat}, j ≤ k → gi xs j ≤ mx xs k
  | 0, j, h => by obtain rfl : j = 0 := by omega
                  exact Int.le_refl _
  | k + 1, j, h => by
    simp only [mx]
    by_cases e : j = k + 1
    · subst e; omega
    · have := mx_ge xs (k := k) (j := j) (by omega); omega
theorem mx_at (xs : List Int) : ∀ k, ∃ j, j ≤ k ∧ gi xs j = mx xs k
  | 0 => ⟨0, Nat.le_refl _, rfl⟩
  | k + 1 => by
    obtain ⟨j, hj, e⟩ := mx_at xs k
    by_cases h : gi xs (k + 1) ≤ mx xs k
    · exact ⟨j, by omega, by simp only [mx]; omega⟩
    · exact ⟨k + 1, Nat.le_refl _, by simp only [mx]; omega⟩
theorem mxl_iff {xs : List Int} {j : Nat} (h : j < xs.length) : gi xs j = mxl xs ↔ ∀ k, k < xs.length → gi xs k ≤ gi xs j := by
  constructor
  · intro e k hk
    rw [e]
    exact mx_ge xs (by omega)
  · intro hall
    obtain ⟨i, hi, e⟩ := mx_at xs (xs.length - 1)
    have h1 := hall i (by omega)
    have h2 := mx_ge xs (k := xs.length - 1) (j := j) (by omega)
    unfold mxl
    omega
end Go.Proofs.Ytjkmgpiiamffgaa

