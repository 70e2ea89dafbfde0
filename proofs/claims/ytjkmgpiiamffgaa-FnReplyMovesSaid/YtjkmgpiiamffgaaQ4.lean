/- Texts merged: V6 V7 Math10 V8 Math11 V9 Y2 UD UE UF Put Ones. -/
import Derived.Test.YtjkmgpiiamffgaaQ3
import Derived.RegionTactic
/- Numbers put to their places, by the model. -/
namespace Go.Proofs.Ytjkmgpiiamffgaa
open Go.RowKit

/-- Numbers being put to their places, in a row of the call's own. -/
structure SU (w : World) (n : Nat) (ys : List Int) (wr : World) : Prop where
  own : OwnI w.heap.size (w.heap.size + 1) wr w.heap.size (some ⟨w.heap.size, 0, none⟩) n n ys
  up : Below w.heap.size w wr
  sz : w.heap.size + 1 ≤ wr.heap.size
theorem gi_repl {n k : Nat} (h : k < n) : gi (List.replicate n 0) k = 0 := by rw [gi_get (by simpa using h)]; simp
theorem SU.start (w : World) (n : Nat) (hn : n ≤ 100) : SU w n (List.replicate n 0) (w.alloc (.cells (madeCells #[.int .i64 0] n) 3)) :=
  ⟨OwnI.of_rowIs (by simp) (by omega) (fun x hx => by have := List.eq_of_mem_replicate hx; omega) (Nat.le_refl _) (by omega) (World.rowIs_made w (.int .i64 0) n 3) (fun k hk => by rw [gi_repl hk]), below_alloc _ _, by simp⟩
theorem SU.set {w n ys wr} (h : SU w n ys wr) {k : Nat} (hk : k < n) {v : Int} (hv : -9223372036854775808 ≤ v ∧ v ≤ 9223372036854775807) : SU w n (ys.set k v) (wr.setCell ⟨w.heap.size, k, none⟩ (.int .i64 v)) := by
  have h1 := h.own.set hk (v := v) hv
  rw [Nat.zero_add] at h1
  exact ⟨h1, h.up.setCell (p := ⟨w.heap.size, k, none⟩) (Nat.le_refl _) _, by simpa [World.setCell] using h.sz⟩
theorem SU.qu {w n ys wr wr'} (h : SU w n ys wr) (k : Quiet wr wr') : SU w n ys wr' := by
  obtain ⟨m, rfl⟩ := k; exact ⟨h.own.of_block fun _ => rfl, below_drewN h.up m, h.sz⟩
theorem SU.cell {w n ys wr} (h : SU w n ys wr) {k : Nat} (hk : k < n) : wr.cell? ⟨w.heap.size, k, none⟩ = some (.int .i64 (gi ys k)) := by
  obtain ⟨b, o, e, hc⟩ := h.own.ints.at_ (by omega)
  injection e with e; injection e with e1 e2 _; subst e1; subst e2
  have := hc k hk; rwa [Nat.zero_add] at this
theorem SU.frozen {w n ys wr} (h : SU w n ys wr) {k : Nat} (hk : k < n) : wr.frozen? ⟨w.heap.size, k, none⟩ = false := by
  obtain ⟨o, e, _, _, hf⟩ := h.own.own (by omega)
  injection e with e; injection e with _ e2 _; subst e2
  have := hf k hk; rwa [Nat.zero_add] at this
theorem SU.new {w n ys wr} (h : SU w n ys wr) (hl : n = ys.length) : NewI w ys (.returned (.slice (some ⟨w.heap.size, 0, none⟩) n n)) wr :=
  ⟨_, _, _, w.heap.size, rfl, hl, h.own.mono (Nat.le_refl _) h.sz, h.up⟩

end Go.Proofs.Ytjkmgpiiamffgaa

/- Numbers without a common factor and without signs, by the model. -/
namespace Go.Proofs.Ytjkmgpiiamffgaa
open Go.RowKit

def upB (xs : List Int) : Nat → Bool
  | 0 => false
  | k + 1 => upB xs k || decide (0 < gi xs k)
def dnB (xs : List Int) : Nat → Bool
  | 0 => false
  | k + 1 => dnB xs k || decide (gi xs k < 0)
theorem upB_false {xs : List Int} : ∀ {k}, upB xs k = false ↔ ∀ p, p < k → gi xs p ≤ 0
  | 0 => by simp [upB]
  | k + 1 => by
    have ih := upB_false (xs := xs) (k := k)
    simp only [upB, Bool.or_eq_false_iff, decide_eq_false_iff_not, ih]
    refine ⟨fun ⟨h1, h2⟩ p hp => ?_, fun h => ⟨fun p hp => h p (by omega), by have := h k (by omega); omega⟩⟩
    by_cases e : p = k
    · subst e; omega
    · exact h1 p (by omega)
theorem dnB_false {xs : List Int} : ∀ {k}, dnB xs k = false ↔ ∀ p, p < k → 0 ≤ gi xs p
  | 0 => by simp [dnB]
  | k + 1 => by
    have ih := dnB_false (xs := xs) (k := k)
    simp only [dnB, Bool.or_eq_false_iff, decide_eq_false_iff_not, ih]
    refine ⟨fun ⟨h1, h2⟩ p hp => ?_, fun h => ⟨fun p hp => h p (by omega), by have := h k (by omega); omega⟩⟩
    by_cases e : p = k
    · subst e; omega
    · exact h1 p (by omega)
theorem upB_succ {xs : List Int} {k : Nat} {x : Int} (h : gi xs k = x) : upB xs (k + 1) = (upB xs k || decide (0 < x)) := by rw [upB, h]
theorem dnB_succ {xs : List Int} {k : Nat} {x : Int} (h : gi xs k = x) : dnB xs (k + 1) = (dnB xs k || decide (x < 0)) := by rw [dnB, h]
/-- What the loop has come to tells whether the numbers are cleared. -/
theorem clr_yes {xs : List Int} {k : Nat} (hk : xs.length = k) (h : ClrP xs) : 0 < gcdL xs k ∧ (upB xs k = false ∨ dnB xs k = false) := by
  subst hk
  obtain ⟨⟨p, hp, hn⟩, hs⟩ := h
  refine ⟨?_, ?_⟩
  · have h1 := gcdL_nn xs xs.length
    have h2 : gcdL xs xs.length ≠ 0 := fun e => hn (gcdL_zero.1 e p hp)
    omega
  · rcases hs with hs | hs
    · exact .inr (dnB_false.2 hs)
    · exact .inl (upB_false.2 hs)
theorem clr_no {xs : List Int} {k : Nat} (hk : xs.length = k) (h : ¬ ClrP xs) : gcdL xs k = 0 ∨ (upB xs k = true ∧ dnB xs k = true) := by
  subst hk
  by_cases h0 : gcdL xs xs.length = 0
  · exact .inl h0
  · refine .inr ?_
    have nz : ∃ p, p < xs.length ∧ gi xs p ≠ 0 := by
      apply Classical.byContradiction; intro hn
      exact h0 (gcdL_zero.2 fun p hp => by
        apply Classical.byContradiction; intro e; exact hn ⟨p, hp, e⟩)
    by_cases hu : upB xs xs.length = false
    · exact absurd ⟨nz, .inr (upB_false.1 hu)⟩ h
    · by_cases hd : dnB xs xs.length = false
      · exact absurd ⟨nz, .inl (dnB_false.1 hd)⟩ h
      · exact ⟨by simpa using hu, by simpa using hd⟩

/-- Numbers cleared, and that they are; or that they are not. -/
def NewC (w : World) (xs : List Int) (e : Ending) (w' : World) : Prop :=
  (ClrP xs ∧ ∃ Av n c gg, e = .returned (.tuple #[.slice Av n c, .bool true]) ∧ n = xs.length ∧ OwnI w.heap.size w'.heap.size w' gg Av n c (clrL xs (gcdL xs xs.length) xs.length) ∧ Below w.heap.size w w') ∨
  (¬ ClrP xs ∧ e = .returned (.tuple #[.slice none 0 0, .bool false]) ∧ Below w.heap.size w w')

theorem clr_val {x G : Int} (hx : -1000000000000000 ≤ x ∧ x ≤ 1000000000000000) (hG : 0 < G) : IntKind.i64.wrap ((if x < IntKind.i64.wrap (-x) then IntKind.i64.wrap (-x) else x).tdiv G) = max x (-x) / G := by
  rw [wrapIn (x := -x) (by omega)]
  have e : (if x < -x then -x else x) = max x (-x) := by split <;> omega
  rw [e, Int.tdiv_eq_ediv_of_nonneg (by omega)]
  have h1 : 0 ≤ max x (-x) / G := Int.ediv_nonneg (by omega) (by omega)
  have h2 : max x (-x) / G ≤ max x (-x) := Int.ediv_le_self _ (by omega)
  exact wrapIn (by omega)
theorem clrL_bd {xs : List Int} {G : Int} (hG : 0 < G) {k : Nat} (h : ∀ p, p < k → Mid (gi xs p)) : ∀ y ∈ clrL xs G k, -1000000000000000 ≤ y ∧ y ≤ 1000000000000000 := fun y hy => by
  obtain ⟨p, hp, rfl⟩ := List.mem_map.1 hy
  have hm := h p (List.mem_range.1 hp)
  unfold Mid at hm
  have h1 : 0 ≤ max (gi xs p) (-(gi xs p)) / G := Int.ediv_nonneg (by omega) (by omega)
  have h2 : max (gi xs p) (-(gi xs p)) / G ≤ max (gi xs p) (-(gi xs p)) := Int.ediv_le_self _ (by omega)
  omega

end Go.Proofs.Ytjkmgpiiamffgaa

/- Parts of a table that tell best shares, as both programs try them. Plain. -/
namespace Go.Proofs.Ytjkmgpiiamffgaa
open V (sumN detN rowC colC cofN minorN skip sgn Asc Kern)

theorem asc_lt {n k : Nat} {r : Nat → Nat} (h : Asc n k r) : ∀ {p q : Nat}, p < q → q < k → r p < r q := fun {p q} => by
  induction q with
  | zero => intro hp _; omega
  | succ q ih =>
    intro hp hq
    have h1 := h.2 q hq
    by_cases e : p = q
    · subst e; exact h1
    · have := ih (by omega) (by omega); omega
theorem asc_ne {n k : Nat} {r : Nat → Nat} (h : Asc n k r) : ∀ p q, p < q → q < k → r p ≠ r q := fun _ _ hp hq => by have := asc_lt h hp hq; omega

/-- Numbers from 9 to 27. -/
def Up (k : Nat) (f : Nat → Nat → Int) : Prop := ∀ p q, p < k → q < k → 9 ≤ f p q ∧ f p q ≤ 27
theorem Up.ab {k f} (h : Up k f) : Ab k f := fun p q hp hq => by have := h p q hp hq; omega
theorem Up.tr {k f} (h : Up k f) : Up k (trN f) := fun p q hp hq => h q p hq hp
theorem two_bd {a b c d : Int} (ha : -18 ≤ a ∧ a ≤ 18) (hb : -18 ≤ b ∧ b ≤ 18) (hc : -18 ≤ c ∧ c ≤ 18) (hd : -18 ≤ d ∧ d ≤ 18) : -648 ≤ a * b - c * d ∧ a * b - c * d ≤ 648 := by
  have h1 := mulbd ha hb
  have h2 := mulbd hc hd
  omega
theorem rowC_bd {k : Nat} {f : Nat → Nat → Int} (hk : k ≤ 3) (h : Up k f) {p : Nat} (hp : p < k) : -648 ≤ rowC k f p ∧ rowC k f p ≤ 648 := by
  have : k = 1 ∨ k = 2 ∨ k = 3 := by omega
  rcases this with rfl | rfl | rfl
  · obtain rfl : p = 0 := by omega
    simp [rowC, sumN, cofN, sgn, detN]
  · have h00 := h 0 0 (by omega) (by omega)
    have h01 := h 0 1 (by omega) (by omega)
    have h10 := h 1 0 (by omega) (by omega)
    have h11 := h 1 1 (by omega) (by omega)
    have : p = 0 ∨ p = 1 := by omega
    rcases this with rfl | rfl <;> simp [rowC, sumN, cofN, sgn, detN, minorN, skip] <;> omega
  · obtain ⟨e0, e1, e2⟩ := V.rowC3 f
    have h00 := h 0 0 (by omega) (by omega)
    have h01 := h 0 1 (by omega) (by omega)
    have h02 := h 0 2 (by omega) (by omega)
    have h10 := h 1 0 (by omega) (by omega)
    have h11 := h 1 1 (by omega) (by omega)
    have h12 := h 1 2 (by omega) (by omega)
    have h20 := h 2 0 (by omega) (by omega)
    have h21 := h 2 1 (by omega) (by omega)
    have h22 := h 2 2 (by omega) (by omega)
    have : p = 0 ∨ p = 1 ∨ p = 2 := by omega
    rcases this with rfl | rfl | rfl
    · have := two_bd (a := f 1 1 - f 1 0) (b := f 2 2 - f 2 0) (c := f 1 2 - f 1 0) (d := f 2 1 - f 2 0) (by omega) (by omega) (by omega) (by omega)
      have e : rowC 3 f 0 = (f 1 1 - f 1 0) * (f 2 2 - f 2 0) - (f 1 2 - f 1 0) * (f 2 1 - f 2 0) := by rw [e0]; grind
      rw [e]; exact this
    · have := two_bd (a := f 0 2 - f 0 0) (b := f 2 1 - f 2 0) (c := f 0 1 - f 0 0) (d := f 2 2 - f 2 0) (by omega) (by omega) (by omega) (by omega)
      have e : rowC 3 f 1 = (f 0 2 - f 0 0) * (f 2 1 - f 2 0) - (f 0 1 - f 0 0) * (f 2 2 - f 2 0) := by rw [e1]; grind
      rw [e]; exact this
    · have := two_bd (a := f 0 1 - f 0 0) (b := f 1 2 - f 1 0) (c := f 0 2 - f 0 0) (d := f 1 1 - f 1 0) (by omega) (by omega) (by omega) (by omega)
      have e : rowC 3 f 2 = (f 0 1 - f 0 0) * (f 1 2 - f 1 0) - (f 0 2 - f 0 0) * (f 1 1 - f 1 0) := by rw [e2]; grind
      rw [e]; exact this

theorem gi_cofL {k : Nat} {f : Nat → Nat → Int} {i p : Nat} (h : p < i) : gi (cofL k f i) p = rowC k f p := by
  rw [gi_get (by rw [cofL_len]; exact h)]; simp [cofL]
/-- The square of a part, raised. -/
def kf (a : List (List Int)) (r s : Nat → Nat) : Nat → Nat → Int := fun p q => g2 a (r p) (s q) + 18
def kX (a : List (List Int)) (r s : Nat → Nat) (k : Nat) : List Int := cofL k (kf a r s) k
def kY (a : List (List Int)) (r s : Nat → Nat) (k : Nat) : List Int := cofL k (trN (kf a r s)) k
/-- Numbers cleared, put to their places. -/
def shr (n : Nat) (r : Nat → Nat) (X : List Int) (k : Nat) : List Int := putL n r (clrL X (gcdL X X.length) X.length) k
structure KerP (a : List (List Int)) (k : Nat) (r s : Nat → Nat) : Prop where
  det : detN k (kf a r s) ≠ 0
  cx : ClrP (kX a r s k)
  cy : ClrP (kY a r s k)
  eq : wlast a (shr a.length r (kX a r s k) k) = (- (wlast (ntab a) (shr (gr a 0).length s (kY a r s k) k)).1, (wlast (ntab a) (shr (gr a 0).length s (kY a r s k) k)).2)
theorem kX_len (a : List (List Int)) (r s : Nat → Nat) (k : Nat) : (kX a r s k).length = k := cofL_len _ _ _
theorem kY_len (a : List (List Int)) (r s : Nat → Nat) (k : Nat) : (kY a r s k).length = k := cofL_len _ _ _
theorem kf_up {a : List (List Int)} (v : VT a) {k : Nat} {r s : Nat → Nat} (hr : Asc a.length k r) (hs : Asc (gr a 0).length k s) : Up k (kf a r s) := fun p q hp hq => by
  have := v.bd (hr.1 p hp) (hs.1 q hq)
  unfold kf
  omega
theorem kX_bd {a : List (List Int)} (v : VT a) {k : Nat} (hk : k ≤ 3) {r s : Nat → Nat} (hr : Asc a.length k r) (hs : Asc (gr a 0).length k s) {p : Nat} (hp : p < (kX a r s k).length) : -648 ≤ gi (kX a r s k) p ∧ gi (kX a r s k) p ≤ 648 := by
  rw [kX_len] at hp
  unfold kX; rw [gi_cofL hp]; exact rowC_bd hk (kf_up v hr hs) hp
theorem kY_bd {a : List (List Int)} (v : VT a) {k : Nat} (hk : k ≤ 3) {r s : Nat → Nat} (hr : Asc a.length k r) (hs : Asc (gr a 0).length k s) {p : Nat} (hp : p < (kY a r s k).length) : -648 ≤ gi (kY a r s k) p ∧ gi (kY a r s k) p ≤ 648 := by
  rw [kY_len] at hp
  unfold kY; rw [gi_cofL hp]; exact rowC_bd hk (kf_up v hr hs).tr hp

/-- What is cleared and put to its places are shares. -/
theorem gi_shr {n k : Nat} {r : Nat → Nat} {X : List Int} (hl : X.length = k) (hr : Asc n k r) {i : Nat} (hi : i < n) :
    gi (shr n r X k) i = sumN (fun p => if r p = i then max (gi X p) (-(gi X p)) / gcdL X k else 0) k := by
  subst hl
  unfold shr
  rw [gi_putL hi (asc_ne hr)]
  exact sumN_congr fun p hp => by rw [gi_clrL hp]
theorem max_ediv_mul {x g : Int} (h : g ∣ x) : max x (-x) / g * g = max x (-x) := by
  apply Int.ediv_mul_cancel
  by_cases h0 : 0 ≤ x
  · rw [show max x (-x) = x by omega]; exact h
  · rw [show max x (-x) = -x by omega]; exact (Int.dvd_neg).2 h
/-- Of numbers without different signs: z is their sign. -/
theorem clr_sign {X : List Int} (h : ClrP X) : ∃ z : Int, (z = 1 ∨ z = -1) ∧ ∀ p, p < X.length → max (gi X p) (-(gi X p)) = z * gi X p := by
  rcases h.sg with h | h
  · exact ⟨1, .inl rfl, fun p hp => by have := h p hp; omega⟩
  · exact ⟨-1, .inr rfl, fun p hp => by have := h p hp; omega⟩
theorem clr_pos {X : List Int} (h : ClrP X) : 0 < gcdL X X.length := (clr_yes rfl h).1
theorem shr_key {n k : Nat} {r : Nat → Nat} {X : List Int} (hl : X.length = k) (hr : Asc n k r) (h : ClrP X) : ∃ z : Int, (z = 1 ∨ z = -1) ∧ (∀ p, p < k → 0 ≤ z * gi X p) ∧
    ∀ i, i < n → gi (shr n r X k) i * gcdL X k = z * sumN (fun p => if r p = i then gi X p else 0) k := by
  obtain ⟨z, hz, hm⟩ := clr_sign h
  refine ⟨z, hz, fun p hp => by have := hm p (by omega); omega, fun i hi => ?_⟩
  rw [gi_shr hl hr hi, Int.mul_comm, ← sumN_mul, ← sumN_mul]
  refine sumN_congr fun p hp => ?_
  by_cases e : r p = i
  · rw [if_pos e, if_pos e, Int.mul_comm, max_ediv_mul (gcdL_dvd X hp)]
    exact hm p (by omega)
  · rw [if_neg e, if_neg e]; omega
theorem sumN_pos {f : Nat → Int} : ∀ {n}, (∀ i, i < n → 0 ≤ f i) → (∃ i, i < n ∧ 0 < f i) → 0 < sumN f n
  | 0, _, ⟨i, hi, _⟩ => absurd hi (by omega)
  | n + 1, h, ⟨i, hi, hp⟩ => by
    have h0 : 0 ≤ sumN f n := by
      have := sumN_le (f := fun _ => 0) (g := f) (n := n) fun j hj => h j (by omega)
      rw [sumN_zero] at this; exact this
    rw [sumN]
    by_cases e : i = n
    · subst e; omega
    · have := sumN_pos (f := f) (n := n) (fun j hj => h j (by omega)) ⟨i, by omega, hp⟩
      have := h n (by omega); omega
theorem tot_shr {n k : Nat} {r : Nat → Nat} {X : List Int} (hl : X.length = k) (hr : Asc n k r) (h : ClrP X) : ∃ z : Int, (z = 1 ∨ z = -1) ∧ (∀ p, p < k → 0 ≤ z * gi X p) ∧
    (∀ i, i < n → gi (shr n r X k) i * gcdL X k = z * sumN (fun p => if r p = i then gi X p else 0) k) ∧ tot (shr n r X k) * gcdL X k = z * sumN (gi X) k ∧ 0 < z * sumN (gi X) k := by
  obtain ⟨z, hz, hp, hk⟩ := shr_key hl hr h
  refine ⟨z, hz, hp, hk, ?_, ?_⟩
  · have := spread_key (shr n r X k) n k r (gi X) (fun _ => 1) _ z hr.1 hk
    simp only [Int.mul_one] at this
    unfold tot
    rw [show (shr n r X k).length = n from putL_len _ _ _ _, sm_sum]
    exact this
  · rw [← sumN_mul]
    refine sumN_pos hp ?_
    obtain ⟨p, hpl, hn⟩ := h.nz
    refine ⟨p, by omega, ?_⟩
    have := hp p (by omega)
    rcases hz with rfl | rfl <;> omega
theorem shr_VS {n k : Nat} {r : Nat → Nat} {X : List Int} (hl : X.length = k) (hr : Asc n k r) (h : ClrP X) (hb : ∀ p, p < X.length → -648 ≤ gi X p ∧ gi X p ≤ 648) : VS (shr n r X k) n := by
  have hg : 0 < gcdL X k := by have := clr_pos h; rwa [hl] at this
  obtain ⟨z, hz, hp, hkk, ht, hpos⟩ := tot_shr hl hr h
  have hln : (shr n r X k).length = n := putL_len _ _ _ _
  refine ⟨by omega, fun i hi => ?_, ?_⟩
  · rw [hln] at hi
    rw [gi_shr hl hr hi]
    -- only one of the places is i
    have one : ∀ {j : Nat}, j ≤ k → 0 ≤ sumN (fun p => if r p = i then max (gi X p) (-(gi X p)) / gcdL X k else 0) j ∧ sumN (fun p => if r p = i then max (gi X p) (-(gi X p)) / gcdL X k else 0) j ≤ 648 ∧
        ((∀ p, p < j → r p ≠ i) → sumN (fun p => if r p = i then max (gi X p) (-(gi X p)) / gcdL X k else 0) j = 0) := by
      intro j
      induction j with
      | zero => intro _; simp [sumN]
      | succ j ih =>
        intro hj
        obtain ⟨h1, h2, h3⟩ := ih (by omega)
        rw [sumN]
        by_cases e : r j = i
        · have hz0 : sumN (fun p => if r p = i then max (gi X p) (-(gi X p)) / gcdL X k else 0) j = 0 := h3 fun p hp e2 => asc_ne hr p j hp (by omega) (e2.trans e.symm)
          rw [hz0, if_pos e]
          have hb1 := hb j (by omega)
          have q1 : 0 ≤ max (gi X j) (-(gi X j)) / gcdL X k := Int.ediv_nonneg (by omega) (by omega)
          have q2 : max (gi X j) (-(gi X j)) / gcdL X k ≤ max (gi X j) (-(gi X j)) := Int.ediv_le_self _ (by omega)
          exact ⟨by omega, by omega, fun hall => absurd e (hall j (by omega))⟩
        · rw [if_neg e]
          exact ⟨by omega, by omega, fun hall => by rw [h3 fun p hp => hall p (by omega)]; rfl⟩
    have := one (Nat.le_refl k)
    exact ⟨this.1, by omega⟩
  · apply Classical.byContradiction; intro hneg
    have : tot (shr n r X k) * gcdL X k ≤ 0 * gcdL X k := Int.mul_le_mul_of_nonneg_right (by omega) (by omega)
    omega
theorem KerP.shares {a : List (List Int)} {k : Nat} {r s : Nat → Nat} (v : VT a) (hk : k ≤ 3) (hr : Asc a.length k r) (hs : Asc (gr a 0).length k s) (hx : ClrP (kX a r s k)) (hy : ClrP (kY a r s k)) :
    VS (shr a.length r (kX a r s k) k) a.length ∧ VS (shr (gr a 0).length s (kY a r s k) k) (gr a 0).length :=
  ⟨shr_VS (kX_len _ _ _ _) hr hx (fun _ hp => kX_bd v hk hr hs hp), shr_VS (kY_len _ _ _ _) hs hy (fun _ hp => kY_bd v hk hr hs hp)⟩
theorem wlast_def (a : List (List Int)) (x : List Int) (n m : Nat) (hn : a.length = n) (hm : (gr a 0).length = m) : wlast a x = wst a x n m (m - 1) := by subst hn; subst hm; rfl
theorem VT.ntab_neg {a : List (List Int)} (_ : VT a) : ∀ i j, i < a.length → j < (gr a 0).length → g2 (Go.Proofs.Ytjkmgpiiamffgaa.ntab a) j i = - g2 a i j := fun i j hi hj => by
  unfold g2 Go.Proofs.Ytjkmgpiiamffgaa.ntab
  have h1 := flip_len a a.length (gr a 0).length
  rw [gr_get (by rw [mtab_len, h1]; exact hj)]
  simp only [mtab, List.getElem_map, List.getElem_range]
  rw [gr_flip hj, gi_get (by rw [mrow_len]; simpa using hi)]
  simp only [mrow, List.getElem_map, List.getElem_range]
  rw [gi_col hi]; rfl
theorem colC_rowC {k : Nat} (hk : k ≤ 3) (f : Nat → Nat → Int) (q : Nat) : colC k f q = rowC k (trN f) q := (rowC_tr hk f q).symm
/-- A part that tells best shares passes the test. -/
theorem ker_of {a : List (List Int)} (v : VT a) {k : Nat} {r s : Nat → Nat} (h1 : 1 ≤ k) (hk : k ≤ 3) (hr : Asc a.length k r) (hs : Asc (gr a 0).length k s)
    (K : Kern (up18 a a.length (gr a 0).length) a.length (gr a 0).length k r s) : KerP a k r s := by
  have hkf : ∀ p q, p < k → q < k → up18 a a.length (gr a 0).length (r p) (s q) = kf a r s p q := fun p q hp hq => by rw [up18_in (hr.1 p hp) (hs.1 q hq)]; rfl
  have hD : detN k (fun p q => up18 a a.length (gr a 0).length (r p) (s q)) = detN k (kf a r s) := detN_congr k hkf
  have hR : ∀ p, p < k → rowC k (fun p q => up18 a a.length (gr a 0).length (r p) (s q)) p = gi (kX a r s k) p := fun p hp => by rw [rowC_congr hkf hp]; unfold kX; rw [gi_cofL hp]
  have hC : ∀ q, q < k → colC k (fun p q => up18 a a.length (gr a 0).length (r p) (s q)) q = gi (kY a r s k) q := fun q hq => by
    rw [colC_congr hkf, colC_rowC hk]; unfold kY; rw [gi_cofL hq]
  have hSR : sumN (rowC k fun p q => up18 a a.length (gr a 0).length (r p) (s q)) k = sumN (gi (kX a r s k)) k := sumN_congr hR
  have hSC : sumN (colC k fun p q => up18 a a.length (gr a 0).length (r p) (s q)) k = sumN (gi (kY a r s k)) k := sumN_congr hC
  have hSE : sumN (gi (kY a r s k)) k = sumN (gi (kX a r s k)) k := by rw [← hSC, K.eq, hSR]
  have hS0 : sumN (gi (kX a r s k)) k ≠ 0 := by rw [← hSR]; exact K.tot
  have clr : ∀ X : List Int, X.length = k → sumN (gi X) k ≠ 0 → (∀ p, p < k → 0 ≤ sumN (gi X) k * gi X p) → ClrP X := fun X hl h0 h => by
    refine ⟨?_, ?_⟩
    · apply Classical.byContradiction; intro hn
      apply h0
      rw [sumN_congr (g := fun _ => 0) fun p hp => by apply Classical.byContradiction; intro e; exact hn ⟨p, by omega, e⟩, sumN_zero]
    · by_cases hp : 0 < sumN (gi X) k
      · refine .inl fun p hpl => ?_
        have := h p (by omega)
        apply Classical.byContradiction; intro hneg
        have := Int.mul_neg_of_pos_of_neg hp (show gi X p < 0 by omega)
        omega
      · refine .inr fun p hpl => ?_
        have := h p (by omega)
        apply Classical.byContradiction; intro hneg
        have := Int.mul_neg_of_neg_of_pos (show sumN (gi X) k < 0 by omega) (show 0 < gi X p by omega)
        omega
  have cx : ClrP (kX a r s k) := clr _ (kX_len _ _ _ _) hS0 fun p hp => by
    have := K.x p hp; rw [hSR, hR p hp] at this; exact this
  have cy : ClrP (kY a r s k) := clr _ (kY_len _ _ _ _) (by rw [hSE]; exact hS0) fun q hq => by
    have := K.y q hq; rw [hSR, hC q hq] at this; rw [hSE]; exact this
  refine ⟨by rw [← hD]; exact K.det, cx, cy, ?_⟩
  obtain ⟨z, hz, hzp, hx, _, hzs⟩ := tot_shr (n := a.length) (kX_len a r s k) hr cx
  obtain ⟨z', hz', hzp', hy, _, hzs'⟩ := tot_shr (n := (gr a 0).length) (kY_len a r s k) hs cy
  rw [hSE] at hzs'
  have hzz : z' = z := by
    rcases hz with rfl | rfl <;> rcases hz' with rfl | rfl <;> omega
  subst hzz
  have gx := clr_pos cx
  have gy := clr_pos cy
  rw [kX_len] at gx
  rw [kY_len] at gy
  have hb := kern_best a (ntab a) (shr a.length r (kX a r s k) k) (shr (gr a 0).length s (kY a r s k) k) a.length (gr a 0).length k r s v.n1 v.m1 h1 K hr.1 hs.1 v.ntab_neg (putL_len _ _ _ _) (putL_len _ _ _ _)
    (gcdL (kX a r s k) k) (gcdL (kY a r s k) k) z' gx gy hz (by rw [hSR]; exact hzs)
    (fun i hi => by
      rw [hx i hi]; congr 1
      exact sumN_congr fun p hp => by rw [hR p hp])
    (fun j hj => by
      rw [hy j hj]; congr 1
      exact sumN_congr fun q hq => by rw [hC q hq])
  rw [wlast_def a _ _ _ rfl rfl, wlast_def (ntab a) _ _ _ (ntab_len a) v.ntab_m]
  exact hb
theorem ker_exists {a : List (List Int)} (v : VT a) : ∃ k r s, 1 ≤ k ∧ k ≤ 3 ∧ Asc a.length k r ∧ Asc (gr a 0).length k s ∧ KerP a k r s := by
  obtain ⟨k, r, s, h1, h3, hr, hs, K⟩ := V.kern_exists (up18 a a.length (gr a 0).length) a.length (gr a 0).length v.n1 v.m1 v.n3 v.m3
    (fun i j hi hj => by rw [up18_in hi hj]; have := v.bd hi hj; omega) (fun i j h => by unfold up18; rw [if_neg h])
  exact ⟨k, r, s, h1, h3, hr, hs, ker_of v h1 h3 hr hs K⟩
end Go.Proofs.Ytjkmgpiiamffgaa

/- Best shares by a part of a table, by the model. -/
namespace Go.Proofs.Ytjkmgpiiamffgaa
open Go.RowKit
open V (sumN detN rowC colC cofN minorN skip sgn Asc Kern)

/-- Shares by a part, and that they are best; or that there are none. -/
def NewK (w : World) (a : List (List Int)) (k : Nat) (r s : Nat → Nat) (e : Ending) (w' : World) : Prop :=
  (KerP a k r s ∧ ∃ A1 c1 A2 c2, e = .returned (.tuple #[.slice A1 a.length c1, .slice A2 (gr a 0).length c2, .bool true]) ∧ Ints w' A1 a.length c1 (shr a.length r (kX a r s k) k) ∧
    Ints w' A2 (gr a 0).length c2 (shr (gr a 0).length s (kY a r s k) k) ∧ Below w.heap.size w w') ∨
  (¬ KerP a k r s ∧ ∃ v1 v2, e = .returned (.tuple #[v1, v2, .bool false]) ∧ Below w.heap.size w w')
theorem flip_tr {xss : List (List Int)} {k : Nat} {f : Nat → Nat → Int} (h : Sq k xss f) : Sq k (flip xss k k) (trN f) :=
  ⟨flip_len _ _ _, fun p hp => by rw [gr_flip hp]; simp, fun p q hp hq => by
    unfold g2; rw [gr_flip hp, gi_col hq]; exact h.eq q p hq hp⟩
theorem Pl.keep {w w' : World} {X k c r n} (h : Pl w X k c r n) (q : Keep w w') : Pl w' X k c r n := ⟨h.ints.keep q, h.lt⟩

/-- What cleared answers, with its flag as a letter. -/
def ClrV (w' : World) (xs : List Int) (ok : Bool) (v : Value) : Prop :=
  (ok = true ∧ ClrP xs ∧ ∃ A c, v = .slice A xs.length c ∧ Ints w' A xs.length c (clrL xs (gcdL xs xs.length) xs.length)) ∨ (ok = false ∧ ¬ ClrP xs)
theorem NewC.uni {w w' : World} {xs : List Int} {e : Ending} (h : NewC w xs e w') : ∃ ok v, e = .returned (.tuple #[v, .bool ok]) ∧ Below w.heap.size w w' ∧ ClrV w' xs ok v := by
  rcases h with ⟨h1, A, n, c, g, rfl, rfl, ho, hb⟩ | ⟨h1, rfl, hb⟩
  · exact ⟨true, _, rfl, hb, .inl ⟨rfl, h1, A, c, rfl, ho.ints⟩⟩
  · exact ⟨false, _, rfl, hb, .inr ⟨rfl, h1⟩⟩
theorem ClrV.keep {w' w2 : World} {xs : List Int} {ok : Bool} {v : Value} (h : ClrV w' xs ok v) (k : Keep w' w2) : ClrV w2 xs ok v := by
  rcases h with ⟨h1, h2, A, c, h3, h4⟩ | h
  · exact .inl ⟨h1, h2, A, c, h3, h4.keep k⟩
  · exact .inr h
theorem mid_of {x : Int} (h : -648 ≤ x ∧ x ≤ 648) : Mid x := by unfold Mid; omega

end Go.Proofs.Ytjkmgpiiamffgaa

/- The first part of a table that tells best shares; the best shares. Plain. -/
namespace Go.Proofs.Ytjkmgpiiamffgaa
open V (sumN detN rowC colC cofN minorN skip sgn Asc Kern)

def idx (S n : Nat) : Nat → Nat := fun p => (gi (memL S n) p).toNat
theorem memL_lt (S : Nat) : ∀ n p q, p < q → q < (memL S n).length → gi (memL S n) p < gi (memL S n) q
  | 0, p, q, _, h => by simp [memL] at h
  | n + 1, p, q, hpq, h => by
    by_cases e : S / 2 ^ n % 2 = 1
    · rw [memL_yes e] at h ⊢
      rw [List.length_append, List.length_singleton] at h
      by_cases hq : q < (memL S n).length
      · rw [gi_snoc_lt hq, gi_snoc_lt (by omega)]; exact memL_lt S n p q hpq hq
      · obtain rfl : q = (memL S n).length := by omega
        rw [gi_snoc_eq, gi_snoc_lt hpq]
        exact (memL_bd S n _ (gi_mem hpq)).2
    · rw [memL_no e] at h ⊢; exact memL_lt S n p q hpq h
theorem idx_int {S n p : Nat} (h : p < (memL S n).length) : ((idx S n p : Nat) : Int) = gi (memL S n) p := by
  have := (memL_bd S n _ (gi_mem h)).1
  unfold idx; omega
theorem idx_asc (S n : Nat) : Asc n (memL S n).length (idx S n) := by
  refine ⟨fun p hp => ?_, fun p hp => ?_⟩
  · have := (memL_bd S n _ (gi_mem hp)).2
    have := idx_int hp
    omega
  · have := memL_lt S n p (p + 1) (by omega) hp
    have := idx_int hp
    have := idx_int (S := S) (n := n) (p := p) (by omega)
    omega
theorem memL_idx (S n : Nat) : memL S n = lstN (idx S n) (memL S n).length :=
  gi_ext (by rw [lstN_len]) fun p hp => by rw [gi_lstN hp, idx_int hp]
theorem memL_mod : ∀ S, S < 8 → ∀ m, m < 4 → memL (S % 2 ^ m) m = memL S m := by decide
theorem memL_all3 : ∀ S, S < 8 → ∀ n, n < 4 → S < 2 ^ n → memL S 3 = memL S n := by decide
theorem memL_three : ∀ S, S < 8 → (memL S 3).length ≤ 3 := by decide

theorem set_of {n k : Nat} {r : Nat → Nat} (hn : n ≤ 3) (h1 : 1 ≤ k) (hr : Asc n k r) : ∃ S, 1 ≤ S ∧ S < 2 ^ n ∧ memL S n = lstN r k := by
  have hkn : k ≤ n := by
    have : ∀ p, p < k → p ≤ r p := fun p => by
      induction p with
      | zero => intro _; omega
      | succ p ih => intro hp; have := ih (by omega); have := hr.2 p hp; omega
    have h := this (k - 1) (by omega)
    have := hr.1 (k - 1) (by omega)
    omega
  have k3 : k = 1 ∨ k = 2 ∨ k = 3 := by omega
  have n3 : n = 1 ∨ n = 2 ∨ n = 3 := by omega
  rcases k3 with rfl | rfl | rfl
  · have h0 := hr.1 0 (by omega)
    have e : lstN r 1 = [(r 0 : Int)] := by simp [lstN, List.range_succ]
    rw [e]
    generalize r 0 = u at *
    rcases n3 with rfl | rfl | rfl
    · obtain rfl : u = 0 := by omega
      exact ⟨1, by decide⟩
    · have : u = 0 ∨ u = 1 := by omega
      rcases this with rfl | rfl
      · exact ⟨1, by decide⟩
      · exact ⟨2, by decide⟩
    · have : u = 0 ∨ u = 1 ∨ u = 2 := by omega
      rcases this with rfl | rfl | rfl
      · exact ⟨1, by decide⟩
      · exact ⟨2, by decide⟩
      · exact ⟨4, by decide⟩
  · have h0 := hr.1 0 (by omega)
    have h1 := hr.1 1 (by omega)
    have h2 := hr.2 0 (by omega)
    have e : lstN r 2 = [(r 0 : Int), (r 1 : Int)] := by simp [lstN, List.range_succ]
    rw [e]
    simp only [Nat.zero_add] at h2
    generalize r 0 = u at *
    generalize r 1 = t at *
    rcases n3 with rfl | rfl | rfl
    · omega
    · obtain ⟨rfl, rfl⟩ : u = 0 ∧ t = 1 := by omega
      exact ⟨3, by decide⟩
    · have : (u = 0 ∧ t = 1) ∨ (u = 0 ∧ t = 2) ∨ (u = 1 ∧ t = 2) := by omega
      rcases this with ⟨rfl, rfl⟩ | ⟨rfl, rfl⟩ | ⟨rfl, rfl⟩
      · exact ⟨3, by decide⟩
      · exact ⟨5, by decide⟩
      · exact ⟨6, by decide⟩
  · have h0 := hr.1 0 (by omega)
    have h1 := hr.1 1 (by omega)
    have h2 := hr.1 2 (by omega)
    have h3 := hr.2 0 (by omega)
    have h4 := hr.2 1 (by omega)
    have e : lstN r 3 = [(r 0 : Int), (r 1 : Int), (r 2 : Int)] := by simp [lstN, List.range_succ]
    rw [e]
    simp only [Nat.zero_add, Nat.reduceAdd] at h3 h4
    generalize r 0 = u at *
    generalize r 1 = t at *
    generalize r 2 = z at *
    obtain rfl : n = 3 := by omega
    obtain ⟨rfl, rfl, rfl⟩ : u = 0 ∧ t = 1 ∧ z = 2 := by omega
    exact ⟨7, by decide⟩

theorem putL_congr {n : Nat} {r r' : Nat → Nat} {xs : List Int} : ∀ {k}, (∀ p, p < k → r p = r' p) → putL n r xs k = putL n r' xs k
  | 0, _ => rfl
  | k + 1, h => by rw [putL, putL, putL_congr (k := k) fun p hp => h p (by omega), h k (by omega)]
theorem kX_congr {a : List (List Int)} {k : Nat} {r r' s s' : Nat → Nat} (hr : ∀ p, p < k → r p = r' p) (hs : ∀ p, p < k → s p = s' p) : kX a r s k = kX a r' s' k :=
  gi_ext (by rw [kX_len, kX_len]) fun p hp => by
    rw [kX_len] at hp
    unfold kX; rw [gi_cofL hp, gi_cofL hp]
    exact rowC_congr (fun i j hi hj => by unfold kf; rw [hr i hi, hs j hj]) hp
theorem kY_congr {a : List (List Int)} {k : Nat} {r r' s s' : Nat → Nat} (hr : ∀ p, p < k → r p = r' p) (hs : ∀ p, p < k → s p = s' p) : kY a r s k = kY a r' s' k :=
  gi_ext (by rw [kY_len, kY_len]) fun p hp => by
    rw [kY_len] at hp
    unfold kY; rw [gi_cofL hp, gi_cofL hp]
    exact rowC_congr (fun i j hi hj => by unfold trN kf; rw [hr j hj, hs i hi]) hp
theorem KerP.congr {a : List (List Int)} {k : Nat} {r r' s s' : Nat → Nat} (hr : ∀ p, p < k → r p = r' p) (hs : ∀ p, p < k → s p = s' p) (h : KerP a k r s) : KerP a k r' s' := by
  have e1 := kX_congr (a := a) hr hs
  have e2 := kY_congr (a := a) hr hs
  refine ⟨?_, by rw [← e1]; exact h.cx, by rw [← e2]; exact h.cy, ?_⟩
  · rw [← detN_congr k (f := kf a r s) fun p q hp hq => by unfold kf; rw [hr p hp, hs q hq]]; exact h.det
  · have := h.eq
    unfold shr at this ⊢
    rw [← e1, ← e2, ← putL_congr hr, ← putL_congr hs]
    exact this

/-- The part with these sets of rows and columns tells best shares. -/
def kerAt (a : List (List Int)) (S T : Nat) : Prop :=
  1 ≤ (memL S a.length).length ∧ (memL S a.length).length = (memL T (gr a 0).length).length ∧ KerP a (memL S a.length).length (idx S a.length) (idx T (gr a 0).length)
structure FirstK (a : List (List Int)) (S T : Nat) : Prop where
  s1 : 1 ≤ S
  sn : S < 2 ^ a.length
  t1 : 1 ≤ T
  tm : T < 2 ^ (gr a 0).length
  at_ : kerAt a S T
  noS : ∀ S' T', 1 ≤ S' → S' < S → 1 ≤ T' → T' < 8 → ¬ kerAt a S' T'
  noT : ∀ T', 1 ≤ T' → T' < T → ¬ kerAt a S T'
theorem pow_le8 {n : Nat} (h : n ≤ 3) : 2 ^ n ≤ 8 := by
  have : n = 0 ∨ n = 1 ∨ n = 2 ∨ n = 3 := by omega
  rcases this with rfl | rfl | rfl | rfl <;> decide
theorem least_of {P : Nat → Prop} : ∀ n, P n → ∃ m, m ≤ n ∧ P m ∧ ∀ k, k < m → ¬ P k := fun n => by
  induction n using Nat.strongRecOn with
  | _ n ih =>
    intro h
    by_cases e : ∃ k, k < n ∧ P k
    · obtain ⟨k, hk, hp⟩ := e
      obtain ⟨m, hm, h1, h2⟩ := ih k hk hp
      exact ⟨m, by omega, h1, h2⟩
    · exact ⟨n, Nat.le_refl _, h, fun k hk hp => e ⟨k, hk, hp⟩⟩
theorem kerAt_mod {a : List (List Int)} (v : VT a) {S T : Nat} (hT : T < 8) (h : kerAt a S T) : kerAt a S (T % 2 ^ (gr a 0).length) ∧ 1 ≤ T % 2 ^ (gr a 0).length := by
  have e := memL_mod T hT (gr a 0).length (by have := v.m3; omega)
  have e2 : idx (T % 2 ^ (gr a 0).length) (gr a 0).length = idx T (gr a 0).length := by unfold idx; rw [e]
  refine ⟨by unfold kerAt; rw [e, e2]; exact h, ?_⟩
  apply Classical.byContradiction; intro hn
  have h0 : T % 2 ^ (gr a 0).length = 0 := by omega
  have h1 := h.1
  rw [h.2.1, ← e, h0] at h1
  have z : ∀ m, memL 0 m = [] := fun m => by
    induction m with
    | zero => rfl
    | succ m ih => rw [memL_no (by simp), ih]
  rw [z] at h1
  simp at h1
theorem first_exists {a : List (List Int)} (v : VT a) : ∃ S T, FirstK a S T := by
  obtain ⟨k, r, s, h1, h3, hr, hs, K⟩ := ker_exists v
  obtain ⟨S0, s1, sn, es⟩ := set_of v.n3 h1 hr
  obtain ⟨T0, t1, tm, et⟩ := set_of v.m3 h1 hs
  have p8 := pow_le8 v.m3
  have ls : (memL S0 a.length).length = k := by rw [es, lstN_len]
  have lt : (memL T0 (gr a 0).length).length = k := by rw [et, lstN_len]
  have h0 : kerAt a S0 T0 := by
    refine ⟨by omega, by omega, ?_⟩
    rw [ls]
    exact K.congr (fun p hp => by unfold idx; rw [es, gi_lstN hp]; rfl) (fun p hp => by unfold idx; rw [et, gi_lstN hp]; rfl)
  obtain ⟨S, hS, ⟨hS1, T1, hT1, hT8, hK⟩, hSm⟩ := least_of (P := fun S => 1 ≤ S ∧ ∃ T, 1 ≤ T ∧ T < 8 ∧ kerAt a S T) S0 ⟨s1, T0, t1, by omega, h0⟩
  obtain ⟨T, hT, ⟨hT1', hK'⟩, hTm⟩ := least_of (P := fun T => 1 ≤ T ∧ kerAt a S T) T1 ⟨hT1, hK⟩
  refine ⟨S, T, hS1, by omega, hT1', ?_, hK', fun S' T' h1 h2 h3 h4 h5 => hSm S' h2 ⟨h1, T', h3, h4, h5⟩, fun T' h1 h2 h3 => hTm T' h2 ⟨h1, h3⟩⟩
  apply Classical.byContradiction; intro hn
  obtain ⟨q1, q2⟩ := kerAt_mod v (show T < 8 by omega) hK'
  have hlt : T % 2 ^ (gr a 0).length < 2 ^ (gr a 0).length := Nat.mod_lt _ (by have := Nat.two_pow_pos (gr a 0).length; omega)
  exact hTm _ (by omega) ⟨q2, q1⟩

/-- The sets of the first such part, and the shares that it tells. -/
noncomputable def vST (a : List (List Int)) : Nat × Nat := @dite _ (∃ p : Nat × Nat, FirstK a p.1 p.2) (Classical.propDecidable _) (fun h => Classical.choose h) fun _ => (0, 0)
noncomputable def vS (a : List (List Int)) : Nat := (vST a).1
noncomputable def vT (a : List (List Int)) : Nat := (vST a).2
theorem first_of {a : List (List Int)} (v : VT a) : FirstK a (vS a) (vT a) := by
  have h : ∃ p : Nat × Nat, FirstK a p.1 p.2 := let ⟨S, T, h⟩ := first_exists v; ⟨(S, T), h⟩
  have e : vST a = Classical.choose h := by unfold vST; rw [dif_pos h]
  unfold vS vT
  rw [e]
  exact Classical.choose_spec h
noncomputable def bxk (a : List (List Int)) : Nat := (memL (vS a) a.length).length
noncomputable def bx (a : List (List Int)) : List Int := shr a.length (idx (vS a) a.length) (kX a (idx (vS a) a.length) (idx (vT a) (gr a 0).length) (bxk a)) (bxk a)
noncomputable def by_ (a : List (List Int)) : List Int := shr (gr a 0).length (idx (vT a) (gr a 0).length) (kY a (idx (vS a) a.length) (idx (vT a) (gr a 0).length) (bxk a)) (bxk a)
theorem bxk_bd {a : List (List Int)} (v : VT a) : 1 ≤ bxk a ∧ bxk a ≤ 3 := by
  have h := (first_of v).at_.1
  have := memL_le (vS a) a.length
  have := v.n3
  unfold bxk
  omega
/-- They are best. -/
theorem best_is {a : List (List Int)} (v : VT a) : BestP a (bx a) (by_ a) := by
  have F := first_of v
  have hk := bxk_bd v
  obtain ⟨_, h2, K⟩ := F.at_
  have hr := idx_asc (vS a) a.length
  have hs := idx_asc (vT a) (gr a 0).length
  rw [← h2] at hs
  have sh := KerP.shares v hk.2 hr hs K.cx K.cy
  exact ⟨⟨v, sh.1, sh.2⟩, K.eq⟩
end Go.Proofs.Ytjkmgpiiamffgaa

/- The value's shares, by the model. -/
namespace Go.Proofs.Ytjkmgpiiamffgaa
open Go.RowKit
open V (Asc)

/-- The best shares of a table. -/
def NewV (w : World) (a : List (List Int)) (e : Ending) (w' : World) : Prop :=
  ∃ A1 c1 A2 c2, e = .returned (.tuple #[.slice A1 a.length c1, .slice A2 (gr a 0).length c2]) ∧ Ints w' A1 a.length c1 (bx a) ∧ Ints w' A2 (gr a 0).length c2 (by_ a) ∧ Below w.heap.size w w'
theorem NewK.no {w w' : World} {a : List (List Int)} {k : Nat} {r s : Nat → Nat} {e : Ending} (h : NewK w a k r s e w') (hn : ¬ KerP a k r s) : ∃ v1 v2, e = .returned (.tuple #[v1, v2, .bool false]) ∧ Below w.heap.size w w' := by
  rcases h with ⟨h1, _⟩ | ⟨_, h⟩
  · exact absurd h1 hn
  · exact h
theorem NewK.yes {w w' : World} {a : List (List Int)} {k : Nat} {r s : Nat → Nat} {e : Ending} (h : NewK w a k r s e w') (hn : KerP a k r s) :
    ∃ A1 c1 A2 c2, e = .returned (.tuple #[.slice A1 a.length c1, .slice A2 (gr a 0).length c2, .bool true]) ∧ Ints w' A1 a.length c1 (shr a.length r (kX a r s k) k) ∧
      Ints w' A2 (gr a 0).length c2 (shr (gr a 0).length s (kY a r s k) k) ∧ Below w.heap.size w w' := by
  rcases h with ⟨_, h⟩ | ⟨h1, _⟩
  · exact h
  · exact absurd hn h1
theorem memL_pl {w : World} {A : Option Addr} {n c S m : Nat} (h : Ints w A n c (memL S m)) (e : n = (memL S m).length) : Pl w A n c (idx S m) m := by
  subst e
  exact ⟨by rw [← memL_idx]; exact h, (idx_asc S m).1⟩

end Go.Proofs.Ytjkmgpiiamffgaa

/- A table and shares, drawn from bytes. -/
namespace Go.Proofs.Ytjkmgpiiamffgaa
open Go.RowKit

theorem OwnR.grown {lo hi w w' b A n c xss} {g : Nat} (h : OwnR lo hi w b A n c xss) (k : w.grownBy w' (some g)) (hg : g < lo) : OwnR lo hi w' b A n c xss :=
  h.of_blocks fun i h1 _ h3 => k.block i h3 (fun e => by injection e with e; omega)
theorem OwnI.grown {lo hi w w' b A n c xs} {g : Nat} (h : OwnI lo hi w b A n c xs) (k : w.grownBy w' (some g)) (hg : g < lo) : OwnI lo hi w' b A n c xs :=
  h.of_block fun hn => k.block _ (h.lt hn) (fun e => by obtain ⟨_, _, q, _⟩ := h.own hn; injection e with e; omega)
theorem Picked.one {w0 g A l c p n w e w'} (h : Picked w0 g A l c p n w e w') : ∃ m : Int, e = .returned (.int .i64 m) ∧ (1 ≤ n → 0 ≤ m ∧ m < n) ∧ Rdr w0 w' g A l c (p + 1) ∧ w.grownBy w' (some g) := by
  obtain ⟨m, h1, h2, _, h4, q, rfl⟩ := h
  exact ⟨m, h1, h2, h4, ⟨rfl, rfl, rfl, by simp [World.setCell], fun k _ hne => Below.heap_setCell _ _ _ _ (fun e => hne (by rw [e]))⟩⟩

/-- A table and shares. -/
def DrawnTS (w : World) (e : Ending) (w' : World) : Prop :=
  ∃ Av n c gg xss Bv m cb ys, e = .returned (.tuple #[.slice Av n c, .slice Bv m cb]) ∧ Small xss ∧ OwnR w.heap.size w'.heap.size w' gg Av n c xss ∧ Ints w' Bv m cb ys ∧ Below w.heap.size w w'
/-- A table and shares of both players. -/
def DrawnTSS (w : World) (e : Ending) (w' : World) : Prop :=
  ∃ Av n c gg xss Bv m cb xs Cv l cc ys, e = .returned (.tuple #[.slice Av n c, .slice Bv m cb, .slice Cv l cc]) ∧ Small xss ∧ OwnR w.heap.size w'.heap.size w' gg Av n c xss ∧ Ints w' Bv m cb xs ∧ Ints w' Cv l cc ys ∧ Below w.heap.size w w'

end Go.Proofs.Ytjkmgpiiamffgaa

/- Pairs drawn, with numbers of players. -/
namespace Go.Proofs.Ytjkmgpiiamffgaa
open Go.RowKit

/-- The world with a table of two rows of two numbers, written out. -/
def lit2W (w : World) (x y z t : Int) : World := ((w.alloc (.cells #[iv x, iv y] 3)).alloc (.cells #[iv z, iv t] 3)).alloc (.cells #[.slice (some ⟨w.heap.size, 0, none⟩) 2 2, .slice (some ⟨w.heap.size + 1, 0, none⟩) 2 2] 30)
def lit2V (w : World) : List Value := [.slice (some ⟨w.heap.size, 0, none⟩) 2 2, .slice (some ⟨w.heap.size + 1, 0, none⟩) 2 2]
theorem lit2_below (w : World) (x y z t : Int) : Below w.heap.size w (lit2W w x y z t) := below_up (below_up (below_alloc w _) (below_alloc _ _)) (below_alloc _ _)
theorem lit2_size (w : World) (x y z t : Int) : (lit2W w x y z t).heap.size = w.heap.size + 3 := by simp [lit2W]
theorem own_two {W : World} {lo hi b : Nat} {x y : Int} (hb : Blk W b 3 #[iv x, iv y]) (h1 : lo ≤ b) (h2 : b < hi) (hx : -9223372036854775808 ≤ x ∧ x ≤ 9223372036854775807) (hy : -9223372036854775808 ≤ y ∧ y ≤ 9223372036854775807) :
    OwnI lo hi W b (some ⟨b, 0, none⟩) 2 2 [x, y] := by
  refine ⟨⟨rfl, Nat.le_refl _, by omega, fun v hv => ?_, fun _ => ⟨b, 0, rfl, fun k hk => ?_⟩⟩, fun _ => ⟨0, rfl, h1, h2, fun k _ => blk_frozen hb _⟩⟩
  · simp at hv; rcases hv with rfl | rfl <;> assumption
  · have h : k = 0 ∨ k = 1 := by omega
    rcases h with rfl | rfl
    · exact blk_cell hb (i := 0) rfl
    · exact blk_cell hb (i := 1) rfl
theorem Bld.lit2 (w : World) {x y z t : Int} (hx : -1000 ≤ x ∧ x ≤ 1000) (hy : -1000 ≤ y ∧ y ≤ 1000) (hz : -1000 ≤ z ∧ z ≤ 1000) (ht : -1000 ≤ t ∧ t ≤ 1000) :
    Bld w.heap.size (w.heap.size + 3) (lit2W w x y z t) (.slice (some ⟨w.heap.size + 1 + 1, 0, none⟩) 2 2) (lit2V w) [[x, y], [z, t]] := by
  have b0 := blk_old (blk_old (blk_new w 3 #[iv x, iv y]) (.cells #[iv z, iv t] 3)) (.cells #[.slice (some ⟨w.heap.size, 0, none⟩) 2 2, .slice (some ⟨w.heap.size + 1, 0, none⟩) 2 2] 30)
  have b1 := blk_old (blk_new (w.alloc (.cells #[iv x, iv y] 3)) 3 #[iv z, iv t]) (.cells #[.slice (some ⟨w.heap.size, 0, none⟩) 2 2, .slice (some ⟨w.heap.size + 1, 0, none⟩) 2 2] 30)
  have b2 := blk_new ((w.alloc (.cells #[iv x, iv y] 3)).alloc (.cells #[iv z, iv t] 3)) 30 #[.slice (some ⟨w.heap.size, 0, none⟩) 2 2, .slice (some ⟨w.heap.size + 1, 0, none⟩) 2 2]
  simp only [World.size_alloc] at b1 b2
  refine ⟨⟨rfl, .inr ⟨w.heap.size + 1 + 1, 2, #[.slice (some ⟨w.heap.size, 0, none⟩) 2 2, .slice (some ⟨w.heap.size + 1, 0, none⟩) 2 2], rfl, by omega, b2, Nat.le_refl _, by decide, rfl, by simp [lit2V]⟩⟩, fun k hk => by simp [Value.ownBlock] at hk; omega, fun k => w.heap.size + k, fun k => some ⟨w.heap.size + k, 0, none⟩, fun _ => 2, fun k hk => ?_, fun j k hjk _ _ _ => by show w.heap.size + j ≠ w.heap.size + k; omega⟩
  have h : k = 0 ∨ k = 1 := by simp at hk; omega
  rcases h with rfl | rfl
  · exact ⟨rfl, own_two (b := w.heap.size) b0 (Nat.le_refl _) (by omega) (by omega) (by omega), fun _ => by simp [Value.ownBlock]; omega⟩
  · exact ⟨rfl, own_two (b := w.heap.size + 1) b1 (by omega) (by omega) (by omega) (by omega), fun _ => by simp [Value.ownBlock]⟩
theorem TO.lit2 {w0 wb g A l c p} (h : Rdr w0 wb g A l c p) {x y z t : Int} (hx : -1000 ≤ x ∧ x ≤ 1000) (hy : -1000 ≤ y ∧ y ≤ 1000) (hz : -1000 ≤ z ∧ z ≤ 1000) (ht : -1000 ≤ t ∧ t ≤ 1000) :
    TO w0 wb g A l c p (.slice (some ⟨wb.heap.size + 1 + 1, 0, none⟩) 2 2) (lit2V wb) [[x, y], [z, t]] (lit2W wb x y z t) :=
  ⟨h.below_ (lit2_below _ _ _ _ _), by rw [lit2_size]; exact Bld.lit2 wb hx hy hz ht, blk_lt h.box, grown_of_below (lit2_below _ _ _ _ _)⟩

set_option maxRecDepth 100000 in
set_option maxHeartbeats 1600000 in
theorem somePair_any (w0 w : World) (g : Nat) (A : Option Addr) (l c p : Nat) (h : Rdr w0 w g A l c p) (hp : p < 800000000) :
    Calls Try.prog 56 #[.pointer (some ⟨g, 0, none⟩)] w (SomeT w0 g A l c p w) := by
  have H1 := Lib.hid (one_lit w0 w _ g A l c p w.heap.size 3 [9, 4, 2] h (by omega) (below_alloc w (.cells #[iv 9, iv 4, iv 2] 3)) (Nat.le_refl _) (Ints.lit w [9, 4, 2] (by decide) (by decide)) (by omega))
  clear h
  go_enter Try.func56, Try.ntmps56
  go_wp2_with fail
  refine H1.out.mono ?_
  rintro e w1 ⟨x, rfl, hx, hr, hgr⟩
  have hx1 : 2 ≤ x ∧ x ≤ 9 := by simp at hx; omega
  have HG1 := Lib.hid hgr
  have H4 := Lib.hid (tableOf_any w0 w1 g A l c (p + 1) 2 2 1 x hr (by omega) (by omega) (by omega) (by omega) (by omega) (by omega))
  clear hx hr hgr H1
  go_wp2_with fail
  refine H4.out.mono ?_
  rintro e w4 ⟨Av, cv, vs, xss, p4, rfl, hl, hxs, hto, hp4⟩
  have HTO := Lib.hid hto
  have HSM := Lib.hid (show Small xss from ⟨by omega, fun r hr => ⟨by have := (hxs r hr).1; omega, fun y hy => by have := (hxs r hr).2 y hy; omega⟩⟩)
  have HL := Lib.hid hl
  have H5 := Lib.hid (pick_any w0 w4 g A l c p4 8 hto.rd (by omega))
  clear hxs hto H4 hl
  go_wp2_with fail
  refine H5.out.mono ?_
  rintro e w5 ⟨k, rfl, hk1, _, hr, z, hw⟩
  have hone := Rdr.one (g := g) w4 (.int .i64 (p4 + 1 : Nat)) z
  rw [← hw] at hone
  have HT5 := Lib.hid (HTO.out.one hr hone)
  have HG5 := Lib.hid (grown_trans HG1.out HT5.out.up)
  clear hr hone hw hk1 H5 HTO
  by_cases e0 : k = 0
  · subst e0
    have H6 := Lib.hid (pick_any w0 w5 g A l c (p4 + 1) 9 HT5.out.rd (by omega))
    clear HSM HL HG1
    go_wp2_with fail
    refine H6.out.mono ?_
    rintro e w6 hpk
    obtain ⟨m, rfl, hm, hrd, hgr⟩ := hpk.one
    have hm := hm (by omega)
    obtain ⟨hm1, hm2⟩ := hm
    have HT6 := Lib.hid (TO.lit2 hrd (x := 1 + m) (y := 1 + m) (z := 1 + m) (t := 1 + m) (by omega) (by omega) (by omega) (by omega))
    have HG6 := Lib.hid (grown_trans HG5.out hgr)
    have HSM := Lib.hid (show Small [[1 + m, 1 + m], [1 + m, 1 + m]] from ⟨by simp, fun r hr => by
      simp at hr; subst hr; exact ⟨by simp, fun y hy => by simp at hy; omega⟩⟩)
    have H7 := Lib.hid (spoil_any w0 w6 (lit2W w6 (1 + m) (1 + m) (1 + m) (1 + m)) g A l c (p4 + 2) _ 2 (lit2V w6) [[1 + m, 1 + m], [1 + m, 1 + m]] HT6.out (by omega) HSM.out (by simp))
    clear hpk hrd hgr H6 HT5 HG5
    go_wp2_with fail
    refine H7.out.mono ?_
    rintro e w7 ⟨v', vs', xss', p', rfl, hs, hto, hp5⟩
    have HTO := Lib.hid hto
    have HSM2 := Lib.hid hs
    clear hs hto H7
    go_wp2
    go_ret
    exact ⟨_, _, _, _, _, rfl, HSM2.out, HTO.out, by omega, HG6.out⟩
  · have hz : (k == 0) = false := by simpa using e0
    have H7 := Lib.hid (spoil_any w0 w1 w5 g A l c (p4 + 1) Av cv vs xss (by rw [HL.out]; exact HT5.out) (by omega) HSM.out (by rw [HL.out]; omega))
    rw [HL.out] at H7
    clear e0
    go_wp2_with fail
    refine H7.out.mono ?_
    rintro e w7 ⟨v', vs', xss', p', rfl, hs, hto, hp5⟩
    have HTO := Lib.hid hto
    have HSM2 := Lib.hid hs
    clear hs hto H7
    go_wp2
    go_ret
    exact ⟨_, _, _, _, _, rfl, HSM2.out, HTO.out, by omega, HG1.out⟩
end Go.Proofs.Ytjkmgpiiamffgaa

/- Pairs and numbers of players drawn from bytes. -/
namespace Go.Proofs.Ytjkmgpiiamffgaa
open Go.RowKit

/-- A drawn table and a number; and another number. -/
def DrawnTN (w : World) (e : Ending) (w' : World) : Prop :=
  ∃ Av n c gg xss, ∃ k : Int, e = .returned (.tuple #[.slice Av n c, .int .i64 k]) ∧ (1 ≤ k ∧ k ≤ 7) ∧ Small xss ∧ OwnR w.heap.size w'.heap.size w' gg Av n c xss ∧ Below w.heap.size w w'
def DrawnTNI (w : World) (e : Ending) (w' : World) : Prop :=
  ∃ Av n c gg xss, ∃ k i : Int, e = .returned (.tuple #[.slice Av n c, .int .i64 k, .int .i64 i]) ∧ (1 ≤ k ∧ k ≤ 7) ∧ (-1 ≤ i ∧ i ≤ 8) ∧ Small xss ∧ OwnR w.heap.size w'.heap.size w' gg Av n c xss ∧ Below w.heap.size w w'
set_option maxRecDepth 100000 in
set_option maxHeartbeats 1600000 in
theorem DrawFixedOnes_any (A : Option Addr) (n c : Nat) (w : World) (h : Bytes w A n c) :
    Calls Try.prog 25 #[.slice A n c] w (DrawnTN w) := by
  have H0 := Lib.hid (newReader_any A n c w h)
  clear h
  go_enter Try.func25, Try.ntmps25
  go_wp2_with fail
  refine H0.out.mono ?_
  rintro e w1 ⟨A1, l, c1, rfl, hl, hr, hs⟩
  have H1 := Lib.hid (somePair_any w w1 w.heap.size A1 l c1 0 hr (by omega))
  clear hr hl H0
  go_wp2_with fail
  refine H1.out.mono ?_
  rintro e w2 ⟨wb, v', vs', xss', p', rfl, hsm, hto, hp, hg⟩
  have hsz := hg.size
  obtain ⟨Av, nv, cv, gg, rfl, hnv, hown⟩ := hto.bo.owns (by have := hsm.n; omega)
  have HO := Lib.hid (hown.mono (show w.heap.size + 1 ≤ wb.heap.size by have := hto.gl; omega) (Nat.le_refl _))
  have HS := Lib.hid hsm
  have H2 := Lib.hid (one_lit w w2 _ w.heap.size A1 l c1 p' w2.heap.size 7 [3, 4, 2, 5, 6, 1, 7] hto.rd (by omega) (below_alloc w2 (.cells #[iv 3, iv 4, iv 2, iv 5, iv 6, iv 1, iv 7] 3)) (Nat.le_refl _) (Ints.lit w2 [3, 4, 2, 5, 6, 1, 7] (by decide) (by decide)) (by omega))
  clear hsm hto hown hg H1 hnv
  go_wp2_with fail
  refine H2.out.mono ?_
  rintro e w3 ⟨k, rfl, hx, hr, hgr⟩
  have hk : 1 ≤ k ∧ k ≤ 7 := by simp at hx; omega
  have HO3 := Lib.hid ((HO.out.grown hgr (by omega)).mono (Nat.le_refl _) hgr.size)
  have HR3 := Lib.hid hr
  clear hx hr hgr H2 HO
  go_wp2
  go_ret2
  exact ⟨_, _, _, _, _, k, rfl, hk, HS.out, HO3.out.mono (Nat.le_succ _) (Nat.le_refl _), HR3.out.below⟩
set_option maxRecDepth 100000 in
set_option maxHeartbeats 1600000 in
theorem DrawOddsOf_any (A : Option Addr) (n c : Nat) (w : World) (h : Bytes w A n c) :
    Calls Try.prog 13 #[.slice A n c] w (DrawnTN w) := by
  have H0 := Lib.hid (newReader_any A n c w h)
  clear h
  go_enter Try.func13, Try.ntmps13
  go_wp2_with fail
  refine H0.out.mono ?_
  rintro e w1 ⟨A1, l, c1, rfl, hl, hr, hs⟩
  have H1 := Lib.hid (somePair_any w w1 w.heap.size A1 l c1 0 hr (by omega))
  clear hr hl H0
  go_wp2_with fail
  refine H1.out.mono ?_
  rintro e w2 ⟨wb, v', vs', xss', p', rfl, hsm, hto, hp, hg⟩
  have hsz := hg.size
  obtain ⟨Av, nv, cv, gg, rfl, hnv, hown⟩ := hto.bo.owns (by have := hsm.n; omega)
  have HO := Lib.hid (hown.mono (show w.heap.size + 1 ≤ wb.heap.size by have := hto.gl; omega) (Nat.le_refl _))
  have HS := Lib.hid hsm
  have H2 := Lib.hid (one_lit w w2 _ w.heap.size A1 l c1 p' w2.heap.size 7 [3, 4, 2, 5, 6, 1, 7] hto.rd (by omega) (below_alloc w2 (.cells #[iv 3, iv 4, iv 2, iv 5, iv 6, iv 1, iv 7] 3)) (Nat.le_refl _) (Ints.lit w2 [3, 4, 2, 5, 6, 1, 7] (by decide) (by decide)) (by omega))
  clear hsm hto hown hg H1 hnv
  go_wp2_with fail
  refine H2.out.mono ?_
  rintro e w3 ⟨k, rfl, hx, hr, hgr⟩
  have hk : 1 ≤ k ∧ k ≤ 7 := by simp at hx; omega
  have HO3 := Lib.hid ((HO.out.grown hgr (by omega)).mono (Nat.le_refl _) hgr.size)
  have HR3 := Lib.hid hr
  clear hx hr hgr H2 HO
  go_wp2
  go_ret2
  exact ⟨_, _, _, _, _, k, rfl, hk, HS.out, HO3.out.mono (Nat.le_succ _) (Nat.le_refl _), HR3.out.below⟩
set_option maxRecDepth 100000 in
set_option maxHeartbeats 1600000 in
theorem DrawPaysAt_any (A : Option Addr) (n c : Nat) (w : World) (h : Bytes w A n c) :
    Calls Try.prog 21 #[.slice A n c] w (DrawnTNI w) := by
  have H0 := Lib.hid (newReader_any A n c w h)
  clear h
  go_enter Try.func21, Try.ntmps21
  go_wp2_with fail
  refine H0.out.mono ?_
  rintro e w1 ⟨A1, l, c1, rfl, hl, hr, hs⟩
  have H1 := Lib.hid (somePair_any w w1 w.heap.size A1 l c1 0 hr (by omega))
  clear hr hl H0
  go_wp2_with fail
  refine H1.out.mono ?_
  rintro e w2 ⟨wb, v', vs', xss', p', rfl, hsm, hto, hp, hg⟩
  have hsz := hg.size
  obtain ⟨Av, nv, cv, gg, rfl, hnv, hown⟩ := hto.bo.owns (by have := hsm.n; omega)
  have HO := Lib.hid (hown.mono (show w.heap.size + 1 ≤ wb.heap.size by have := hto.gl; omega) (Nat.le_refl _))
  have HS := Lib.hid hsm
  have H2 := Lib.hid (one_lit w w2 _ w.heap.size A1 l c1 p' w2.heap.size 7 [3, 4, 2, 5, 6, 1, 7] hto.rd (by omega) (below_alloc w2 (.cells #[iv 3, iv 4, iv 2, iv 5, iv 6, iv 1, iv 7] 3)) (Nat.le_refl _) (Ints.lit w2 [3, 4, 2, 5, 6, 1, 7] (by decide) (by decide)) (by omega))
  clear hsm hto hown hg H1 hnv
  go_wp2_with fail
  refine H2.out.mono ?_
  rintro e w3 ⟨k, rfl, hx, hr, hgr⟩
  have hk : 1 ≤ k ∧ k ≤ 7 := by simp at hx; omega
  have HO3 := Lib.hid ((HO.out.grown hgr (by omega)).mono (Nat.le_refl _) hgr.size)
  have HR3 := Lib.hid hr
  clear hx hr hgr H2 HO
  have H4 := Lib.hid (pick_any w w3 w.heap.size A1 l c1 (p' + 1) (k + 1) HR3.out (by omega))
  obtain ⟨hk1, hk2⟩ := hk
  go_wp2_with fail
  refine H4.out.mono ?_
  rintro e w4 hpk
  obtain ⟨m1, rfl, hm, hrd, hgr⟩ := hpk.one
  have hm := hm (by omega)
  have HO4 := Lib.hid ((HO3.out.grown hgr (by omega)).mono (Nat.le_refl _) hgr.size)
  have HR4 := Lib.hid hrd
  obtain ⟨hm1, hm2⟩ := hm
  clear hpk hrd hgr H4 HO3 HR3
  have H5 := Lib.hid (pick_any w w4 w.heap.size A1 l c1 (p' + 1 + 1) (k + 1) HR4.out (by omega))
  go_wp2_with fail
  refine H5.out.mono ?_
  rintro e w5 hpk
  obtain ⟨m2, rfl, hm, hrd, hgr⟩ := hpk.one
  have hm := hm (by omega)
  have HO5 := Lib.hid ((HO4.out.grown hgr (by omega)).mono (Nat.le_refl _) hgr.size)
  have HR5 := Lib.hid hrd
  obtain ⟨hm3, hm4⟩ := hm
  clear hpk hrd hgr H5 HO4 HR4
  have H6 := Lib.hid (one_lit w w5 _ w.heap.size A1 l c1 (p' + 1 + 1 + 1) w5.heap.size 7 [1, m1, m2, k, 0, k + 1, -1] HR5.out (by omega) (below_alloc w5 (.cells #[iv 1, iv m1, iv m2, iv k, iv 0, iv (k + 1), iv (-1)] 3)) (Nat.le_refl _) (Ints.lit w5 [1, m1, m2, k, 0, k + 1, -1] (by simp) (by intro x hx; simp at hx; omega)) (by omega))
  go_wp2_with fail
  refine H6.out.mono ?_
  rintro e w6 ⟨i, rfl, hx, hr, hgr⟩
  have hi : -1 ≤ i ∧ i ≤ 8 := by simp at hx; omega
  have HO6 := Lib.hid ((HO5.out.grown hgr (by omega)).mono (Nat.le_succ _) hgr.size)
  have HB6 := Lib.hid hr.below
  clear hx hr hgr H6 HO5 HR5
  go_wp2
  refine bodyPost_ret (v := .tuple #[.slice Av nv cv, .int .i64 k, .int .i64 i]) (by simp [results, Try.results21, go_sem]) rfl ?_
  exact ⟨_, _, _, _, _, k, i, rfl, ⟨hk1, hk2⟩, hi, HS.out, HO6.out, HB6.out⟩
set_option maxRecDepth 100000 in
set_option maxHeartbeats 1600000 in
theorem DrawFixedFrom_any (A : Option Addr) (n c : Nat) (w : World) (h : Bytes w A n c) :
    Calls Try.prog 18 #[.slice A n c] w (DrawnTNI w) := by
  have H0 := Lib.hid (newReader_any A n c w h)
  clear h
  go_enter Try.func18, Try.ntmps18
  go_wp2_with fail
  refine H0.out.mono ?_
  rintro e w1 ⟨A1, l, c1, rfl, hl, hr, hs⟩
  have H1 := Lib.hid (somePair_any w w1 w.heap.size A1 l c1 0 hr (by omega))
  clear hr hl H0
  go_wp2_with fail
  refine H1.out.mono ?_
  rintro e w2 ⟨wb, v', vs', xss', p', rfl, hsm, hto, hp, hg⟩
  have hsz := hg.size
  obtain ⟨Av, nv, cv, gg, rfl, hnv, hown⟩ := hto.bo.owns (by have := hsm.n; omega)
  have HO := Lib.hid (hown.mono (show w.heap.size + 1 ≤ wb.heap.size by have := hto.gl; omega) (Nat.le_refl _))
  have HS := Lib.hid hsm
  have H2 := Lib.hid (one_lit w w2 _ w.heap.size A1 l c1 p' w2.heap.size 7 [3, 4, 2, 5, 6, 1, 7] hto.rd (by omega) (below_alloc w2 (.cells #[iv 3, iv 4, iv 2, iv 5, iv 6, iv 1, iv 7] 3)) (Nat.le_refl _) (Ints.lit w2 [3, 4, 2, 5, 6, 1, 7] (by decide) (by decide)) (by omega))
  clear hsm hto hown hg H1 hnv
  go_wp2_with fail
  refine H2.out.mono ?_
  rintro e w3 ⟨k, rfl, hx, hr, hgr⟩
  have hk : 1 ≤ k ∧ k ≤ 7 := by simp at hx; omega
  have HO3 := Lib.hid ((HO.out.grown hgr (by omega)).mono (Nat.le_refl _) hgr.size)
  have HR3 := Lib.hid hr
  clear hx hr hgr H2 HO
  have H4 := Lib.hid (pick_any w w3 w.heap.size A1 l c1 (p' + 1) (k + 1) HR3.out (by omega))
  obtain ⟨hk1, hk2⟩ := hk
  go_wp2_with fail
  refine H4.out.mono ?_
  rintro e w4 hpk
  obtain ⟨m1, rfl, hm, hrd, hgr⟩ := hpk.one
  have hm := hm (by omega)
  have HO4 := Lib.hid ((HO3.out.grown hgr (by omega)).mono (Nat.le_refl _) hgr.size)
  have HR4 := Lib.hid hrd
  obtain ⟨hm1, hm2⟩ := hm
  clear hpk hrd hgr H4 HO3 HR3
  have H5 := Lib.hid (pick_any w w4 w.heap.size A1 l c1 (p' + 1 + 1) (k + 1) HR4.out (by omega))
  go_wp2_with fail
  refine H5.out.mono ?_
  rintro e w5 hpk
  obtain ⟨m2, rfl, hm, hrd, hgr⟩ := hpk.one
  have hm := hm (by omega)
  have HO5 := Lib.hid ((HO4.out.grown hgr (by omega)).mono (Nat.le_refl _) hgr.size)
  have HR5 := Lib.hid hrd
  obtain ⟨hm3, hm4⟩ := hm
  clear hpk hrd hgr H5 HO4 HR4
  have H6 := Lib.hid (one_lit w w5 _ w.heap.size A1 l c1 (p' + 1 + 1 + 1) w5.heap.size 7 [1, m1, m2, k, 0, k + 1, -1] HR5.out (by omega) (below_alloc w5 (.cells #[iv 1, iv m1, iv m2, iv k, iv 0, iv (k + 1), iv (-1)] 3)) (Nat.le_refl _) (Ints.lit w5 [1, m1, m2, k, 0, k + 1, -1] (by simp) (by intro x hx; simp at hx; omega)) (by omega))
  go_wp2_with fail
  refine H6.out.mono ?_
  rintro e w6 ⟨i, rfl, hx, hr, hgr⟩
  have hi : -1 ≤ i ∧ i ≤ 8 := by simp at hx; omega
  have HO6 := Lib.hid ((HO5.out.grown hgr (by omega)).mono (Nat.le_succ _) hgr.size)
  have HB6 := Lib.hid hr.below
  clear hx hr hgr H6 HO5 HR5
  go_wp2
  refine bodyPost_ret (v := .tuple #[.slice Av nv cv, .int .i64 k, .int .i64 i]) (by simp [results, Try.results18, go_sem]) rfl ?_
  exact ⟨_, _, _, _, _, k, i, rfl, ⟨hk1, hk2⟩, hi, HS.out, HO6.out, HB6.out⟩

end Go.Proofs.Ytjkmgpiiamffgaa

/- Tables of two rows written out, whichever row is made first. -/
namespace Go.Proofs.Ytjkmgpiiamffgaa
open Go.RowKit

theorem lit2_rows (w : World) {x y z t : Int} (hx : -1000 ≤ x ∧ x ≤ 1000) (hy : -1000 ≤ y ∧ y ≤ 1000) (hz : -1000 ≤ z ∧ z ≤ 1000) (ht : -1000 ≤ t ∧ t ≤ 1000) :
    IntRows (((w.alloc (.cells #[.int .i64 x, .int .i64 y] 3)).alloc (.cells #[.int .i64 z, .int .i64 t] 3)).alloc (.cells #[.slice (some ⟨w.heap.size, 0, none⟩) 2 2, .slice (some ⟨w.heap.size + 1, 0, none⟩) 2 2] 30)) (some ⟨w.heap.size + 1 + 1, 0, none⟩) 2 2 [[x, y], [z, t]] := by
  obtain ⟨A, n, c, g, e, hn, ho⟩ := (Bld.lit2 w hx hy hz ht).owns (by simp)
  injection e with e1 e2 e3
  subst e1
  subst e2
  subst e3
  exact ho.rows
theorem lit2_rowsB (w : World) {x y z t : Int} (hx : -1000 ≤ x ∧ x ≤ 1000) (hy : -1000 ≤ y ∧ y ≤ 1000) (hz : -1000 ≤ z ∧ z ≤ 1000) (ht : -1000 ≤ t ∧ t ≤ 1000) :
    IntRows (((w.alloc (.cells #[.int .i64 z, .int .i64 t] 3)).alloc (.cells #[.int .i64 x, .int .i64 y] 3)).alloc (.cells #[.slice (some ⟨w.heap.size + 1, 0, none⟩) 2 2, .slice (some ⟨w.heap.size, 0, none⟩) 2 2] 30)) (some ⟨w.heap.size + 1 + 1, 0, none⟩) 2 2 [[x, y], [z, t]] := by
  have b0 := blk_old (blk_old (blk_new w 3 #[iv z, iv t]) (.cells #[iv x, iv y] 3)) (.cells #[.slice (some ⟨w.heap.size + 1, 0, none⟩) 2 2, .slice (some ⟨w.heap.size, 0, none⟩) 2 2] 30)
  have b1 := blk_old (blk_new (w.alloc (.cells #[iv z, iv t] 3)) 3 #[iv x, iv y]) (.cells #[.slice (some ⟨w.heap.size + 1, 0, none⟩) 2 2, .slice (some ⟨w.heap.size, 0, none⟩) 2 2] 30)
  have b2 := blk_new ((w.alloc (.cells #[iv z, iv t] 3)).alloc (.cells #[iv x, iv y] 3)) 30 #[.slice (some ⟨w.heap.size + 1, 0, none⟩) 2 2, .slice (some ⟨w.heap.size, 0, none⟩) 2 2]
  simp only [World.size_alloc] at b1 b2
  have hb : Bld w.heap.size (w.heap.size + 3) (((w.alloc (.cells #[iv z, iv t] 3)).alloc (.cells #[iv x, iv y] 3)).alloc (.cells #[.slice (some ⟨w.heap.size + 1, 0, none⟩) 2 2, .slice (some ⟨w.heap.size, 0, none⟩) 2 2] 30)) (.slice (some ⟨w.heap.size + 1 + 1, 0, none⟩) 2 2) [.slice (some ⟨w.heap.size + 1, 0, none⟩) 2 2, .slice (some ⟨w.heap.size, 0, none⟩) 2 2] [[x, y], [z, t]] := by
    refine ⟨⟨rfl, .inr ⟨w.heap.size + 1 + 1, 2, #[.slice (some ⟨w.heap.size + 1, 0, none⟩) 2 2, .slice (some ⟨w.heap.size, 0, none⟩) 2 2], rfl, by omega, b2, Nat.le_refl _, by decide, rfl, by simp⟩⟩, fun k hk => by simp [Value.ownBlock] at hk; omega, fun k => w.heap.size + 1 - k, fun k => some ⟨w.heap.size + 1 - k, 0, none⟩, fun _ => 2, fun k hk => ?_, fun j k hjk hk _ _ => by simp at hk; show w.heap.size + 1 - j ≠ w.heap.size + 1 - k; omega⟩
    have h : k = 0 ∨ k = 1 := by simp at hk; omega
    rcases h with rfl | rfl
    · exact ⟨rfl, own_two (b := w.heap.size + 1) b1 (by omega) (by omega) (by omega) (by omega), fun _ => by simp [Value.ownBlock]⟩
    · exact ⟨by simp [gr], own_two (b := w.heap.size) b0 (Nat.le_refl _) (by omega) (by omega) (by omega), fun _ => by simp [Value.ownBlock]; omega⟩
  obtain ⟨A, n, c, g, e, hn, ho⟩ := hb.owns (by simp)
  injection e with e1 e2 e3
  subst e1
  subst e2
  subst e3
  exact ho.rows
theorem lit2_up (w : World) (a b c : Obj) : Below w.heap.size w (((w.alloc a).alloc b).alloc c) := below_up (below_up (below_alloc w _) (below_alloc _ _)) (below_alloc _ _)
theorem lit2_rowsD (w : World) {x y z t : Int} (hx : -1000 ≤ x ∧ x ≤ 1000) (hy : -1000 ≤ y ∧ y ≤ 1000) (hz : -1000 ≤ z ∧ z ≤ 1000) (ht : -1000 ≤ t ∧ t ≤ 1000) : IntRows (((w.alloc (.cells #[.int .i64 x, .int .i64 y] 3)).alloc (.cells #[.int .i64 z, .int .i64 t] 3)).alloc (.cells #[.slice (some ⟨w.heap.size, 0, none⟩) 2 2, .slice (some ⟨w.heap.size + 1, 0, none⟩) 2 2] 30)).drew (some ⟨w.heap.size + 1 + 1, 0, none⟩) 2 2 [[x, y], [z, t]] := (lit2_rows w hx hy hz ht).keep (Keep.drewN _ 1)
theorem lit2_rowsBD (w : World) {x y z t : Int} (hx : -1000 ≤ x ∧ x ≤ 1000) (hy : -1000 ≤ y ∧ y ≤ 1000) (hz : -1000 ≤ z ∧ z ≤ 1000) (ht : -1000 ≤ t ∧ t ≤ 1000) : IntRows (((w.alloc (.cells #[.int .i64 z, .int .i64 t] 3)).alloc (.cells #[.int .i64 x, .int .i64 y] 3)).alloc (.cells #[.slice (some ⟨w.heap.size + 1, 0, none⟩) 2 2, .slice (some ⟨w.heap.size, 0, none⟩) 2 2] 30)).drew (some ⟨w.heap.size + 1 + 1, 0, none⟩) 2 2 [[x, y], [z, t]] := (lit2_rowsB w hx hy hz ht).keep (Keep.drewN _ 1)
theorem lit2_upD (w : World) (a b c : Obj) : Below w.heap.size w (((w.alloc a).alloc b).alloc c).drew := (lit2_up w a b c).drew
theorem keep_al1 (w : World) (a : Obj) : Keep w (w.alloc a).drew := Keep.below (below_alloc w a).drew
theorem keep_al2 (w : World) (a b : Obj) : Keep w ((w.alloc a).alloc b).drew := Keep.below (below_up (below_alloc w a) (below_alloc _ b)).drew
theorem keep_al3 (w : World) (a b c : Obj) : Keep w (((w.alloc a).alloc b).alloc c).drew := Keep.below (lit2_upD w a b c)
end Go.Proofs.Ytjkmgpiiamffgaa

/- A region that ends in one frame but for some slots, whatever the order: walked on once. -/
namespace Go.Proofs.Ytjkmgpiiamffgaa
open Go.RowKit

/-- A frame with other values in some slots. -/
def frmL (a : Act) : List Nat → List Value → Act
  | d :: ds, u :: us => frmL (a.put (some d) u) ds us
  | _, _ => a
/-- At the end of a region: the frame but for some slots, and F of these and of the world. -/
def PutQ (a : Act) (ds : List Nat) (F : List Value → World → Prop) : Exit → Act → World → Prop
  | .normal, b, v => ∃ us, b = frmL a ds us ∧ F us v
  | _, _, _ => False
theorem PutQ.mk {a b : Act} {ds : List Nat} {F : List Value → World → Prop} {v : World} (us : List Value) (h : b = frmL a ds us) (f : F us v) : PutQ a ds F .normal b v := ⟨us, h, f⟩
theorem region_put {P : Program} {c : Code} {Q : Exit → Act → World → Prop} {a : Act} {w : World} (ds : List Nat) (F : List Value → World → Prop) (h : c.wp P (PutQ a ds F) a w) (k : ∀ us v, F us v → Q .normal (frmL a ds us) v) : c.wp P Q a w :=
  Code.wp_mono (fun e b v h => by
    cases e <;> first | exact (h : False).elim | (obtain ⟨us, rfl, hf⟩ := (h : ∃ us, b = frmL a ds us ∧ F us v); exact k us v hf)) h
end Go.Proofs.Ytjkmgpiiamffgaa

/- One block alone has turned: what is elsewhere stays; new lists whose block is known. -/
namespace Go.Proofs.Ytjkmgpiiamffgaa
open Go.RowKit
theorem eqI_same (xs : List Int) : eqI xs xs = true := eqI_yes rfl fun _ _ => rfl
theorem OwnI.one {lo hi g w w' b A n c xs} (h : OwnI lo hi w b A n c xs) (k : One g w w') (hne : b ≠ g) : OwnI lo hi w' b A n c xs := h.of_block fun _ => k.block b hne
theorem One.below {S g : Nat} {a w w' : World} (h : Below S a w) (k : One g w w') (hg : S ≤ g) : Below S a w' := Touch.below h (k.touch (Nat.le_refl g) (Nat.lt_succ_self g)) hg
theorem NewI.ge {w w' : World} {ys : List Int} {e : Ending} (h : NewI w ys e w') :
    ∃ Av c gg, e = .returned (.slice Av ys.length c) ∧ OwnI w.heap.size w'.heap.size w' gg Av ys.length c ys ∧ w.heap.size ≤ gg ∧ Below w.heap.size w w' := by
  obtain ⟨Av, n, c, gg, rfl, rfl, ho, hb⟩ := h
  by_cases h0 : 0 < ys.length
  · obtain ⟨o, e, h1, h2, hf⟩ := ho.own h0
    exact ⟨Av, c, gg, rfl, ho, h1, hb⟩
  · exact ⟨Av, c, w.heap.size, rfl, ⟨ho.ints, fun hn => absurd hn h0⟩, Nat.le_refl _, hb⟩
end Go.Proofs.Ytjkmgpiiamffgaa

