/- Texts merged: LiftB LiftC Enter Math23 Math25 Math28 Y6 G10 Math26 Math27 F1 FU K10 K11 Math29 Y7 K12 G9 Z7 EqF Y8a Y8. -/
import Derived.Test.YtoekpbcdgmejcaaQ9
import Derived.ChangeSlices
/- An argument of bytes, opened. -/
namespace Go.Proofs.Ytoekpbcdgmejcaa
open Go.ChangeShapes Go.WideShapes Go.ChangeAt Go.RowKit Go.Deep

theorem Try.cells_u8 : Try.prog.cellsOf 5 = 1 := by kernel_rfl
theorem Try.bytes_u8 : Try.prog.bytesOf 5 = 1 := by kernel_rfl
set_option maxRecDepth 100000 in
theorem open_bytes {H : Type} {enc : TypeId × Value → H} {W : World} {v : Value} {d : DataW H} {p : List MemPlace} {b0 : Nat} (hval : Value.okWide Try.prog W .any b0 22 v)
    (h : DataW.Trod enc Try.prog W 0 (fun _ => true) true 22 v d p) (hw : ∀ n ∈ d.weights Try.prog 22, n ≤ reachBytes) :
    ∃ A n c, v = .slice A n c ∧ Bytes W A n c := by
  obtain ⟨a1, len, cap, rfl⟩ := okWide_slice Try.underlying22 hval
  obtain ⟨fuel, hf⟩ := h
  rcases open_ints Try.underlying22 Try.underlying5 Try.cells_u8 hf with ⟨hcs, hx⟩ | ⟨a, len', cap', zs, hcs, _, hl, hm, hz, hx, hcell, hwz⟩
  · simp [Value.cells] at hcs
    obtain ⟨rfl, rfl, rfl⟩ := hcs
    exact ⟨none, 0, 0, rfl, Nat.le_refl _, by omega, fun h => absurd h (by omega)⟩
  · simp [Value.cells] at hcs
    obtain ⟨rfl, rfl, rfl⟩ := hcs
    simp only [Prod.mk.injEq] at hx
    obtain ⟨rfl, rfl⟩ := hx
    simp only [if_true] at hz
    have h1 := hw _ (weights_slice Try.underlying22 (.inl rfl))
    simp only [lits, List.length_map, List.length_take, List.length_drop, Try.bytes_u8, reachBytes] at h1
    refine ⟨some a, len, cap, rfl, hl, by omega, fun hn => ?_⟩
    have hspot : a.spot = none := by simpa [Addr.add] using World.cell?_spot (hcell 0 (by omega))
    obtain ⟨b, o, sp⟩ := a
    simp only at hspot
    subst hspot
    refine ⟨b, o, rfl, fun k hk => ⟨zs.getD k 0, ?_, ?_, by rw [← add_plain]; exact hcell k (by omega)⟩⟩
    · rw [List.getD_eq_getElem?_getD]; have := hwz (zs.getD k 0) (by rw [List.getD_eq_getElem?_getD, List.getElem?_eq_getElem (show k < zs.length by omega)]; simp)
      simp [Lit.wf, IntKind.min, IntKind.max, IntKind.signed, IntKind.bits] at this
      omega
    · rw [List.getD_eq_getElem?_getD]; have := hwz (zs.getD k 0) (by rw [List.getD_eq_getElem?_getD, List.getElem?_eq_getElem (show k < zs.length by omega)]; simp)
      simp [Lit.wf, IntKind.min, IntKind.max, IntKind.signed, IntKind.bits] at this
      omega
end Go.Proofs.Ytoekpbcdgmejcaa

/- Arguments that are a slice of ints, or an int, opened. -/
namespace Go.Proofs.Ytoekpbcdgmejcaa
open Go.ChangeShapes Go.WideShapes Go.ChangeAt Go.RowKit Go.Deep

set_option maxRecDepth 100000 in
theorem open_intS {H : Type} {enc : TypeId × Value → H} {W : World} {v : Value} {d : DataW H} {p : List MemPlace} {b0 : Nat} (hval : Value.okWide Try.prog W .any b0 26 v)
    (h : DataW.Trod enc Try.prog W 0 (fun _ => true) true 26 v d p) (hw : ∀ n ∈ d.weights Try.prog 26, n ≤ reachBytes) :
    ∃ A n c xs, v = .slice A n c ∧ Ints W A n c xs := by
  obtain ⟨a1, len, cap, rfl⟩ := okWide_slice Try.underlying26 hval
  obtain ⟨fuel, hf⟩ := h
  rcases open_ints Try.underlying26 Try.underlying3 Try.cells3 hf with ⟨hcs, hx⟩ | ⟨a, len', cap', zs, hcs, _, hl, hm, hz, hx, hcell, hwz⟩
  · simp [Value.cells] at hcs
    obtain ⟨rfl, rfl, rfl⟩ := hcs
    exact ⟨none, 0, 0, [], rfl, rfl, Nat.le_refl _, by omega, fun _ h => by simp at h, fun h => absurd h (by omega)⟩
  · simp [Value.cells] at hcs
    obtain ⟨rfl, rfl, rfl⟩ := hcs
    simp only [Prod.mk.injEq] at hx
    obtain ⟨rfl, rfl⟩ := hx
    simp only [if_true] at hz
    have h1 := hw _ (weights_slice Try.underlying26 (.inl rfl))
    simp only [lits, List.length_map, List.length_take, List.length_drop, Try.bytes3, reachBytes] at h1
    have hlen : (zs.take len).length = len := by rw [List.length_take]; omega
    refine ⟨some a, len, cap, zs.take len, rfl, hlen, hl, by omega, fun x hx => ?_, fun hn => ?_⟩
    · have := hwz x (List.mem_of_mem_take hx)
      simp [Lit.wf, IntKind.min, IntKind.max, IntKind.signed, IntKind.bits] at this
      omega
    have hspot : a.spot = none := by simpa [Addr.add] using World.cell?_spot (hcell 0 (by omega))
    obtain ⟨b, o, sp⟩ := a
    simp only at hspot
    subst hspot
    refine ⟨b, o, rfl, fun k hk => ?_⟩
    rw [← add_plain, hcell k (by omega)]
    congr 2
    rw [gi_get (by rw [hlen]; exact hk), List.getElem_take]
    simp [List.getD, show k < zs.length by omega]

set_option maxRecDepth 100000 in
theorem open_num {H : Type} {enc : TypeId × Value → H} {W : World} {v : Value} {d : DataW H} {p : List MemPlace} {b0 : Nat} (hval : Value.okWide Try.prog W .any b0 3 v)
    (h : DataW.Trod enc Try.prog W 0 (fun _ => true) true 3 v d p) : ∃ x, v = .int .i64 x ∧ Fit x := by
  obtain ⟨x, rfl, _, _, hw⟩ := open_int Try.underlying3 hval h
  refine ⟨x, rfl, ?_⟩
  simp [Lit.wf, IntKind.min, IntKind.max, IntKind.signed, IntKind.bits] at hw
  unfold Fit
  omega
end Go.Proofs.Ytoekpbcdgmejcaa

/- The program may be entered: facts of its head, once for all laws. -/
namespace Go.Proofs.Ytoekpbcdgmejcaa

theorem prog_enters : Try.pinned.checked.prog.mayEnter = true := by kernel_rfl
theorem prog_lifts0 : (false == Try.pinned.checked.prog.liftsFinal) = true := by kernel_rfl
theorem prog_make0 : (Try.pinned.checked.prog.make == some .cut) = true := by kernel_rfl
theorem prog_lifts {b : Bool} (h : b = false) : (b == Try.pinned.checked.prog.liftsFinal) = true := by subst h; exact prog_lifts0
theorem prog_make {m : Make} (h : m = .cut) : (Try.pinned.checked.prog.make == some m) = true := by subst h; exact prog_make0
end Go.Proofs.Ytoekpbcdgmejcaa

/- Barriers are 0 just where a strategy does not hold. Plain. -/
namespace Go.Proofs.Ytoekpbcdgmejcaa

theorem frU_zero (d : Int) : frU 0 d = 0 := by unfold frU; simp
theorem frU_ne {u d : Int} (h : u ≠ 0) : frU u d ≠ 0 := fun e => by have := frU_mul u d; rw [e, Int.zero_mul] at this; exact h this.symm
theorem barF_sign {a : List (List Int)} {i j : Nat} (h : BOk a (i : Int) (j : Int)) : ∃ U D, barF a (i : Int) (j : Int) = .agg #[.int .i64 U, .int .i64 D] ∧ (U = 0 ↔ ¬ HoldP a i j) := by
  refine ⟨_, _, barF_yes h, ?_⟩
  rw [Int.toNat_natCast, Int.toNat_natCast, ← holdL_iff a i j]
  generalize leadI a i j = x
  generalize leadJ a i j = y
  by_cases hh : HoldL x y
  · have hu : barU x y ≠ 0 := by
      by_cases hy : 0 ≤ y
      · rw [(bar_one hh hy).1]; decide
      · have := bar_mid hh hy; rw [this.1]; omega
    exact ⟨fun e => absurd e (frU_ne hu), fun e => absurd hh e⟩
  · rw [(bar_no hh).1]
    exact ⟨fun _ => hh, fun _ => frU_zero _⟩
theorem bok_iff {a : List (List Int)} (v : VQ a) {n i j : Nat} (hl : a.length = n) (hi : i < n) (hj : j < n) : BOk a (i : Int) (j : Int) ↔ i ≠ j := by
  constructor
  · intro h e; exact h.ne (by rw [e])
  · intro h
    exact ⟨v, ⟨by omega, by rw [hl]; omega⟩, ⟨by omega, by rw [hl]; omega⟩, by omega⟩
theorem isin_st {a : List (List Int)} (v : VQ a) {n i : Nat} (hl : a.length = n) (hi : i < n) : HasN (stF a) (i : Int) ↔ StP a i n := by
  subst hl
  constructor
  · rintro ⟨q, hq, e⟩
    obtain ⟨j, hj, hs, e2⟩ := stF_at v hq
    have : i = j := by omega
    subst this; exact hs
  · intro h
    have := (mem_stF v).2 ⟨i, hi, h, rfl⟩
    obtain ⟨q, hq, e⟩ := List.mem_iff_getElem.1 this
    exact ⟨q, hq, by rw [gi_get hq]; exact e⟩
end Go.Proofs.Ytoekpbcdgmejcaa

/- At rest no one has more than the mean, and each one with a share has it. Plain. -/
namespace Go.Proofs.Ytoekpbcdgmejcaa

theorem payR_dot' (a : List (List Int)) (x y : List Int) (i : Nat) : ∀ j, payR a x y i j = gi x i * dotr a y i j
  | 0 => by simp [payR, dotr]
  | j + 1 => by
    rw [payR, dotr, payR_dot' a x y i j, Int.mul_add]
    congr 1
    grind
theorem payU_next (a : List (List Int)) (x y : List Int) (m k : Nat) : payU a x y m (k + 1) = payU a x y m k + gi x k * dotr a y k m := by
  rw [payU, payR_dot']
theorem payU_same {a : List (List Int)} {x : List Int} {n : Nat} {M : Int} : ∀ {k}, (∀ i, i < k → 0 ≤ gi x i) → (∀ i, i < k → 0 < gi x i → dotr a x i n = M) → payU a x x n k = M * sm x k
  | 0, _, _ => by simp [payU, sm]
  | k + 1, h0, h => by
    rw [payU_next, sm, payU_same (fun i hi => h0 i (by omega)) (fun i hi => h i (by omega)), Int.mul_add]
    congr 1
    by_cases e : 0 < gi x k
    · rw [h k (by omega) e, Int.mul_comm]
    · have : gi x k = 0 := by have := h0 k (by omega); omega
      rw [this]; simp
theorem sm_one {x : List Int} : ∀ {k}, (∀ j, j < k → 0 ≤ gi x j) → 0 < sm x k → ∃ j, j < k ∧ 0 < gi x j
  | 0, _, h => by simp [sm] at h
  | k + 1, h0, h => by
    by_cases e : 0 < gi x k
    · exact ⟨k, by omega, e⟩
    · rw [sm] at h
      obtain ⟨j, hj, hp⟩ := sm_one (k := k) (fun j hj => h0 j (by omega)) (by have := h0 k (by omega); omega)
      exact ⟨j, by omega, hp⟩
/-- Strategy i has no more than the mean, and has it if it has a share. -/
def MeanOk (a : List (List Int)) (x : List Int) (n : Nat) (i : Nat) : Prop := ¬ payU a x x n n < dotr a x i n * tot x ∧ (0 < gi x i → dotr a x i n * tot x = payU a x x n n)
theorem rest_mean {a : List (List Int)} {x : List Int} {n : Nat} (hx : VS x n) : RestP a x n ↔ ∀ i, i < n → MeanOk a x n i := by
  have hl : x.length = n := by have := hx.1; omega
  have h0 : ∀ j, j < n → 0 ≤ gi x j := fun j hj => (VS.bds hx j hj).1
  have ht : tot x = sm x n := by unfold tot; rw [hl]
  have hp : 0 < tot x := hx.2.2
  constructor
  · intro h
    obtain ⟨j, hj, hjp⟩ := sm_one h0 (by rw [← ht]; exact hp)
    have hP : payU a x x n n = dotr a x j n * tot x := by
      rw [ht]
      exact payU_same h0 fun i hi hip => by have := h i hi hip j hj; have := h j hj hjp i hi; omega
    intro i hi
    refine ⟨?_, fun hip => ?_⟩
    · rw [hP]
      have := Int.mul_le_mul_of_nonneg_right (h j hj hjp i hi) (Int.le_of_lt hp)
      omega
    · rw [hP]
      have e : dotr a x i n = dotr a x j n := by have := h i hi hip j hj; have := h j hj hjp i hi; omega
      rw [e]
  · intro h i hi hip k hk
    have h1 := (h i hi).2 hip
    have h2 := (h k hk).1
    rw [← h1] at h2
    exact Int.le_of_mul_le_mul_right (by omega) hp
/-- The fractions that the law compares. -/
theorem mean_frac {P d T : Int} (hT : 0 < T) : (lessB (frU P (T * T)) (frD P (T * T)) (frU d T) (frD d T) = decide (P < d * T)) ∧ ((frU d T = frU P (T * T) ∧ frD d T = frD P (T * T)) ↔ d * T = P) := by
  have hTT : 0 < T * T := Int.mul_pos hT hT
  have e1 : d * (T * T) = d * T * T := by rw [Int.mul_assoc]
  constructor
  · unfold lessB
    rw [decide_eq_decide, fr_lt hTT hT, e1]
    exact ⟨fun h => Int.lt_of_mul_lt_mul_right h (Int.le_of_lt hT), fun h => Int.mul_lt_mul_of_pos_right h hT⟩
  · constructor
    · rintro ⟨h1, h2⟩
      have k1 := fr_lt (u := d) (d := T) (v := P) (e := T * T) hT hTT
      have k2 := fr_lt (u := P) (d := T * T) (v := d) (e := T) hTT hT
      rw [h1, h2] at k1 k2
      have n1 : ¬ d * (T * T) < P * T := fun h => by have := k1.2 h; omega
      have n2 : ¬ P * T < d * (T * T) := fun h => by have := k2.2 h; omega
      rw [e1] at n1 n2
      exact Int.eq_of_mul_eq_mul_right (by omega) (show d * T * T = P * T by omega)
    · intro h
      exact fr_eq hT hTT (by rw [e1, h])
end Go.Proofs.Ytoekpbcdgmejcaa

/- Barriers: at them both have as much, ahead of them the first one more. Plain. -/
namespace Go.Proofs.Ytoekpbcdgmejcaa

/-- The shares of two of n. -/
def prS (n i j : Nat) (X Y : Int) : List Int := ((List.replicate n 0).set i X).set j Y
theorem prS_len (n i j : Nat) (X Y : Int) : (prS n i j X Y).length = n := by simp [prS]
theorem gi_prS {n i j : Nat} {X Y : Int} {t : Nat} (ht : t < n) : gi (prS n i j X Y) t = if j = t then Y else if i = t then X else 0 := by
  unfold prS
  rw [gi_set_at (by simp; exact ht), gi_set_at (by simp; exact ht), gi_repl ht]
theorem dotr_prS {a : List (List Int)} {n i j : Nat} {X Y : Int} (hij : i ≠ j) (r : Nat) : ∀ {m}, m ≤ n → dotr a (prS n i j X Y) r m = (if i < m then g2 a r i * X else 0) + (if j < m then g2 a r j * Y else 0)
  | 0, _ => by simp [dotr]
  | m + 1, h => by
    rw [dotr, dotr_prS hij r (by omega), gi_prS (by omega)]
    by_cases e1 : j = m
    · subst e1
      rw [if_pos rfl, if_neg (show ¬ j < j by omega), if_pos (show j < j + 1 by omega)]
      by_cases e2 : i < j
      · rw [if_pos e2, if_pos (by omega)]; omega
      · rw [if_neg e2, if_neg (by omega)]; omega
    · rw [if_neg e1]
      by_cases e2 : i = m
      · subst e2
        rw [if_pos rfl, if_neg (show ¬ i < i by omega), if_pos (show i < i + 1 by omega)]
        by_cases e3 : j < i
        · rw [if_pos e3, if_pos (by omega)]; omega
        · rw [if_neg e3, if_neg (by omega)]; omega
      · rw [if_neg e2, Int.mul_zero, Int.add_zero]
        congr 1
        · by_cases e : i < m
          · rw [if_pos e, if_pos (by omega)]
          · rw [if_neg e, if_neg (by omega)]
        · by_cases e : j < m
          · rw [if_pos e, if_pos (by omega)]
          · rw [if_neg e, if_neg (by omega)]
theorem sm_prS {n i j : Nat} {X Y : Int} (hij : i ≠ j) : ∀ {m}, m ≤ n → sm (prS n i j X Y) m = (if i < m then X else 0) + (if j < m then Y else 0)
  | 0, _ => by simp [sm]
  | m + 1, h => by
    rw [sm, sm_prS hij (by omega), gi_prS (by omega)]
    by_cases e1 : j = m
    · subst e1
      rw [if_pos rfl, if_neg (show ¬ j < j by omega), if_pos (show j < j + 1 by omega)]
      by_cases e2 : i < j
      · rw [if_pos e2, if_pos (by omega)]; omega
      · rw [if_neg e2, if_neg (by omega)]; omega
    · rw [if_neg e1]
      by_cases e2 : i = m
      · subst e2
        rw [if_pos rfl, if_neg (show ¬ i < i by omega), if_pos (show i < i + 1 by omega)]
        by_cases e3 : j < i
        · rw [if_pos e3, if_pos (by omega)]; omega
        · rw [if_neg e3, if_neg (by omega)]; omega
      · rw [if_neg e2, Int.add_zero]
        congr 1
        · by_cases e : i < m
          · rw [if_pos e, if_pos (by omega)]
          · rw [if_neg e, if_neg (by omega)]
        · by_cases e : j < m
          · rw [if_pos e, if_pos (by omega)]
          · rw [if_neg e, if_neg (by omega)]
theorem dotr_pr {a : List (List Int)} {n i j : Nat} {X Y : Int} (hij : i ≠ j) (hi : i < n) (hj : j < n) (r : Nat) : dotr a (prS n i j X Y) r n = g2 a r i * X + g2 a r j * Y := by
  rw [dotr_prS hij r (Nat.le_refl n), if_pos hi, if_pos hj]
theorem tot_pr {n i j : Nat} {X Y : Int} (hij : i ≠ j) (hi : i < n) (hj : j < n) : tot (prS n i j X Y) = X + Y := by
  unfold tot; rw [prS_len, sm_prS hij (Nat.le_refl n), if_pos hi, if_pos hj]
theorem pr_VS {n i j : Nat} {X Y : Int} (hij : i ≠ j) (hi : i < n) (hj : j < n) (hX : 0 ≤ X ∧ X ≤ 1000) (hY : 0 ≤ Y ∧ Y ≤ 1000) (h : 0 < X + Y) : VS (prS n i j X Y) n := by
  refine ⟨by rw [prS_len], fun t ht => ?_, by rw [tot_pr hij hi hj]; exact h⟩
  rw [prS_len] at ht
  rw [gi_prS ht]
  by_cases e1 : j = t
  · rw [if_pos e1]; exact hY
  · rw [if_neg e1]
    by_cases e2 : i = t
    · rw [if_pos e2]; exact hX
    · rw [if_neg e2]; exact ⟨by decide, by decide⟩
theorem payU_pr {a : List (List Int)} {n i j : Nat} {X Y : Int} (hij : i ≠ j) (hi : i < n) (hj : j < n) : payU a (prS n i j X Y) (prS n i j X Y) n n = X * dotr a (prS n i j X Y) i n + Y * dotr a (prS n i j X Y) j n := by
  have key : ∀ {m}, m ≤ n → payU a (prS n i j X Y) (prS n i j X Y) n m = (if i < m then X * dotr a (prS n i j X Y) i n else 0) + (if j < m then Y * dotr a (prS n i j X Y) j n else 0) := by
    intro m
    induction m with
    | zero => intro _; simp [payU]
    | succ m ih =>
      intro h
      rw [payU_next, ih (by omega), gi_prS (by omega)]
      by_cases e1 : j = m
      · subst e1
        rw [if_pos rfl, if_neg (show ¬ j < j by omega), if_pos (show j < j + 1 by omega)]
        by_cases e2 : i < j
        · rw [if_pos e2, if_pos (by omega)]; omega
        · rw [if_neg e2, if_neg (by omega)]; omega
      · rw [if_neg e1]
        by_cases e2 : i = m
        · subst e2
          rw [if_pos rfl, if_neg (show ¬ i < i by omega), if_pos (show i < i + 1 by omega)]
          by_cases e3 : j < i
          · rw [if_pos e3, if_pos (by omega)]; omega
          · rw [if_neg e3, if_neg (by omega)]; omega
        · rw [if_neg e2, Int.zero_mul, Int.add_zero]
          congr 1
          · by_cases e : i < m
            · rw [if_pos e, if_pos (by omega)]
            · rw [if_neg e, if_neg (by omega)]
          · by_cases e : j < m
            · rw [if_pos e, if_pos (by omega)]
            · rw [if_neg e, if_neg (by omega)]
  rw [key (Nat.le_refl n), if_pos hi, if_pos hj]
theorem bar_frac {x y : Int} (hx : -18 ≤ x ∧ x ≤ 18) (hy : -18 ≤ y ∧ y ≤ 18) : (1 ≤ frD (barU x y) (barD x y) ∧ frD (barU x y) (barD x y) ≤ 36) ∧ 0 ≤ frU (barU x y) (barD x y) ∧ frU (barU x y) (barD x y) ≤ frD (barU x y) (barD x y) ∧
    ((frU (barU x y) (barD x y) = 0 ∧ frD (barU x y) (barD x y) = 1) ∨ (frU (barU x y) (barD x y) = 1 ∧ frD (barU x y) (barD x y) = 1 ∧ HoldL x y ∧ 0 ≤ y) ∨
      (∃ k, 0 < k ∧ frU (barU x y) (barD x y) * k = x ∧ frD (barU x y) (barD x y) * k = x - y ∧ 0 < x ∧ y < 0 ∧ 0 < frU (barU x y) (barD x y) ∧ frU (barU x y) (barD x y) < frD (barU x y) (barD x y))) := by
  by_cases hh : HoldL x y
  · by_cases h0 : 0 ≤ y
    · obtain ⟨e1, e2⟩ := bar_one hh h0
      rw [e1, e2, (fr_one 1).1, (fr_one 1).2]
      exact ⟨by omega, by omega, by omega, .inr (.inl ⟨rfl, rfl, hh, h0⟩)⟩
    · obtain ⟨e1, e2, e3⟩ := bar_mid hh h0
      rw [e1, e2]
      have hd : 0 < x - y := by omega
      have g := gcdI_pos (a := x) (b := x - y) (by omega)
      have k1 := frU_mul x (x - y)
      have k2 := frD_mul x (x - y)
      have b1 := frD_bd (u := x) (d := x - y) (B := 36) hd (by omega)
      generalize gcdI x (x - y) = G at *
      generalize frU x (x - y) = U at *
      generalize frD x (x - y) = D at *
      have hU : 0 < U := by
        apply Classical.byContradiction; intro hn
        have := Int.mul_nonneg (show 0 ≤ -U by omega) (show 0 ≤ G by omega)
        rw [Int.neg_mul] at this; omega
      have hUD : U < D := by
        apply Classical.byContradiction; intro hn
        have := Int.mul_le_mul_of_nonneg_right (show D ≤ U by omega) (show 0 ≤ G by omega)
        omega
      exact ⟨b1, by omega, by omega, .inr (.inr ⟨G, by omega, k1, k2, e3, by omega, hU, hUD⟩)⟩
  · obtain ⟨e1, e2⟩ := bar_no hh
    rw [e1, e2, (fr_one 0).1, (fr_one 0).2]
    exact ⟨by omega, by omega, by omega, .inl ⟨rfl, rfl⟩⟩
/-- Ahead of the barrier the first one has more. -/
theorem bar_ahead {a : List (List Int)} {i j : Nat} {U D : Int} (h : (U = 1 ∧ D = 1 ∧ HoldL (leadI a i j) (leadJ a i j) ∧ 0 ≤ leadJ a i j) ∨ (∃ k, 0 < k ∧ U * k = leadI a i j ∧ D * k = leadI a i j - leadJ a i j ∧ 0 < leadI a i j ∧ leadJ a i j < 0)) :
    g2 a j i * (2 * D - U) + g2 a j j * U < g2 a i i * (2 * D - U) + g2 a i j * U := by
  unfold leadI leadJ at h
  rcases h with ⟨rfl, rfl, hh, h0⟩ | ⟨k, hk, h1, h2, h3, h4⟩
  · unfold HoldL at hh; omega
  · generalize g2 a i i = A at *
    generalize g2 a j i = B at *
    generalize g2 a i j = C at *
    generalize g2 a j j = E at *
    have e : (A * (2 * D - U) + C * U - (B * (2 * D - U) + E * U)) * k = (A - B) * (A - B) - (C - E) * (A - B) := by
      have e1 : (2 * D - U) * k = (A - B) - 2 * (C - E) := by rw [Int.sub_mul, Int.mul_assoc, h1, h2]; omega
      have e2 : (A * (2 * D - U) + C * U - (B * (2 * D - U) + E * U)) * k = (A - B) * ((2 * D - U) * k) + (C - E) * (U * k) := by grind
      rw [e2, e1, h1]; grind
    have p1 : 0 < (A - B) * (A - B) := Int.mul_pos h3 h3
    have p2 : (C - E) * (A - B) < 0 := Int.mul_neg_of_neg_of_pos h4 h3
    apply Classical.byContradiction; intro hn
    have := Int.mul_nonneg (show 0 ≤ -(A * (2 * D - U) + C * U - (B * (2 * D - U) + E * U)) by omega) (show 0 ≤ k by omega)
    rw [Int.neg_mul] at this
    omega
/-- At the barrier both have as much. -/
theorem bar_at {a : List (List Int)} {i j : Nat} {U D k : Int} (hk : 0 < k) (h1 : U * k = leadI a i j) (h2 : D * k = leadI a i j - leadJ a i j) :
    g2 a i i * (D - U) + g2 a i j * U = g2 a j i * (D - U) + g2 a j j * U := by
  unfold leadI leadJ at *
  generalize g2 a i i = A at *
  generalize g2 a j i = B at *
  generalize g2 a i j = C at *
  generalize g2 a j j = E at *
  refine Int.eq_of_mul_eq_mul_right (show k ≠ 0 by omega) ?_
  have e1 : (D - U) * k = - (C - E) := by rw [Int.sub_mul, h1, h2]; omega
  have e2 : (A * (D - U) + C * U) * k = A * ((D - U) * k) + C * (U * k) := by grind
  have e3 : (B * (D - U) + E * U) * k = B * ((D - U) * k) + E * (U * k) := by grind
  rw [e2, e3, e1, h1]; grind
end Go.Proofs.Ytoekpbcdgmejcaa

/- The shares of two of n, by the laws. -/
namespace Go.Proofs.Ytoekpbcdgmejcaa
open Go.RowKit

set_option maxRecDepth 100000 in
set_option maxHeartbeats 800000 in
theorem pairShares_any (n i j : Nat) (X Y : Int) (w : World) (hn : n ≤ 100) (hi : i < n) (hj : j < n) (hX : -1000 ≤ X ∧ X ≤ 1000) (hY : -1000 ≤ Y ∧ Y ≤ 1000) :
    Calls Try.prog 27 #[.int .i64 n, .int .i64 i, .int .i64 j, .int .i64 X, .int .i64 Y] w (NewI w (prS n i j X Y)) := by
  have hmk := run_make_row' (P := Try.prog) 26 3 (.int .i64 0) 8 Try.underlying26 Try.info3 rfl .i64 .i64 n (by omega) (by omega)
  have hs0 := SU.start w n hn
  have hs1 := hs0.set hi (v := X) (by omega)
  have hs2 := hs1.set hj (v := Y) (by omega)
  have hs3 := hs2
  rw [alloc_set, alloc_set] at hs3
  have HS2 := Lib.hid hs3
  have c1 := hs0.cell hi
  have c2 := hs0.cell hj
  have f1 := hs0.frozen hi
  have f2 := hs0.frozen hj
  have c3 := hs1.cell hj
  have f3 := hs1.frozen hj
  rw [alloc_set] at c3 f3
  clear hs0 hs1 hs2 hs3
  have hin : (i : Int) < (n : Int) := by omega
  have hjn : (j : Int) < (n : Int) := by omega
  generalize gi (List.replicate n 0) i = z1 at *
  generalize gi (List.replicate n 0) j = z2 at *
  generalize gi ((List.replicate n 0).set i X) j = z3 at *
  go_enter Try.func27, Try.ntmps27
  go_wp2
  go_ret
  exact HS2.out.new (prS_len n i j X Y).symm
end Go.Proofs.Ytoekpbcdgmejcaa

/- A square and two numbers drawn. -/
namespace Go.Proofs.Ytoekpbcdgmejcaa
open Go.RowKit

/-- A table and two numbers. -/
def DrawnTI (w : World) (e : Ending) (w' : World) : Prop :=
  ∃ Av n c gg xss i j, e = .returned (.tuple #[.slice Av n c, .int .i64 i, .int .i64 j]) ∧ Small xss ∧ OwnR w.heap.size w'.heap.size w' gg Av n c xss ∧ (-1 ≤ i ∧ i ≤ 8) ∧ (-1 ≤ j ∧ j ≤ 8) ∧ Below w.heap.size w w'
theorem OwnR.oneB {lo hi w w' b A n c xss} {g : Nat} (h : OwnR lo hi w b A n c xss) (k : One g w w') (hg : g < lo) : OwnR lo hi w' b A n c xss :=
  h.of_blocks fun i h1 _ _ => k.block i (by omega)

set_option maxRecDepth 100000 in
set_option maxHeartbeats 2000000 in
theorem DrawBarrierOf_any (A : Option Addr) (n c : Nat) (w : World) (h : Bytes w A n c) :
    Calls Try.prog 25 #[.slice A n c] w (DrawnTI w) := by
  have H0 := Lib.hid (newReader_any A n c w h)
  clear h
  go_enter Try.func25, Try.ntmps25
  go_wp2_with fail
  refine H0.out.mono ?_
  rintro e w1 ⟨A1, l, c1, rfl, hl, hr, hs⟩
  have H1 := Lib.hid (someSquare_any w w1 w.heap.size A1 l c1 0 hr (by omega))
  clear hr hl H0
  go_wp2_with fail
  refine H1.out.mono ?_
  rintro e w2 ⟨wb, v', vs', xss', p', rfl, hsm, hto, hp, hg⟩
  have hsz := hg.size
  obtain ⟨Av, nv, cv, gg, rfl, hnv, hown⟩ := hto.bo.owns (by have := hsm.n; omega)
  have HO := Lib.hid (hown.mono (show w.heap.size + 1 ≤ wb.heap.size by have := hto.gl; omega) (Nat.le_refl _))
  have HRD := Lib.hid hto.rd
  have HS := Lib.hid hsm
  have hn8 : nv ≤ 8 := by rw [hnv]; exact hsm.n
  clear hsm hto hown hg H1 hnv
  have HC := Lib.hid (pick_any w w2 w.heap.size A1 l c1 p' (nv : Int) HRD.out (by omega))
  go_wp2_with fail
  refine HC.out.mono ?_
  rintro e w3 ⟨m, rfl, hk1, hk0, hr, z, hw⟩
  have hone := Rdr.one (g := w.heap.size) w2 (.int .i64 (p' + 1 : Nat)) z
  rw [← hw] at hone
  have hmb : 0 ≤ m ∧ m ≤ 8 := by
    by_cases h : 1 ≤ nv
    · have := hk1 (by omega); omega
    · have := hk0 (by omega); omega
  obtain ⟨m0, m1⟩ := hmb
  have HO3 := Lib.hid ((HO.out.oneB hone (by omega)).mono (Nat.le_refl _) (Nat.le_of_eq hone.size.symm))
  have HR3 := Lib.hid hr
  clear hk1 hk0 hr hw hone HC HO HRD
  have hgw : w.heap.size < w3.heap.size := blk_lt HR3.out.box
  have hal := below_alloc w3 (.cells #[iv m, iv 0, iv 1, iv (-1)] 3)
  have HR4 := Lib.hid (HR3.out.below_ hal)
  have HO4 := Lib.hid ((HO3.out.below hal).mono (Nat.le_refl _) hal.size)
  have HIN := Lib.hid (Ints.lit w3 [m, 0, 1, -1] (by simp) (by intro x hx; simp at hx; omega))
  have HC := Lib.hid (one_any w (w3.alloc (.cells #[iv m, iv 0, iv 1, iv (-1)] 3)) w.heap.size A1 l c1 (p' + 1) _ 4 4 [m, 0, 1, -1] HR4.out (by omega) HIN.out (by omega) (fun b' o' e' => by injection e' with e'; injection e' with e' _ _; omega))
  clear hal HR3 HO3 HIN
  go_wp2_with fail
  refine HC.out.mono ?_
  rintro e w4 ⟨i, rfl, hx, hr, ho⟩
  have hib : -1 ≤ i ∧ i ≤ 8 := by simp at hx; omega
  have HIB := Lib.hid hib
  have HR5 := Lib.hid hr
  have HO5 := Lib.hid ((HO4.out.oneB ho (by omega)).mono (Nat.le_refl _) (Nat.le_of_eq ho.size.symm))
  clear hx hr ho HC HR4 HO4 hib hgw
  have HC := Lib.hid (pick_any w w4 w.heap.size A1 l c1 _ (nv : Int) HR5.out (by omega))
  go_wp2_with fail
  refine HC.out.mono ?_
  rintro e w5 ⟨m', rfl, hk1, hk0, hr, z', hw⟩
  have hone := Rdr.one (g := w.heap.size) w4 (.int .i64 (p' + 1 + 1 + 1 : Nat)) z'
  rw [← hw] at hone
  have hmb : 0 ≤ m' ∧ m' ≤ 8 := by
    by_cases h : 1 ≤ nv
    · have := hk1 (by omega); omega
    · have := hk0 (by omega); omega
  obtain ⟨m0', m1'⟩ := hmb
  have HO6 := Lib.hid ((HO5.out.oneB hone (by omega)).mono (Nat.le_refl _) (Nat.le_of_eq hone.size.symm))
  have HR6 := Lib.hid hr
  clear hk1 hk0 hr hw hone HC HO5 HR5
  have hgw : w.heap.size < w5.heap.size := blk_lt HR6.out.box
  have hal := below_alloc w5 (.cells #[iv m', iv 1, iv 2, iv 0, iv 3] 3)
  have HR7 := Lib.hid (HR6.out.below_ hal)
  have HO7 := Lib.hid ((HO6.out.below hal).mono (Nat.le_refl _) hal.size)
  have HIN := Lib.hid (Ints.lit w5 [m', 1, 2, 0, 3] (by simp) (by intro x hx; simp at hx; omega))
  have HC := Lib.hid (one_any w (w5.alloc (.cells #[iv m', iv 1, iv 2, iv 0, iv 3] 3)) w.heap.size A1 l c1 _ _ 5 5 [m', 1, 2, 0, 3] HR7.out (by omega) HIN.out (by omega) (fun b' o' e' => by injection e' with e'; injection e' with e' _ _; omega))
  clear hal HR6 HO6 HIN
  go_wp2_with fail
  refine HC.out.mono ?_
  rintro e w6 ⟨j, rfl, hx, hr, ho⟩
  have hjb : -1 ≤ j ∧ j ≤ 8 := by simp at hx; omega
  have HJB := Lib.hid hjb
  have HB8 := Lib.hid hr.below
  have HO8 := Lib.hid ((HO7.out.oneB ho (by omega)).mono (Nat.le_succ _) (Nat.le_of_eq ho.size.symm))
  clear hx hr ho HC HR7 HO7 hjb hgw
  go_wp2
  go_ret3
  exact ⟨Av, nv, cv, gg, xss', i, j, rfl, HS.out, HO8.out, HIB.out, HJB.out, HB8.out⟩
end Go.Proofs.Ytoekpbcdgmejcaa

/- The mean of an even table does not fall. Plain. -/
namespace Go.Proofs.Ytoekpbcdgmejcaa
namespace Mean
theorem sq_nn (x : Int) : 0 ≤ x * x := by
  by_cases h : 0 ≤ x
  · exact Int.mul_nonneg h h
  · exact Int.mul_nonneg_of_nonpos_of_nonpos (by omega) (by omega)
theorem nn_of {x y : Int} (hx : 0 < x) (h : 0 ≤ x * y) : 0 ≤ y := by
  apply Classical.byContradiction; intro hn
  have := Int.mul_neg_of_pos_of_neg hx (show y < 0 by omega)
  omega
theorem am_gm {p q S P : Int} (hp : 0 < p) (hq : 0 < q) (hS : 0 ≤ S) (hP : 0 ≤ P) : 0 ≤ S*S*S*(p*q)*(p*q) + P*P*P*(p+q) - 3*P*P*S*(p*q) := by
  have h4 : 4 * (p*q) ≤ (p+q)*(p+q) := by have := sq_nn (p-q); grind
  have hTp : 0 < p * q := Int.mul_pos hp hq
  have hzp : 0 < p + q := by omega
  generalize p * q = T at *
  generalize p + q = z at *
  apply Classical.byContradiction; intro hn
  have hAB : P*P*P*z < S*T*(3*(P*P) - S*S*T) := by grind
  have hA : 0 ≤ P*P*P*z := Int.mul_nonneg (Int.mul_nonneg (Int.mul_nonneg hP hP) hP) (by omega)
  have hST : 0 ≤ S*T := Int.mul_nonneg hS (by omega)
  have hV : 0 ≤ S*S*T := Int.mul_nonneg (Int.mul_nonneg hS hS) (by omega)
  have hU : 0 ≤ P*P := Int.mul_nonneg hP hP
  have hD : 0 < 3*(P*P) - S*S*T := by
    apply Classical.byContradiction; intro h
    have := Int.mul_nonneg hST (show 0 ≤ -(3*(P*P) - S*S*T) by omega)
    grind
  have hsq : (P*P*P*z)*(P*P*P*z) < (S*T*(3*(P*P) - S*S*T))*(S*T*(3*(P*P) - S*S*T)) := by
    generalize P*P*P*z = A at *
    generalize S*T*(3*(P*P) - S*S*T) = B at *
    have q1 := Int.mul_le_mul_of_nonneg_left (Int.le_of_lt hAB) hA
    have q2 := Int.mul_lt_mul_of_pos_right hAB (show 0 < B by omega)
    omega
  have h6 : 0 ≤ (P*P)*(P*P)*(P*P) := Int.mul_nonneg (Int.mul_nonneg hU hU) hU
  have hz := Int.mul_le_mul_of_nonneg_left h4 h6
  have e1 : (P*P*P*z)*(P*P*P*z) = (P*P)*(P*P)*(P*P)*(z*z) := by grind
  have e2 : (S*T*(3*(P*P) - S*S*T))*(S*T*(3*(P*P) - S*S*T)) = (S*S*T)*(3*(P*P) - S*S*T)*(3*(P*P) - S*S*T) * T := by grind
  generalize P*P = U at *
  generalize S*S*T = V at *
  have h7 : U*U*U*4*T < V*(3*U-V)*(3*U-V)*T := by grind
  have h8 : U*U*U*4 < V*(3*U-V)*(3*U-V) := Int.lt_of_mul_lt_mul_right h7 (by omega)
  have h9 : 0 < (V-U)*(V-U)*(V-4*U) := by grind
  have h10 := Int.mul_nonneg (sq_nn (V-U)) (show 0 ≤ 4*U-V by omega)
  grind
/-- m: a symmetric table times the shares; its row sums are x w. -/
theorem mean_up {x0 x1 x2 w0 w1 w2 a b c d e f S P Q : Int} (hx0 : 0 ≤ x0) (hx1 : 0 ≤ x1) (hx2 : 0 ≤ x2) (hw0 : 0 < w0) (hw1 : 0 < w1) (hw2 : 0 < w2)
    (ha : 0 ≤ a) (hb : 0 ≤ b) (hc : 0 ≤ c) (hd : 0 ≤ d) (he : 0 ≤ e) (hf : 0 ≤ f) (hS : S = x0 + x1 + x2) (hSp : 0 < S)
    (r0 : a + b + c = x0 * w0) (r1 : b + d + e = x1 * w1) (r2 : c + e + f = x2 * w2) (hP : P = x0 * w0 + x1 * w1 + x2 * w2)
    (hQ : Q = a * (w0 * w0) + d * (w1 * w1) + f * (w2 * w2) + 2 * (b * (w0 * w1)) + 2 * (c * (w0 * w2)) + 2 * (e * (w1 * w2))) : P * P * P ≤ S * S * Q := by
  have hPn : 0 ≤ P := by
    have := Int.mul_nonneg hx0 (Int.le_of_lt hw0); have := Int.mul_nonneg hx1 (Int.le_of_lt hw1); have := Int.mul_nonneg hx2 (Int.le_of_lt hw2); omega
  have hS0 : 0 ≤ S := by omega
  -- what each pair gives, times the product of all w
  have T : ∀ p q M Mp Mq : Int, 0 < p → 0 < q → 0 ≤ M → p * Mp = M → q * Mq = M → 0 ≤ S*S*S*(p*q)*M + P*P*P*(Mp + Mq) - 3*P*P*S*M := fun p q M Mp Mq hp hq hM e1 e2 => by
    have h := Int.mul_nonneg (am_gm hp hq hS0 hPn) hM
    have hpq : 0 < p * q := Int.mul_pos hp hq
    have e : (S*S*S*(p*q)*(p*q) + P*P*P*(p+q) - 3*P*P*S*(p*q)) * M = (p * q) * (S*S*S*(p*q)*M + P*P*P*(Mp + Mq) - 3*P*P*S*M) := by
      subst e1
      have h1 : (p + q) * (p * Mp) = p * q * (Mp + Mq) := by rw [Int.mul_add, Int.add_mul, show p * q * Mq = p * (q * Mq) by rw [Int.mul_assoc], e2]; clear e2 h; grind
      generalize Mp + Mq = z at *
      generalize p * Mp = M at *
      generalize p + q = y at *
      generalize p * q = x at *
      have : P*P*P*y*M = P*P*P*(x*z) := by rw [← h1, Int.mul_assoc]
      clear h e2 hQ hP r0 r1 r2 hS
      grind
    rw [e] at h
    exact nn_of hpq h
  have m01 : 0 < w0 * w1 := Int.mul_pos hw0 hw1
  have m02 : 0 < w0 * w2 := Int.mul_pos hw0 hw2
  have m12 : 0 < w1 * w2 := Int.mul_pos hw1 hw2
  have hM : 0 < w0 * (w1 * w2) := Int.mul_pos hw0 m12
  have k0 : w0 * (w1 * w2) = w0 * (w1 * w2) := rfl
  have k1 : w1 * (w0 * w2) = w0 * (w1 * w2) := by grind
  have k2 : w2 * (w0 * w1) = w0 * (w1 * w2) := by grind
  have t00 := Int.mul_nonneg ha (T w0 w0 _ _ _ hw0 hw0 (by omega) k0 k0)
  have t11 := Int.mul_nonneg hd (T w1 w1 _ _ _ hw1 hw1 (by omega) k1 k1)
  have t22 := Int.mul_nonneg hf (T w2 w2 _ _ _ hw2 hw2 (by omega) k2 k2)
  have t01 := Int.mul_nonneg hb (T w0 w1 _ _ _ hw0 hw1 (by omega) k0 k1)
  have t02 := Int.mul_nonneg hc (T w0 w2 _ _ _ hw0 hw2 (by omega) k0 k2)
  have t12 := Int.mul_nonneg he (T w1 w2 _ _ _ hw1 hw2 (by omega) k1 k2)
  clear T
  -- the parts of the sum
  have s1 : a + 2 * b + 2 * c + d + 2 * e + f = P := by omega
  have s2 : a * (2 * (w1 * w2)) + d * (2 * (w0 * w2)) + f * (2 * (w0 * w1)) + 2 * (b * (w1 * w2 + w0 * w2)) + 2 * (c * (w1 * w2 + w0 * w1)) + 2 * (e * (w0 * w2 + w0 * w1)) = 2 * (S * (w0 * (w1 * w2))) := by
    have : a * (2 * (w1 * w2)) + d * (2 * (w0 * w2)) + f * (2 * (w0 * w1)) + 2 * (b * (w1 * w2 + w0 * w2)) + 2 * (c * (w1 * w2 + w0 * w1)) + 2 * (e * (w0 * w2 + w0 * w1)) = 2 * ((a + b + c) * (w1 * w2)) + 2 * ((b + d + e) * (w0 * w2)) + 2 * ((c + e + f) * (w0 * w1)) := by grind
    rw [this, r0, r1, r2, hS]; grind
  have tot : (S * (w0 * (w1 * w2))) * (S * S * Q - P * P * P) = a * (S*S*S*(w0*w0)*(w0 * (w1 * w2)) + P*P*P*(w1*w2 + w1*w2) - 3*P*P*S*(w0 * (w1 * w2))) + d * (S*S*S*(w1*w1)*(w0 * (w1 * w2)) + P*P*P*(w0*w2 + w0*w2) - 3*P*P*S*(w0 * (w1 * w2)))
      + f * (S*S*S*(w2*w2)*(w0 * (w1 * w2)) + P*P*P*(w0*w1 + w0*w1) - 3*P*P*S*(w0 * (w1 * w2))) + 2 * (b * (S*S*S*(w0*w1)*(w0 * (w1 * w2)) + P*P*P*(w1*w2 + w0*w2) - 3*P*P*S*(w0 * (w1 * w2))))
      + 2 * (c * (S*S*S*(w0*w2)*(w0 * (w1 * w2)) + P*P*P*(w1*w2 + w0*w1) - 3*P*P*S*(w0 * (w1 * w2)))) + 2 * (e * (S*S*S*(w1*w2)*(w0 * (w1 * w2)) + P*P*P*(w0*w2 + w0*w1) - 3*P*P*S*(w0 * (w1 * w2)))) := by
    generalize hMM : w0 * (w1 * w2) = M at *
    have z1 : ∀ (m u v k : Int), m * (S*S*S*u*M + P*P*P*v - 3*P*P*S*M) = S*S*S*M*(m*u) + P*P*P*(m*v) - 3*P*P*S*M*m := fun m u v k => by grind
    rw [z1 a _ _ 0, z1 d _ _ 0, z1 f _ _ 0, z1 b _ _ 0, z1 c _ _ 0, z1 e _ _ 0]
    have : ∀ (q r s : Int), q = Q → r = 2 * (S * M) → s = P → S * M * (S * S * Q - P * P * P) = S*S*S*M*q + P*P*P*r - 3*P*P*S*M*s := fun q r s h1 h2 h3 => by subst h1 h2 h3; grind
    rw [this _ _ _ hQ.symm s2 s1]
    grind
  have hge : 0 ≤ (S * (w0 * (w1 * w2))) * (S * S * Q - P * P * P) := by rw [tot]; omega
  have := nn_of (Int.mul_pos hSp hM) hge
  omega
theorem fin_ {P P' T T' g Q : Int} (hg : 0 < g) (h1 : T' * g = P) (h2 : P' * (g * g) = Q) (h3 : P * P * P ≤ T * T * Q) : P * (T' * T') ≤ P' * (T * T) := by
  have hgg : 0 < g * g := Int.mul_pos hg hg
  refine Int.le_of_mul_le_mul_left (a := g * g) ?_ hgg
  have e1 : g * g * (P * (T' * T')) = P * P * P := by rw [← h1]; grind
  have e2 : g * g * (P' * (T * T)) = T * T * Q := by rw [← h2]; grind
  rw [e1, e2]; exact h3
/-- The next shares, times their factor. -/
theorem ns_key {a : List (List Int)} {x : List Int} {n : Nat} (h : FS a x n) : ∃ g, 0 < g ∧ (nsF a x).length = n ∧ ∀ i, i < n → gi (nsF a x) i * g = gi x i * dotr a x i n := by
  refine ⟨gcdL (nxL a x n n) n, h.clr.2, by rw [nsF_yes h, clrL_len], fun i hi => ?_⟩
  rw [nsF_yes h, gi_clrL hi, max_ediv_mul (gcdL_dvd _ hi), gi_nxL hi]
  have := (h.nx hi).1
  unfold nxV at this ⊢
  omega
theorem payU1 (a : List (List Int)) (y z : List Int) (n : Nat) : payU a y z n 1 = gi y 0 * dotr a z 0 n := by rw [payU_next]; simp [payU]
theorem payU2 (a : List (List Int)) (y z : List Int) (n : Nat) : payU a y z n 2 = gi y 0 * dotr a z 0 n + gi y 1 * dotr a z 1 n := by rw [payU_next, payU1]
theorem payU3 (a : List (List Int)) (y z : List Int) (n : Nat) : payU a y z n 3 = gi y 0 * dotr a z 0 n + gi y 1 * dotr a z 1 n + gi y 2 * dotr a z 2 n := by rw [payU_next, payU2]
theorem mean_grow {a : List (List Int)} {x : List Int} {n : Nat} (h : FS a x n) (e : EvP a) : payU a x x n n * (tot (nsF a x) * tot (nsF a x)) ≤ payU a (nsF a x) (nsF a x) n n * (tot x * tot x) := by
  obtain ⟨g, hg, hl, hk⟩ := ns_key h
  have hxl := h.xl
  have hp := h.s.2.2
  obtain ⟨n1, n3⟩ := h.n3
  generalize nsF a x = L at *
  have hx : ∀ j, j < n → 0 ≤ gi x j := fun j hj => (h.x j hj).1
  have hw : ∀ i, i < n → 0 < dotr a x i n := fun i hi => by have := (h.dot hi).1; omega
  have ha : ∀ i j, i < n → j < n → 0 ≤ g2 a i j := fun i j hi hj => by have := (h.a hi hj).1; omega
  have he : ∀ i j, i < n → j < n → g2 a i j = g2 a j i := fun i j hi hj => e.e i j (by rw [h.l]; exact hi) (by rw [h.l]; exact hj)
  unfold tot at hp ⊢
  rw [hl]
  rw [hxl] at hp ⊢
  have : n = 1 ∨ n = 2 ∨ n = 3 := by omega
  rcases this with rfl | rfl | rfl
  · have k0 := hk 0 (by omega)
    have x0 := hx 0 (by omega)
    have w0 := hw 0 (by omega)
    have a00 := ha 0 0 (by omega) (by omega)
    simp only [payU1]
    simp only [dotr, sm, Int.zero_add] at *
    generalize gi x 0 = X0 at *
    generalize gi L 0 = L0 at *
    generalize g2 a 0 0 = A at *
    refine fin_ (g := g) (Q := X0 * (A * X0) * (X0 * (A * X0)) * A) hg k0 (by rw [← k0]; grind) ?_
    exact Int.le_of_eq (by grind)
  · have k0 := hk 0 (by omega)
    have k1 := hk 1 (by omega)
    have x0 := hx 0 (by omega)
    have x1 := hx 1 (by omega)
    have w0 := hw 0 (by omega)
    have w1 := hw 1 (by omega)
    have a00 := ha 0 0 (by omega) (by omega)
    have a01 := ha 0 1 (by omega) (by omega)
    have a11 := ha 1 1 (by omega) (by omega)
    have e10 := he 1 0 (by omega) (by omega)
    simp only [payU2]
    simp only [dotr, sm, Int.zero_add] at *
    rw [e10] at k1 w1 ⊢
    generalize gi x 0 = X0 at *
    generalize gi x 1 = X1 at *
    generalize gi L 0 = L0 at *
    generalize gi L 1 = L1 at *
    generalize g2 a 0 0 = A at *
    generalize g2 a 0 1 = B at *
    generalize g2 a 1 1 = D at *
    clear hk hx hw ha he h e
    have q0 : (A * X0 + B * X1) = (A * X0 + B * X1) := rfl
    generalize hW0 : A * X0 + B * X1 = W0 at *
    generalize hW1 : B * X0 + D * X1 = W1 at *
    have up := mean_up (x0 := X0) (x1 := X1) (x2 := 0) (w0 := W0) (w1 := W1) (w2 := 1) (a := X0 * X0 * A) (b := X0 * X1 * B) (c := 0) (d := X1 * X1 * D) (e := 0) (f := 0) (S := X0 + X1) (P := X0 * W0 + X1 * W1)
      (Q := X0 * X0 * A * (W0 * W0) + X1 * X1 * D * (W1 * W1) + 2 * (X0 * X1 * B * (W0 * W1))) x0 x1 (by omega) w0 w1 (by omega)
      (Int.mul_nonneg (Int.mul_nonneg x0 x0) a00) (Int.mul_nonneg (Int.mul_nonneg x0 x1) a01) (by omega) (Int.mul_nonneg (Int.mul_nonneg x1 x1) a11) (by omega) (by omega) (by omega) hp
      (by rw [← hW0]; grind) (by rw [← hW1]; grind) (by omega) (by omega) (by omega)
    refine fin_ (g := g) hg (by rw [Int.add_mul, k0, k1]) ?_ up
    have z0 : (L0 * g) * (L0 * g) = (X0 * W0) * (X0 * W0) := by rw [k0]
    have z1 : (L0 * g) * (L1 * g) = (X0 * W0) * (X1 * W1) := by rw [k0, k1]
    have z2 : (L1 * g) * (L1 * g) = (X1 * W1) * (X1 * W1) := by rw [k1]
    have e1 : (L0 * (A * L0 + B * L1) + L1 * (B * L0 + D * L1)) * (g * g) = A * ((L0 * g) * (L0 * g)) + 2 * (B * ((L0 * g) * (L1 * g))) + D * ((L1 * g) * (L1 * g)) := by clear up z0 z1 z2 k0 k1 hW0 hW1 q0; grind
    rw [e1, z0, z1, z2]
    clear up z0 z1 z2 k0 k1 hW0 hW1 q0 e1
    grind
  · have k0 := hk 0 (by omega)
    have k1 := hk 1 (by omega)
    have k2 := hk 2 (by omega)
    have x0 := hx 0 (by omega)
    have x1 := hx 1 (by omega)
    have x2 := hx 2 (by omega)
    have w0 := hw 0 (by omega)
    have w1 := hw 1 (by omega)
    have w2 := hw 2 (by omega)
    have a00 := ha 0 0 (by omega) (by omega)
    have a01 := ha 0 1 (by omega) (by omega)
    have a02 := ha 0 2 (by omega) (by omega)
    have a11 := ha 1 1 (by omega) (by omega)
    have a12 := ha 1 2 (by omega) (by omega)
    have a22 := ha 2 2 (by omega) (by omega)
    have e10 := he 1 0 (by omega) (by omega)
    have e20 := he 2 0 (by omega) (by omega)
    have e21 := he 2 1 (by omega) (by omega)
    simp only [payU3]
    simp only [dotr, sm, Int.zero_add] at *
    rw [e10] at k1 w1 ⊢
    rw [e20, e21] at k2 w2 ⊢
    generalize gi x 0 = X0 at *
    generalize gi x 1 = X1 at *
    generalize gi x 2 = X2 at *
    generalize gi L 0 = L0 at *
    generalize gi L 1 = L1 at *
    generalize gi L 2 = L2 at *
    generalize g2 a 0 0 = A at *
    generalize g2 a 0 1 = B at *
    generalize g2 a 0 2 = C at *
    generalize g2 a 1 1 = D at *
    generalize g2 a 1 2 = E at *
    generalize g2 a 2 2 = F at *
    clear hk hx hw ha he h e
    generalize hW0 : A * X0 + B * X1 + C * X2 = W0 at *
    generalize hW1 : B * X0 + D * X1 + E * X2 = W1 at *
    generalize hW2 : C * X0 + E * X1 + F * X2 = W2 at *
    have up := mean_up (x0 := X0) (x1 := X1) (x2 := X2) (w0 := W0) (w1 := W1) (w2 := W2) (a := X0 * X0 * A) (b := X0 * X1 * B) (c := X0 * X2 * C) (d := X1 * X1 * D) (e := X1 * X2 * E) (f := X2 * X2 * F) (S := X0 + X1 + X2) (P := X0 * W0 + X1 * W1 + X2 * W2)
      (Q := X0 * X0 * A * (W0 * W0) + X1 * X1 * D * (W1 * W1) + X2 * X2 * F * (W2 * W2) + 2 * (X0 * X1 * B * (W0 * W1)) + 2 * (X0 * X2 * C * (W0 * W2)) + 2 * (X1 * X2 * E * (W1 * W2))) x0 x1 x2 w0 w1 w2
      (Int.mul_nonneg (Int.mul_nonneg x0 x0) a00) (Int.mul_nonneg (Int.mul_nonneg x0 x1) a01) (Int.mul_nonneg (Int.mul_nonneg x0 x2) a02) (Int.mul_nonneg (Int.mul_nonneg x1 x1) a11) (Int.mul_nonneg (Int.mul_nonneg x1 x2) a12) (Int.mul_nonneg (Int.mul_nonneg x2 x2) a22) rfl hp
      (by rw [← hW0]; grind) (by rw [← hW1]; grind) (by rw [← hW2]; grind) rfl rfl
    refine fin_ (g := g) hg (by rw [Int.add_mul, Int.add_mul, k0, k1, k2]) ?_ up
    have z0 : (L0 * g) * (L0 * g) = (X0 * W0) * (X0 * W0) := by rw [k0]
    have z1 : (L0 * g) * (L1 * g) = (X0 * W0) * (X1 * W1) := by rw [k0, k1]
    have z2 : (L1 * g) * (L1 * g) = (X1 * W1) * (X1 * W1) := by rw [k1]
    have z3 : (L0 * g) * (L2 * g) = (X0 * W0) * (X2 * W2) := by rw [k0, k2]
    have z4 : (L1 * g) * (L2 * g) = (X1 * W1) * (X2 * W2) := by rw [k1, k2]
    have z5 : (L2 * g) * (L2 * g) = (X2 * W2) * (X2 * W2) := by rw [k2]
    have e1 : (L0 * (A * L0 + B * L1 + C * L2) + L1 * (B * L0 + D * L1 + E * L2) + L2 * (C * L0 + E * L1 + F * L2)) * (g * g) = A * ((L0 * g) * (L0 * g)) + 2 * (B * ((L0 * g) * (L1 * g))) + D * ((L1 * g) * (L1 * g)) + 2 * (C * ((L0 * g) * (L2 * g))) + 2 * (E * ((L1 * g) * (L2 * g))) + F * ((L2 * g) * (L2 * g)) := by
      clear up z0 z1 z2 z3 z4 z5 k0 k1 k2 hW0 hW1 hW2; grind
    rw [e1, z0, z1, z2, z3, z4, z5]
    clear up z0 z1 z2 z3 z4 z5 k0 k1 k2 hW0 hW1 hW2 e1
    grind
end Mean
end Go.Proofs.Ytoekpbcdgmejcaa

/- What rests stays. Plain. -/
namespace Go.Proofs.Ytoekpbcdgmejcaa

theorem sm_scale {L x : List Int} {g M : Int} : ∀ {k}, (∀ i, i < k → gi L i * g = M * gi x i) → sm L k * g = M * sm x k
  | 0, _ => by simp [sm]
  | k + 1, h => by rw [sm, sm, Int.add_mul, Int.mul_add, sm_scale (fun i hi => h i (by omega)), h k (by omega)]
theorem rest_stays {a : List (List Int)} {x : List Int} {n : Nat} (h : FS a x n) (r : RestP a x n) : ∀ i, i < n → gi (nsF a x) i * tot x = gi x i * tot (nsF a x) := by
  obtain ⟨g, hg, hl, hk⟩ := Mean.ns_key h
  generalize nsF a x = L at *
  have h0 : ∀ j, j < n → 0 ≤ gi x j := fun j hj => (h.x j hj).1
  have hp := h.s.2.2
  unfold tot at hp ⊢
  rw [hl]
  rw [h.xl] at hp ⊢
  obtain ⟨j, hj, hjp⟩ := sm_one h0 hp
  have hM : ∀ i, i < n → gi L i * g = dotr a x j n * gi x i := fun i hi => by
    rw [hk i hi]
    by_cases e : 0 < gi x i
    · have e2 : dotr a x i n = dotr a x j n := by have := r i hi e j hj; have := r j hj hjp i hi; omega
      rw [e2, Int.mul_comm]
    · have : gi x i = 0 := by have := h0 i hi; omega
      rw [this]; simp
  have hS := sm_scale hM
  intro i hi
  have h1 := hM i hi
  refine Int.eq_of_mul_eq_mul_right (show g ≠ 0 by omega) ?_
  have e1 : gi L i * sm x n * g = gi L i * g * sm x n := by grind
  have e2 : gi x i * sm L n * g = gi x i * (sm L n * g) := by grind
  rw [e1, e2, h1, hS]; grind
theorem ns_bd {a : List (List Int)} {x : List Int} {n : Nat} (h : FS a x n) : ∀ i, i < n → 0 ≤ gi (nsF a x) i ∧ gi (nsF a x) i ≤ 27000000 := fun i hi => by
  have h1 := h.nx hi
  have hg := h.clr.2
  rw [nsF_yes h, gi_clrL hi, gi_nxL hi]
  generalize gcdL (nxL a x n n) n = g at *
  generalize nxV a x n i = y at *
  have q1 : 0 ≤ max y (-y) / g := Int.ediv_nonneg (by omega) (by omega)
  have q2 : max y (-y) / g ≤ max y (-y) := Int.ediv_le_self _ (by omega)
  omega
end Go.Proofs.Ytoekpbcdgmejcaa

/- The harness of the exact laws, for slices of fractions. -/
namespace Go.Proofs.Ytoekpbcdgmejcaa
open Go.RowKit

/-- A slice of fractions whose cells read as ints, two each. -/
structure Frs (w : World) (A : Option Addr) (n c : Nat) (L : List Int) : Prop where
  len : L.length = 2 * n
  cap : n ≤ c
  max : n ≤ 1000
  at_ : 0 < n → ∃ b o, A = some ⟨b, o, none⟩ ∧ ∀ k, k < 2 * n → w.cell? ⟨b, o + k, none⟩ = some (.int .i64 (gi L k))
theorem Frs.keep {w w' : World} {A n c L} (h : Frs w A n c L) (k : Keep w w') : Frs w' A n c L :=
  ⟨h.len, h.cap, h.max, fun hn => let ⟨b, o, e, hc⟩ := h.at_ hn; ⟨b, o, e, fun i hi => k _ _ (hc i hi)⟩⟩
structure OwnF (lo hi : Nat) (w : World) (b : Nat) (A : Option Addr) (n c : Nat) (L : List Int) : Prop where
  frs : Frs w A n c L
  own : 0 < n → ∃ o, A = some ⟨b, o, none⟩ ∧ lo ≤ b ∧ b < hi ∧ ∀ k, k < 2 * n → w.frozen? ⟨b, o + k, none⟩ = false
theorem OwnF.lt {lo hi w b A n c L} (h : OwnF lo hi w b A n c L) (hn : 0 < n) : b < w.heap.size := by
  obtain ⟨b', o', e, hc⟩ := h.frs.at_ hn
  obtain ⟨o, e', _⟩ := h.own hn
  rw [e] at e'
  injection e' with e'
  injection e' with e1 _ _
  rw [← e1]
  exact World.block_lt_of_cell? w _ (hc 0 (by omega))
theorem OwnF.of_block {lo hi w w' b A n c L} (h : OwnF lo hi w b A n c L) (e : 0 < n → w'.heap[b]? = w.heap[b]?) : OwnF lo hi w' b A n c L := by
  refine ⟨⟨h.frs.len, h.frs.cap, h.frs.max, fun hn => ?_⟩, fun hn => ?_⟩
  · obtain ⟨b', o', e1, hc⟩ := h.frs.at_ hn
    obtain ⟨o, e2, _⟩ := h.own hn
    rw [e1] at e2
    injection e2 with e2
    injection e2 with e2 _ _
    subst e2
    exact ⟨b', o', e1, fun k hk => by rw [World.cell?_of_block (w := w) (e hn)]; exact hc k hk⟩
  · obtain ⟨o, e2, hB, hB2, hf⟩ := h.own hn
    exact ⟨o, e2, hB, hB2, fun k hk => by rw [World.frozen?_of_block (w := w) (e hn)]; exact hf k hk⟩
theorem OwnF.mono {lo hi lo' hi' w b A n c L} (h : OwnF lo hi w b A n c L) (hB : lo' ≤ lo) (hB' : hi ≤ hi') : OwnF lo' hi' w b A n c L :=
  ⟨h.frs, fun hn => let ⟨o, e, h1, h2, h3⟩ := h.own hn; ⟨o, e, Nat.le_trans hB h1, Nat.lt_of_lt_of_le h2 hB', h3⟩⟩
theorem OwnF.below {lo hi w w' b A n c L} (h : OwnF lo hi w b A n c L) (k : Below w.heap.size w w') : OwnF lo hi w' b A n c L := h.of_block fun hn => k.block _ (h.lt hn)
theorem OwnF.touch {lo hi lo' hi' w w' b A n c L} (h : OwnF lo hi w b A n c L) (k : Touch lo' hi' w w') (hd : hi ≤ lo' ∨ hi' ≤ lo) : OwnF lo hi w' b A n c L :=
  h.of_block fun hn => k.block _ (by obtain ⟨_, _, h1, h2, _⟩ := h.own hn; omega)
theorem OwnF.one {lo hi g w w' b A n c L} (h : OwnF lo hi w b A n c L) (k : One g w w') (hne : b ≠ g) : OwnF lo hi w' b A n c L := h.of_block fun _ => k.block b hne
theorem OwnF.nil (lo hi : Nat) (w : World) (b : Nat) : OwnF lo hi w b none 0 0 [] :=
  ⟨⟨rfl, Nat.le_refl _, by omega, fun h => absurd h (by omega)⟩, fun h => absurd h (by omega)⟩
theorem OwnF.set {lo hi w b o n c L} (h : OwnF lo hi w b (some ⟨b, o, none⟩) n c L) {i : Nat} (hi' : i < 2 * n) (v : Int) :
    OwnF lo hi (w.setCell ⟨b, o + i, none⟩ (.int .i64 v)) b (some ⟨b, o, none⟩) n c (L.set i v) := by
  have hl := h.frs.len
  obtain ⟨o', e, h1, h2, hf⟩ := h.own (by omega)
  injection e with e
  injection e with _ e _
  subst e
  obtain ⟨b', o', e, hc⟩ := h.frs.at_ (by omega)
  injection e with e
  injection e with e1 e2 _
  subst e1
  subst e2
  refine ⟨⟨by rw [List.length_set]; exact hl, h.frs.cap, h.frs.max, fun _ => ⟨b, o, rfl, fun k hk => ?_⟩⟩, fun _ => ⟨o, rfl, h1, h2, fun k hk => ?_⟩⟩
  · by_cases e : k = i
    · subst e
      rw [gi_set_eq (by omega), World.cell?_setCell_same w _ _ (hc k hk)]
    · rw [gi_set_ne (by omega) e, World.cell?_setCell_other w _ _ _ (fun e' => by injection e' with _ e' _; omega)]
      exact hc k hk
  · rw [World.frozen?_setCell]; exact hf k hk
/-- A new slice of fractions. -/
def NewF (w : World) (L : List Int) (e : Ending) (w' : World) : Prop :=
  ∃ Av n c gg, e = .returned (.slice Av n c) ∧ L.length = 2 * n ∧ OwnF w.heap.size w'.heap.size w' gg Av n c L ∧ Below w.heap.size w w'
theorem NewF.ge {w w' : World} {L : List Int} {e : Ending} (h : NewF w L e w') :
    ∃ Av c gg, e = .returned (.slice Av (L.length / 2) c) ∧ OwnF w.heap.size w'.heap.size w' gg Av (L.length / 2) c L ∧ w.heap.size ≤ gg ∧ Below w.heap.size w w' := by
  obtain ⟨Av, n, c, gg, rfl, hn, ho, hb⟩ := h
  obtain rfl : n = L.length / 2 := by omega
  by_cases h0 : 0 < L.length / 2
  · obtain ⟨o, e, h1, h2, hf⟩ := ho.own h0
    exact ⟨Av, c, gg, rfl, ho, h1, hb⟩
  · exact ⟨Av, c, w.heap.size, rfl, ⟨ho.frs, fun hn => absurd hn h0⟩, Nat.le_refl _, hb⟩

theorem NewF.geN {w w' : World} {L : List Int} {e : Ending} {N : Nat} (h : NewF w L e w') (hN : L.length = 2 * N) :
    ∃ Av c gg, e = .returned (.slice Av N c) ∧ OwnF w.heap.size w'.heap.size w' gg Av N c L ∧ w.heap.size ≤ gg ∧ Below w.heap.size w w' := by
  have := h.ge
  rw [show L.length / 2 = N by omega] at this
  exact this


def MarkedF (lo hi : Nat) (w : World) (b : Nat) (A : Option Addr) (n c : Nat) (k : Int) (e : Ending) (w' : World) : Prop :=
  e = .returned (.int .i64 (k + (2 * n : Nat))) ∧ OwnF lo hi w' b A n c (seqI k (2 * n)) ∧ (n = 0 → w = w') ∧ One b w w'


end Go.Proofs.Ytoekpbcdgmejcaa

/- Fractions under way: a slice made by append. -/
namespace Go.Proofs.Ytoekpbcdgmejcaa
open Go.RowKit

theorem gi_append_lt {L M : List Int} {k : Nat} (h : k < L.length) : gi (L ++ M) k = gi L k := by
  rw [gi_get (by rw [List.length_append]; omega), gi_get h, List.getElem_append_left h]
theorem gi_append_ge {L M : List Int} {k : Nat} (h : k < M.length) : gi (L ++ M) (L.length + k) = gi M k := by
  rw [gi_get (by rw [List.length_append]; omega), gi_get h, List.getElem_append_right (by omega)]
  simp
/-- Fractions under way: a slice made by append. -/
structure FU (wb : World) (v : Value) (n : Nat) (L : List Int) (w : World) : Prop where
  own : w.ownsRow wb.heap.size 37 2 v n (L.map iv)
  hi_ : ∀ k, v.ownBlock = some k → k < w.heap.size
  up : Below wb.heap.size wb w
theorem FU.start (wb : World) : FU wb (.slice (some ⟨wb.heap.size, 0, none⟩) 0 0) 0 [] (wb.alloc (.cells #[] 37)) :=
  ⟨World.ownsRow_made (e := 37) (size := 2) wb #[] 0 (Nat.le_refl _) (Nat.zero_le _) rfl, fun k hk => by simp [Value.ownBlock] at hk; simp; omega, below_alloc _ _⟩
theorem FU.next {wb v n L w w'} (h : FU wb v n L w) (k : Below w.heap.size w w') : FU wb v n L w' :=
  ⟨blk_kept h.own fun g hg => k.block g (h.hi_ g hg), fun g hg => Nat.lt_of_lt_of_le (h.hi_ g hg) k.size, below_up h.up k⟩
theorem FU.form {wb v n L w} (h : FU wb v n L w) : ∃ A c, v = .slice A n c := by
  rcases h.own.2 with ⟨rfl, h0⟩ | ⟨g, cap, cur, rfl, _⟩
  · exact ⟨none, 0, by rw [h0]⟩
  · exact ⟨_, _, rfl⟩
theorem FU.len {wb v n L w} (h : FU wb v n L w) : L.length = 2 * n := by have := h.own.1; rw [List.length_map] at this; omega
theorem FU.push {wb v v' n L w w' u d} (h : FU wb v n L w) (hown : w'.ownsRow wb.heap.size 37 2 v' (n + 1) (L.map iv ++ [iv u, iv d]))
    (hgrow : (w.alloc (.cells #[iv u, iv d] 37)).grownBy w' v.ownBlock) (hat : v'.ownBlock = v.ownBlock ∨ v'.ownBlock = some (w.heap.size + 1)) : FU wb v' (n + 1) (L ++ [u, d]) w' := by
  have hsz := hgrow.size
  simp only [World.size_alloc] at hsz
  have hu : ∀ k, v.ownBlock = some k → wb.heap.size ≤ k := fun k hk => (h.own.lt k hk).1
  have hbelow : ∀ k, k < wb.heap.size → w'.heap[k]? = w.heap[k]? := fun k hk => by
    have := h.up.size
    exact (hgrow.block k (by simp; omega) (fun e => by have := hu k e.symm; omega)).trans (Below.heap_alloc _ _ _ (by omega))
  refine ⟨by rw [List.map_append]; exact hown, fun k hk => ?_, ?_⟩
  · rcases hat with hat | hat
    · have := h.hi_ k (by rw [← hat]; exact hk); omega
    · have := (hown.lt k hk).2; omega
  · exact ⟨hgrow.os.trans h.up.os, hgrow.tape.trans h.up.tape, hgrow.output.trans h.up.output, by have := h.up.size; omega, fun k hk => (hbelow k hk).trans (h.up.block k hk)⟩
theorem FU.new {wb n L w} {A : Option Addr} {c : Nat} (h : FU wb (.slice A n c) n L w) (hm : n ≤ 1000) : NewF wb L (.returned (.slice A n c)) w := by
  have hl := h.len
  have hh := h.hi_
  rcases h.own.2 with ⟨e, h0⟩ | ⟨g, cap, cur, e, hb, hg, hnc, _, hcs, htake⟩
  · injection e with e1 e2 e3
    subst e1
    subst e3
    subst h0
    have : L = [] := List.eq_nil_of_length_eq_zero (by omega)
    subst this
    exact ⟨none, 0, 0, 0, rfl, rfl, OwnF.nil _ _ _ _, h.up⟩
  · injection e with e1 e2 e3
    subst e1
    subst e3
    refine ⟨_, n, c, g, rfl, hl, ⟨⟨hl, hnc, hm, fun _ => ⟨g, 0, rfl, fun k hk => ?_⟩⟩, fun _ => ⟨0, rfl, hb, hh g rfl, fun k _ => ?_⟩⟩, h.up⟩
    · rw [Nat.zero_add, ← getElem_iv (by omega : k < L.length), ← htake, List.getElem?_take, if_pos (by omega)]
      simp [World.cell?, hg]
    · rw [Nat.zero_add]; simp [World.frozen?, hg]
theorem cells_two_new (w : World) (u d : Int) : ∀ j v, [iv u, iv d][j]? = some v → (w.alloc (.cells #[iv u, iv d] 37)).cell? ((⟨w.heap.size, 0, none⟩ : Addr).add j) = some v := fun j v h => by
  have hadd : (⟨w.heap.size, 0, none⟩ : Addr).add j = ⟨w.heap.size, j, none⟩ := by unfold Addr.add; split <;> simp_all
  rw [hadd]
  exact blk_cell (blk_new w _ _) (by simpa using h)
theorem NewF.empty {w w' : World} {ys : List Int} (h : Below w.heap.size w w') (hy : ys = []) : NewF w ys (.returned (.slice none 0 0)) w' := by
  subst hy; exact ⟨none, 0, 0, 0, rfl, rfl, OwnF.nil _ _ _ _, h⟩
theorem NewF.from {w w1 w2 : World} {ys : List Int} {e : Ending} (h : Below w.heap.size w w1) (k : NewF w1 ys e w2) : NewF w ys e w2 := by
  obtain ⟨A, n, c, g, he, hn, ho, hb⟩ := k
  exact ⟨A, n, c, g, he, hn, ho.mono h.size (Nat.le_refl _), below_up h hb⟩
theorem Try.infoF : (Try.prog.info? 37).map (fun i => (i.zero, i.size, i.bytes)) = some (some (.agg #[.int .i64 0, .int .i64 0]), 2, 16) := by kernel_rfl

end Go.Proofs.Ytoekpbcdgmejcaa

/- NextShares, by the program. -/
namespace Go.Proofs.Ytoekpbcdgmejcaa
open Go.RowKit

/-- The next shares on their way, beside the closure's boxes. -/
structure NL (n g pa pw b o c cw : Nat) (Y : Option Addr) (w : World) (L : List Int) (W : World) : Prop where
  nx : NX w n g L W
  ca : W.cell? ⟨pa, 0, none⟩ = some (.slice (some ⟨b, o, none⟩) n c)
  cs : W.cell? ⟨pw, 0, none⟩ = some (.slice Y n cw)
  ha : pa ≠ g
  hs : pw ≠ g
theorem NL.next {n g pa pw b o c cw Y w L W W'} (h : NL n g pa pw b o c cw Y w L W) (k : Below W.heap.size W W') : NL n g pa pw b o c cw Y w L W' :=
  ⟨h.nx.next k, Keep.below k _ _ h.ca, Keep.below k _ _ h.cs, h.ha, h.hs⟩
theorem NL.set {n g pa pw b o c cw Y w L W} (h : NL n g pa pw b o c cw Y w L W) {i : Nat} (hi : i < n) {v : Int} (hv : -9223372036854775808 ≤ v ∧ v ≤ 9223372036854775807) :
    NL n g pa pw b o c cw Y w (L.set i v) (W.setCell ⟨g, i, none⟩ (.int .i64 v)) :=
  ⟨h.nx.set hi hv, by rw [World.cell?_setCell_other _ _ _ _ (by intro e; have := congrArg Addr.block e; first | exact h.ha this | exact h.ha this.symm)]; exact h.ca, by rw [World.cell?_setCell_other _ _ _ _ (by intro e; have := congrArg Addr.block e; first | exact h.hs this | exact h.hs this.symm)]; exact h.cs, h.ha, h.hs⟩
theorem NL.pa {n g pa pw b o c cw Y w L W} {a : List (List Int)} {x : List Int} {rb ro cc : Nat → Nat} (h : NL n g pa pw b o c cw Y w L W) (ht : Tab w b o rb ro cc n n a) (hx : Ints w Y n cw x) (hb : ∀ j, j < n → 0 ≤ gi x j ∧ gi x j ≤ 1000) :
    PA a x n pa pw b o c cw rb ro cc Y W := ⟨ht.keep (Keep.below h.nx.up), hx.keep (Keep.below h.nx.up), hb, h.ca, h.cs⟩

set_option maxRecDepth 100000 in
set_option maxHeartbeats 3200000 in
theorem NextShares_impl (A : Option Addr) (n c : Nat) (a : List (List Int)) (X : Option Addr) (nx cx : Nat) (x : List Int) (w : World) (ha : IntRows w A n c a) (hx : Ints w X nx cx x) :
    Calls Try.prog 31 #[.slice A n c, .slice X nx cx] w (NewI w (nsF a x)) := by
  have HX := Lib.hid ha
  have HY := Lib.hid hx
  have hl := ha.len
  have hlx := hx.len
  clear ha hx
  have HC := Lib.hid (ValidField_impl A n c a w HX.out)
  by_cases hv : VF a
  · rw [pb_true hv] at HC
    have hn1 := hv.q.1.n1
    have hn3 := hv.q.1.n3
    rw [hl] at hn1 hn3
    have hvs := hv.q.1.vsn x
    rw [hl] at hvs
    by_cases hs : VS x (n : Int)
    · have HF := Lib.hid (FS.of hl hv hs)
      have HS := Lib.hid (fun W (k : Keep w W) => (hvs.trans (pb_true hs)) ▸ ValidShares_impl X nx cx x (n : Int) W (HY.out.keep k))
      have hm := hv.q.len2' hl
      obtain ⟨b, o, rb, ro, cc, rfl, tab⟩ := HX.out.tab hv.q.1
      rw [hm] at tab
      have HT := Lib.hid tab
      obtain rfl : n = nx := by have := hs.1; omega
      have HNS := Lib.hid (nsF_yes HF.out)
      have HXL := Lib.hid HF.out.xl
      clear hm tab hv hs hl hlx hvs
      go_enter Try.func31, Try.ntmps31
      go_wp2_with fail
      refine HC.out.mono ?_
      rintro e w1 ⟨rfl, hb⟩
      have HB1 := Lib.hid (show Below w.heap.size w w1 from hb)
      clear hb HC
      have HC := Lib.hid (HS.out w1 (Keep.below HB1.out))
      go_wp2_with fail
      refine HC.out.mono ?_
      rintro e w2 ⟨rfl, hq⟩
      have HB2 := Lib.hid (below_quiet HB1.out hq)
      clear hq HC HB1
      have HC := Lib.hid (copyOf_any X n cx x w2 (HY.out.keep (Keep.below HB2.out)) hn1 hn3)
      go_wp2_with fail
      refine HC.out.mono ?_
      rintro e w3 ⟨rfl, hnx⟩
      have HNX := Lib.hid hnx
      have HT2 := Lib.hid (HT.out.keep (Keep.below HB2.out))
      have HY2 := Lib.hid (HY.out.keep (Keep.below HB2.out))
      clear hnx HC HT HY HX HS
      have HC := Lib.hid (payAgainst_far a x n b o c cx rb ro cc X w3 (HT2.out.keep (Keep.below HNX.out.up)) (HY2.out.keep (Keep.below HNX.out.up)) HF.out.x)
      go_wp2_with fail
      refine HC.out.mono ?_
      rintro e w4 ⟨pa, pw, rfl, ⟨hp, hb⟩, hpa, hpw⟩
      have hg3 : w2.heap.size < w3.heap.size := by obtain ⟨_, _, _, h2, _⟩ := HNX.out.own.own (by omega); omega
      have HM0 := Lib.hid (show mixT (nxV a x n) (gi x) n 0 = x by rw [mixT_zero]; have := list_range x; rw [HXL.out] at this; exact this)
      have HL0 := Lib.hid (show NL n w2.heap.size pa pw b o c cx X w2 (mixT (nxV a x n) (gi x) n 0) w4 from ⟨by rw [HM0.out]; exact HNX.out.next hb, hp.ca, hp.cs, by omega, by omega⟩)
      clear hp hb HC HNX hpa hpw hg3 HM0
      generalize w2.heap.size = g at HL0 ⊢
      go_wp2
      go_loopw [27] (fun i_ wr => ∃ k : Nat, k ≤ n ∧ i_ = .int .i64 k ∧ Hid (NL n g pa pw b o c cx X w2 (mixT (nxV a x n) (gi x) n k) wr)) (fun i_ _ => n - (intOf i_).toNat)
      case atStart => exact ⟨0, Nat.zero_le _, rfl, HL0⟩
      case round =>
        clear HL0
        obtain ⟨k, hk, rfl, HL⟩ := hrel
        by_cases hlt : k < n
        · have k1 := HL.out.nx.cell hlt
          have k2 := HL.out.nx.frozen hlt
          have HG : Hid (gi (mixT (nxV a x n) (gi x) n k) k = gi x k) := Lib.hid (by rw [gi_mixT hlt, if_neg (by omega)])
          have HST := Lib.hid (mixT_set (f := nxV a x n) (h := gi x) (n := n) (k := k))
          have hnv := HF.out.nx hlt
          have HNV : Hid (nxV a x n k = gi x k * dotr a x k n) := Lib.hid rfl
          obtain ⟨d1, d2⟩ := HF.out.dot hlt
          obtain ⟨x1, x2⟩ := HF.out.x k hlt
          rw [HG.out] at k1
          rw [HNV.out] at hnv HST
          obtain ⟨v1, v2, -⟩ := hnv
          have HPAY := Lib.hid (fun W (h : NL n g pa pw b o c cx X w2 (mixT (nxV a x n) (gi x) n k) W) => payAt_any a x n pa pw b o c cx rb ro cc X W (h.pa HT2.out HY2.out HF.out.x) k hlt)
          generalize dotr a x k n = D at *
          have HW : Hid (IntKind.i64.wrap (gi x k * D) = gi x k * D) := Lib.hid (wrap_in64 (by omega))
          go_wp2
          go_region_law ((go_simp; go_at_call 96; refine (HPAY.out _ (HL.out.next (Quiet.below ⟨1, rfl⟩))).mono ?_; rintro e w5 ⟨rfl, hb⟩; have HL2 := Lib.hid ((HL.out.next (Quiet.below (B := wr.heap.size) ⟨1, rfl⟩)).next hb); have k5 := HL2.out.nx.cell hlt; have k6 := HL2.out.nx.frozen hlt; rw [HG.out] at k5; clear hb HL))
          all_goals
            have HL3 := Lib.hid (HL2.out.set hlt (v := gi x k * D) (by omega))
            rw [HST.out] at HL3
            clear k1 k2 k5 k6
            go_wp2
            go_roundw
            case rel => exact ⟨k + 1, by omega, by go_num, Lib.hid (by first | exact HL3.out | exact HL3.out.next (Quiet.below ⟨1, rfl⟩) | exact HL3.out.next (Quiet.below ⟨_, rfl⟩))⟩
            case measure => simp [intOf]; omega
        · obtain rfl : k = n := by omega
          have HA := Lib.hid (show mixT (nxV a x k) (gi x) k k = nxL a x k k from mixT_all _ _ _)
          rw [HA.out] at HL
          have HC := Lib.hid (commonFactor_any _ k k (nxL a x k k) wr HL.out.nx.own.ints HF.out.mid)
          have HN1 := Lib.hid HL.out.nx
          have HG0 := Lib.hid HF.out.clr.2
          have hgb := (gcdL_mid HF.out.mid (k := k) (by rw [nxL_len]; exact Nat.le_refl k))
          obtain ⟨g1, g2⟩ := hgb
          have hg0 := HF.out.clr.2
          clear HL
          generalize gcdL (nxL a x k k) k = G at *
          go_wp2_with fail
          refine HC.out.mono ?_
          rintro e w5 ⟨rfl, hq⟩
          have HN2 := Lib.hid (HN1.out.next hq.below)
          have HM1 := Lib.hid (show mixT (fun i => nxV a x k i / G) (nxV a x k) k 0 = nxL a x k k from mixT_zero _ _ _)
          rw [← HM1.out] at HN2
          clear hq HC HN1
          go_wp2
          go_loopw [44] (fun i_ wr => ∃ q : Nat, q ≤ k ∧ i_ = .int .i64 q ∧ Hid (NX w2 k g (mixT (fun i => nxV a x k i / G) (nxV a x k) k q) wr)) (fun i_ _ => k - (intOf i_).toNat)
          case atStart => exact ⟨0, Nat.zero_le _, rfl, HN2⟩
          case round =>
            clear HN2
            obtain ⟨q, hq, rfl, HN⟩ := hrel
            by_cases hql : q < k
            · have k1 := HN.out.cell hql
              have k2 := HN.out.frozen hql
              have HGI : Hid (gi (mixT (fun i => nxV a x k i / G) (nxV a x k) k q) q = nxV a x k q) := Lib.hid (by rw [gi_mixT hql, if_neg (by omega)])
              rw [HGI.out] at k1
              have HST := Lib.hid (mixT_set (f := fun i => nxV a x k i / G) (h := nxV a x k) (n := k) (k := q))
              obtain ⟨v1, v2, -⟩ := HF.out.nx hql
              have hd1 : 0 ≤ nxV a x k q / G := Int.ediv_nonneg v1 (by omega)
              have hd2 : nxV a x k q / G ≤ nxV a x k q := Int.ediv_le_self _ v1
              have HS3 := Lib.hid (HN.out.set hql (v := nxV a x k q / G) (by omega))
              rw [HST.out] at HS3
              have hg0' : (G == 0) = false := by simp; omega
              generalize nxV a x k q = v at *
              clear HN
              go_wp2
              clear k1 k2
              go_roundw
              case rel => exact ⟨q + 1, by omega, by go_num, HS3⟩
              case measure => simp [intOf]; omega
            · obtain rfl : q = k := by omega
              have HNW := Lib.hid (show NewI w (nsF a x) (.returned (.slice (some ⟨g, 0, none⟩) q q)) wr from by
                refine NewI.from HB2.out ?_
                have e : mixT (fun i => nxV a x q i / G) (nxV a x q) q q = nsF a x := by
                  rw [HNS.out, mixT_all]
                  refine gi_ext (by rw [clrL_len]; simp) fun p hp => ?_
                  have hp' : p < q := by simpa using hp
                  rw [gi_range hp', gi_clrL hp', gi_nxL hp']
                  have := (HF.out.nx hp').1
                  rw [show max (nxV a x q p) (-nxV a x q p) = nxV a x q p by omega]
                have ho := HN.out.own
                rw [e] at ho
                exact ⟨_, _, _, g, rfl, ho.ints.len.symm, ho, HN.out.up⟩)
              go_wp2
              go_ret
              exact HNW.out
    · have HN := Lib.hid (nsF_no (a := a) (x := x) (fun h => hs (by have := h.2; rw [hl] at this; exact this)))
      have HS := Lib.hid (fun W (k : Keep w W) => (hvs.trans (pb_false hs)) ▸ ValidShares_impl X nx cx x (n : Int) W (HY.out.keep k))
      clear hv hs hl hlx hvs
      go_enter Try.func31, Try.ntmps31
      go_wp2_with fail
      refine HC.out.mono ?_
      rintro e w1 ⟨rfl, hb⟩
      have HB1 := Lib.hid (show Below w.heap.size w w1 from hb)
      clear hb HC
      have HC := Lib.hid (HS.out w1 (Keep.below HB1.out))
      go_wp2_with fail
      refine HC.out.mono ?_
      rintro e w2 ⟨rfl, hq⟩
      have HB2 := Lib.hid (below_quiet HB1.out hq)
      clear hq HC HB1
      go_wp2
      go_ret
      exact NewI.empty HB2.out HN.out
  · rw [pb_false hv] at HC
    have HN := Lib.hid (nsF_no (a := a) (x := x) (fun h => hv h.1))
    clear hv hl hlx
    go_enter Try.func31, Try.ntmps31
    go_wp2_with fail
    refine HC.out.mono ?_
    rintro e w1 ⟨rfl, hb⟩
    go_wp2
    go_ret
    exact NewI.empty hb HN.out
end Go.Proofs.Ytoekpbcdgmejcaa

/- Growth, by the model: a slice of fractions made by append. -/
namespace Go.Proofs.Ytoekpbcdgmejcaa
open Go.RowKit

theorem payR_dot (a : List (List Int)) (x y : List Int) (i : Nat) : ∀ j, payR a x y i j = gi x i * dotr a y i j
  | 0 => by simp [payR, dotr]
  | j + 1 => by
    rw [payR, dotr, payR_dot a x y i j, Int.mul_add]
    have : gi x i * gi y j * g2 a i j = gi x i * (g2 a i j * gi y j) := by rw [Int.mul_assoc, Int.mul_comm (gi y j)]
    omega
theorem payU_ge {a : List (List Int)} {x : List Int} {n : Nat} (hx : ∀ j, j < n → 0 ≤ gi x j) (hd : ∀ i, i < n → 1 ≤ dotr a x i n) : ∀ {k}, k ≤ n → sm x k ≤ payU a x x n k
  | 0, _ => Int.le_refl _
  | k + 1, h => by
    have h1 := payU_ge hx hd (k := k) (by omega)
    have h2 : gi x k * 1 ≤ gi x k * dotr a x k n := Int.mul_le_mul_of_nonneg_left (hd k (by omega)) (hx k (by omega))
    rw [payU, payR_dot, sm]
    omega
/-- What a strategy grows by, above and below the line. -/
def gU (a : List (List Int)) (x : List Int) (n i : Nat) : Int := dotr a x i n * tot x
def gP (a : List (List Int)) (x : List Int) (n : Nat) : Int := payU a x x n n
def grL (a : List (List Int)) (x : List Int) (n : Nat) : Nat → List Int
  | 0 => []
  | i + 1 => grL a x n i ++ [frU (gU a x n i) (gP a x n), frD (gU a x n i) (gP a x n)]
theorem grL_len (a : List (List Int)) (x : List Int) (n : Nat) : ∀ i, (grL a x n i).length = 2 * i
  | 0 => rfl
  | i + 1 => by rw [grL, List.length_append, grL_len a x n i]; simp; omega
theorem gi_grL (a : List (List Int)) (x : List Int) (n : Nat) : ∀ {k i}, i < k → gi (grL a x n k) (i * 2) = frU (gU a x n i) (gP a x n) ∧ gi (grL a x n k) (i * 2 + 1) = frD (gU a x n i) (gP a x n)
  | 0, _, h => absurd h (by omega)
  | k + 1, i, h => by
    have hl := grL_len a x n k
    rw [grL]
    by_cases e : i = k
    · subst e
      have h0 := gi_append_ge (L := grL a x n i) (M := [frU (gU a x n i) (gP a x n), frD (gU a x n i) (gP a x n)]) (k := 0) (by simp)
      have h1 := gi_append_ge (L := grL a x n i) (M := [frU (gU a x n i) (gP a x n), frD (gU a x n i) (gP a x n)]) (k := 1) (by simp)
      rw [hl] at h0 h1
      rw [show i * 2 = 2 * i + 0 by omega, h0, show 2 * i + 0 + 1 = 2 * i + 1 by omega, h1]
      exact ⟨rfl, rfl⟩
    · rw [gi_append_lt (by omega), gi_append_lt (by omega)]
      exact gi_grL a x n (by omega)
theorem FS.gu {a x n} (h : FS a x n) {i : Nat} (hi : i < n) : 1 ≤ gU a x n i ∧ gU a x n i ≤ 81000000 := by
  have h1 := h.dot hi
  have h2 := h.s.bd (by have := h.n3; omega)
  unfold gU
  have h3 : 1 * 1 ≤ dotr a x i n * tot x := Int.mul_le_mul h1.1 (by omega) (by omega) (by omega)
  have h4 : dotr a x i n * tot x ≤ 27000 * 3000 := Int.mul_le_mul h1.2 h2.2 (by omega) (by omega)
  omega
theorem FS.pb {a x n} (h : FS a x n) : PB a x x n n := ⟨fun i j hi hj => by have := h.a hi hj; omega, h.x, h.x⟩
theorem FS.gp {a x n} (h : FS a x n) : 1 ≤ gP a x n ∧ gP a x n ≤ 81000000 := by
  have h0 := h.n3
  have h1 := payU_ge (a := a) (x := x) (n := n) (fun j hj => (h.x j hj).1) (fun i hi => (h.dot hi).1) (Nat.le_refl n)
  have h2 := payU_bd h.pb h0.2 (Nat.le_refl n)
  have h3 := h.s.2.2
  unfold tot at h3
  rw [h.xl] at h3
  unfold gP
  omega
noncomputable def grF (a : List (List Int)) (x : List Int) : List Int := if pb (VF a ∧ VS x a.length) = true then grL a x a.length a.length else []
theorem grF_yes {a : List (List Int)} {x : List Int} {n : Nat} (h : FS a x n) : grF a x = grL a x n n := by
  unfold grF; rw [if_pos (pb_true ⟨h.f, by rw [h.l]; exact h.s⟩), h.l]
theorem grF_no {a : List (List Int)} {x : List Int} (h : ¬ (VF a ∧ VS x a.length)) : grF a x = [] := by unfold grF; rw [if_neg (by rw [pb_false h]; decide)]
theorem grF_le (a : List (List Int)) (x : List Int) : (grF a x).length ≤ 100 ∧ 2 * ((grF a x).length / 2) = (grF a x).length := by
  by_cases h : VF a ∧ VS x a.length
  · have hf : FS a x a.length := ⟨h.1, h.2, rfl⟩
    have := hf.n3
    rw [grF_yes hf, grL_len]; omega
  · rw [grF_no h]; simp

theorem grF_two (a : List (List Int)) (x : List Int) : ∃ N, (grF a x).length = 2 * N ∧ N ≤ 50 := ⟨(grF a x).length / 2, (grF_le a x).2.symm, by have := (grF_le a x).1; omega⟩

set_option maxRecDepth 100000 in
set_option maxHeartbeats 3200000 in
theorem GrowthOf_spec (A : Option Addr) (n c : Nat) (a : List (List Int)) (X : Option Addr) (nx cx : Nat) (x : List Int) (w : World) (ha : IntRows w A n c a) (hx : Ints w X nx cx x) :
    Calls Try.prog 43 #[.slice A n c, .slice X nx cx] w (NewF w (grF a x)) := by
  have HX := Lib.hid ha
  have HY := Lib.hid hx
  have hl := ha.len
  have hlx := hx.len
  clear ha hx
  by_cases hv : VF a
  · have HC := Lib.hid (pb_true hv ▸ validField_any A n c a w HX.out)
    have hn1 := hv.q.1.n1
    have hn3 := hv.q.1.n3
    rw [hl] at hn1 hn3
    by_cases hs : VS x (n : Int)
    · have HF := Lib.hid (FS.of hl hv hs)
      have HS := Lib.hid (fun W (k : Keep w W) => pb_true hs ▸ validShares_any X nx cx x (n : Int) W (HY.out.keep k) (by omega))
      have hm := hv.q.len2' hl
      obtain ⟨b, o, rb, ro, cc, rfl, tab⟩ := HX.out.tab hv.q.1
      rw [hm] at tab
      have HT := Lib.hid tab
      obtain rfl : n = nx := by have := hs.1; omega
      have HGF := Lib.hid (grF_yes HF.out)
      have HSU := Lib.hid (hs.sumOk (by omega))
      have HPB := Lib.hid (fun i => (⟨tab.bd, onl_bds n i, HF.out.x⟩ : PB a (onl n i) x n n))
      have HPU := Lib.hid (fun i (hi : i < n) => payU_alone a x n n i hi)
      obtain ⟨i0, hi0, hz0, hz1, hz2⟩ := info_parts Try.infoF
      clear hm tab hv hs hl hlx
      go_enter Try.func43, Try.ntmps43
      go_wp2_with fail
      refine HC.out.mono ?_
      rintro e w1 ⟨rfl, hq⟩
      have HB1 := Lib.hid (show Below w.heap.size w w1 from hq.below)
      clear hq HC
      have HC := Lib.hid (HS.out w1 (Keep.below HB1.out))
      go_wp2_with fail
      refine HC.out.mono ?_
      rintro e w2 ⟨rfl, hq⟩
      have HB2 := Lib.hid (below_quiet HB1.out hq)
      have HT2 := Lib.hid (HT.out.keep (Keep.below HB2.out))
      have HY2 := Lib.hid (HY.out.keep (Keep.below HB2.out))
      clear hq HC HB1 HX HY HT HS
      have HS0 := Lib.hid (FU.start w2)
      have HZ : Hid (grL a x n 0 = []) := Lib.hid rfl
      go_wp2
      go_loopw [5, 6] (fun v i wr => ∃ k : Nat, k ≤ n ∧ i = .int .i64 k ∧ Hid (FU w2 v k (grL a x n k) wr)) (fun _ i _ => n - (intOf i).toNat)
      case atStart => exact ⟨0, Nat.zero_le _, rfl, Lib.hid (by rw [HZ.out]; exact HS0.out)⟩
      case round =>
        clear HS0 HZ
        obtain ⟨k, hk, rfl, HU⟩ := hrel
        obtain ⟨Av, cv, rfl⟩ := HU.out.form
        by_cases hlt : k < n
        · have HCS : Hid (grL a x n (k + 1) = grL a x n k ++ [frU (gU a x n k) (gP a x n), frD (gU a x n k) (gP a x n)]) := Lib.hid rfl
          obtain ⟨u1, u2⟩ := HF.out.gu hlt
          obtain ⟨p1, p2⟩ := HF.out.gp
          have HGU : Hid (dotr a x k n * tot x = gU a x n k) := Lib.hid rfl
          have HGP : Hid (payU a x x n n = gP a x n) := Lib.hid rfl
          have hmul : IntKind.i64.wrap (dotr a x k n * tot x) = gU a x n k := by rw [HGU.out]; exact wrap_in64 (by omega)
          have HML := Lib.hid HU.out.len
          have HC := Lib.hid (alone_spec n k wr (by omega) hlt)
          go_wp2_with fail
          refine HC.out.mono ?_
          rintro e w3 ⟨rfl, ho, hb⟩
          have HU3 := Lib.hid (HU.out.next hb)
          have HC := Lib.hid (HPU.out k hlt ▸ payUp_any b o rb ro cc n n c n cx _ _ a (onl n k) x w3 (HT2.out.keep (Keep.below HU3.out.up)) ho.ints (HY2.out.keep (Keep.below HU3.out.up)) (HPB.out k))
          clear ho hb HU
          go_wp2_with fail
          refine HC.out.mono ?_
          rintro e w4 ⟨rfl, hq⟩
          have HU4 := Lib.hid (HU3.out.next hq.below)
          clear hq HC HU3
          have HC := Lib.hid (sum_any _ _ _ _ w4 (HY2.out.keep (Keep.below HU4.out.up)) HSU.out)
          have hd := HF.out.dot hlt
          have ht := HF.out.s.bd (by omega)
          obtain ⟨d1, d2⟩ := hd
          obtain ⟨t1, t2⟩ := ht
          generalize dotr a x k n = D at *
          generalize tot x = T at *
          go_wp2_with fail
          refine HC.out.mono ?_
          rintro e w5 ⟨rfl, hq⟩
          have HU5 := Lib.hid (HU4.out.next hq.below)
          clear hq HC HU4
          have HC := Lib.hid (HGP.out ▸ payUp_any b o rb ro cc n n c cx cx _ _ a x x w5 (HT2.out.keep (Keep.below HU5.out.up)) (HY2.out.keep (Keep.below HU5.out.up)) (HY2.out.keep (Keep.below HU5.out.up)) HF.out.pb)
          go_wp2_with fail
          refine HC.out.mono ?_
          rintro e w6 ⟨rfl, hq⟩
          have HU6 := Lib.hid (HU5.out.next hq.below)
          clear hq HC HU5
          have HC := Lib.hid (frac_any (gU a x n k) (gP a x n) w6 (by unfold Mid; omega) (by unfold Mid; omega) p1)
          go_wp2_with fail
          refine HC.out.mono ?_
          rintro e w7 ⟨rfl, hb⟩
          have HU7 := Lib.hid (HU6.out.next hb)
          clear hb HC HU6
          have HFV : Hid (frV (gU a x n k) (gP a x n) = .agg #[.int .i64 (frU (gU a x n k) (gP a x n)), .int .i64 (frD (gU a x n k) (gP a x n))]) := Lib.hid rfl
          rw [HFV.out]
          generalize frU (gU a x n k) (gP a x n) = U at *
          generalize frD (gU a x n k) (gP a x n) = V at *
          have hb := below_alloc w7 (.cells #[iv U, iv V] 37)
          have HB4 := Lib.hid (HU7.out.next hb).own
          have HN := Lib.hid (cells_two_new w7 U V)
          have hwz := HU7.out.up.size
          clear hb
          generalize grL a x n k = ys at *
          go_wp2_with (at_builtin; refine wpList_append_own_at _ rfl _ _ 50 rfl w2.heap.size 37 i0 (.agg #[.int .i64 0, .int .i64 0]) 2 16 Try.underlying50 hi0 hz0 hz1 hz2 rfl (by decide) _ k (ys.map iv) rfl HB4.out ⟨w7.heap.size, 0, none⟩ 1 1 [iv U, iv V] rfl rfl ?c1 ?c2 ?c3 ?c4 ?c5 ?_)
          case c1 => exact HN.out
          case c2 => intro u hu; simp at hu; rcases hu with rfl | rfl <;> rfl
          case c3 => unfold maxLen; omega
          case c4 => omega
          case c5 => simp; omega
          intro v' w8 hown' hgrow _ hat
          have HU8 := Lib.hid (HU7.out.push hown' hgrow (by simpa using hat))
          clear HB4 HN hown' hgrow hat HU7
          go_wp2
          go_roundw
          case rel => exact ⟨k + 1, by omega, by go_num, Lib.hid (by rw [HCS.out]; exact HU8.out)⟩
          case measure => simp [intOf]; omega
        · obtain rfl : k = n := by omega
          have HNW := Lib.hid (NewF.from HB2.out (HU.out.new (by omega)))
          go_wp2
          go_ret
          rw [HGF.out]
          exact HNW.out
    · have HN := Lib.hid (grF_no (a := a) (x := x) (fun h => hs (by have := h.2; rw [hl] at this; exact this)))
      have HS := Lib.hid (fun W (k : Keep w W) => pb_false hs ▸ validShares_any X nx cx x (n : Int) W (HY.out.keep k) (by omega))
      clear hv hs hl hlx
      go_enter Try.func43, Try.ntmps43
      go_wp2_with fail
      refine HC.out.mono ?_
      rintro e w1 ⟨rfl, hq⟩
      have HB1 := Lib.hid (show Below w.heap.size w w1 from hq.below)
      clear hq HC
      have HC := Lib.hid (HS.out w1 (Keep.below HB1.out))
      go_wp2_with fail
      refine HC.out.mono ?_
      rintro e w2 ⟨rfl, hq⟩
      have HB2 := Lib.hid (below_quiet HB1.out hq)
      clear hq HC HB1
      go_wp2
      go_ret
      exact NewF.empty HB2.out HN.out
  · have HC := Lib.hid (pb_false hv ▸ validField_any A n c a w HX.out)
    have HN := Lib.hid (grF_no (a := a) (x := x) (fun h => hv h.1))
    clear hv hl hlx
    go_enter Try.func43, Try.ntmps43
    go_wp2_with fail
    refine HC.out.mono ?_
    rintro e w1 ⟨rfl, hq⟩
    have HB1 := Lib.hid (show Below w.heap.size w w1 from hq.below)
    clear hq HC
    go_wp2
    go_ret
    exact NewF.empty HB1.out HN.out
end Go.Proofs.Ytoekpbcdgmejcaa

/- The next shares are the shares times their growth. Plain. -/
namespace Go.Proofs.Ytoekpbcdgmejcaa

theorem sm_pay {a : List (List Int)} {x L : List Int} {n : Nat} {g : Int} : ∀ {k}, (∀ i, i < k → gi L i * g = gi x i * dotr a x i n) → sm L k * g = payU a x x n k
  | 0, _ => by simp [sm, payU]
  | k + 1, h => by rw [sm, payU_next, Int.add_mul, sm_pay (fun i hi => h i (by omega)), h k (by omega)]
theorem next_pos {a : List (List Int)} {x : List Int} {n : Nat} (h : FS a x n) {i : Nat} (hi : i < n) : 0 < gi x i ↔ 0 < gi (nsF a x) i := by
  obtain ⟨g, hg, hl, hk⟩ := Mean.ns_key h
  have h1 := hk i hi
  have h2 := (h.dot hi).1
  have h3 := (h.x i hi).1
  generalize gi (nsF a x) i = l at *
  generalize gi x i = y at *
  generalize dotr a x i n = d at *
  constructor
  · intro hp
    have := Int.mul_pos hp (show 0 < d by omega)
    apply Classical.byContradiction; intro hn
    have := Int.mul_nonneg (show 0 ≤ -l by omega) (show 0 ≤ g by omega)
    rw [Int.neg_mul] at this; omega
  · intro hp
    have := Int.mul_pos hp hg
    apply Classical.byContradiction; intro hn
    have : y = 0 := by omega
    subst this; omega
theorem next_frac {a : List (List Int)} {x : List Int} {n : Nat} (h : FS a x n) {i : Nat} (hi : i < n) :
    frU (gi (nsF a x) i) (tot (nsF a x)) = frU (frU (gi x i) (tot x) * frU (gU a x n i) (gP a x n)) (frD (gi x i) (tot x) * frD (gU a x n i) (gP a x n)) ∧
    frD (gi (nsF a x) i) (tot (nsF a x)) = frD (frU (gi x i) (tot x) * frU (gU a x n i) (gP a x n)) (frD (gi x i) (tot x) * frD (gU a x n i) (gP a x n)) ∧ 0 < tot (nsF a x) := by
  obtain ⟨g, hg, hl, hk⟩ := Mean.ns_key h
  have hT : tot (nsF a x) * g = gP a x n := by unfold tot gP; rw [hl]; exact sm_pay hk
  have h1 := hk i hi
  have hS : 0 < tot x := h.s.2.2
  have hP := h.gp.1
  have hTp : 0 < tot (nsF a x) := by
    apply Classical.byContradiction; intro hn
    have := Int.mul_nonneg (show 0 ≤ -tot (nsF a x) by omega) (show 0 ≤ g by omega)
    rw [Int.neg_mul] at this; omega
  have q1 := gcdI_pos (a := gi x i) (b := tot x) (by omega)
  have q2 := gcdI_pos (a := gU a x n i) (b := gP a x n) (by omega)
  have k1 := frU_mul (gi x i) (tot x)
  have k2 := frD_mul (gi x i) (tot x)
  have k3 := frU_mul (gU a x n i) (gP a x n)
  have k4 := frD_mul (gU a x n i) (gP a x n)
  have p2 := frD_pos (u := gi x i) hS
  have p4 := frD_pos (u := gU a x n i) (d := gP a x n) (by omega)
  have hU : gU a x n i = dotr a x i n * tot x := rfl
  generalize gcdI (gi x i) (tot x) = c1 at *
  generalize gcdI (gU a x n i) (gP a x n) = c2 at *
  generalize frU (gi x i) (tot x) = b1 at *
  generalize frD (gi x i) (tot x) = b2 at *
  generalize frU (gU a x n i) (gP a x n) = g1 at *
  generalize frD (gU a x n i) (gP a x n) = g2 at *
  generalize gU a x n i = u at *
  generalize gP a x n = P at *
  generalize gi (nsF a x) i = l at *
  generalize tot (nsF a x) = T at *
  generalize gi x i = y at *
  generalize tot x = S at *
  generalize dotr a x i n = d at *
  have hc : 0 < c1 * c2 * g := Int.mul_pos (Int.mul_pos (by omega) (by omega)) hg
  have key : l * (b2 * g2) = b1 * g1 * T := by
    refine Int.eq_of_mul_eq_mul_right (show c1 * c2 * g ≠ 0 by omega) ?_
    have e1 : l * (b2 * g2) * (c1 * c2 * g) = (l * g) * ((b2 * c1) * (g2 * c2)) := by clear h1 hT k1 k2 k3 k4 hU; grind
    have e2 : b1 * g1 * T * (c1 * c2 * g) = (b1 * c1) * (g1 * c2) * (T * g) := by clear h1 hT k1 k2 k3 k4 hU; grind
    rw [e1, e2, h1, k1, k2, k3, k4, hT, hU]
    clear e1 e2 h1 hT k1 k2 k3 k4 hU
    grind
  have := fr_eq (u := l) (d := T) (v := b1 * g1) (e := b2 * g2) hTp (Int.mul_pos p2 p4) key
  exact ⟨this.1, this.2, hTp⟩
end Go.Proofs.Ytoekpbcdgmejcaa

/- Fractions with greater numbers, by the laws. -/
namespace Go.Proofs.Ytoekpbcdgmejcaa
open Go.RowKit

def Big (x : Int) : Prop := -100000000000000000 ≤ x ∧ x ≤ 100000000000000000
theorem Big.tmod {x y : Int} (h : Big x) : Big (x.tmod y) := by
  unfold Big at *
  have h1 := Int.natAbs_tmod x y
  have h2 : x.natAbs % y.natAbs ≤ x.natAbs := Nat.mod_le _ _
  omega
set_option maxHeartbeats 400000 in
theorem divisorG_any (a b : Int) (w : World) (ha : Big a) (hb : Big b) :
    Calls Try.prog 78 #[.int .i64 a, .int .i64 b] w fun e w' => e = .returned (.int .i64 (gcdI a b)) ∧ Quiet w w' := by
  have HA := Lib.hid ha
  have HB := Lib.hid hb
  clear ha hb
  go_enter Try.func78, Try.ntmps78
  go_wp2
  go_loopw [0, 1] (fun s t wr => ∃ x y : Int, s = .int .i64 x ∧ t = .int .i64 y ∧ Hid (Big x) ∧ Hid (Big y) ∧ Hid (gcdI x y = gcdI a b) ∧ Quiet w wr) (fun _ t _ => (intOf t).natAbs)
  case atStart => exact ⟨a, b, rfl, rfl, HA, HB, Lib.hid rfl, Quiet.refl _⟩
  case round =>
    obtain ⟨x, y, rfl, rfl, HX, HY, HG, q, rfl⟩ := hrel
    obtain ⟨x1, x2⟩ := HX.out
    obtain ⟨y1, y2⟩ := HY.out
    by_cases hy : y = 0
    · subst hy
      have hg := Lib.hid (gcdI_zero x)
      go_wp2
      all_goals go_ret
      all_goals exact ⟨ret_int (by rw [← HG.out, hg.out]; omega), ⟨_, rfl⟩⟩
    · have hy' : (y != 0) = true := by simpa using hy
      have HM := Lib.hid (HX.out.tmod (y := y))
      have HS := Lib.hid (gcdI_step x y)
      have HT := Lib.hid (tmod_abs (a := x) hy)
      go_wp2
      go_roundw
      case rel => exact ⟨y, x.tmod y, rfl, rfl, HY, HM, Lib.hid (HS.out.trans HG.out), ⟨_, rfl⟩⟩
      case measure => have := HT.out; simpa [intOf] using this

set_option maxHeartbeats 1000000 in
theorem fracOfG_any (u d : Int) (w : World) (hu : Big u) (hd : Big d) (h1 : 1 ≤ d) :
    Calls Try.prog 34 #[.int .i64 u, .int .i64 d] w (Ret (frV u d) w) := by
  have HQ := Lib.hid (fun W => divisorG_any u d W hu hd)
  have hg1 := gcdI_pos (a := u) (b := d) (by omega)
  have hg2 := gcdI_le (a := u) (b := d) (by omega)
  obtain ⟨u1, u2⟩ := hu
  obtain ⟨d1, d2⟩ := hd
  have hB := Lib.hid (below_alloc w (.cells #[.int .i64 0, .int .i64 0] 37))
  go_enter Try.func34, Try.ntmps34
  go_wp2_with fail
  refine (HQ.out _).mono ?_
  rintro e w2 ⟨rfl, hq⟩
  have HFU : Hid (frU u d = u.tdiv (gcdI u d)) := Lib.hid rfl
  have HFD : Hid (frD u d = d / gcdI u d) := Lib.hid (by unfold frD; rw [Int.tdiv_eq_ediv_of_nonneg (by omega)])
  have b0 := blk_quiet (blk_new w 37 #[.int .i64 0, .int .i64 0]) hq
  have HBW := Lib.hid (below_quiet hB.out hq)
  clear hq hB HQ
  generalize gcdI u d = g at *
  have c0 := blk_cell b0 (i := 0) rfl
  have c1 := blk_cell b0 (i := 1) rfl
  have f0 := blk_frozen b0 0
  have f1 := blk_frozen b0 1
  have g0 : (g == 0) = false := by simp; omega
  go_wp2
  go_region
  all_goals clear c0 c1 f0 f1
  all_goals go_wp2
  have B1 := blk_set (blk_set b0 0 (.int .i64 (u.tdiv g))) 1 (.int .i64 (d / g))
  have r0 := blk_cell B1 (i := 0) (v := .int .i64 (u.tdiv g)) rfl
  have r1 := blk_cell B1 (i := 1) (v := .int .i64 (d / g)) rfl
  have HBX := Lib.hid ((HBW.out.setCell (p := ⟨w.heap.size, 0, none⟩) (Nat.le_refl _) (.int .i64 (u.tdiv g))).setCell (p := ⟨w.heap.size, 1, none⟩) (Nat.le_refl _) (.int .i64 (d / g))).drew
  replace r0 : ((w2.setCell ⟨w.heap.size, 0, none⟩ (.int .i64 (u.tdiv g))).setCell ⟨w.heap.size, 1, none⟩ (.int .i64 (d / g))).drew.cell? ⟨w.heap.size, 0, none⟩ = some (.int .i64 (u.tdiv g)) := r0
  replace r1 : ((w2.setCell ⟨w.heap.size, 0, none⟩ (.int .i64 (u.tdiv g))).setCell ⟨w.heap.size, 1, none⟩ (.int .i64 (d / g))).drew.cell? ⟨w.heap.size, 1, none⟩ = some (.int .i64 (d / g)) := r1
  clear B1 b0 HBW
  generalize ((w2.setCell ⟨w.heap.size, 0, none⟩ (.int .i64 (u.tdiv g))).setCell ⟨w.heap.size, 1, none⟩ (.int .i64 (d / g))).drew = W3 at *
  refine bodyPost_ret (v := .agg #[.int .i64 (u.tdiv g), .int .i64 (d / g)]) (by simp [results, Try.results34, go_sem, r0, r1]) rfl ?_
  exact ⟨by rw [frV, HFU.out, HFD.out], HBX.out⟩
set_option maxHeartbeats 1000000 in
theorem plusOfG_any (u d v e : Int) (w : World) (hu : -100000000 ≤ u ∧ u ≤ 100000000) (hv : -100000000 ≤ v ∧ v ≤ 100000000) (hd : 1 ≤ d ∧ d ≤ 100000000) (he : 1 ≤ e ∧ e ≤ 100000000) (hm : Big (u * e + v * d)) :
    Calls Try.prog 44 #[.agg #[.int .i64 u, .int .i64 d], .agg #[.int .i64 v, .int .i64 e]] w (Ret (frV (u * e + v * d) (d * e)) w) := by
  obtain ⟨p1, p2⟩ := mulbd (x := u) (y := e) (A := 100000000) (B := 100000000) hu (by omega)
  obtain ⟨p3, p4⟩ := mulbd (x := v) (y := d) (A := 100000000) (B := 100000000) hv (by omega)
  obtain ⟨p5, p6⟩ := mulbd (x := d) (y := e) (A := 100000000) (B := 100000000) (by omega) (by omega)
  obtain ⟨p7, p8⟩ := mulbd (x := u) (y := v) (A := 100000000) (B := 100000000) hu hv
  have p9 : 1 ≤ d * e := by have h : 1 * 1 ≤ d * e := Int.mul_le_mul hd.1 he.1 (by omega) (by omega); omega
  have HC := Lib.hid (fun W => fracOfG_any (u * e + v * d) (d * e) W hm (by unfold Big; omega) p9)
  have b0 := blk_old (blk_old (blk_new w 37 #[.int .i64 u, .int .i64 d]) (.cells #[.int .i64 v, .int .i64 e] 37)) (.cells #[.int .i64 0, .int .i64 0] 37)
  have b1 := blk_old (blk_new (w.alloc (.cells #[.int .i64 u, .int .i64 d] 37)) 37 #[.int .i64 v, .int .i64 e]) (.cells #[.int .i64 0, .int .i64 0] 37)
  have b2 := blk_new ((w.alloc (.cells #[.int .i64 u, .int .i64 d] 37)).alloc (.cells #[.int .i64 v, .int .i64 e] 37)) 37 #[.int .i64 0, .int .i64 0]
  have HB := Lib.hid (below_up (below_up (below_alloc w (.cells #[.int .i64 u, .int .i64 d] 37)) (below_alloc _ (.cells #[.int .i64 v, .int .i64 e] 37))) (below_alloc _ (.cells #[.int .i64 0, .int .i64 0] 37)))
  have HFV : Hid (frV (u * e + v * d) (d * e) = .agg #[.int .i64 (frU (u * e + v * d) (d * e)), .int .i64 (frD (u * e + v * d) (d * e))]) := Lib.hid rfl
  rw [HFV.out] at HC
  simp only [World.size_alloc] at b1 b2
  have c0 := blk_cell b0 (i := 0) rfl
  have c1 := blk_cell b0 (i := 1) rfl
  have c2 := blk_cell b1 (i := 0) rfl
  have c3 := blk_cell b1 (i := 1) rfl
  have HB2 := Lib.hid b2
  clear b0 b1 b2
  go_enter Try.func44, Try.ntmps44
  go_wp2_with fail
  clear c0 c1 c2 c3
  generalize ((w.alloc (.cells #[.int .i64 u, .int .i64 d] 37)).alloc (.cells #[.int .i64 v, .int .i64 e] 37)).alloc (.cells #[.int .i64 0, .int .i64 0] 37) = w1 at *
  refine (HC.out _).mono ?_
  rintro e w2 ⟨rfl, hb⟩
  have b0 := blk_below HB2.out hb
  have HBW := Lib.hid (below_up HB.out hb)
  clear hb HC HB HB2
  generalize frU (u * e + v * d) (d * e) = U at *
  generalize frD (u * e + v * d) (d * e) = D at *
  have c0 := blk_cell b0 (i := 0) rfl
  have c1 := blk_cell b0 (i := 1) rfl
  have f0 := blk_frozen b0 0
  have f1 := blk_frozen b0 1
  go_wp2
  clear c0 c1 f0 f1
  have B1 := blk_set (blk_set b0 0 (.int .i64 U)) 1 (.int .i64 D)
  have r0 := blk_cell B1 (i := 0) (v := .int .i64 U) rfl
  have r1 := blk_cell B1 (i := 1) (v := .int .i64 D) rfl
  have hle : w.heap.size ≤ w.heap.size + 1 + 1 := by omega
  have HBX := Lib.hid ((HBW.out.setCell (p := ⟨w.heap.size + 1 + 1, 0, none⟩) hle (.int .i64 U)).setCell (p := ⟨w.heap.size + 1 + 1, 1, none⟩) hle (.int .i64 D))
  clear B1 b0 HBW
  generalize (w2.setCell ⟨w.heap.size + 1 + 1, 0, none⟩ (.int .i64 U)).setCell ⟨w.heap.size + 1 + 1, 1, none⟩ (.int .i64 D) = WE at *
  refine bodyPost_ret (v := .agg #[.int .i64 U, .int .i64 D]) (by simp [results, Try.results44, go_sem, r0, r1]) rfl ?_
  exact ⟨by rw [HFV.out], HBX.out⟩
set_option maxHeartbeats 100000000 in
theorem timesOfG_any (u d v e : Int) (w : World) (hu : -100000000 ≤ u ∧ u ≤ 100000000) (hv : -100000000 ≤ v ∧ v ≤ 100000000) (hd : 1 ≤ d ∧ d ≤ 100000000) (he : 1 ≤ e ∧ e ≤ 100000000) :
    Calls Try.prog 36 #[.agg #[.int .i64 u, .int .i64 d], .agg #[.int .i64 v, .int .i64 e]] w (Ret (frV (u * v) (d * e)) w) := by
  obtain ⟨p1, p2⟩ := mulbd (x := u) (y := e) (A := 100000000) (B := 100000000) hu (by omega)
  obtain ⟨p3, p4⟩ := mulbd (x := v) (y := d) (A := 100000000) (B := 100000000) hv (by omega)
  obtain ⟨p5, p6⟩ := mulbd (x := d) (y := e) (A := 100000000) (B := 100000000) (by omega) (by omega)
  obtain ⟨p7, p8⟩ := mulbd (x := u) (y := v) (A := 100000000) (B := 100000000) hu hv
  have p9 : 1 ≤ d * e := by have h : 1 * 1 ≤ d * e := Int.mul_le_mul hd.1 he.1 (by omega) (by omega); omega
  have HC := Lib.hid (fun W => fracOfG_any (u * v) (d * e) W (by unfold Big; omega) (by unfold Big; omega) p9)
  have b0 := blk_old (blk_old (blk_new w 37 #[.int .i64 u, .int .i64 d]) (.cells #[.int .i64 v, .int .i64 e] 37)) (.cells #[.int .i64 0, .int .i64 0] 37)
  have b1 := blk_old (blk_new (w.alloc (.cells #[.int .i64 u, .int .i64 d] 37)) 37 #[.int .i64 v, .int .i64 e]) (.cells #[.int .i64 0, .int .i64 0] 37)
  have b2 := blk_new ((w.alloc (.cells #[.int .i64 u, .int .i64 d] 37)).alloc (.cells #[.int .i64 v, .int .i64 e] 37)) 37 #[.int .i64 0, .int .i64 0]
  have HB := Lib.hid (below_up (below_up (below_alloc w (.cells #[.int .i64 u, .int .i64 d] 37)) (below_alloc _ (.cells #[.int .i64 v, .int .i64 e] 37))) (below_alloc _ (.cells #[.int .i64 0, .int .i64 0] 37)))
  have HFV : Hid (frV (u * v) (d * e) = .agg #[.int .i64 (frU (u * v) (d * e)), .int .i64 (frD (u * v) (d * e))]) := Lib.hid rfl
  rw [HFV.out] at HC
  simp only [World.size_alloc] at b1 b2
  have c0 := blk_cell b0 (i := 0) rfl
  have c1 := blk_cell b0 (i := 1) rfl
  have c2 := blk_cell b1 (i := 0) rfl
  have c3 := blk_cell b1 (i := 1) rfl
  have HB2 := Lib.hid b2
  clear b0 b1 b2
  go_enter Try.func36, Try.ntmps36
  go_wp2_with fail
  clear c0 c1 c2 c3
  generalize ((w.alloc (.cells #[.int .i64 u, .int .i64 d] 37)).alloc (.cells #[.int .i64 v, .int .i64 e] 37)).alloc (.cells #[.int .i64 0, .int .i64 0] 37) = w1 at *
  refine (HC.out _).mono ?_
  rintro e w2 ⟨rfl, hb⟩
  have b0 := blk_below HB2.out hb
  have HBW := Lib.hid (below_up HB.out hb)
  clear hb HC HB HB2
  generalize frU (u * v) (d * e) = U at *
  generalize frD (u * v) (d * e) = D at *
  have c0 := blk_cell b0 (i := 0) rfl
  have c1 := blk_cell b0 (i := 1) rfl
  have f0 := blk_frozen b0 0
  have f1 := blk_frozen b0 1
  go_wp2
  clear c0 c1 f0 f1
  have B1 := blk_set (blk_set b0 0 (.int .i64 U)) 1 (.int .i64 D)
  have r0 := blk_cell B1 (i := 0) (v := .int .i64 U) rfl
  have r1 := blk_cell B1 (i := 1) (v := .int .i64 D) rfl
  have hle : w.heap.size ≤ w.heap.size + 1 + 1 := by omega
  have HBX := Lib.hid ((HBW.out.setCell (p := ⟨w.heap.size + 1 + 1, 0, none⟩) hle (.int .i64 U)).setCell (p := ⟨w.heap.size + 1 + 1, 1, none⟩) hle (.int .i64 D))
  clear B1 b0 HBW
  generalize (w2.setCell ⟨w.heap.size + 1 + 1, 0, none⟩ (.int .i64 U)).setCell ⟨w.heap.size + 1 + 1, 1, none⟩ (.int .i64 D) = WE at *
  refine bodyPost_ret (v := .agg #[.int .i64 U, .int .i64 D]) (by simp [results, Try.results36, go_sem, r0, r1]) rfl ?_
  exact ⟨by rw [HFV.out], HBX.out⟩
end Go.Proofs.Ytoekpbcdgmejcaa

/- Growth, by the program. -/
namespace Go.Proofs.Ytoekpbcdgmejcaa
open Go.RowKit

set_option maxRecDepth 100000 in
set_option maxHeartbeats 1600000 in
theorem over_any (U1 D1 U2 D2 : Int) (w : World) (h1 : 0 ≤ U1 * D2 ∧ U1 * D2 ≤ 1000000000000000) (h2 : 1 ≤ D1 * U2 ∧ D1 * U2 ≤ 1000000000000000) :
    Calls Try.prog 77 #[.agg #[.int .i64 U1, .int .i64 D1], .agg #[.int .i64 U2, .int .i64 D2]] w (Ret (frV (U1 * D2) (D1 * U2)) w) := by
  have hb1 := below_alloc w (.cells #[.int .i64 U1, .int .i64 D1] 37)
  have hb2 := below_alloc (w.alloc (.cells #[.int .i64 U1, .int .i64 D1] 37)) (.cells #[.int .i64 U2, .int .i64 D2] 37)
  have HB := Lib.hid (below_up hb1 hb2)
  have b1 := blk_old (blk_new w 37 #[.int .i64 U1, .int .i64 D1]) (.cells #[.int .i64 U2, .int .i64 D2] 37)
  have b2 := blk_new (w.alloc (.cells #[.int .i64 U1, .int .i64 D1] 37)) 37 #[.int .i64 U2, .int .i64 D2]
  rw [World.size_alloc] at b2
  have HPF := Lib.hid (PF.start ((w.alloc (.cells #[.int .i64 U1, .int .i64 D1] 37)).alloc (.cells #[.int .i64 U2, .int .i64 D2] 37)))
  have c0 := blk_cell (blk_old b1 (.cells #[.int .i64 0, .int .i64 0] 37)) (i := 0) rfl
  have c1 := blk_cell (blk_old b1 (.cells #[.int .i64 0, .int .i64 0] 37)) (i := 1) rfl
  have c2 := blk_cell (blk_old b2 (.cells #[.int .i64 0, .int .i64 0] 37)) (i := 0) rfl
  have c3 := blk_cell (blk_old b2 (.cells #[.int .i64 0, .int .i64 0] 37)) (i := 1) rfl
  have HSZ : Hid (((w.alloc (.cells #[.int .i64 U1, .int .i64 D1] 37)).alloc (.cells #[.int .i64 U2, .int .i64 D2] 37)).heap.size = w.heap.size + 1 + 1) := Lib.hid (by simp)
  obtain ⟨h11, h12⟩ := h1
  obtain ⟨h21, h22⟩ := h2
  have w1 : IntKind.i64.wrap (U1 * D2) = U1 * D2 := wrap_in64 (by omega)
  have w2 : IntKind.i64.wrap (D1 * U2) = D1 * U2 := wrap_in64 (by omega)
  clear hb1 hb2 b1 b2
  go_enter Try.func77, Try.ntmps77
  have HC := Lib.hid (fun W => fracOf_any (U1 * D2) (D1 * U2) W (by unfold Mid; omega) (by unfold Mid; omega) h21)
  go_wp2_with fail
  clear c0 c1 c2 c3
  generalize (w.alloc (.cells #[.int .i64 U1, .int .i64 D1] 37)).alloc (.cells #[.int .i64 U2, .int .i64 D2] 37) = V at *
  refine (HC.out _).mono ?_
  rintro e w5 ⟨rfl, hb⟩
  have HPF1 := Lib.hid (HPF.out.up hb)
  clear hb HC HPF
  have HFV : Hid (frV (U1 * D2) (D1 * U2) = .agg #[.int .i64 (frU (U1 * D2) (D1 * U2)), .int .i64 (frD (U1 * D2) (D1 * U2))]) := Lib.hid rfl
  rw [HFV.out]
  generalize frU (U1 * D2) (D1 * U2) = U at *
  generalize frD (U1 * D2) (D1 * U2) = D at *
  have c0 := blk_cell HPF1.out.box (i := 0) rfl
  have c1 := blk_cell HPF1.out.box (i := 1) rfl
  have f0 := blk_frozen HPF1.out.box 0
  have f1 := blk_frozen HPF1.out.box 1
  rw [HSZ.out] at c0 c1 f0 f1
  go_wp2
  clear c0 c1 f0 f1
  have hbx := HPF1.out.box
  rw [HSZ.out] at hbx
  have B1 := blk_set (blk_set hbx 0 (.int .i64 U)) 1 (.int .i64 D)
  have r0 := blk_cell B1 (i := 0) (v := .int .i64 U) rfl
  have r1 := blk_cell B1 (i := 1) (v := .int .i64 D) rfl
  have HBX := Lib.hid (((HB.out.trans (HPF1.out.below.mono (by rw [HSZ.out]; omega))).setCell (p := ⟨w.heap.size + 1 + 1, 0, none⟩) (by show w.heap.size ≤ w.heap.size + 1 + 1; omega) (.int .i64 U)).setCell (p := ⟨w.heap.size + 1 + 1, 1, none⟩) (by show w.heap.size ≤ w.heap.size + 1 + 1; omega) (.int .i64 D))
  clear B1 HPF1 hbx
  generalize (w5.setCell ⟨w.heap.size + 1 + 1, 0, none⟩ (.int .i64 U)).setCell ⟨w.heap.size + 1 + 1, 1, none⟩ (.int .i64 D) = WE at *
  refine bodyPost_ret (v := .agg #[.int .i64 U, .int .i64 D]) (by simp [results, Try.results77, go_sem, r0, r1]) rfl ?_
  exact ⟨by rw [HFV.out], HBX.out⟩

/-- What is divided by the mean is what the model says. -/
theorem FS.over {a x n} (h : FS a x n) {i : Nat} (hi : i < n) :
    let U1 := frU (dotr a x i n) (tot x); let D1 := frD (dotr a x i n) (tot x); let U2 := frU (gP a x n) (tot x * tot x); let D2 := frD (gP a x n) (tot x * tot x)
    (0 ≤ U1 * D2 ∧ U1 * D2 ≤ 1000000000000000) ∧ (1 ≤ D1 * U2 ∧ D1 * U2 ≤ 1000000000000000) ∧ frV (U1 * D2) (D1 * U2) = frV (gU a x n i) (gP a x n) := by
  intro U1 D1 U2 D2
  have hn := h.n3
  obtain ⟨d1, d2⟩ := h.dot hi
  obtain ⟨p1, p2⟩ := h.gp
  obtain ⟨t1, t2⟩ := h.s.bd (by omega)
  have htt : 1 ≤ tot x * tot x ∧ tot x * tot x ≤ 9000000 := by
    have h1 : 1 * 1 ≤ tot x * tot x := Int.mul_le_mul (by omega) (by omega) (by omega) (by omega)
    have h2 : tot x * tot x ≤ 3000 * 3000 := Int.mul_le_mul t2 t2 (by omega) (by omega)
    omega
  have r1 := fr_ratio (dotr a x i n) (tot x)
  have r2 := fr_ratio (gP a x n) (tot x * tot x)
  have ub1 := frU_bd (u := dotr a x i n) (d := tot x) (B := 27000) (by omega) (by omega)
  have db1 := frD_bd (u := dotr a x i n) (d := tot x) (B := 3000) (by omega) t2
  have ub2 := frU_bd (u := gP a x n) (d := tot x * tot x) (B := 81000000) (by omega) (by omega)
  have db2 := frD_bd (u := gP a x n) (d := tot x * tot x) (B := 9000000) (by omega) htt.2
  have hU1 : 1 ≤ U1 := by
    have e : U1 * gcdI (dotr a x i n) (tot x) = dotr a x i n := frU_mul _ _
    have g := gcdI_pos (a := dotr a x i n) (b := tot x) (by omega)
    apply Classical.byContradiction; intro hn
    have : U1 * gcdI (dotr a x i n) (tot x) ≤ 0 * gcdI (dotr a x i n) (tot x) := Int.mul_le_mul_of_nonneg_right (by omega) (by omega)
    omega
  have hU2 : 1 ≤ U2 := by
    have e : U2 * gcdI (gP a x n) (tot x * tot x) = gP a x n := frU_mul _ _
    have g := gcdI_pos (a := gP a x n) (b := tot x * tot x) (by omega)
    apply Classical.byContradiction; intro hn
    have : U2 * gcdI (gP a x n) (tot x * tot x) ≤ 0 * gcdI (gP a x n) (tot x * tot x) := Int.mul_le_mul_of_nonneg_right (by omega) (by omega)
    omega
  have k1 : 1 * 1 ≤ U1 * D2 := Int.mul_le_mul hU1 db2.1 (by omega) (by omega)
  have k2 : U1 * D2 ≤ 27000 * 9000000 := Int.mul_le_mul ub1.2 db2.2 (by omega) (by omega)
  have k3 : 1 * 1 ≤ D1 * U2 := Int.mul_le_mul db1.1 hU2 (by omega) (by omega)
  have k4 : D1 * U2 ≤ 3000 * 81000000 := Int.mul_le_mul db1.2 ub2.2 (by omega) (by omega)
  refine ⟨by omega, by omega, ?_⟩
  have he : U1 * D2 * gP a x n = gU a x n i * (D1 * U2) := by
    have r1' : U1 * tot x = dotr a x i n * D1 := r1
    have r2' : U2 * (tot x * tot x) = gP a x n * D2 := r2
    unfold gU
    generalize gP a x n = P at *
    generalize dotr a x i n = D at *
    generalize tot x = T at *
    clear_value U1 D1 U2 D2
    grind
  obtain ⟨e1, e2⟩ := fr_eq (u := U1 * D2) (d := D1 * U2) (v := gU a x n i) (e := gP a x n) (by omega) (by omega) he
  unfold frV
  rw [e1, e2]

/-- Fractions stored one after the other, beside the mean's box. -/
structure GRX (n g mb : Nat) (U2 D2 : Int) (w : World) (L : List Int) (W : World) : Prop where
  own : OwnF w.heap.size W.heap.size W g (some ⟨g, 0, none⟩) n n L
  up : Below w.heap.size w W
  lo : w.heap.size ≤ g
  m0 : W.cell? ⟨mb, 0, none⟩ = some (.int .i64 U2)
  m1 : W.cell? ⟨mb, 1, none⟩ = some (.int .i64 D2)
  ne : mb ≠ g
theorem GRX.next {n g mb U2 D2 w L W W'} (h : GRX n g mb U2 D2 w L W) (k : Below W.heap.size W W') : GRX n g mb U2 D2 w L W' :=
  ⟨(h.own.below k).mono (Nat.le_refl _) k.size, below_up h.up k, h.lo, Keep.below k _ _ h.m0, Keep.below k _ _ h.m1, h.ne⟩
theorem GRX.cell {n g mb U2 D2 w L W} (h : GRX n g mb U2 D2 w L W) {k : Nat} (hk : k < 2 * n) : W.cell? ⟨g, k, none⟩ = some (.int .i64 (gi L k)) := by
  obtain ⟨b, o, e, hc⟩ := h.own.frs.at_ (by omega)
  injection e with e
  injection e with e1 e2
  subst e1
  subst e2
  have := hc k hk
  rw [Nat.zero_add] at this
  exact this
theorem GRX.frozen {n g mb U2 D2 w L W} (h : GRX n g mb U2 D2 w L W) {k : Nat} (hk : k < 2 * n) : W.frozen? ⟨g, k, none⟩ = false := by
  obtain ⟨o, e, _, _, hf⟩ := h.own.own (by omega)
  injection e with e
  injection e with _ e2
  subst e2
  have := hf k hk
  rw [Nat.zero_add] at this
  exact this
theorem GRX.set {n g mb U2 D2 w L W} (h : GRX n g mb U2 D2 w L W) {k : Nat} (hk : k < 2 * n) (v : Int) : GRX n g mb U2 D2 w (L.set k v) (W.setCell ⟨g, k, none⟩ (.int .i64 v)) := by
  have h1 := h.own.set hk v
  rw [Nat.zero_add] at h1
  refine ⟨h1.mono (Nat.le_refl _) (by simp [World.setCell]), h.up.setCell (p := ⟨g, k, none⟩) h.lo _, h.lo, ?_, ?_, h.ne⟩
  · rw [World.cell?_setCell_other _ _ _ _ (by intro e; have := congrArg Addr.block e; first | exact h.ne this | exact h.ne this.symm)]; exact h.m0
  · rw [World.cell?_setCell_other _ _ _ _ (by intro e; have := congrArg Addr.block e; first | exact h.ne this | exact h.ne this.symm)]; exact h.m1
theorem made_zero (n k : Nat) (hk : k < n * 2) : (madeCells #[.int .i64 0, .int .i64 0] (n * 2))[k]? = some (.int .i64 0) := by
  have h2 : k % 2 = 0 ∨ k % 2 = 1 := by omega
  rcases h2 with h2 | h2 <;> simp [madeCells, hk, h2]
theorem GRX.start (w : World) (n mb : Nat) (U2 D2 : Int) (hn : n ≤ 3) (h0 : w.cell? ⟨mb, 0, none⟩ = some (.int .i64 U2)) (h1 : w.cell? ⟨mb, 1, none⟩ = some (.int .i64 D2)) :
    GRX n w.heap.size mb U2 D2 w ((List.range (2 * n)).map fun _ => 0) (w.alloc (.cells (madeCells #[.int .i64 0, .int .i64 0] (n * 2)) 37)) := by
  have hb := blk_new w 37 (madeCells #[.int .i64 0, .int .i64 0] (n * 2))
  have hl : mb < w.heap.size := World.block_lt_of_cell? w _ h0
  refine ⟨⟨⟨by simp, Nat.le_refl _, by omega, fun _ => ⟨_, 0, rfl, fun k hk => ?_⟩⟩, fun _ => ⟨0, rfl, Nat.le_refl _, by simp, fun k _ => blk_frozen hb _⟩⟩, below_alloc _ _, Nat.le_refl _, Keep.below (below_alloc _ _) _ _ h0, Keep.below (below_alloc _ _) _ _ h1, by omega⟩
  rw [Nat.zero_add, gi_range hk]
  exact blk_cell hb (made_zero n k (by omega))

set_option maxRecDepth 100000 in
set_option maxHeartbeats 3200000 in
theorem GrowthOf_impl (A : Option Addr) (n c : Nat) (a : List (List Int)) (X : Option Addr) (nx cx : Nat) (x : List Int) (w : World) (ha : IntRows w A n c a) (hx : Ints w X nx cx x) :
    Calls Try.prog 33 #[.slice A n c, .slice X nx cx] w (NewF w (grF a x)) := by
  have HX := Lib.hid ha
  have HY := Lib.hid hx
  have hl := ha.len
  have hlx := hx.len
  clear ha hx
  have HC := Lib.hid (ValidField_impl A n c a w HX.out)
  by_cases hv : VF a
  · rw [pb_true hv] at HC
    have hn1 := hv.q.1.n1
    have hn3 := hv.q.1.n3
    rw [hl] at hn1 hn3
    have hvs := hv.q.1.vsn x
    rw [hl] at hvs
    by_cases hs : VS x (n : Int)
    · have HF := Lib.hid (FS.of hl hv hs)
      have HS := Lib.hid (fun W (k : Keep w W) => (hvs.trans (pb_true hs)) ▸ ValidShares_impl X nx cx x (n : Int) W (HY.out.keep k))
      have hm := hv.q.len2' hl
      obtain ⟨b, o, rb, ro, cc, rfl, tab⟩ := HX.out.tab hv.q.1
      rw [hm] at tab
      have HT := Lib.hid tab
      obtain rfl : n = nx := by have := hs.1; omega
      have HGF := Lib.hid (grF_yes HF.out)
      have HTX := Lib.hid hs.2.2
      have HPB := Lib.hid (fun i => (⟨tab.bd, onl_bds n i, HF.out.x⟩ : PB a (onl n i) x n n))
      obtain ⟨i0, hi0, hz0, hz1, hz2⟩ := info_parts Try.infoF
      clear hm tab hv hs hl hlx hvs
      go_enter Try.func33, Try.ntmps33
      go_wp2_with fail
      refine HC.out.mono ?_
      rintro e w1 ⟨rfl, hb⟩
      have HB1 := Lib.hid (show Below w.heap.size w w1 from hb)
      clear hb HC
      have HC := Lib.hid (HS.out w1 (Keep.below HB1.out))
      go_wp2_with fail
      refine HC.out.mono ?_
      rintro e w2 ⟨rfl, hq⟩
      have HB2 := Lib.hid (below_quiet HB1.out hq)
      clear hq HC HB1
      have HC := Lib.hid (meanPay_any b o rb ro cc n n c cx cx _ _ a x x w2 (HT.out.keep (Keep.below HB2.out)) (HY.out.keep (Keep.below HB2.out)) (HY.out.keep (Keep.below HB2.out)) HF.out.pb HTX.out HTX.out)
      go_wp2_with fail
      refine HC.out.mono ?_
      rintro e w3 ⟨rfl, hb⟩
      have HB3 := Lib.hid (below_up HB2.out hb)
      clear hb HC HB2
      have HFV : Hid (frV (payU a x x n n) (tot x * tot x) = .agg #[.int .i64 (frU (gP a x n) (tot x * tot x)), .int .i64 (frD (gP a x n) (tot x * tot x))]) := Lib.hid rfl
      rw [HFV.out]
      have HOV := Lib.hid (fun i (hi : i < n) => HF.out.over hi)
      simp only at HOV
      generalize frU (gP a x n) (tot x * tot x) = U2 at *
      generalize frD (gP a x n) (tot x * tot x) = D2 at *
      have hb3 := below_alloc w3 (.cells #[.int .i64 U2, .int .i64 D2] 37)
      have HB4 := Lib.hid (below_up HB3.out hb3)
      have HG0 := Lib.hid (GRX.start (w3.alloc (.cells #[.int .i64 U2, .int .i64 D2] 37)) n w3.heap.size U2 D2 hn3 (blk_cell (blk_new w3 _ _) rfl) (blk_cell (blk_new w3 _ _) rfl))
      have hmk := run_make (P := Try.prog) (w3.alloc (.cells #[.int .i64 U2, .int .i64 D2] 37)) 50 37 i0 (.agg #[.int .i64 0, .int .i64 0]) Try.underlying50 hi0 hz0 .i64 .i64 (n : Int) (n : Int) (by omega) (Int.le_refl _) (by rw [hz2]; omega) (by omega)
      rw [Int.toNat_natCast, hz1] at hmk
      clear hb3 HB3
      have HM0 := Lib.hid (mixT_zero (gi (grL a x n n)) (fun _ => 0) (2 * n))
      rw [← HM0.out, World.size_alloc] at HG0
      clear HM0
      go_wp2
      clear hmk
      generalize w3.alloc (.cells #[.int .i64 U2, .int .i64 D2] 37) = W0 at *
      generalize w3.heap.size = mb at *
      go_loopw [27] (fun i_ wr => ∃ k : Nat, k ≤ n ∧ i_ = .int .i64 k ∧ Hid (GRX n (mb + 1) mb U2 D2 W0 (mixT (gi (grL a x n n)) (fun _ => 0) (2 * n) (k * 2)) wr)) (fun i_ _ => n - (intOf i_).toNat)
      case atStart => exact ⟨0, Nat.zero_le _, rfl, HG0⟩
      case round =>
        clear HG0
        obtain ⟨k, hk, rfl, HG⟩ := hrel
        by_cases hlt : k < n
        · have HOK := HOV.out k hlt
          obtain ⟨o1, o2, HE⟩ := HOK
          have HGR := Lib.hid (gi_grL a x n (k := n) (i := k) hlt)
          have HST := Lib.hid (show ((mixT (gi (grL a x n n)) (fun _ => 0) (2 * n) (k * 2)).set (k * 2) (gi (grL a x n n) (k * 2))).set (k * 2 + 1) (gi (grL a x n n) (k * 2 + 1)) = mixT (gi (grL a x n n)) (fun _ => 0) (2 * n) ((k + 1) * 2) by rw [mixT_set, mixT_set, show k * 2 + 1 + 1 = (k + 1) * 2 by omega])
          rw [HGR.out.1, HGR.out.2] at HST
          have HP := Lib.hid (payU_alone a x n n k hlt)
          have HT1 := Lib.hid (tot_onl (n := n) (i := k) hlt)
          have HMV : Hid (frV (payU a (onl n k) x n n) (tot (onl n k) * tot x) = .agg #[.int .i64 (frU (dotr a x k n) (tot x)), .int .i64 (frD (dotr a x k n) (tot x))]) := Lib.hid (by rw [HP.out, HT1.out, Int.one_mul]; rfl)
          have HFE : Hid (frV (gU a x n k) (gP a x n) = .agg #[.int .i64 (frU (gU a x n k) (gP a x n)), .int .i64 (frD (gU a x n k) (gP a x n))]) := Lib.hid rfl
          rw [HFE.out] at HE
          clear HP HGR HFE
          generalize frU (dotr a x k n) (tot x) = U1 at *
          generalize frD (dotr a x k n) (tot x) = D1 at *
          generalize frU (gU a x n k) (gP a x n) = U at *
          generalize frD (gU a x n k) (gP a x n) = V at *
          have HOVR := Lib.hid (fun W => HE ▸ over_any U1 D1 U2 D2 W o1 o2)
          clear HE o1 o2
          have m1 := HG.out.m0
          have m2 := HG.out.m1
          go_wp2
          go_region_law ((first
            | (go_simp; go_at_call 76; refine (alone_impl n k _ (by omega) hlt).mono ?_; rintro e w5 ⟨rfl, ho, hb⟩; have HG5 := Lib.hid ((HG.out.next (Quiet.below (B := wr.heap.size) ⟨1, rfl⟩)).next hb); have HO := Lib.hid ho.ints; have m3 := HG5.out.m0; have m4 := HG5.out.m1; clear ho hb HG)
            | (go_simp; go_at_call 68; refine (HMV.out ▸ meanPay_any b o rb ro cc n n c n cx _ _ a (onl n k) x w5 (HT.out.keep (Keep.below (below_up HB4.out HG5.out.up))) HO.out (HY.out.keep (Keep.below (below_up HB4.out HG5.out.up))) (HPB.out k) (by rw [HT1.out]; omega) HTX.out).mono ?_; rintro e w6 ⟨rfl, hb⟩; have HG6 := Lib.hid (HG5.out.next hb); have m5 := HG6.out.m0; have m6 := HG6.out.m1; clear hb HG5)
            | (go_simp; go_at_call 77; refine (HOVR.out _).mono ?_; rintro e w7 ⟨rfl, hb⟩; have HG7 := Lib.hid (HG6.out.next hb); have q1 := HG7.out.cell (k := k * 2) (by omega); have q2 := HG7.out.cell (k := k * 2 + 1) (by omega); have z1 := HG7.out.frozen (k := k * 2) (by omega); have z2 := HG7.out.frozen (k := k * 2 + 1) (by omega); clear hb HG6)))
          all_goals
            have HG8 := Lib.hid ((HG7.out.set (k := k * 2) (by omega) U).set (k := k * 2 + 1) (by omega) V)
            rw [HST.out] at HG8
            clear m1 m2 m3 m4 m5 m6 q1 q2 z1 z2
            go_wp2
            go_roundw
            case rel => exact ⟨k + 1, by omega, by go_num, Lib.hid (by first | exact HG8.out | exact HG8.out.next (Quiet.below ⟨1, rfl⟩) | exact HG8.out.next (Quiet.below ⟨_, rfl⟩))⟩
            case measure => simp [intOf]; omega
        · obtain rfl : k = n := by omega
          have HNW := Lib.hid (show NewF w (grF a x) (.returned (.slice (some ⟨mb + 1, 0, none⟩) k k)) wr from by
            refine NewF.from HB4.out ?_
            have e : mixT (gi (grL a x k k)) (fun _ => 0) (2 * k) (k * 2) = grF a x := by
              rw [HGF.out, show k * 2 = 2 * k by omega, mixT_all, ← grL_len a x k k]
              exact list_range _
            have ho := HG.out.own
            rw [e] at ho
            exact ⟨_, _, _, mb + 1, rfl, ho.frs.len, ho, HG.out.up⟩)
          go_wp2
          go_ret
          exact HNW.out
    · have HN := Lib.hid (grF_no (a := a) (x := x) (fun h => hs (by have := h.2; rw [hl] at this; exact this)))
      have HS := Lib.hid (fun W (k : Keep w W) => (hvs.trans (pb_false hs)) ▸ ValidShares_impl X nx cx x (n : Int) W (HY.out.keep k))
      clear hv hs hl hlx hvs
      go_enter Try.func33, Try.ntmps33
      go_wp2_with fail
      refine HC.out.mono ?_
      rintro e w1 ⟨rfl, hb⟩
      have HB1 := Lib.hid (show Below w.heap.size w w1 from hb)
      clear hb HC
      have HC := Lib.hid (HS.out w1 (Keep.below HB1.out))
      go_wp2_with fail
      refine HC.out.mono ?_
      rintro e w2 ⟨rfl, hq⟩
      have HB2 := Lib.hid (below_quiet HB1.out hq)
      clear hq HC HB1
      go_wp2
      go_ret
      exact NewF.empty HB2.out HN.out
  · rw [pb_false hv] at HC
    have HN := Lib.hid (grF_no (a := a) (x := x) (fun h => hv h.1))
    clear hv hl hlx
    go_enter Try.func33, Try.ntmps33
    go_wp2_with fail
    refine HC.out.mono ?_
    rintro e w1 ⟨rfl, hb⟩
    go_wp2
    go_ret
    exact NewF.empty hb HN.out
end Go.Proofs.Ytoekpbcdgmejcaa

/- Squares and shares drawn, now and then shares that rest. -/
namespace Go.Proofs.Ytoekpbcdgmejcaa
open Go.RowKit

set_option maxRecDepth 100000 in
set_option maxHeartbeats 2000000 in
theorem DrawMeanPay_any (A : Option Addr) (n c : Nat) (w : World) (h : Bytes w A n c) :
    Calls Try.prog 37 #[.slice A n c] w (DrawnTS w) := by
  have H0 := Lib.hid (newReader_any A n c w h)
  clear h
  go_enter Try.func37, Try.ntmps37
  go_wp2_with fail
  refine H0.out.mono ?_
  rintro e w1 ⟨A1, l, c1, rfl, hl, hr, hs⟩
  have H1 := Lib.hid (someSquare_any w w1 w.heap.size A1 l c1 0 hr (by omega))
  clear hr hl H0
  go_wp2_with fail
  refine H1.out.mono ?_
  rintro e w2 ⟨wb, v', vs', xss', p', rfl, hsm, hto, hp, hg⟩
  have hsz := hg.size
  obtain ⟨Av, nv, cv, gg, rfl, hnv, hown⟩ := hto.bo.owns (by have := hsm.n; omega)
  have HO := Lib.hid (hown.mono (show w.heap.size + 1 ≤ wb.heap.size by have := hto.gl; omega) (Nat.le_refl _))
  have HRD := Lib.hid hto.rd
  have HS := Lib.hid hsm
  have hn8 : nv ≤ 8 := by rw [hnv]; exact hsm.n
  clear hsm hto hown hg H1 hnv
  have HC := Lib.hid (sharesOf_any w w2 w.heap.size A1 l c1 p' nv HRD.out (by omega) hn8)
  go_wp2_with fail
  refine HC.out.mono ?_
  rintro e w4 ⟨Bv, cb, ys, p2, rfl, hyl, hyb, hsh, hp2⟩
  obtain ⟨A', n', c', g', e, -, ho, -⟩ := hsh.bi.owns (by omega) (fun x hx => by have := hyb x hx; omega)
  injection e with e1 e2 e3
  subst e1
  subst e2
  subst e3
  have HI := Lib.hid (ho.mono (show w.heap.size + 1 ≤ w2.heap.size by have := blk_lt HRD.out.box; omega) (Nat.le_refl _))
  have HR4 := Lib.hid hsh.rd
  have HO4 := Lib.hid ((HO.out.grown hsh.up (by omega)).mono (Nat.le_refl _) hsh.up.size)
  clear hsh ho HC hyb HO HRD
  have HC := Lib.hid (pick_any w w4 w.heap.size A1 l c1 p2 2 HR4.out (by omega))
  go_wp2_with fail
  refine HC.out.mono ?_
  rintro e w6 hpk
  obtain ⟨m, rfl, hm, hrd, hgr⟩ := hpk.one
  have HR6 := Lib.hid hrd
  have HO6 := Lib.hid ((HO4.out.grown hgr (by omega)).mono (Nat.le_refl _) hgr.size)
  have HI6 := Lib.hid (HI.out.grown hgr (by omega))
  clear hpk hrd hgr HC HR4 HO4 HI hm
  by_cases h0 : m = 0
  · have hz : (m == 0) = true := by simpa using h0
    clear h0
    by_cases hv : VQ xss'
    · have HC := Lib.hid (pb_true hv ▸ validSquare_any _ _ _ _ w6 HO6.out.rows)
      clear hv
      go_wp2_with fail
      refine HC.out.mono ?_
      rintro e w7 ⟨rfl, hq⟩
      have HO7 := Lib.hid (HO6.out.quiet hq)
      have HI7 := Lib.hid (HI6.out.below (hq.below (B := w6.heap.size)))
      have HR7 := Lib.hid (HR6.out.quiet hq)
      have hz7 : w6.heap.size ≤ w7.heap.size := (hq.below (B := 0)).size
      have hg7 : w.heap.size + 1 ≤ w7.heap.size := by have := blk_lt HR7.out.box; omega
      clear hq HC HO6 HI6 HR6 hz
      have HC := Lib.hid (RestsOn_spec _ _ _ xss' w7 HO7.out.rows)
      go_wp2_with fail
      refine HC.out.mono ?_
      rintro e w8 ⟨A8, n8, c8, g8, rfl, rfl, ho, hb⟩
      have HL8 := Lib.hid (ho.mono hg7 (Nat.le_refl _))
      have HR8 := Lib.hid (HR7.out.below_ hb)
      have HO8 := Lib.hid ((HO7.out.mono (Nat.le_refl _) hz7 |>.below hb).mono (Nat.le_refl _) hb.size)
      have HI8 := Lib.hid (HI7.out.below hb)
      have hrl := resF_len xss'
      clear ho hb HC HO7 HI7 HR7
      by_cases hl0 : (resF xss').length = 0
      · have hl0' : ¬ (0 : Int) < ((resF xss').length : Int) := by omega
        have HL0 := Lib.hid hl0
        clear hl0
        go_wp2
        go_ret2
        exact ⟨Av, nv, cv, gg, xss', Bv, _, cb, ys, rfl, HS.out, HO8.out.mono (Nat.le_succ _) (Nat.le_refl _), HI8.out.ints, HR8.out.below⟩
      · have hl0' : (0 : Int) < ((resF xss').length : Int) := by omega
        have HRL := Lib.hid (fun q (hq : q < (resF xss').length) => (resF_rest (gr_mem hq)).2)
        generalize resF xss' = rs at *
        have HC := Lib.hid (pick_any w w8 w.heap.size A1 l c1 _ (rs.length : Int) HR8.out (by omega))
        go_wp2_with fail
        refine HC.out.mono ?_
        rintro e w9 hpk
        obtain ⟨m2, rfl, hm, hrd, hgr⟩ := hpk.one
        have hm := hm (by omega)
        obtain ⟨q, rfl⟩ : ∃ q : Nat, m2 = (q : Int) := ⟨m2.toNat, by omega⟩
        have HB9 := Lib.hid hrd.below
        have HO9 := Lib.hid ((HO8.out.grown hgr (by omega)).mono (Nat.le_succ _) hgr.size)
        have HL9 := Lib.hid (HL8.out.grown hgr (by omega))
        have hqn : q < rs.length := by omega
        obtain ⟨rb', ro', rfl, hc⟩ := HL9.out.rows.at_ (by omega)
        obtain ⟨R, cR, c1', hR⟩ := hc q hqn
        have HRI := Lib.hid hR
        obtain ⟨hm1, hm2⟩ := hm
        clear hpk hrd hgr HC hc hR HO8 HI8 HR8 HL8 hl0
        go_wp2
        go_ret2
        exact ⟨Av, nv, cv, gg, xss', R, _, cR, gr rs q, rfl, HS.out, HO9.out, HRI.out, HB9.out⟩
    · have HC := Lib.hid (pb_false hv ▸ validSquare_any _ _ _ _ w6 HO6.out.rows)
      clear hv
      go_wp2_with fail
      refine HC.out.mono ?_
      rintro e w7 ⟨rfl, hq⟩
      have HO7 := Lib.hid ((HO6.out.quiet hq).mono (Nat.le_succ _) (hq.below (B := 0)).size)
      have HI7 := Lib.hid (HI6.out.below (hq.below (B := w6.heap.size)))
      have HB7 := Lib.hid (below_quiet HR6.out.below hq)
      clear hq HC HO6 HI6 HR6 hz
      go_wp2
      go_ret2
      exact ⟨Av, nv, cv, gg, xss', Bv, _, cb, ys, rfl, HS.out, HO7.out, HI7.out.ints, HB7.out⟩
  · have hz : (m == 0) = false := by simpa using h0
    clear h0
    go_wp2
    go_ret2
    exact ⟨Av, nv, cv, gg, xss', Bv, _, cb, ys, rfl, HS.out, HO6.out.mono (Nat.le_succ _) (Nat.le_refl _), HI6.out.ints, HR6.out.below⟩

end Go.Proofs.Ytoekpbcdgmejcaa

/- The rests of a table, by the program, as a slice that can be appended to. -/
namespace Go.Proofs.Ytoekpbcdgmejcaa
open Go.RowKit
open V (sumN detN rowC colC cofN minorN skip sgn Asc)

def NewTB (w : World) (xss : List (List Int)) (e : Ending) (w' : World) : Prop :=
  ∃ A c vs, e = .returned (.slice A xss.length c) ∧ Bld w.heap.size w'.heap.size w' (.slice A xss.length c) vs xss ∧ Below w.heap.size w w'
theorem NewTB.of {w w1 w2 : World} {vs : List Value} {xss : List (List Int)} {A : Option Addr} {c : Nat} (h : Below w.heap.size w w1) (hz : w1.heap.size = w.heap.size) (k : TM w1 (.slice A xss.length c) vs xss w2) :
    NewTB w xss (.returned (.slice A xss.length c)) w2 := ⟨A, c, vs, rfl, by rw [← hz]; exact k.bo, below_up h k.up⟩
theorem NewTB.none {w w' : World} {xss : List (List Int)} (h : Below w.heap.size w w') (hx : xss = []) : NewTB w xss (.returned (.slice none 0 0)) w' := by
  subst hx
  exact ⟨_, _, [], rfl, Bld.nil _ _ _, h⟩
/-- One row more, that lies elsewhere. -/
theorem rows_app {w w' : World} {v v' : Value} {vs : List Value} {xss : List (List Int)} {ys : List Int} {lo m cb : Nat} {B : Option Addr} (h : Bld lo w.heap.size w v vs xss) (hl : xss.length ≤ 100)
    (hy : Ints w' B m cb ys) (hown : w'.ownsRow lo 26 1 v' (xss.length + 1) (vs ++ [.slice B m cb])) (hgrow : (w.alloc (.cells #[.slice B m cb] 26)).grownBy w' v.ownBlock) :
    ∃ A c, v' = .slice A (xss.length + 1) c ∧ IntRows w' A (xss.length + 1) c (xss ++ [ys]) := by
  have hmy := hy.len
  obtain ⟨h1, h4, G, R, C, h2, h3⟩ := h
  have hvl : vs.length = xss.length := by have := h1.1; omega
  have hb := below_alloc w (.cells #[.slice B m cb] 26)
  rcases hown.2 with ⟨_, h0⟩ | ⟨g, cap, cur, rfl, hbb, hg, hnc, _, hcs, htake⟩
  · omega
  · refine ⟨_, _, rfl, ⟨by simp, hnc, by omega, fun _ => ⟨g, 0, rfl, fun k hk => ?_⟩⟩⟩
    have hcell : ∀ v, (vs ++ [.slice B m cb])[k]? = some v → w'.cell? ⟨g, 0 + k, none⟩ = some v := fun v e => by
      rw [Nat.zero_add, ← e, ← htake, List.getElem?_take, if_pos (by omega)]
      simp [World.cell?, hg]
    by_cases e : k < xss.length
    · obtain ⟨q0, a, b⟩ := h2 k e
      rw [gr_snoc_lt e]
      refine ⟨R k, C k, hcell _ (by rw [List.getElem?_append_left (by omega)]; exact q0), ?_⟩
      exact (OwnI.of_block (a.below hb) fun hp => hgrow.block _ ((a.below hb).lt hp) (fun e => b hp e.symm)).ints
    · obtain rfl : k = xss.length := by omega
      rw [gr_snoc_eq]
      refine ⟨B, cb, hcell _ (by rw [hmy, ← hvl, List.getElem?_append_right (Nat.le_refl _)]; simp), ?_⟩
      rw [hmy]; exact hy

set_option maxRecDepth 100000 in
set_option maxHeartbeats 3200000 in
theorem RestsOn_bld (A : Option Addr) (n c : Nat) (a : List (List Int)) (w : World) (hx : IntRows w A n c a) :
    Calls Try.prog 15 #[.slice A n c] w (NewTB w (resF a)) := by
  have HX := Lib.hid hx
  have hl := hx.len
  by_cases hv : VQ a
  · have HC := Lib.hid (pb_true hv ▸ ValidSquare_impl A n c a w hx)
    have HV := Lib.hid hv
    have HL := Lib.hid hl
    have hn3 : n ≤ 3 := by have := hv.1.n3; omega
    have hn1 : 1 ≤ n := by have := hv.1.n1; omega
    obtain ⟨P, hP, hP2⟩ := shl_val' hn3
    have hP8 : P ≤ 8 := by rw [hP2]; exact pow_le8 hn3
    have hP1 : 1 ≤ P := by rw [hP2]; exact Nat.one_le_two_pow
    have HP2 := Lib.hid hP2
    have HF := Lib.hid (show resF a = resR a P by rw [resF_yes hv, resR_all (by omega), hl, hP2])
    clear hx hl hv hP2
    go_enter Try.func15, Try.ntmps15
    go_wp2_with fail
    refine HC.out.mono ?_
    rintro e w1 ⟨rfl, hq⟩
    have HB0 := Lib.hid (show Below w.heap.size w w1 from hq.below)
    have HX1 := Lib.hid (HX.out.keep (Keep.quiet hq))
    have HSZ := Lib.hid (show w1.heap.size = w.heap.size from by obtain ⟨q, rfl⟩ := hq; rfl)
    have HS0 := Lib.hid (show TM w1 (.slice none 0 0) [] (resR a 1) w1 from by rw [resR_one]; exact TM.nil w1)
    clear hq HC HX
    go_wp2
    go_loopw [3, 4] (fun v i wr => ∃ (s : Nat) (vs : List Value), 1 ≤ s ∧ s ≤ P ∧ i = .int .i64 s ∧ Hid (TM w1 v vs (resR a s) wr)) (fun _ i _ => 8 - (intOf i).toNat)
    case atStart => exact ⟨1, [], by omega, by omega, rfl, HS0⟩
    case round =>
      clear HS0
      obtain ⟨s, vs, hs1, hs8, rfl, HTM⟩ := hrel
      obtain ⟨Av, cv, rfl⟩ := HTM.out.bo.form
      by_cases hlt : s < P
      · have hlt' : (s : Int) < (P : Int) := by omega
        have HC := Lib.hid (membersOf_any s wr (by omega))
        rw [memL_all3 s (by omega) n (by omega) (by rw [← HP2.out]; exact hlt)] at HC
        go_wp2_with fail
        refine HC.out.mono ?_
        rintro e w2 ⟨Ao, k, co, go_, rfl, hk, ho, hb⟩
        have HO := Lib.hid (memL_pl ho.ints hk)
        have HK := Lib.hid hk
        have HTM2 := Lib.hid (HTM.out.next hb)
        have hk3 : k ≤ 3 := by have := memL_le s n; omega
        have hk1 : 1 ≤ k := by rw [hk]; exact memL_ge s (by omega) n (by omega) hs1 (by rw [← HP2.out]; exact hlt)
        clear ho hb HC HTM hk
        have HAS := Lib.hid (show Asc n k (idx s n) from by rw [HK.out]; exact idx_asc s n)
        have HLV : Hid (LvP a s ↔ LevAt a k (idx s n)) := Lib.hid (by
          unfold LvP
          rw [HL.out, ← HK.out]
          exact ⟨fun h => h.2.2, fun h => ⟨hs1, by rw [← HP2.out]; exact hlt, h⟩⟩)
        have HEQ : Hid (lvl a s = shr n (idx s n) (kY a (idx s n) (idx s n) k) k) := Lib.hid (by unfold lvl; rw [HL.out, ← HK.out])
        have HC := Lib.hid (levelShares_any A Ao n c k co a (idx s n) w2 (HX1.out.keep (Keep.below HTM2.out.up)) HV.out HO.out hk1 hk3 HAS.out)
        go_wp2_with fail
        refine HC.out.mono ?_
        rintro e w3 hnew
        clear HC
        by_cases hlv : LevP (kY a (idx s n) (idx s n) k)
        · obtain ⟨A1, n1, c1, g1, rfl, hn1', ho, hb⟩ : NewI w2 (shr n (idx s n) (kY a (idx s n) (idx s n) k) k) e w3 := by
            rcases hnew with ⟨_, h⟩ | ⟨h, _⟩
            · exact h
            · exact absurd hlv h
          rw [← HEQ.out] at ho hn1'
          have HLL := Lib.hid (lvl_len a s)
          have HTL := Lib.hid (resR_len a s)
          subst hn1'
          have HO3 := Lib.hid ho
          have HB3 := Lib.hid hb
          have HTM3 := Lib.hid (HTM2.out.next hb)
          have HVS := Lib.hid (show VS (lvl a s) a.length from by
            rw [HEQ.out, HL.out]
            exact shr_VS (kY_len _ _ _ _) HAS.out (hlv.clr (by rw [kY_len]; omega)) (fun p hp => kY_bd HV.out.1 hk3 (by rw [HL.out]; exact HAS.out) (by rw [← HV.out.2, HL.out]; exact HAS.out) hp))
          have HRQ : Hid (RQ a (lvl a s) ↔ LvP a s) := Lib.hid (by
            rw [HLV.out]
            unfold LevAt
            refine ⟨fun h => ⟨hlv, ?_⟩, fun h => ⟨HV.out, HVS.out, ?_⟩⟩
            · have := h.r; rw [HEQ.out] at this; rw [HL.out] at this ⊢; exact this
            · have := h.2; rw [HEQ.out]; rw [HL.out] at this ⊢; exact this)
          have HC := Lib.hid (IsRest_impl A n c a A1 _ c1 (lvl a s) w3 (HX1.out.keep (Keep.below HTM3.out.up)) ho.ints)
          have hll3 : (lvl a s).length ≤ 3 := by rw [HLL.out, HL.out]; exact hn3
          clear hb ho hnew hlv HLV HEQ HLL HVS HTM3
          by_cases hr : LvP a s
          · have HMS := Lib.hid (resR_yes hr)
            rw [pb_true (HRQ.out.2 hr)] at HC
            clear hr HRQ
            generalize lvl a s = ys at *
            generalize resR a s = ms at *
            go_wp2_with fail
            refine HC.out.mono ?_
            rintro e w4 ⟨rfl, hb⟩
            have HB4' := Lib.hid (below_up HB3.out hb)
            have HO4 := Lib.hid ((HO3.out.below hb).mono (Nat.le_refl _) hb.size)
            have hb2 := below_alloc w4 (.cells #[.slice A1 ys.length c1] 26)
            have HB4 := Lib.hid ((HTM2.out.next HB4'.out).bo.below hb2).own
            have HN := Lib.hid (cell_one_new w4 (.slice A1 ys.length c1) 26)
            have hlh : w1.heap.size ≤ w4.heap.size := Nat.le_trans HTM2.out.up.size HB4'.out.size
            clear hb hb2 HC HB3 HO3
            obtain ⟨i0, hi0, hz0, hz1, hz2⟩ := info_parts Try.info_row
            go_wp2_with (at_builtin; refine wpList_append_own_at _ rfl _ _ 23 rfl w1.heap.size 26 i0 (.slice none 0 0) 1 24 Try.underlying23 hi0 hz0 hz1 hz2 rfl (by decide) _ ms.length vs rfl HB4.out ⟨w4.heap.size, 0, none⟩ 1 1 [.slice A1 ys.length c1] rfl rfl ?d1 ?d2 ?d3 ?d4 ?d5 ?_)
            case d1 => exact HN.out
            case d2 => intro u hu; simp at hu; subst hu; rfl
            case d3 => have := HTL.out; unfold maxLen; omega
            case d4 => have := HTL.out; omega
            case d5 => simp; omega
            intro v' w5 hown' hgrow _ hat
            have HT5 := Lib.hid (HTM2.out.push HB4'.out HO4.out hown' hgrow (by simpa using hat))
            clear HB4 HN hown' hgrow hat HTM2 HO4
            go_wp2
            go_roundw
            case rel => exact ⟨s + 1, _, by omega, by omega, by go_num, Lib.hid (by rw [HMS.out]; exact HT5.out)⟩
            case measure => simp [intOf]; omega
          · have HMS := Lib.hid (resR_no hr)
            rw [pb_false (fun h => hr (HRQ.out.1 h))] at HC
            clear hr HRQ
            generalize lvl a s = ys at *
            go_wp2_with fail
            refine HC.out.mono ?_
            rintro e w4 ⟨rfl, hb⟩
            have HTM4 := Lib.hid ((HTM2.out.next HB3.out).next hb)
            clear hb HC HB3 HO3 HTM2
            go_wp2
            go_roundw
            case rel => exact ⟨s + 1, _, by omega, by omega, by go_num, Lib.hid (by rw [HMS.out]; exact HTM4.out)⟩
            case measure => simp [intOf]; omega
        · obtain ⟨rfl, hb⟩ : e = .returned (.slice none 0 0) ∧ Below w2.heap.size w2 w3 := by
            rcases hnew with ⟨h, _⟩ | ⟨_, h⟩
            · exact absurd h hlv
            · exact h
          have HMS := Lib.hid (resR_no (fun h => hlv (HLV.out.1 h).1))
          have HTM3 := Lib.hid (HTM2.out.next hb)
          have HC := Lib.hid (IsRest_impl A n c a none 0 0 [] w3 (HX1.out.keep (Keep.below HTM3.out.up)) (OwnI.nil 0 0 w3 0).ints)
          rw [pb_false (p := RQ a []) (fun h => by have := h.s.1; rw [HL.out] at this; simp at this; omega)] at HC
          clear hnew hlv hb HLV HEQ HTM2
          go_wp2_with fail
          refine HC.out.mono ?_
          rintro e w4 ⟨rfl, hb⟩
          have HTM4 := Lib.hid (HTM3.out.next hb)
          clear hb HC HTM3
          go_wp2
          go_roundw
          case rel => exact ⟨s + 1, _, by omega, by omega, by go_num, Lib.hid (by rw [HMS.out]; exact HTM4.out)⟩
          case measure => simp [intOf]; omega
      · obtain rfl : s = P := by omega
        have HNW := Lib.hid (NewTB.of HB0.out HSZ.out HTM.out)
        have hlt' : ¬ (s : Int) < (s : Int) := by omega
        go_wp2
        go_ret
        rw [HF.out]
        exact HNW.out
  · have HC := Lib.hid (pb_false hv ▸ ValidSquare_impl A n c a w hx)
    have HF := Lib.hid (resF_no hv)
    clear hx hl hv
    go_enter Try.func15, Try.ntmps15
    go_wp2_with fail
    refine HC.out.mono ?_
    rintro e w1 ⟨rfl, hq⟩
    go_wp2
    go_ret
    exact NewTB.none hq.below HF.out
end Go.Proofs.Ytoekpbcdgmejcaa

/- Lists of fractions compared. -/
namespace Go.Proofs.Ytoekpbcdgmejcaa
open Go.RowKit

set_option maxRecDepth 100000 in
set_option maxHeartbeats 1600000 in
theorem equalFracs_any (A B : Option Addr) (n c d : Nat) (L : List Int) (w : World) (hx : Frs w A n c L) (hy : Frs w B n d L) :
    Calls Try.prog 42 #[.slice A n c, .slice B n d] w (Ret (.bool true) w) := by
  have HX := Lib.hid hx
  have HY := Lib.hid hy
  have mx := hx.max
  have hne : ((n : Int) != (n : Int)) = false := by simp
  clear hx hy
  go_enter Try.func42, Try.ntmps42
  go_wp2
  go_loopw [5] (fun i wr => ∃ k : Nat, k ≤ n ∧ i = .int .i64 k ∧ Hid (Below w.heap.size w wr)) (fun i _ => n - (intOf i).toNat)
  case atStart => exact ⟨0, Nat.zero_le _, rfl, Lib.hid (Below.refl _ _)⟩
  case round =>
    obtain ⟨k, hk, rfl, HB⟩ := hrel
    by_cases hlt : k < n
    · obtain ⟨b, o, rfl, hc⟩ := HX.out.at_ (by omega)
      obtain ⟨b2, o2, rfl, hc2⟩ := HY.out.at_ (by omega)
      have q1 := Keep.below HB.out _ _ (hc (k * 2) (by omega))
      have q2 := Keep.below HB.out _ _ (hc (k * 2 + 1) (by omega))
      have q3 := Keep.below HB.out _ _ (hc2 (k * 2) (by omega))
      have q4 := Keep.below HB.out _ _ (hc2 (k * 2 + 1) (by omega))
      rw [← Nat.add_assoc] at q2 q4
      clear hc hc2
      generalize gi L (k * 2) = U at *
      generalize gi L (k * 2 + 1) = D at *
      have hu : (U != U) = false := by simp
      have hd : (D != D) = false := by simp
      go_wp2
      go_quiet (fail)
      all_goals
        clear q1 q2 q3 q4
        go_wp2
        go_roundw
        case rel => exact ⟨k + 1, by omega, by go_num, Lib.hid (by first | exact HB.out | exact HB.out.drew | exact below_drewN HB.out _)⟩
        case measure => simp [intOf]; omega
    · obtain rfl : k = n := by omega
      go_wp2
      go_ret
      exact ⟨rfl, HB.out⟩
end Go.Proofs.Ytoekpbcdgmejcaa

/- A region that ends in one frame, whatever the order: walked on once. -/
namespace Go.Proofs.Ytoekpbcdgmejcaa
open Go.RowKit

/-- At the end of a region: one frame, and F of the world. -/
def OnceQ (b : Act) (F : World → Prop) : Exit → Act → World → Prop
  | .normal, b', v => b' = b ∧ F v
  | _, _, _ => False
theorem OnceQ.mk {b b' : Act} {F : World → Prop} {v : World} (h : b' = b) (f : F v) : OnceQ b F .normal b' v := ⟨h, f⟩
/-- A region that ends in one frame, whatever the order: what follows is walked once. -/
theorem region_once {P : Program} {c : Code} {Q : Exit → Act → World → Prop} {a : Act} {w : World} (F : World → Prop) {b : Act} (h : c.wp P (OnceQ b F) a w) (k : ∀ v, F v → Q .normal b v) : c.wp P Q a w :=
  Code.wp_mono (fun e b' v h => by
    cases e <;> first | exact (h : False).elim | (obtain ⟨rfl, hf⟩ := (h : b' = b ∧ F v); exact k v hf)) h
end Go.Proofs.Ytoekpbcdgmejcaa

/- Fractions compared by the laws, and the sum of the shares' growth. -/
namespace Go.Proofs.Ytoekpbcdgmejcaa
open Go.RowKit

theorem fr_mul' {u d v e : Int} (hd : 0 < d) (he : 0 < e) : frU (frU u d * frU v e) (frD u d * frD v e) = frU (u * v) (d * e) ∧ frD (frU u d * frU v e) (frD u d * frD v e) = frD (u * v) (d * e) := by
  refine fr_eq (Int.mul_pos (frD_pos hd) (frD_pos he)) (Int.mul_pos hd he) ?_
  have h1 := fr_ratio u d
  have h2 := fr_ratio v e
  generalize frU u d = a at *
  generalize frD u d = b at *
  generalize frU v e = c at *
  generalize frD v e = f at *
  grind
/-- One strategy's part of the mean. -/
theorem gr_part {a : List (List Int)} {x : List Int} {n : Nat} (h : FS a x n) {i : Nat} :
    frU (frU (gi x i) (tot x) * frU (gU a x n i) (gP a x n)) (frD (gi x i) (tot x) * frD (gU a x n i) (gP a x n)) = frU (gi x i * dotr a x i n) (gP a x n) ∧
    frD (frU (gi x i) (tot x) * frU (gU a x n i) (gP a x n)) (frD (gi x i) (tot x) * frD (gU a x n i) (gP a x n)) = frD (gi x i * dotr a x i n) (gP a x n) := by
  have hS : 0 < tot x := h.s.2.2
  have hP := h.gp.1
  obtain ⟨e1, e2⟩ := fr_mul' (u := gi x i) (d := tot x) (v := gU a x n i) (e := gP a x n) hS (by omega)
  rw [e1, e2]
  have hU : gU a x n i = dotr a x i n * tot x := rfl
  rw [hU]
  generalize gP a x n = P at *
  generalize tot x = T at *
  exact fr_eq (Int.mul_pos hS (by omega)) (by omega) (by grind)
/-- Two fractions over the same number. -/
theorem fr_sum {S R P : Int} (hP : 0 < P) :
    frU (frU S P * frD R P + frU R P * frD S P) (frD S P * frD R P) = frU (S + R) P ∧ frD (frU S P * frD R P + frU R P * frD S P) (frD S P * frD R P) = frD (S + R) P := by
  have k1 := frU_mul S P
  have k2 := frD_mul S P
  have k3 := frU_mul R P
  have k4 := frD_mul R P
  have q1 := gcdI_pos (a := S) (b := P) (by omega)
  have q2 := gcdI_pos (a := R) (b := P) (by omega)
  refine fr_eq (Int.mul_pos (frD_pos hP) (frD_pos hP)) hP ?_
  generalize gcdI S P = g1 at *
  generalize gcdI R P = g2 at *
  generalize frU S P = s at *
  generalize frD S P = sd at *
  generalize frU R P = r at *
  generalize frD R P = rd at *
  have hc : 0 < g1 * g2 := Int.mul_pos q1 q2
  refine Int.eq_of_mul_eq_mul_right (show g1 * g2 ≠ 0 by omega) ?_
  have e1 : (s * rd + r * sd) * P * (g1 * g2) = ((s * g1) * (rd * g2) + (r * g2) * (sd * g1)) * P := by clear k1 k2 k3 k4; grind
  have e2 : (S + R) * (sd * rd) * (g1 * g2) = (S + R) * ((sd * g1) * (rd * g2)) := by clear k1 k2 k3 k4; grind
  rw [e1, e2, k1, k2, k3, k4]
  clear e1 e2 k1 k2 k3 k4
  grind
theorem fr_whole {P : Int} (hP : 0 < P) : frU P P = 1 ∧ frD P P = 1 := by
  obtain ⟨e1, e2⟩ := fr_eq (u := P) (d := P) (v := 1) (e := 1) hP (by omega) (by omega)
  obtain ⟨f1, f2⟩ := fr_one 1
  rw [e1, e2, f1, f2]; exact ⟨rfl, rfl⟩
/-- At rest a growth is at most one, and one where there is a share. -/
theorem gr_rest {a : List (List Int)} {x : List Int} {n : Nat} (h : FS a x n) (hr : RestP a x n) {i : Nat} (hi : i < n) :
    lessB 1 1 (frU (gU a x n i) (gP a x n)) (frD (gU a x n i) (gP a x n)) = false ∧ (0 < gi x i → frU (gU a x n i) (gP a x n) = 1 ∧ frD (gU a x n i) (gP a x n) = 1) := by
  have hm := (rest_mean h.s).1 hr i hi
  have hP := h.gp.1
  have hl := fr_lt (u := 1) (d := 1) (v := gU a x n i) (e := gP a x n) (by omega) (by omega)
  rw [(fr_one 1).1, (fr_one 1).2] at hl
  refine ⟨?_, fun hp => ?_⟩
  · unfold lessB
    rw [decide_eq_false_iff_not, hl]
    have := hm.1
    unfold gU gP
    omega
  · have he : gU a x n i = gP a x n := hm.2 hp
    rw [he]
    exact fr_whole (by omega)
theorem gr_bd {a : List (List Int)} {x : List Int} {n : Nat} (h : FS a x n) {i : Nat} (hi : i < n) : 0 ≤ gi x i * dotr a x i n ∧ gi x i * dotr a x i n ≤ 27000000 := by
  have h1 := h.dot hi
  have h2 := h.x i hi
  have h3 : 0 * dotr a x i n ≤ gi x i * dotr a x i n := Int.mul_le_mul_of_nonneg_right h2.1 (by omega)
  have h4 : gi x i * dotr a x i n ≤ 1000 * 27000 := Int.mul_le_mul h2.2 h1.2 (by omega) (by omega)
  omega
end Go.Proofs.Ytoekpbcdgmejcaa

