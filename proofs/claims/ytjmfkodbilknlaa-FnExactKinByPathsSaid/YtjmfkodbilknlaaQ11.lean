/- Texts merged: LiftB LiftC Enter Math82 Math70 KN1 Y1 Y7 Math31 U0 KN2 KN3 CnP Cnt KP1. -/
import Derived.Test.YtjmfkodbilknlaaQ10
import Derived.ChangeSlices
/- An argument of bytes, opened. -/
namespace Go.Proofs.Ytjmfkodbilknlaa
open Go.ChangeShapes Go.WideShapes Go.ChangeAt Go.RowKit Go.Deep

theorem Try.cells_u8 : Try.prog.cellsOf 5 = 1 := by kernel_rfl
theorem Try.bytes_u8 : Try.prog.bytesOf 5 = 1 := by kernel_rfl
set_option maxRecDepth 100000 in
theorem open_bytes {H : Type} {enc : TypeId × Value → H} {W : World} {v : Value} {d : DataW H} {p : List MemPlace} {b0 : Nat} (hval : Value.okWide Try.prog W .any b0 32 v)
    (h : DataW.Trod enc Try.prog W 0 (fun _ => true) true 32 v d p) (hw : ∀ n ∈ d.weights Try.prog 32, n ≤ reachBytes) :
    ∃ A n c, v = .slice A n c ∧ Bytes W A n c := by
  obtain ⟨a1, len, cap, rfl⟩ := okWide_slice Try.underlying32 hval
  obtain ⟨fuel, hf⟩ := h
  rcases open_ints Try.underlying32 Try.underlying5 Try.cells_u8 hf with ⟨hcs, hx⟩ | ⟨a, len', cap', zs, hcs, _, hl, hm, hz, hx, hcell, hwz⟩
  · simp [Value.cells] at hcs
    obtain ⟨rfl, rfl, rfl⟩ := hcs
    exact ⟨none, 0, 0, rfl, Nat.le_refl _, by omega, fun h => absurd h (by omega)⟩
  · simp [Value.cells] at hcs
    obtain ⟨rfl, rfl, rfl⟩ := hcs
    simp only [Prod.mk.injEq] at hx
    obtain ⟨rfl, rfl⟩ := hx
    simp only [if_true] at hz
    have h1 := hw _ (weights_slice Try.underlying32 (.inl rfl))
    simp only [lits, List.length_map, List.length_take, List.length_drop, Try.bytes_u8, reachBytes] at h1
    refine ⟨some a, len, cap, rfl, hl, by omega, fun hn => ?_⟩
    have hspot : a.spot = none := by simpa [Addr.add] using World.cell?_spot (hcell 0 (by omega))
    obtain ⟨b, o, sp⟩ := a
    simp only at hspot
    subst hspot
    refine ⟨b, o, rfl, fun k hk => ⟨zs.getD k 0, ?_, ?_, by rw [← add_plain]; exact hcell k (by omega)⟩⟩
    · rw [List.getD_eq_getElem?_getD]; have := hwz (zs.getD k 0) (by rw [List.getD_eq_getElem?_getD, List.getElem?_eq_getElem (show k < zs.length by omega)]; simp)
      simp [Lit.wf, IntKind.min, IntKind.max, IntKind.signed, IntKind.bits] at this
      omega
    · rw [List.getD_eq_getElem?_getD]; have := hwz (zs.getD k 0) (by rw [List.getD_eq_getElem?_getD, List.getElem?_eq_getElem (show k < zs.length by omega)]; simp)
      simp [Lit.wf, IntKind.min, IntKind.max, IntKind.signed, IntKind.bits] at this
      omega
end Go.Proofs.Ytjmfkodbilknlaa

/- Arguments that are a slice of ints, or an int, opened. -/
namespace Go.Proofs.Ytjmfkodbilknlaa
open Go.ChangeShapes Go.WideShapes Go.ChangeAt Go.RowKit Go.Deep

set_option maxRecDepth 100000 in
theorem open_intS {H : Type} {enc : TypeId × Value → H} {W : World} {v : Value} {d : DataW H} {p : List MemPlace} {b0 : Nat} (hval : Value.okWide Try.prog W .any b0 36 v)
    (h : DataW.Trod enc Try.prog W 0 (fun _ => true) true 36 v d p) (hw : ∀ n ∈ d.weights Try.prog 36, n ≤ reachBytes) :
    ∃ A n c xs, v = .slice A n c ∧ Ints W A n c xs := by
  obtain ⟨a1, len, cap, rfl⟩ := okWide_slice Try.underlying36 hval
  obtain ⟨fuel, hf⟩ := h
  rcases open_ints Try.underlying36 Try.underlying3 Try.cells3 hf with ⟨hcs, hx⟩ | ⟨a, len', cap', zs, hcs, _, hl, hm, hz, hx, hcell, hwz⟩
  · simp [Value.cells] at hcs
    obtain ⟨rfl, rfl, rfl⟩ := hcs
    exact ⟨none, 0, 0, [], rfl, rfl, Nat.le_refl _, by omega, fun _ h => by simp at h, fun h => absurd h (by omega)⟩
  · simp [Value.cells] at hcs
    obtain ⟨rfl, rfl, rfl⟩ := hcs
    simp only [Prod.mk.injEq] at hx
    obtain ⟨rfl, rfl⟩ := hx
    simp only [if_true] at hz
    have h1 := hw _ (weights_slice Try.underlying36 (.inl rfl))
    simp only [lits, List.length_map, List.length_take, List.length_drop, Try.bytes3, reachBytes] at h1
    have hlen : (zs.take len).length = len := by rw [List.length_take]; omega
    refine ⟨some a, len, cap, zs.take len, rfl, hlen, hl, by omega, fun x hx => ?_, fun hn => ?_⟩
    · have := hwz x (List.mem_of_mem_take hx)
      simp [Lit.wf, IntKind.min, IntKind.max, IntKind.signed, IntKind.bits] at this
      omega
    have hspot : a.spot = none := by simpa [Addr.add] using World.cell?_spot (hcell 0 (by omega))
    obtain ⟨b, o, sp⟩ := a
    simp only at hspot
    subst hspot
    refine ⟨b, o, rfl, fun k hk => ?_⟩
    rw [← add_plain, hcell k (by omega)]
    congr 2
    rw [gi_get (by rw [hlen]; exact hk), List.getElem_take]
    simp [List.getD, show k < zs.length by omega]

set_option maxRecDepth 100000 in
theorem open_num {H : Type} {enc : TypeId × Value → H} {W : World} {v : Value} {d : DataW H} {p : List MemPlace} {b0 : Nat} (hval : Value.okWide Try.prog W .any b0 3 v)
    (h : DataW.Trod enc Try.prog W 0 (fun _ => true) true 3 v d p) : ∃ x, v = .int .i64 x ∧ Fit x := by
  obtain ⟨x, rfl, _, _, hw⟩ := open_int Try.underlying3 hval h
  refine ⟨x, rfl, ?_⟩
  simp [Lit.wf, IntKind.min, IntKind.max, IntKind.signed, IntKind.bits] at hw
  unfold Fit
  omega
end Go.Proofs.Ytjmfkodbilknlaa

/- The program may be entered: facts of its head, once for all laws. -/
namespace Go.Proofs.Ytjmfkodbilknlaa

theorem prog_enters : Try.pinned.checked.prog.mayEnter = true := by kernel_rfl
theorem prog_lifts0 : (false == Try.pinned.checked.prog.liftsFinal) = true := by kernel_rfl
theorem prog_make0 : (Try.pinned.checked.prog.make == some .cut) = true := by kernel_rfl
theorem prog_lifts {b : Bool} (h : b = false) : (b == Try.pinned.checked.prog.liftsFinal) = true := by subst h; exact prog_lifts0
theorem prog_make {m : Make} (h : m = .cut) : (Try.pinned.checked.prog.make == some m) = true := by subst h; exact prog_make0
end Go.Proofs.Ytjmfkodbilknlaa

/- Where replies end there is a rest; with both players exchanged they end as well. Plain. -/
namespace Go.Proofs.Ytjmfkodbilknlaa

theorem eF_on {xs ys : List (List Int)} (v : VG xs ys) (h : ∀ i j, i < xs.length → j < (gr xs 0).length → repL xs ys xs.length i j ≠ []) : ∀ k i j, i < xs.length → j < (gr xs 0).length → eF xs ys xs.length k i j = false
  | 0, i, j, hi, hj => by
    rw [eF]
    cases e : repL xs ys xs.length i j with
    | nil => exact absurd e (h i j hi hj)
    | cons x l => rfl
  | k + 1, i, j, hi, hj => by
    rw [eF, List.all_eq_false]
    cases e : repL xs ys xs.length i j with
    | nil => exact absurd e (h i j hi hj)
    | cons x l =>
      obtain ⟨a, b, rfl, ha, hb⟩ := repL_in hi hj (v.rowy hi) x (by rw [e]; exact List.mem_cons_self ..)
      exact ⟨_, List.mem_cons_self .., by simpa [gi] using eF_on v h k a b ha hb⟩
theorem ends_rest {xs ys : List (List Int)} (h : EnP xs ys) : 0 < (pureR xs ys).length := by
  have v := h.v
  refine Classical.byContradiction fun hn => ?_
  have he : pureR xs ys = [] := List.eq_nil_of_length_eq_zero (by omega)
  have hi := v.ta.n1
  have hj := v.ta.m1
  have := eF_on v (fun i j hi hj e => by
    have hr := (repL_nil hi hj (v.rowy hi)).1 e
    have := (pureR_mem v hi hj).2 hr
    rw [he] at this; cases this) (xs.length * (gr xs 0).length) 0 0 hi hj
  rw [h.all 0 0 hi hj] at this; cases this
theorem repL_pair {xs ys : List (List Int)} {n i j a b : Nat} : [(a : Int), (b : Int)] ∈ repL xs ys n i j ↔ (b = j ∧ (a : Int) ∈ brF (colOf xs n j) i) ∨ (a = i ∧ (b : Int) ∈ brF (gr ys i) j) := by
  unfold repL mvA mvB
  rw [List.mem_append, List.mem_map, List.mem_map]
  constructor
  · rintro (⟨x, hx, e⟩ | ⟨x, hx, e⟩)
    · simp only [List.cons.injEq, and_true] at e
      exact .inl ⟨by omega, by rw [← e.1]; exact hx⟩
    · simp only [List.cons.injEq, and_true] at e
      exact .inr ⟨by omega, by rw [← e.2]; exact hx⟩
  · rintro (⟨rfl, h⟩ | ⟨rfl, h⟩)
    · exact .inl ⟨_, h, rfl⟩
    · exact .inr ⟨_, h, rfl⟩
theorem repL_flip {xs ys : List (List Int)} {n m i j a b : Nat} (hi : i < n) (hj : j < m) (hl : (gr ys i).length = m) : [(b : Int), (a : Int)] ∈ repL (flip ys n m) (flip xs n m) m j i ↔ [(a : Int), (b : Int)] ∈ repL xs ys n i j := by
  have e : colOf (flip ys n m) m i = gr ys i := gi_ext (by rw [colOf_len, hl]) fun k hk => by
    rw [colOf_len] at hk
    rw [gi_colOf hk, g2_flip hk hi]; rfl
  rw [repL_pair, repL_pair, e, flip_colOf hj]
  exact Or.comm
theorem eF_flip {xs ys : List (List Int)} (v : VG xs ys) {n m : Nat} (hn : xs.length = n) (hm : (gr xs 0).length = m) : ∀ k i j, i < n → j < m → eF (flip ys n m) (flip xs n m) m k j i = eF xs ys n k i j := by
  have key : ∀ i j, i < n → j < m → ∀ P : Nat → Nat → Bool, (∀ a b, a < n → b < m → P a b = true) ∨ True → True := fun _ _ _ _ _ _ => trivial
  clear key
  have hry : ∀ i, i < n → (gr ys i).length = m := fun i hi => by rw [← hm]; exact v.rowy (by rw [hn]; exact hi)
  have hrf : ∀ j, j < m → (gr (flip xs n m) j).length = n := fun j hj => by rw [flip_colOf hj, colOf_len]
  have pairs : ∀ i j, i < n → j < m → ∀ a b : Nat, [(b : Int), (a : Int)] ∈ repL (flip ys n m) (flip xs n m) m j i ↔ [(a : Int), (b : Int)] ∈ repL xs ys n i j := fun i j hi hj a b => repL_flip hi hj (hry i hi)
  intro k
  induction k with
  | zero =>
    intro i j hi hj
    rw [eF, eF]
    cases e : repL xs ys n i j with
    | nil =>
      cases e2 : repL (flip ys n m) (flip xs n m) m j i with
      | nil => rfl
      | cons x l =>
        obtain ⟨b, a, rfl, _, _⟩ := repL_in hj hi (hrf j hj) x (by rw [e2]; exact List.mem_cons_self ..)
        have := (pairs i j hi hj a b).1 (by rw [e2]; exact List.mem_cons_self ..)
        rw [e] at this; cases this
    | cons x l =>
      cases e2 : repL (flip ys n m) (flip xs n m) m j i with
      | cons x l => rfl
      | nil =>
        obtain ⟨a, b, rfl, _, _⟩ := repL_in hi hj (hry i hi) x (by rw [e]; exact List.mem_cons_self ..)
        have := (pairs i j hi hj a b).2 (by rw [e]; exact List.mem_cons_self ..)
        rw [e2] at this; cases this
  | succ k ih =>
    intro i j hi hj
    rw [eF, eF, Bool.eq_iff_iff, List.all_eq_true, List.all_eq_true]
    constructor
    · intro h r hr
      obtain ⟨a, b, rfl, ha, hb⟩ := repL_in hi hj (hry i hi) r hr
      have := h _ ((pairs i j hi hj a b).2 hr)
      simp only [gi, List.getD_cons_zero, List.getD_cons_succ, Int.toNat_natCast] at this ⊢
      rw [← ih a b ha hb]; exact this
    · intro h r hr
      obtain ⟨b, a, rfl, hb, ha⟩ := repL_in hj hi (hrf j hj) r hr
      have := h _ ((pairs i j hi hj a b).1 hr)
      simp only [gi, List.getD_cons_zero, List.getD_cons_succ, Int.toNat_natCast] at this ⊢
      rw [ih a b ha hb]; exact this
theorem ends_flip {xs ys : List (List Int)} (v : VG xs ys) : EnP (flip ys ys.length (gr ys 0).length) (flip xs xs.length (gr xs 0).length) ↔ EnP xs ys := by
  have hn := v.n
  have hm := v.m
  have h1 := v.tb.m1
  have v2 := v.flip2
  have hl : (flip ys ys.length (gr ys 0).length).length = (gr ys 0).length := flip_len _ _ _
  have hl0 : (gr (flip ys ys.length (gr ys 0).length) 0).length = ys.length := by rw [gr_flip h1]; simp
  rw [← hn, ← hm] at *
  constructor
  · intro h
    refine ⟨v, fun i j hi hj => ?_⟩
    have := h.all j i (by rw [hl]; exact hj) (by rw [hl0]; exact hi)
    rw [hl, hl0, eF_flip v rfl rfl _ i j hi hj, Nat.mul_comm] at this
    exact this
  · intro h
    refine ⟨v2, fun j i hj hi => ?_⟩
    rw [hl] at hj
    rw [hl0] at hi
    rw [hl, hl0, eF_flip v rfl rfl _ i j hi hj, Nat.mul_comm]
    exact h.all i j hi hj
end Go.Proofs.Ytjmfkodbilknlaa

/- Kin, in plain words: the kinship of people up to a number, and that of three. -/
namespace Go.Proofs.Ytjmfkodbilknlaa

/-- The row of a person: both parents ahead, and different, or both not known. -/
def PRr (r : List Int) (i : Nat) : Prop := r.length = 2 ∧ ((gi r 0 = -1 ∧ gi r 1 = -1) ∨ ((0 ≤ gi r 0 ∧ gi r 0 < i) ∧ (0 ≤ gi r 1 ∧ gi r 1 < i) ∧ gi r 0 ≠ gi r 1))
def PRow (f : List (List Int)) (i : Nat) : Prop := PRr (gr f i) i
structure VPe (f : List (List Int)) : Prop where
  n1 : 1 ≤ f.length
  n6 : f.length ≤ 6
  rows : ∀ i, i < f.length → PRow f i
theorem VPe.two {f} (v : VPe f) {i : Nat} (hi : i < f.length) : (gr f i).length = 2 := (v.rows i hi).1
theorem VPe.par {f} (v : VPe f) {i : Nat} (hi : i < f.length) : (g2 f i 0 = -1 ∧ g2 f i 1 = -1) ∨ ((0 ≤ g2 f i 0 ∧ g2 f i 0 < i) ∧ (0 ≤ g2 f i 1 ∧ g2 f i 1 < i) ∧ g2 f i 0 ≠ g2 f i 1) := (v.rows i hi).2

/-- The kinship of the people i and j up to m, times 2 to the power m + 1. -/
def kn (f : List (List Int)) : Nat → Nat → Nat → Int
  | 0, _, _ => 1
  | m + 1, i, j =>
    if i ≤ m ∧ j ≤ m then 2 * kn f m i j
    else if i = j then (if g2 f i 0 < 0 then 2 ^ (m + 1) else 2 ^ (m + 1) + kn f m (g2 f i 0).toNat (g2 f i 1).toNat)
    else if g2 f (max i j) 0 < 0 then 0 else kn f m (g2 f (max i j) 0).toNat (min i j) + kn f m (g2 f (max i j) 1).toNat (min i j)
theorem kn_symm (f : List (List Int)) : ∀ m i j, kn f m i j = kn f m j i
  | 0, _, _ => rfl
  | m + 1, i, j => by
    by_cases e : i = j
    · subst e; rfl
    · rw [kn, kn]
      by_cases h : i ≤ m ∧ j ≤ m
      · rw [if_pos h, if_pos (show j ≤ m ∧ i ≤ m from ⟨h.2, h.1⟩), kn_symm f m i j]
      · rw [if_neg h, if_neg (show ¬(j ≤ m ∧ i ≤ m) from fun k => h ⟨k.2, k.1⟩), if_neg e, if_neg (Ne.symm e), Nat.max_comm i j, Nat.min_comm i j]
theorem kn_bd (f : List (List Int)) : ∀ m i j, 0 ≤ kn f m i j ∧ kn f m i j < 2 ^ (m + 1)
  | 0, _, _ => by unfold kn; decide
  | m + 1, i, j => by
    have hp : (0 : Int) < 2 ^ (m + 1) := Int.pow_pos (by decide)
    have h2 : (2 : Int) ^ (m + 1 + 1) = 2 * 2 ^ (m + 1) := by rw [Int.pow_succ]; omega
    rw [h2]
    unfold kn
    split
    · have := kn_bd f m i j; omega
    · split
      · split
        · omega
        · have := kn_bd f m (g2 f i 0).toNat (g2 f i 1).toNat; omega
      · split
        · omega
        · have := kn_bd f m (g2 f (max i j) 0).toNat (min i j)
          have := kn_bd f m (g2 f (max i j) 1).toNat (min i j)
          omega
theorem kn_low (f : List (List Int)) {m i j : Nat} (hi : i ≤ m) (hj : j ≤ m) : kn f (m + 1) i j = 2 * kn f m i j := by rw [kn, if_pos ⟨hi, hj⟩]
theorem kn_self {f : List (List Int)} {m : Nat} : kn f (m + 1) (m + 1) (m + 1) = if g2 f (m + 1) 0 < 0 then 2 ^ (m + 1) else 2 ^ (m + 1) + kn f m (g2 f (m + 1) 0).toNat (g2 f (m + 1) 1).toNat := by
  rw [kn, if_neg (by omega), if_pos rfl]
theorem kn_off {f : List (List Int)} {m j : Nat} (h : j ≤ m) : kn f (m + 1) (m + 1) j = if g2 f (m + 1) 0 < 0 then 0 else kn f m (g2 f (m + 1) 0).toNat j + kn f m (g2 f (m + 1) 1).toNat j := by
  rw [kn, if_neg (by omega), if_neg (by omega), Nat.max_eq_left (by omega), Nat.min_eq_right (by omega)]
/-- The kinship, times 64. -/
def kK (f : List (List Int)) (i j : Nat) : Int := kn f 5 i j
theorem kK_symm (f : List (List Int)) (i j : Nat) : kK f i j = kK f j i := kn_symm f 5 i j
theorem kK_bd (f : List (List Int)) (i j : Nat) : 0 ≤ kK f i j ∧ kK f i j < 64 := kn_bd f 5 i j
theorem kn_up (f : List (List Int)) {m i j : Nat} (hi : i ≤ m) (hj : j ≤ m) : ∀ t, kn f (m + t) i j = 2 ^ t * kn f m i j
  | 0 => by simp
  | t + 1 => by rw [show m + (t + 1) = (m + t) + 1 from rfl, kn_low f (by omega) (by omega), kn_up f hi hj t, Int.pow_succ, Int.mul_comm (2 ^ t) 2, Int.mul_assoc]
theorem kK_of (f : List (List Int)) {m i j : Nat} (hi : i ≤ m) (hj : j ≤ m) (h : m ≤ 5) : kK f i j = 2 ^ (5 - m) * kn f m i j := by
  have := kn_up f hi hj (5 - m)
  rw [show m + (5 - m) = 5 by omega] at this
  exact this
theorem kK_self {f : List (List Int)} (v : VPe f) {i : Nat} (hi : i < f.length) : 2 * kK f i i = 64 + if g2 f i 0 < 0 then 0 else kK f (g2 f i 0).toNat (g2 f i 1).toNat := by
  have n6 := v.n6
  have hp := v.par hi
  match i, hi, hp with
  | 0, hi, hp =>
    rw [if_pos (by omega), kK_of f (m := 0) (Nat.le_refl _) (Nat.le_refl _) (by omega), kn]
    decide
  | m + 1, hi, hp =>
    rw [kK_of f (m := m + 1) (Nat.le_refl _) (Nat.le_refl _) (by omega), kn_self]
    by_cases h : g2 f (m + 1) 0 < 0
    · rw [if_pos h, if_pos h]
      match m, hi with
      | 0, _ => decide
      | 1, _ => decide
      | 2, _ => decide
      | 3, _ => decide
      | 4, _ => decide
      | m + 5, hi => omega
    · rw [if_neg h, if_neg h, kK_of f (m := m) (by omega) (by omega) (by omega)]
      generalize kn f m (g2 f (m + 1) 0).toNat (g2 f (m + 1) 1).toNat = x
      clear hp h
      match m, hi with
      | 0, _ => simp; omega
      | 1, _ => simp; omega
      | 2, _ => simp; omega
      | 3, _ => simp; omega
      | 4, _ => simp; omega
      | m + 5, hi => omega
theorem kK_off {f : List (List Int)} (v : VPe f) {i j : Nat} (hi : i < f.length) (hj : j < i) : 2 * kK f i j = if g2 f i 0 < 0 then 0 else kK f (g2 f i 0).toNat j + kK f (g2 f i 1).toNat j := by
  have n6 := v.n6
  have hp := v.par hi
  match i, hi, hj, hp with
  | m + 1, hi, hj, hp =>
    rw [kK_of f (m := m + 1) (Nat.le_refl _) (by omega) (by omega), kn_off (by omega)]
    by_cases h : g2 f (m + 1) 0 < 0
    · rw [if_pos h, if_pos h]; simp
    · rw [if_neg h, if_neg h, kK_of f (m := m) (by omega) (by omega) (by omega), kK_of f (m := m) (by omega) (by omega) (by omega)]
      generalize kn f m (g2 f (m + 1) 0).toNat j = x
      generalize kn f m (g2 f (m + 1) 1).toNat j = y
      clear hp h
      match m, hi with
      | 0, _ => simp; omega
      | 1, _ => simp; omega
      | 2, _ => simp; omega
      | 3, _ => simp; omega
      | 4, _ => simp; omega
      | m + 5, hi => omega
theorem kK_pos {f : List (List Int)} (v : VPe f) {i : Nat} (hi : i < f.length) : 32 ≤ kK f i i := by
  have := kK_self v hi
  split at this
  · omega
  · have := kK_bd f (g2 f i 0).toNat (g2 f i 1).toNat; omega
/-- Three people: who is kin with two is so no more than these with each other, and all. -/
theorem kn_three {f : List (List Int)} (v : VPe f) : ∀ m, m < f.length → ∀ a b c, a ≤ m → b ≤ m → c ≤ m → kn f m a c + kn f m b c ≤ 2 ^ (m + 1) + kn f m a b
  | 0, _, _, _, _, _, _, _ => by simp [kn]
  | m + 1, hm, a, b, c, ha, hb, hc => by
    have ih := kn_three v m (by omega)
    have hp : (0 : Int) < 2 ^ (m + 1) := Int.pow_pos (by decide)
    have h2 : (2 : Int) ^ (m + 1 + 1) = 2 * 2 ^ (m + 1) := by rw [Int.pow_succ]; omega
    have par := v.par hm
    rw [h2]
    generalize hP : (g2 f (m + 1) 0).toNat = P
    generalize hQ : (g2 f (m + 1) 1).toNat = Q
    have ea : a ≤ m ∨ a = m + 1 := by omega
    have eb : b ≤ m ∨ b = m + 1 := by omega
    have ec : c ≤ m ∨ c = m + 1 := by omega
    have off : ∀ j, j ≤ m → kn f (m + 1) (m + 1) j = if g2 f (m + 1) 0 < 0 then 0 else kn f m P j + kn f m Q j := fun j hj => by rw [kn_off hj, hP, hQ]
    have off' : ∀ j, j ≤ m → kn f (m + 1) j (m + 1) = if g2 f (m + 1) 0 < 0 then 0 else kn f m P j + kn f m Q j := fun j hj => by rw [kn_symm, off j hj]
    have self : kn f (m + 1) (m + 1) (m + 1) = if g2 f (m + 1) 0 < 0 then 2 ^ (m + 1) else 2 ^ (m + 1) + kn f m P Q := by rw [kn_self, hP, hQ]
    have low : ∀ i j, i ≤ m → j ≤ m → kn f (m + 1) i j = 2 * kn f m i j := fun i j hi hj => kn_low f hi hj
    have bd := fun i j => kn_bd f m i j
    by_cases hf : g2 f (m + 1) 0 < 0
    · simp only [if_pos hf] at off off' self
      rcases ea with ea | rfl <;> rcases eb with eb | rfl <;> rcases ec with ec | rfl
      · rw [low _ _ ea ec, low _ _ eb ec, low _ _ ea eb]; have := ih a b c ea eb ec; omega
      · rw [off' _ ea, off' _ eb, low _ _ ea eb]; have := bd a b; omega
      · rw [low _ _ ea ec, off _ ec, off' _ ea]; have := bd a c; omega
      · rw [off' _ ea, self]; omega
      · rw [off _ ec, low _ _ eb ec, off _ eb]; have := bd b c; omega
      · rw [self, off' _ eb, off _ eb]; omega
      · rw [off _ ec, self]; omega
      · rw [self]; omega
    · have pP : P ≤ m := by omega
      have pQ : Q ≤ m := by omega
      simp only [if_neg hf] at off off' self
      rcases ea with ea | rfl <;> rcases eb with eb | rfl <;> rcases ec with ec | rfl
      · rw [low _ _ ea ec, low _ _ eb ec, low _ _ ea eb]; have := ih a b c ea eb ec; omega
      · rw [off' _ ea, off' _ eb, low _ _ ea eb]
        have h1 := ih a b P ea eb pP
        have h2 := ih a b Q ea eb pQ
        rw [kn_symm f m a P, kn_symm f m b P] at h1
        rw [kn_symm f m a Q, kn_symm f m b Q] at h2
        omega
      · rw [low _ _ ea ec, off _ ec, off' _ ea]
        have h1 := ih a P c ea pP ec
        have h2 := ih a Q c ea pQ ec
        rw [kn_symm f m a P] at h1
        rw [kn_symm f m a Q] at h2
        omega
      · rw [off' _ ea, self]
        have := bd P Q; omega
      · rw [off _ ec, low _ _ eb ec, off _ eb]
        have h1 := ih P b c pP eb ec
        have h2 := ih Q b c pQ eb ec
        omega
      · rw [self, off' _ eb, off _ eb]
        have := bd P Q; omega
      · rw [off _ ec, self]
        have h1 := ih P Q c pP pQ ec
        have := bd P Q
        omega
      · rw [self]
        have := bd P Q
        omega
theorem kK_le {f : List (List Int)} (v : VPe f) {i j : Nat} (hi : i < f.length) (hj : j < i) : kK f i j ≤ kK f i i := by
  have n6 := v.n6
  have h1 := kK_off v hi hj
  have h2 := kK_self v hi
  have hp := v.par hi
  by_cases h : g2 f i 0 < 0
  · rw [if_pos h] at h1 h2; omega
  · rw [if_neg h] at h1 h2
    have h3 := kn_three v (f.length - 1) (by omega) (g2 f i 0).toNat (g2 f i 1).toNat j (by omega) (by omega) (by omega)
    rw [kK_of f (i := (g2 f i 0).toNat) (m := f.length - 1) (by omega) (by omega) (by omega), kK_of f (i := (g2 f i 1).toNat) (m := f.length - 1) (by omega) (by omega) (by omega)] at h1
    rw [kK_of f (i := (g2 f i 0).toNat) (m := f.length - 1) (by omega) (by omega) (by omega)] at h2
    have hl := v.n1
    generalize kn f (f.length - 1) (g2 f i 0).toNat j = x at *
    generalize kn f (f.length - 1) (g2 f i 1).toNat j = y at *
    generalize kn f (f.length - 1) (g2 f i 0).toNat (g2 f i 1).toNat = z at *
    generalize f.length = n at *
    clear hp
    rcases (show n = 1 ∨ n = 2 ∨ n = 3 ∨ n = 4 ∨ n = 5 ∨ n = 6 by omega) with rfl | rfl | rfl | rfl | rfl | rfl
    all_goals (simp at h1 h2 h3; omega)
theorem kK_max {f : List (List Int)} (v : VPe f) {i j : Nat} (hi : i < f.length) (hj : j < f.length) : kK f i j ≤ kK f i i ∨ kK f i j ≤ kK f j j := by
  rcases Nat.lt_trichotomy j i with h | rfl | h
  · exact .inl (kK_le v hi h)
  · exact .inl (by omega)
  · exact .inr (by rw [kK_symm]; exact kK_le v hj h)
end Go.Proofs.Ytjmfkodbilknlaa

/- Valid people, by both programs. -/
namespace Go.Proofs.Ytjmfkodbilknlaa
open Go.RowKit

theorem VPe_no {f : List (List Int)} {i : Nat} (hi : i < f.length) (h : ¬ PRow f i) : pb (VPe f) = false := pb_false fun v => h (v.rows i hi)

set_option maxHeartbeats 1600000 in
theorem validFolk_any (A : Option Addr) (n c : Nat) (a : List (List Int)) (w : World) (hx : IntRows w A n c a) :
    Calls Try.prog 32 #[.slice A n c] w fun e w' => e = .returned (.bool (pb (VPe a))) ∧ Quiet w w' := by
  obtain ⟨lx, cx, mx, hx⟩ := hx
  have Lx := Lib.hid lx
  clear lx
  go_enter Try.func32, Try.ntmps32
  go_wp2
  go_loopw [3] (fun i wr => ∃ k : Nat, k ≤ n ∧ i = .int .i64 k ∧ Hid (∀ i, i < k → PRow a i) ∧ Quiet w wr) (fun i _ => n - (intOf i).toNat)
  case atStart => exact ⟨0, Nat.zero_le _, rfl, Lib.hid (fun _ h => absurd h (by omega)), Quiet.refl _⟩
  case round =>
    obtain ⟨k, hk, rfl, HALL, q, rfl⟩ := hrel
    by_cases hlt : k < n
    · obtain ⟨b, o, rfl, hc⟩ := hx (by omega)
      obtain ⟨R, cc, c1, hR⟩ := hc k hlt
      have hL1 : (gr a k).length ≤ 17592186044416 := hR.max
      have HKA := Lib.hid (show k < a.length by rw [Lx.out]; exact hlt)
      clear hx hc
      by_cases hlen : (gr a k).length = 2
      · rw [hlen] at c1 hL1 hR
        obtain ⟨b2, o2, rfl, hc2⟩ := hR.at_ (by omega)
        have c20 := hc2 0 (by omega)
        have c21 := hc2 1 (by omega)
        simp only [Nat.add_zero] at c20
        have HR : Hid (PRow a k ↔ ((g2 a k 0 = -1 ∧ g2 a k 1 = -1) ∨ ((0 ≤ g2 a k 0 ∧ g2 a k 0 < k) ∧ (0 ≤ g2 a k 1 ∧ g2 a k 1 < k) ∧ g2 a k 0 ≠ g2 a k 1))) := Lib.hid ⟨fun h => h.2, fun h => ⟨hlen, h⟩⟩
        replace c20 : w.cell? ⟨b2, o2, none⟩ = some (.int .i64 (g2 a k 0)) := c20
        replace c21 : w.cell? ⟨b2, o2 + 1, none⟩ = some (.int .i64 (g2 a k 1)) := c21
        clear hc2 hR hlen
        generalize g2 a k 0 = x at *
        generalize g2 a k 1 = y at *
        by_cases hrow : PRow a k
        · have HK := Lib.hid hrow
          have hor := HR.out.1 hrow
          clear hrow HR
          rcases hor with ⟨e1, e2⟩ | ⟨hp, hq, hne⟩
          · subst e1 e2
            go_wp2
            go_roundw
            case rel => exact ⟨k + 1, by omega, by go_num, Lib.hid (fun j hj => by
              by_cases hjk : j < k
              · exact HALL.out j hjk
              · obtain rfl : j = k := by omega
                exact HK.out), by first | exact ⟨_, rfl⟩ | exact Quiet.two _ _ _⟩
            case measure => simp [intOf]; omega
          · have e1 : (x != -1) = true := by simp; omega
            have e3 : (x == y) = false := by simp; omega
            have HP := Lib.hid (fun (W : World) => (pb_true (p := InR x 0 (k - 1)) ⟨hp.1, by omega⟩) ▸ inRange_any x 0 (k - 1) W)
            have HQ := Lib.hid (fun (W : World) => (pb_true (p := InR y 0 (k - 1)) ⟨hq.1, by omega⟩) ▸ inRange_any y 0 (k - 1) W)
            clear hp hq hne
            go_wp2_with (go_at_call 33; (first | (with_reducible refine (HP.out _).mono ?_) | (with_reducible refine (HQ.out _).mono ?_)); rintro e w' ⟨rfl, rfl⟩)
            go_roundw
            case rel => exact ⟨k + 1, by omega, by go_num, Lib.hid (fun j hj => by
              by_cases hjk : j < k
              · exact HALL.out j hjk
              · obtain rfl : j = k := by omega
                exact HK.out), by first | exact ⟨_, rfl⟩ | exact Quiet.two _ _ _⟩
            case measure => simp [intOf]; omega
        · have HV := Lib.hid (VPe_no HKA.out hrow)
          have hor := fun h => hrow (HR.out.2 h)
          clear hrow HR
          have e0 : (x != -1) = true ∨ ((x != -1) = false ∧ (y != -1) = true) := by
            by_cases h1 : x = -1
            · by_cases h2 : y = -1
              · exact absurd (.inl ⟨h1, h2⟩) hor
              · exact .inr ⟨by simp [h1], by simp [h2]⟩
            · exact .inl (by simp [h1])
          by_cases hp : InR x 0 (k - 1)
          · by_cases hq : InR y 0 (k - 1)
            · have e3 : (x == y) = true := by
                simp
                apply Classical.byContradiction
                intro hne
                exact hor (.inr ⟨⟨hp.1, by have := hp.2; omega⟩, ⟨hq.1, by have := hq.2; omega⟩, hne⟩)
              have HP := Lib.hid (fun (W : World) => (pb_true hp) ▸ inRange_any x 0 (k - 1) W)
              have HQ := Lib.hid (fun (W : World) => (pb_true hq) ▸ inRange_any y 0 (k - 1) W)
              clear hp hq hor
              rcases e0 with e1 | ⟨e1, e2⟩
              all_goals go_wp2_with (go_at_call 33; (first | (with_reducible refine (HP.out _).mono ?_) | (with_reducible refine (HQ.out _).mono ?_)); rintro e w' ⟨rfl, rfl⟩)
              all_goals go_ret
              all_goals exact ⟨ret_bool HV.out.symm, by first | exact ⟨_, rfl⟩ | exact Quiet.two _ _ _⟩
            · have HP := Lib.hid (fun (W : World) => (pb_true hp) ▸ inRange_any x 0 (k - 1) W)
              have HQ := Lib.hid (fun (W : World) => (pb_false hq) ▸ inRange_any y 0 (k - 1) W)
              clear hp hq hor
              rcases e0 with e1 | ⟨e1, e2⟩
              all_goals go_wp2_with (go_at_call 33; (first | (with_reducible refine (HP.out _).mono ?_) | (with_reducible refine (HQ.out _).mono ?_)); rintro e w' ⟨rfl, rfl⟩)
              all_goals go_ret
              all_goals exact ⟨ret_bool HV.out.symm, by first | exact ⟨_, rfl⟩ | exact Quiet.two _ _ _⟩
          · have HP := Lib.hid (fun (W : World) => (pb_false hp) ▸ inRange_any x 0 (k - 1) W)
            clear hp hor
            rcases e0 with e1 | ⟨e1, e2⟩
            all_goals go_wp2_with (go_at_call 33; (with_reducible refine (HP.out _).mono ?_); rintro e w' ⟨rfl, rfl⟩)
            all_goals go_ret
            all_goals exact ⟨ret_bool HV.out.symm, by first | exact ⟨_, rfl⟩ | exact Quiet.two _ _ _⟩
      · have HV := Lib.hid (VPe_no HKA.out (fun h => hlen h.1))
        have hlen' : (((gr a k).length : Int) != 2) = true := by simp; omega
        clear hlen
        go_wp2
        go_ret
        exact ⟨ret_bool HV.out.symm, by first | exact ⟨_, rfl⟩ | exact Quiet.two _ _ _⟩
    · obtain rfl : k = n := by omega
      have HV : Hid (pb (VPe a) = pb (InR (k : Int) 1 6)) := Lib.hid (pb_congr ⟨fun v => ⟨by have := v.n1; rw [Lx.out] at this; omega, by have := v.n6; rw [Lx.out] at this; omega⟩, fun v => by
          unfold InR at v
          exact ⟨by rw [Lx.out]; omega, by rw [Lx.out]; omega, fun i hi => HALL.out i (by rw [Lx.out] at hi; exact hi)⟩⟩)
      go_wp2_with fail
      refine (inRange_any _ _ _ _).mono ?_
      rintro e w' ⟨rfl, rfl⟩
      go_wp2
      go_ret
      exact ⟨ret_bool HV.out.symm, ⟨_, rfl⟩⟩

set_option maxHeartbeats 1600000 in
theorem areParents_any (A : Option Addr) (n c : Nat) (xs : List Int) (k : Nat) (w : World) (hx : Ints w A n c xs) :
    Calls Try.prog 85 #[.slice A n c, .int .i64 k] w fun e w' => e = .returned (.bool (pb (PRr xs k))) ∧ Quiet w w' := by
  have hm := hx.max
  by_cases hlen : n = 2
  · subst hlen
    have HL := Lib.hid hx.len
    obtain ⟨b, o, rfl, hc⟩ := hx.at_ (by omega)
    have c0 := hc 0 (by omega)
    have c1 := hc 1 (by omega)
    simp only [Nat.add_zero] at c0
    have HR : Hid (PRr xs k ↔ ((gi xs 0 = -1 ∧ gi xs 1 = -1) ∨ ((0 ≤ gi xs 0 ∧ gi xs 0 < k) ∧ (0 ≤ gi xs 1 ∧ gi xs 1 < k) ∧ gi xs 0 ≠ gi xs 1))) := Lib.hid ⟨fun h => h.2, fun h => ⟨HL.out, h⟩⟩
    clear hc hx HL
    generalize gi xs 0 = x at *
    generalize gi xs 1 = y at *
    by_cases e : x = -1 ∧ y = -1
    · obtain ⟨rfl, rfl⟩ := e
      have HV := Lib.hid (pb_true (HR.out.2 (.inl ⟨rfl, rfl⟩)))
      clear HR
      go_enter Try.func85, Try.ntmps85
      go_wp2
      go_ret
      exact ⟨ret_bool HV.out.symm, by first | exact Quiet.refl _ | exact ⟨_, rfl⟩⟩
    have e0 : (x == -1) = false ∨ ((x == -1) = true ∧ (y == -1) = false) := by
      by_cases h1 : x = -1
      · exact .inr ⟨by simp [h1], by simp; exact fun h2 => e ⟨h1, h2⟩⟩
      · exact .inl (by simp [h1])
    have HV : Hid (pb (PRr xs k) = (decide (x ≠ y) && pb (Blw k x) && pb (Blw k y))) := Lib.hid (by
      by_cases h : PRr xs k
      · rcases HR.out.1 h with h' | ⟨h1, h2, h3⟩
        · exact absurd h' e
        · rw [pb_true h, pb_true (p := Blw k x) h1, pb_true (p := Blw k y) h2]; simp [h3]
      · rw [pb_false h]
        by_cases h1 : Blw k x
        · by_cases h2 : Blw k y
          · by_cases h3 : x = y
            · simp [h3]
            · exact absurd (HR.out.2 (.inr ⟨h1, h2, h3⟩)) h
          · rw [pb_false h2]; simp
        · rw [pb_false h1]; simp)
    clear HR e
    have HP := Lib.hid (fun W => isBelow_any k x W)
    have HQ := Lib.hid (fun W => isBelow_any k y W)
    by_cases h3 : x = y
    · have e3 : (x != y) = false := by simp [h3]
      have HW : Hid (pb (PRr xs k) = false) := Lib.hid (by rw [HV.out]; simp [h3])
      clear HV h3
      rcases e0 with e1 | ⟨e1, e2⟩
      all_goals go_enter Try.func85, Try.ntmps85
      all_goals go_wp2
      all_goals go_quiet (fail)
      all_goals go_wp2
      all_goals go_ret
      all_goals exact ⟨ret_bool HW.out.symm, by first | exact ⟨_, rfl⟩ | exact Quiet.two _ _ _⟩
    · have e3 : (x != y) = true := by simp [h3]
      by_cases h1 : Blw k x
      · have HPX : Hid (∀ W, Calls Try.prog 68 #[.int .i64 (k : Int), .int .i64 x] W fun e w' => e = .returned (.bool true) ∧ W = w') := Lib.hid (fun W => pb_true h1 ▸ HP.out W)
        by_cases h2 : Blw k y
        · have HQX : Hid (∀ W, Calls Try.prog 68 #[.int .i64 (k : Int), .int .i64 y] W fun e w' => e = .returned (.bool true) ∧ W = w') := Lib.hid (fun W => pb_true h2 ▸ HQ.out W)
          have HW : Hid (pb (PRr xs k) = true) := Lib.hid (by rw [HV.out, pb_true h1, pb_true h2]; simp [h3])
          clear HV h3 h1 h2 HP HQ
          rcases e0 with e1 | ⟨e1, e2⟩
          all_goals go_enter Try.func85, Try.ntmps85
          all_goals go_wp2
          all_goals go_quiet ((go_at_call 68; (first | (with_reducible refine same_fit (HPX.out _) (fun m => ?_)) | (with_reducible refine same_fit (HQX.out _) (fun m => ?_))); exact drewN_to1 _ _ _))
          all_goals go_wp2
          all_goals go_ret
          all_goals exact ⟨ret_bool HW.out.symm, by first | exact ⟨_, rfl⟩ | exact Quiet.two _ _ _⟩
        · have HQX : Hid (∀ W, Calls Try.prog 68 #[.int .i64 (k : Int), .int .i64 y] W fun e w' => e = .returned (.bool false) ∧ W = w') := Lib.hid (fun W => pb_false h2 ▸ HQ.out W)
          have HW : Hid (pb (PRr xs k) = false) := Lib.hid (by rw [HV.out, pb_true h1, pb_false h2]; simp)
          clear HV h3 h1 h2 HP HQ
          rcases e0 with e1 | ⟨e1, e2⟩
          all_goals go_enter Try.func85, Try.ntmps85
          all_goals go_wp2
          all_goals go_quiet ((go_at_call 68; (first | (with_reducible refine same_fit (HPX.out _) (fun m => ?_)) | (with_reducible refine same_fit (HQX.out _) (fun m => ?_))); exact drewN_to1 _ _ _))
          all_goals go_wp2
          all_goals go_ret
          all_goals exact ⟨ret_bool HW.out.symm, by first | exact ⟨_, rfl⟩ | exact Quiet.two _ _ _⟩
      · have HPX : Hid (∀ W, Calls Try.prog 68 #[.int .i64 (k : Int), .int .i64 x] W fun e w' => e = .returned (.bool false) ∧ W = w') := Lib.hid (fun W => pb_false h1 ▸ HP.out W)
        have HW : Hid (pb (PRr xs k) = false) := Lib.hid (by rw [HV.out, pb_false h1]; simp)
        clear HV h3 h1 HP HQ
        rcases e0 with e1 | ⟨e1, e2⟩
        all_goals go_enter Try.func85, Try.ntmps85
        all_goals go_wp2
        all_goals go_quiet ((go_at_call 68; (with_reducible refine same_fit (HPX.out _) (fun m => ?_)); exact drewN_to1 _ _ _))
        all_goals go_wp2
        all_goals go_ret
        all_goals exact ⟨ret_bool HW.out.symm, by first | exact ⟨_, rfl⟩ | exact Quiet.two _ _ _⟩
  · have HV := Lib.hid (pb_false (p := PRr xs k) fun v => hlen (by rw [← hx.len]; exact v.1))
    have hlen' : ((n : Int) != 2) = true := by simp; omega
    clear hlen hx
    go_enter Try.func85, Try.ntmps85
    go_wp2
    go_ret
    exact ⟨ret_bool HV.out.symm, Quiet.refl _⟩
set_option maxHeartbeats 1600000 in
theorem ValidFolk_impl (A : Option Addr) (n c : Nat) (a : List (List Int)) (w : World) (hx : IntRows w A n c a) :
    Calls Try.prog 67 #[.slice A n c] w fun e w' => e = .returned (.bool (pb (VPe a))) ∧ Quiet w w' := by
  obtain ⟨lx, cx, mx, hx⟩ := hx
  have Lx := Lib.hid lx
  clear lx
  by_cases h1 : n < 1
  · have HV := Lib.hid (pb_false (p := VPe a) fun v => by have := v.n1; rw [Lx.out] at this; omega)
    go_enter Try.func67, Try.ntmps67
    go_wp2
    go_ret
    exact ⟨ret_bool HV.out.symm, Quiet.refl _⟩
  by_cases h4 : 6 < n
  · have HV := Lib.hid (pb_false (p := VPe a) fun v => by have := v.n6; rw [Lx.out] at this; omega)
    go_enter Try.func67, Try.ntmps67
    go_wp2
    go_ret
    exact ⟨ret_bool HV.out.symm, Quiet.refl _⟩
  obtain ⟨b, o, rfl, hc⟩ := hx (by omega)
  go_enter Try.func67, Try.ntmps67
  go_wp2
  go_loopw [15] (fun i wr => ∃ k : Nat, k ≤ n ∧ i = .int .i64 k ∧ Hid (∀ i, i < k → PRow a i) ∧ Quiet w wr) (fun i _ => n - (intOf i).toNat)
  case atStart => exact ⟨0, Nat.zero_le _, rfl, Lib.hid (fun _ h => absurd h (by omega)), Quiet.refl _⟩
  case round =>
    obtain ⟨k, hk, rfl, HALL, q, rfl⟩ := hrel
    by_cases hlt : k < n
    · obtain ⟨R, cc, c1, hR⟩ := hc k hlt
      have HKA := Lib.hid (show k < a.length by rw [Lx.out]; exact hlt)
      have HC := Lib.hid (fun W (hq : Quiet w W) => areParents_any R (gr a k).length cc (gr a k) k W (hR.keep (Keep.quiet hq)))
      clear hc hR
      by_cases hrow : PRow a k
      · have HK := Lib.hid hrow
        have HP := Lib.hid (pb_true (p := PRr (gr a k) k) hrow)
        clear hrow
        go_wp2_with fail
        refine (HP.out ▸ HC.out _ ⟨_, rfl⟩).mono ?_
        rintro e w1 ⟨rfl, q1, rfl⟩
        clear HC HP
        go_wp2
        go_roundw
        case rel => exact ⟨k + 1, by omega, by go_num, Lib.hid (fun j hj => by
            by_cases hjk : j < k
            · exact HALL.out j hjk
            · obtain rfl : j = k := by omega
              exact HK.out), by first | exact ⟨_, rfl⟩ | exact Quiet.two _ _ _⟩
        case measure => simp [intOf]; omega
      · have HP := Lib.hid (pb_false (p := PRr (gr a k) k) hrow)
        have HV := Lib.hid (VPe_no HKA.out hrow)
        clear hrow
        go_wp2_with fail
        refine (HP.out ▸ HC.out _ ⟨_, rfl⟩).mono ?_
        rintro e w1 ⟨rfl, q1, rfl⟩
        clear HC HP
        go_wp2
        go_ret
        exact ⟨ret_bool HV.out.symm, by first | exact ⟨_, rfl⟩ | exact Quiet.two _ _ _⟩
    · obtain rfl : k = n := by omega
      go_wp2
      go_ret
      exact ⟨ret_bool (pb_true (p := VPe a) ⟨by rw [Lx.out]; omega, by rw [Lx.out]; omega, fun j hj => HALL.out j (by rw [Lx.out] at hj; exact hj)⟩).symm, ⟨_, rfl⟩⟩
end Go.Proofs.Ytjmfkodbilknlaa

/- Small functions of the laws. -/
namespace Go.Proofs.Ytjmfkodbilknlaa
open Go.RowKit

set_option maxHeartbeats 400000 in
theorem divisor_any (a b : Int) (w : World) (ha : Mid a) (hb : Mid b) :
    Calls Try.prog 56 #[.int .i64 a, .int .i64 b] w fun e w' => e = .returned (.int .i64 (gcdI a b)) ∧ Quiet w w' := by
  have HA := Lib.hid ha
  have HB := Lib.hid hb
  clear ha hb
  go_enter Try.func56, Try.ntmps56
  go_wp2
  go_loopw [0, 1] (fun s t wr => ∃ x y : Int, s = .int .i64 x ∧ t = .int .i64 y ∧ Hid (Mid x) ∧ Hid (Mid y) ∧ Hid (gcdI x y = gcdI a b) ∧ Quiet w wr) (fun _ t _ => (intOf t).natAbs)
  case atStart => exact ⟨a, b, rfl, rfl, HA, HB, Lib.hid rfl, Quiet.refl _⟩
  case round =>
    obtain ⟨x, y, rfl, rfl, HX, HY, HG, q, rfl⟩ := hrel
    obtain ⟨x1, x2⟩ := HX.out
    obtain ⟨y1, y2⟩ := HY.out
    by_cases hy : y = 0
    · subst hy
      have hg := Lib.hid (gcdI_zero x)
      go_wp2
      all_goals go_ret
      all_goals exact ⟨ret_int (by rw [← HG.out, hg.out]; omega), ⟨_, rfl⟩⟩
    · have hy' : (y != 0) = true := by simpa using hy
      have HM := Lib.hid (HX.out.tmod (y := y))
      have HS := Lib.hid (gcdI_step x y)
      have HT := Lib.hid (tmod_abs (a := x) hy)
      go_wp2
      go_roundw
      case rel => exact ⟨y, x.tmod y, rfl, rfl, HY, HM, Lib.hid (HS.out.trans HG.out), ⟨_, rfl⟩⟩
      case measure => have := HT.out; simpa [intOf] using this

set_option maxHeartbeats 400000 in
theorem lessOf_any (u d v e : Int) (w : World) (hu : -1000000000 ≤ u ∧ u ≤ 1000000000) (hv : -1000000000 ≤ v ∧ v ≤ 1000000000) (hd : 0 ≤ d ∧ d ≤ 1000000000) (he : 0 ≤ e ∧ e ≤ 1000000000) :
    Calls Try.prog 17 #[.agg #[.int .i64 u, .int .i64 d], .agg #[.int .i64 v, .int .i64 e]] w (Ret (.bool (lessB u d v e)) w) := by
  obtain ⟨p1, p2⟩ := less_bd hu he
  obtain ⟨p3, p4⟩ := less_bd hv hd
  have b0 := blk_old (blk_new w 25 #[.int .i64 u, .int .i64 d]) (.cells #[.int .i64 v, .int .i64 e] 25)
  have b1 := blk_new (w.alloc (.cells #[.int .i64 u, .int .i64 d] 25)) 25 #[.int .i64 v, .int .i64 e]
  have HB := Lib.hid (below_up (below_alloc w (.cells #[.int .i64 u, .int .i64 d] 25)) (below_alloc _ (.cells #[.int .i64 v, .int .i64 e] 25)))
  rw [World.size_alloc] at b1
  have c0 := blk_cell b0 (i := 0) rfl
  have c1 := blk_cell b0 (i := 1) rfl
  have c2 := blk_cell b1 (i := 0) rfl
  have c3 := blk_cell b1 (i := 1) rfl
  go_enter Try.func17, Try.ntmps17
  go_wp2
  go_ret
  exact ⟨rfl, HB.out⟩
set_option maxHeartbeats 1000000 in
theorem fracOfL_any (u d : Int) (w : World) (hu : Mid u) (hd : Mid d) (h1 : 1 ≤ d) :
    Calls Try.prog 20 #[.int .i64 u, .int .i64 d] w (Ret (frV u d) w) := by
  have HQ := Lib.hid (fun W => divisor_any u d W hu hd)
  have hg1 := gcdI_pos (a := u) (b := d) (by omega)
  have hg2 := gcdI_le (a := u) (b := d) (by omega)
  obtain ⟨u1, u2⟩ := hu
  obtain ⟨d1, d2⟩ := hd
  have hB := Lib.hid (below_alloc w (.cells #[.int .i64 0, .int .i64 0] 25))
  go_enter Try.func20, Try.ntmps20
  go_wp2_with fail
  refine (HQ.out _).mono ?_
  rintro e w2 ⟨rfl, hq⟩
  have HFU : Hid (frU u d = u.tdiv (gcdI u d)) := Lib.hid rfl
  have HFD : Hid (frD u d = d / gcdI u d) := Lib.hid (by unfold frD; rw [Int.tdiv_eq_ediv_of_nonneg (by omega)])
  have b0 := blk_quiet (blk_new w 25 #[.int .i64 0, .int .i64 0]) hq
  have HBW := Lib.hid (below_quiet hB.out hq)
  clear hq hB HQ
  generalize gcdI u d = g at *
  have c0 := blk_cell b0 (i := 0) rfl
  have c1 := blk_cell b0 (i := 1) rfl
  have f0 := blk_frozen b0 0
  have f1 := blk_frozen b0 1
  have g0 : (g == 0) = false := by simp; omega
  go_wp2
  go_region
  all_goals clear c0 c1 f0 f1
  all_goals go_wp2
  have B1 := blk_set (blk_set b0 0 (.int .i64 (u.tdiv g))) 1 (.int .i64 (d / g))
  have r0 := blk_cell B1 (i := 0) (v := .int .i64 (u.tdiv g)) rfl
  have r1 := blk_cell B1 (i := 1) (v := .int .i64 (d / g)) rfl
  have HBX := Lib.hid ((HBW.out.setCell (p := ⟨w.heap.size, 0, none⟩) (Nat.le_refl _) (.int .i64 (u.tdiv g))).setCell (p := ⟨w.heap.size, 1, none⟩) (Nat.le_refl _) (.int .i64 (d / g))).drew
  replace r0 : ((w2.setCell ⟨w.heap.size, 0, none⟩ (.int .i64 (u.tdiv g))).setCell ⟨w.heap.size, 1, none⟩ (.int .i64 (d / g))).drew.cell? ⟨w.heap.size, 0, none⟩ = some (.int .i64 (u.tdiv g)) := r0
  replace r1 : ((w2.setCell ⟨w.heap.size, 0, none⟩ (.int .i64 (u.tdiv g))).setCell ⟨w.heap.size, 1, none⟩ (.int .i64 (d / g))).drew.cell? ⟨w.heap.size, 1, none⟩ = some (.int .i64 (d / g)) := r1
  clear B1 b0 HBW
  generalize ((w2.setCell ⟨w.heap.size, 0, none⟩ (.int .i64 (u.tdiv g))).setCell ⟨w.heap.size, 1, none⟩ (.int .i64 (d / g))).drew = W3 at *
  refine bodyPost_ret (v := .agg #[.int .i64 (u.tdiv g), .int .i64 (d / g)]) (by simp [results, Try.results20, go_sem, r0, r1]) rfl ?_
  exact ⟨by rw [frV, HFU.out, HFD.out], HBX.out⟩
set_option maxHeartbeats 1000000 in
theorem plusOf_any (u d v e : Int) (w : World) (hu : -100000000 ≤ u ∧ u ≤ 100000000) (hv : -100000000 ≤ v ∧ v ≤ 100000000) (hd : 1 ≤ d ∧ d ≤ 10000000) (he : 1 ≤ e ∧ e ≤ 10000000) (hm : Mid (u * e + v * d)) :
    Calls Try.prog 21 #[.agg #[.int .i64 u, .int .i64 d], .agg #[.int .i64 v, .int .i64 e]] w (Ret (frV (u * e + v * d) (d * e)) w) := by
  obtain ⟨p1, p2⟩ := mulbd (x := u) (y := e) (A := 100000000) (B := 10000000) hu (by omega)
  obtain ⟨p3, p4⟩ := mulbd (x := v) (y := d) (A := 100000000) (B := 10000000) hv (by omega)
  obtain ⟨p5, p6⟩ := mulbd (x := d) (y := e) (A := 10000000) (B := 10000000) (by omega) (by omega)
  obtain ⟨p7, p8⟩ := mulbd (x := u) (y := v) (A := 100000000) (B := 100000000) hu hv
  have p9 : 1 ≤ d * e := by have h : 1 * 1 ≤ d * e := Int.mul_le_mul hd.1 he.1 (by omega) (by omega); omega
  have HC := Lib.hid (fun W => fracOfL_any (u * e + v * d) (d * e) W hm (by unfold Mid; omega) p9)
  have b0 := blk_old (blk_old (blk_new w 25 #[.int .i64 u, .int .i64 d]) (.cells #[.int .i64 v, .int .i64 e] 25)) (.cells #[.int .i64 0, .int .i64 0] 25)
  have b1 := blk_old (blk_new (w.alloc (.cells #[.int .i64 u, .int .i64 d] 25)) 25 #[.int .i64 v, .int .i64 e]) (.cells #[.int .i64 0, .int .i64 0] 25)
  have b2 := blk_new ((w.alloc (.cells #[.int .i64 u, .int .i64 d] 25)).alloc (.cells #[.int .i64 v, .int .i64 e] 25)) 25 #[.int .i64 0, .int .i64 0]
  have HB := Lib.hid (below_up (below_up (below_alloc w (.cells #[.int .i64 u, .int .i64 d] 25)) (below_alloc _ (.cells #[.int .i64 v, .int .i64 e] 25))) (below_alloc _ (.cells #[.int .i64 0, .int .i64 0] 25)))
  have HFV : Hid (frV (u * e + v * d) (d * e) = .agg #[.int .i64 (frU (u * e + v * d) (d * e)), .int .i64 (frD (u * e + v * d) (d * e))]) := Lib.hid rfl
  rw [HFV.out] at HC
  simp only [World.size_alloc] at b1 b2
  have c0 := blk_cell b0 (i := 0) rfl
  have c1 := blk_cell b0 (i := 1) rfl
  have c2 := blk_cell b1 (i := 0) rfl
  have c3 := blk_cell b1 (i := 1) rfl
  have HB2 := Lib.hid b2
  clear b0 b1 b2
  go_enter Try.func21, Try.ntmps21
  go_wp2_with fail
  clear c0 c1 c2 c3
  generalize ((w.alloc (.cells #[.int .i64 u, .int .i64 d] 25)).alloc (.cells #[.int .i64 v, .int .i64 e] 25)).alloc (.cells #[.int .i64 0, .int .i64 0] 25) = w1 at *
  refine (HC.out _).mono ?_
  rintro e w2 ⟨rfl, hb⟩
  have b0 := blk_below HB2.out hb
  have HBW := Lib.hid (below_up HB.out hb)
  clear hb HC HB HB2
  generalize frU (u * e + v * d) (d * e) = U at *
  generalize frD (u * e + v * d) (d * e) = D at *
  have c0 := blk_cell b0 (i := 0) rfl
  have c1 := blk_cell b0 (i := 1) rfl
  have f0 := blk_frozen b0 0
  have f1 := blk_frozen b0 1
  go_wp2
  clear c0 c1 f0 f1
  have B1 := blk_set (blk_set b0 0 (.int .i64 U)) 1 (.int .i64 D)
  have r0 := blk_cell B1 (i := 0) (v := .int .i64 U) rfl
  have r1 := blk_cell B1 (i := 1) (v := .int .i64 D) rfl
  have hle : w.heap.size ≤ w.heap.size + 1 + 1 := by omega
  have HBX := Lib.hid ((HBW.out.setCell (p := ⟨w.heap.size + 1 + 1, 0, none⟩) hle (.int .i64 U)).setCell (p := ⟨w.heap.size + 1 + 1, 1, none⟩) hle (.int .i64 D))
  clear B1 b0 HBW
  generalize (w2.setCell ⟨w.heap.size + 1 + 1, 0, none⟩ (.int .i64 U)).setCell ⟨w.heap.size + 1 + 1, 1, none⟩ (.int .i64 D) = WE at *
  refine bodyPost_ret (v := .agg #[.int .i64 U, .int .i64 D]) (by simp [results, Try.results21, go_sem, r0, r1]) rfl ?_
  exact ⟨by rw [HFV.out], HBX.out⟩
set_option maxHeartbeats 1000000 in
theorem timesOf_any (u d v e : Int) (w : World) (hu : -1000000 ≤ u ∧ u ≤ 1000000) (hv : -1000000 ≤ v ∧ v ≤ 1000000) (hd : 1 ≤ d ∧ d ≤ 1000000) (he : 1 ≤ e ∧ e ≤ 1000000) :
    Calls Try.prog 19 #[.agg #[.int .i64 u, .int .i64 d], .agg #[.int .i64 v, .int .i64 e]] w (Ret (frV (u * v) (d * e)) w) := by
  obtain ⟨p1, p2⟩ := mulbd (x := u) (y := e) (A := 1000000) (B := 1000000) hu (by omega)
  obtain ⟨p3, p4⟩ := mulbd (x := v) (y := d) (A := 1000000) (B := 1000000) hv (by omega)
  obtain ⟨p5, p6⟩ := mulbd (x := d) (y := e) (A := 1000000) (B := 1000000) (by omega) (by omega)
  obtain ⟨p7, p8⟩ := mulbd (x := u) (y := v) (A := 1000000) (B := 1000000) hu hv
  have p9 : 1 ≤ d * e := by have h : 1 * 1 ≤ d * e := Int.mul_le_mul hd.1 he.1 (by omega) (by omega); omega
  have HC := Lib.hid (fun W => fracOfL_any (u * v) (d * e) W (by unfold Mid; omega) (by unfold Mid; omega) p9)
  have b0 := blk_old (blk_old (blk_new w 25 #[.int .i64 u, .int .i64 d]) (.cells #[.int .i64 v, .int .i64 e] 25)) (.cells #[.int .i64 0, .int .i64 0] 25)
  have b1 := blk_old (blk_new (w.alloc (.cells #[.int .i64 u, .int .i64 d] 25)) 25 #[.int .i64 v, .int .i64 e]) (.cells #[.int .i64 0, .int .i64 0] 25)
  have b2 := blk_new ((w.alloc (.cells #[.int .i64 u, .int .i64 d] 25)).alloc (.cells #[.int .i64 v, .int .i64 e] 25)) 25 #[.int .i64 0, .int .i64 0]
  have HB := Lib.hid (below_up (below_up (below_alloc w (.cells #[.int .i64 u, .int .i64 d] 25)) (below_alloc _ (.cells #[.int .i64 v, .int .i64 e] 25))) (below_alloc _ (.cells #[.int .i64 0, .int .i64 0] 25)))
  have HFV : Hid (frV (u * v) (d * e) = .agg #[.int .i64 (frU (u * v) (d * e)), .int .i64 (frD (u * v) (d * e))]) := Lib.hid rfl
  rw [HFV.out] at HC
  simp only [World.size_alloc] at b1 b2
  have c0 := blk_cell b0 (i := 0) rfl
  have c1 := blk_cell b0 (i := 1) rfl
  have c2 := blk_cell b1 (i := 0) rfl
  have c3 := blk_cell b1 (i := 1) rfl
  have HB2 := Lib.hid b2
  clear b0 b1 b2
  go_enter Try.func19, Try.ntmps19
  go_wp2_with fail
  clear c0 c1 c2 c3
  generalize ((w.alloc (.cells #[.int .i64 u, .int .i64 d] 25)).alloc (.cells #[.int .i64 v, .int .i64 e] 25)).alloc (.cells #[.int .i64 0, .int .i64 0] 25) = w1 at *
  refine (HC.out _).mono ?_
  rintro e w2 ⟨rfl, hb⟩
  have b0 := blk_below HB2.out hb
  have HBW := Lib.hid (below_up HB.out hb)
  clear hb HC HB HB2
  generalize frU (u * v) (d * e) = U at *
  generalize frD (u * v) (d * e) = D at *
  have c0 := blk_cell b0 (i := 0) rfl
  have c1 := blk_cell b0 (i := 1) rfl
  have f0 := blk_frozen b0 0
  have f1 := blk_frozen b0 1
  go_wp2
  clear c0 c1 f0 f1
  have B1 := blk_set (blk_set b0 0 (.int .i64 U)) 1 (.int .i64 D)
  have r0 := blk_cell B1 (i := 0) (v := .int .i64 U) rfl
  have r1 := blk_cell B1 (i := 1) (v := .int .i64 D) rfl
  have hle : w.heap.size ≤ w.heap.size + 1 + 1 := by omega
  have HBX := Lib.hid ((HBW.out.setCell (p := ⟨w.heap.size + 1 + 1, 0, none⟩) hle (.int .i64 U)).setCell (p := ⟨w.heap.size + 1 + 1, 1, none⟩) hle (.int .i64 D))
  clear B1 b0 HBW
  generalize (w2.setCell ⟨w.heap.size + 1 + 1, 0, none⟩ (.int .i64 U)).setCell ⟨w.heap.size + 1 + 1, 1, none⟩ (.int .i64 D) = WE at *
  refine bodyPost_ret (v := .agg #[.int .i64 U, .int .i64 D]) (by simp [results, Try.results19, go_sem, r0, r1]) rfl ?_
  exact ⟨by rw [HFV.out], HBX.out⟩
end Go.Proofs.Ytjmfkodbilknlaa

/- Fractions with greater numbers, by the laws. -/
namespace Go.Proofs.Ytjmfkodbilknlaa
open Go.RowKit

def Big (x : Int) : Prop := -100000000000000000 ≤ x ∧ x ≤ 100000000000000000
theorem Big.tmod {x y : Int} (h : Big x) : Big (x.tmod y) := by
  unfold Big at *
  have h1 := Int.natAbs_tmod x y
  have h2 : x.natAbs % y.natAbs ≤ x.natAbs := Nat.mod_le _ _
  omega
set_option maxHeartbeats 400000 in
theorem divisorG_any (a b : Int) (w : World) (ha : Big a) (hb : Big b) :
    Calls Try.prog 56 #[.int .i64 a, .int .i64 b] w fun e w' => e = .returned (.int .i64 (gcdI a b)) ∧ Quiet w w' := by
  have HA := Lib.hid ha
  have HB := Lib.hid hb
  clear ha hb
  go_enter Try.func56, Try.ntmps56
  go_wp2
  go_loopw [0, 1] (fun s t wr => ∃ x y : Int, s = .int .i64 x ∧ t = .int .i64 y ∧ Hid (Big x) ∧ Hid (Big y) ∧ Hid (gcdI x y = gcdI a b) ∧ Quiet w wr) (fun _ t _ => (intOf t).natAbs)
  case atStart => exact ⟨a, b, rfl, rfl, HA, HB, Lib.hid rfl, Quiet.refl _⟩
  case round =>
    obtain ⟨x, y, rfl, rfl, HX, HY, HG, q, rfl⟩ := hrel
    obtain ⟨x1, x2⟩ := HX.out
    obtain ⟨y1, y2⟩ := HY.out
    by_cases hy : y = 0
    · subst hy
      have hg := Lib.hid (gcdI_zero x)
      go_wp2
      all_goals go_ret
      all_goals exact ⟨ret_int (by rw [← HG.out, hg.out]; omega), ⟨_, rfl⟩⟩
    · have hy' : (y != 0) = true := by simpa using hy
      have HM := Lib.hid (HX.out.tmod (y := y))
      have HS := Lib.hid (gcdI_step x y)
      have HT := Lib.hid (tmod_abs (a := x) hy)
      go_wp2
      go_roundw
      case rel => exact ⟨y, x.tmod y, rfl, rfl, HY, HM, Lib.hid (HS.out.trans HG.out), ⟨_, rfl⟩⟩
      case measure => have := HT.out; simpa [intOf] using this

set_option maxHeartbeats 1000000 in
theorem fracOfG_any (u d : Int) (w : World) (hu : Big u) (hd : Big d) (h1 : 1 ≤ d) :
    Calls Try.prog 20 #[.int .i64 u, .int .i64 d] w (Ret (frV u d) w) := by
  have HQ := Lib.hid (fun W => divisorG_any u d W hu hd)
  have hg1 := gcdI_pos (a := u) (b := d) (by omega)
  have hg2 := gcdI_le (a := u) (b := d) (by omega)
  obtain ⟨u1, u2⟩ := hu
  obtain ⟨d1, d2⟩ := hd
  have hB := Lib.hid (below_alloc w (.cells #[.int .i64 0, .int .i64 0] 25))
  go_enter Try.func20, Try.ntmps20
  go_wp2_with fail
  refine (HQ.out _).mono ?_
  rintro e w2 ⟨rfl, hq⟩
  have HFU : Hid (frU u d = u.tdiv (gcdI u d)) := Lib.hid rfl
  have HFD : Hid (frD u d = d / gcdI u d) := Lib.hid (by unfold frD; rw [Int.tdiv_eq_ediv_of_nonneg (by omega)])
  have b0 := blk_quiet (blk_new w 25 #[.int .i64 0, .int .i64 0]) hq
  have HBW := Lib.hid (below_quiet hB.out hq)
  clear hq hB HQ
  generalize gcdI u d = g at *
  have c0 := blk_cell b0 (i := 0) rfl
  have c1 := blk_cell b0 (i := 1) rfl
  have f0 := blk_frozen b0 0
  have f1 := blk_frozen b0 1
  have g0 : (g == 0) = false := by simp; omega
  go_wp2
  go_region
  all_goals clear c0 c1 f0 f1
  all_goals go_wp2
  have B1 := blk_set (blk_set b0 0 (.int .i64 (u.tdiv g))) 1 (.int .i64 (d / g))
  have r0 := blk_cell B1 (i := 0) (v := .int .i64 (u.tdiv g)) rfl
  have r1 := blk_cell B1 (i := 1) (v := .int .i64 (d / g)) rfl
  have HBX := Lib.hid ((HBW.out.setCell (p := ⟨w.heap.size, 0, none⟩) (Nat.le_refl _) (.int .i64 (u.tdiv g))).setCell (p := ⟨w.heap.size, 1, none⟩) (Nat.le_refl _) (.int .i64 (d / g))).drew
  replace r0 : ((w2.setCell ⟨w.heap.size, 0, none⟩ (.int .i64 (u.tdiv g))).setCell ⟨w.heap.size, 1, none⟩ (.int .i64 (d / g))).drew.cell? ⟨w.heap.size, 0, none⟩ = some (.int .i64 (u.tdiv g)) := r0
  replace r1 : ((w2.setCell ⟨w.heap.size, 0, none⟩ (.int .i64 (u.tdiv g))).setCell ⟨w.heap.size, 1, none⟩ (.int .i64 (d / g))).drew.cell? ⟨w.heap.size, 1, none⟩ = some (.int .i64 (d / g)) := r1
  clear B1 b0 HBW
  generalize ((w2.setCell ⟨w.heap.size, 0, none⟩ (.int .i64 (u.tdiv g))).setCell ⟨w.heap.size, 1, none⟩ (.int .i64 (d / g))).drew = W3 at *
  refine bodyPost_ret (v := .agg #[.int .i64 (u.tdiv g), .int .i64 (d / g)]) (by simp [results, Try.results20, go_sem, r0, r1]) rfl ?_
  exact ⟨by rw [frV, HFU.out, HFD.out], HBX.out⟩
set_option maxHeartbeats 1000000 in
theorem plusOfG_any (u d v e : Int) (w : World) (hu : -100000000 ≤ u ∧ u ≤ 100000000) (hv : -100000000 ≤ v ∧ v ≤ 100000000) (hd : 1 ≤ d ∧ d ≤ 100000000) (he : 1 ≤ e ∧ e ≤ 100000000) (hm : Big (u * e + v * d)) :
    Calls Try.prog 21 #[.agg #[.int .i64 u, .int .i64 d], .agg #[.int .i64 v, .int .i64 e]] w (Ret (frV (u * e + v * d) (d * e)) w) := by
  obtain ⟨p1, p2⟩ := mulbd (x := u) (y := e) (A := 100000000) (B := 100000000) hu (by omega)
  obtain ⟨p3, p4⟩ := mulbd (x := v) (y := d) (A := 100000000) (B := 100000000) hv (by omega)
  obtain ⟨p5, p6⟩ := mulbd (x := d) (y := e) (A := 100000000) (B := 100000000) (by omega) (by omega)
  obtain ⟨p7, p8⟩ := mulbd (x := u) (y := v) (A := 100000000) (B := 100000000) hu hv
  have p9 : 1 ≤ d * e := by have h : 1 * 1 ≤ d * e := Int.mul_le_mul hd.1 he.1 (by omega) (by omega); omega
  have HC := Lib.hid (fun W => fracOfG_any (u * e + v * d) (d * e) W hm (by unfold Big; omega) p9)
  have b0 := blk_old (blk_old (blk_new w 25 #[.int .i64 u, .int .i64 d]) (.cells #[.int .i64 v, .int .i64 e] 25)) (.cells #[.int .i64 0, .int .i64 0] 25)
  have b1 := blk_old (blk_new (w.alloc (.cells #[.int .i64 u, .int .i64 d] 25)) 25 #[.int .i64 v, .int .i64 e]) (.cells #[.int .i64 0, .int .i64 0] 25)
  have b2 := blk_new ((w.alloc (.cells #[.int .i64 u, .int .i64 d] 25)).alloc (.cells #[.int .i64 v, .int .i64 e] 25)) 25 #[.int .i64 0, .int .i64 0]
  have HB := Lib.hid (below_up (below_up (below_alloc w (.cells #[.int .i64 u, .int .i64 d] 25)) (below_alloc _ (.cells #[.int .i64 v, .int .i64 e] 25))) (below_alloc _ (.cells #[.int .i64 0, .int .i64 0] 25)))
  have HFV : Hid (frV (u * e + v * d) (d * e) = .agg #[.int .i64 (frU (u * e + v * d) (d * e)), .int .i64 (frD (u * e + v * d) (d * e))]) := Lib.hid rfl
  rw [HFV.out] at HC
  simp only [World.size_alloc] at b1 b2
  have c0 := blk_cell b0 (i := 0) rfl
  have c1 := blk_cell b0 (i := 1) rfl
  have c2 := blk_cell b1 (i := 0) rfl
  have c3 := blk_cell b1 (i := 1) rfl
  have HB2 := Lib.hid b2
  clear b0 b1 b2
  go_enter Try.func21, Try.ntmps21
  go_wp2_with fail
  clear c0 c1 c2 c3
  generalize ((w.alloc (.cells #[.int .i64 u, .int .i64 d] 25)).alloc (.cells #[.int .i64 v, .int .i64 e] 25)).alloc (.cells #[.int .i64 0, .int .i64 0] 25) = w1 at *
  refine (HC.out _).mono ?_
  rintro e w2 ⟨rfl, hb⟩
  have b0 := blk_below HB2.out hb
  have HBW := Lib.hid (below_up HB.out hb)
  clear hb HC HB HB2
  generalize frU (u * e + v * d) (d * e) = U at *
  generalize frD (u * e + v * d) (d * e) = D at *
  have c0 := blk_cell b0 (i := 0) rfl
  have c1 := blk_cell b0 (i := 1) rfl
  have f0 := blk_frozen b0 0
  have f1 := blk_frozen b0 1
  go_wp2
  clear c0 c1 f0 f1
  have B1 := blk_set (blk_set b0 0 (.int .i64 U)) 1 (.int .i64 D)
  have r0 := blk_cell B1 (i := 0) (v := .int .i64 U) rfl
  have r1 := blk_cell B1 (i := 1) (v := .int .i64 D) rfl
  have hle : w.heap.size ≤ w.heap.size + 1 + 1 := by omega
  have HBX := Lib.hid ((HBW.out.setCell (p := ⟨w.heap.size + 1 + 1, 0, none⟩) hle (.int .i64 U)).setCell (p := ⟨w.heap.size + 1 + 1, 1, none⟩) hle (.int .i64 D))
  clear B1 b0 HBW
  generalize (w2.setCell ⟨w.heap.size + 1 + 1, 0, none⟩ (.int .i64 U)).setCell ⟨w.heap.size + 1 + 1, 1, none⟩ (.int .i64 D) = WE at *
  refine bodyPost_ret (v := .agg #[.int .i64 U, .int .i64 D]) (by simp [results, Try.results21, go_sem, r0, r1]) rfl ?_
  exact ⟨by rw [HFV.out], HBX.out⟩
set_option maxHeartbeats 100000000 in
theorem timesOfG_any (u d v e : Int) (w : World) (hu : -100000000 ≤ u ∧ u ≤ 100000000) (hv : -100000000 ≤ v ∧ v ≤ 100000000) (hd : 1 ≤ d ∧ d ≤ 100000000) (he : 1 ≤ e ∧ e ≤ 100000000) :
    Calls Try.prog 19 #[.agg #[.int .i64 u, .int .i64 d], .agg #[.int .i64 v, .int .i64 e]] w (Ret (frV (u * v) (d * e)) w) := by
  obtain ⟨p1, p2⟩ := mulbd (x := u) (y := e) (A := 100000000) (B := 100000000) hu (by omega)
  obtain ⟨p3, p4⟩ := mulbd (x := v) (y := d) (A := 100000000) (B := 100000000) hv (by omega)
  obtain ⟨p5, p6⟩ := mulbd (x := d) (y := e) (A := 100000000) (B := 100000000) (by omega) (by omega)
  obtain ⟨p7, p8⟩ := mulbd (x := u) (y := v) (A := 100000000) (B := 100000000) hu hv
  have p9 : 1 ≤ d * e := by have h : 1 * 1 ≤ d * e := Int.mul_le_mul hd.1 he.1 (by omega) (by omega); omega
  have HC := Lib.hid (fun W => fracOfG_any (u * v) (d * e) W (by unfold Big; omega) (by unfold Big; omega) p9)
  have b0 := blk_old (blk_old (blk_new w 25 #[.int .i64 u, .int .i64 d]) (.cells #[.int .i64 v, .int .i64 e] 25)) (.cells #[.int .i64 0, .int .i64 0] 25)
  have b1 := blk_old (blk_new (w.alloc (.cells #[.int .i64 u, .int .i64 d] 25)) 25 #[.int .i64 v, .int .i64 e]) (.cells #[.int .i64 0, .int .i64 0] 25)
  have b2 := blk_new ((w.alloc (.cells #[.int .i64 u, .int .i64 d] 25)).alloc (.cells #[.int .i64 v, .int .i64 e] 25)) 25 #[.int .i64 0, .int .i64 0]
  have HB := Lib.hid (below_up (below_up (below_alloc w (.cells #[.int .i64 u, .int .i64 d] 25)) (below_alloc _ (.cells #[.int .i64 v, .int .i64 e] 25))) (below_alloc _ (.cells #[.int .i64 0, .int .i64 0] 25)))
  have HFV : Hid (frV (u * v) (d * e) = .agg #[.int .i64 (frU (u * v) (d * e)), .int .i64 (frD (u * v) (d * e))]) := Lib.hid rfl
  rw [HFV.out] at HC
  simp only [World.size_alloc] at b1 b2
  have c0 := blk_cell b0 (i := 0) rfl
  have c1 := blk_cell b0 (i := 1) rfl
  have c2 := blk_cell b1 (i := 0) rfl
  have c3 := blk_cell b1 (i := 1) rfl
  have HB2 := Lib.hid b2
  clear b0 b1 b2
  go_enter Try.func19, Try.ntmps19
  go_wp2_with fail
  clear c0 c1 c2 c3
  generalize ((w.alloc (.cells #[.int .i64 u, .int .i64 d] 25)).alloc (.cells #[.int .i64 v, .int .i64 e] 25)).alloc (.cells #[.int .i64 0, .int .i64 0] 25) = w1 at *
  refine (HC.out _).mono ?_
  rintro e w2 ⟨rfl, hb⟩
  have b0 := blk_below HB2.out hb
  have HBW := Lib.hid (below_up HB.out hb)
  clear hb HC HB HB2
  generalize frU (u * v) (d * e) = U at *
  generalize frD (u * v) (d * e) = D at *
  have c0 := blk_cell b0 (i := 0) rfl
  have c1 := blk_cell b0 (i := 1) rfl
  have f0 := blk_frozen b0 0
  have f1 := blk_frozen b0 1
  go_wp2
  clear c0 c1 f0 f1
  have B1 := blk_set (blk_set b0 0 (.int .i64 U)) 1 (.int .i64 D)
  have r0 := blk_cell B1 (i := 0) (v := .int .i64 U) rfl
  have r1 := blk_cell B1 (i := 1) (v := .int .i64 D) rfl
  have hle : w.heap.size ≤ w.heap.size + 1 + 1 := by omega
  have HBX := Lib.hid ((HBW.out.setCell (p := ⟨w.heap.size + 1 + 1, 0, none⟩) hle (.int .i64 U)).setCell (p := ⟨w.heap.size + 1 + 1, 1, none⟩) hle (.int .i64 D))
  clear B1 b0 HBW
  generalize (w2.setCell ⟨w.heap.size + 1 + 1, 0, none⟩ (.int .i64 U)).setCell ⟨w.heap.size + 1 + 1, 1, none⟩ (.int .i64 D) = WE at *
  refine bodyPost_ret (v := .agg #[.int .i64 U, .int .i64 D]) (by simp [results, Try.results19, go_sem, r0, r1]) rfl ?_
  exact ⟨by rw [HFV.out], HBX.out⟩
end Go.Proofs.Ytjmfkodbilknlaa

/- Small crowds, in plain Lean: the numbers of the steps, their sums, and chances. -/
namespace Go.Proofs.Ytjmfkodbilknlaa

/-- The product of the first k numbers; of the last t up to m. -/
def upP (g : Nat → Int) : Nat → Int
  | 0 => 1
  | k + 1 => upP g k * g (k + 1)
def dnP (f : Nat → Int) (m : Nat) : Nat → Int
  | 0 => 1
  | t + 1 => dnP f m t * f (m - t)
/-- The numbers whose sums the chance is of. -/
def numP (f g : Nat → Int) (m k : Nat) : Int := upP g k * dnP f m (m - k)
def numL (f g : Nat → Int) (m : Nat) : List Int := (List.range (m + 1)).map (numP f g m)
theorem numL_len (f g : Nat → Int) (m : Nat) : (numL f g m).length = m + 1 := by simp [numL]
theorem gi_numL {f g : Nat → Int} {m k : Nat} (h : k ≤ m) : gi (numL f g m) k = numP f g m k := by
  rw [gi_get (by rw [numL_len]; omega)]; simp [numL]
theorem dnP_top (f : Nat → Int) (m : Nat) : ∀ t, t ≤ m → dnP f (m + 1) (t + 1) = f (m + 1) * dnP f m t
  | 0, _ => by simp [dnP]
  | t + 1, h => by
    rw [dnP, dnP_top f m t (by omega), dnP, Int.mul_assoc]
    congr 3
    omega
theorem up_dn (f : Nat → Int) (m : Nat) : ∀ t, t ≤ m → upP f m = upP f (m - t) * dnP f m t
  | 0, _ => by simp [dnP]
  | t + 1, h => by
    rw [up_dn f m t (by omega), dnP]
    have e : m - t = (m - (t + 1)) + 1 := by omega
    rw [e, upP, ← e]
    grind
/-- The sum of the first i of the numbers of k steps. -/
def SS (f g : Nat → Int) (i k : Nat) : Int := sm (numL f g k) (min i (k + 1))
theorem sm_numL {f g : Nat → Int} {m : Nat} : ∀ {k}, k ≤ m + 1 → sm (numL f g (m + 1)) k = sm (numL f g m) k * f (m + 1)
  | 0, _ => by simp [sm]
  | k + 1, h => by
    rw [sm, sm, sm_numL (by omega), gi_numL (by omega), gi_numL (by omega), numP, numP]
    have e : m + 1 - k = (m - k) + 1 := by omega
    rw [e, dnP_top f m (m - k) (by omega)]
    grind
theorem SS_zero (f g : Nat → Int) (i : Nat) : SS f g i 0 = if 0 < i then 1 else 0 := by
  unfold SS
  by_cases h : 0 < i
  · rw [show min i (0 + 1) = 1 by omega, if_pos h, sm, gi_numL (Nat.le_refl 0)]; simp [sm, numP, upP, dnP]
  · rw [show min i (0 + 1) = 0 by omega, if_neg h]; rfl
theorem SS_succ (f g : Nat → Int) (i k : Nat) : SS f g i (k + 1) = SS f g i k * f (k + 1) + if k + 1 < i then upP g (k + 1) else 0 := by
  unfold SS
  by_cases h : k + 1 < i
  · rw [if_pos h, show min i (k + 1 + 1) = (k + 1) + 1 by omega, show min i (k + 1) = k + 1 by omega, sm, sm_numL (by omega), gi_numL (Nat.le_refl _), numP]
    rw [show k + 1 - (k + 1) = 0 by omega]
    simp [dnP]
  · rw [if_neg h, show min i (k + 1 + 1) = min i (k + 1) by omega, sm_numL (by omega)]
    simp
theorem SS_all (f g : Nat → Int) (m : Nat) : SS f g (m + 1) m = tot (numL f g m) := by
  unfold SS tot
  rw [numL_len, Nat.min_self]

/-- What players have: 1 to 45 each. -/
structure FG (f g : Nat → Int) (m : Nat) : Prop where
  m5 : m ≤ 5
  f : ∀ j, 1 ≤ j → j ≤ m → 1 ≤ f j ∧ f j ≤ 45
  g : ∀ j, 1 ≤ j → j ≤ m → 1 ≤ g j ∧ g j ≤ 45
theorem FG.less {f g m k} (h : FG f g m) (hk : k ≤ m) : FG f g k := ⟨by have := h.m5; omega, fun j a b => h.f j a (by omega), fun j a b => h.g j a (by omega)⟩
theorem FG.flip {f g m} (h : FG f g m) : FG g f m := ⟨h.m5, h.g, h.f⟩
def p45 : Nat → Int
  | 0 => 1
  | k + 1 => p45 k * 45
theorem p45_add (a : Nat) : ∀ b, p45 a * p45 b = p45 (a + b)
  | 0 => by simp [p45]
  | b + 1 => by rw [p45, ← Int.mul_assoc, p45_add a b]; rfl
theorem p45_pos : ∀ k, 1 ≤ p45 k
  | 0 => Int.le_refl _
  | k + 1 => by have := p45_pos k; rw [p45]; omega
theorem p45_mono : ∀ {k m}, k ≤ m → p45 k ≤ p45 m
  | k, 0, h => by obtain rfl : k = 0 := by omega
                  exact Int.le_refl _
  | k, m + 1, h => by
    by_cases e : k = m + 1
    · subst e; exact Int.le_refl _
    · have h1 := p45_mono (k := k) (m := m) (by omega)
      have h2 := p45_pos m
      rw [p45]; omega
theorem p45_5 {k : Nat} (h : k ≤ 5) : p45 k ≤ 184528125 := by
  have := p45_mono h
  have e : p45 5 = 184528125 := by decide
  omega
theorem upP_bd {g : Nat → Int} : ∀ {k}, (∀ j, 1 ≤ j → j ≤ k → 1 ≤ g j ∧ g j ≤ 45) → 1 ≤ upP g k ∧ upP g k ≤ p45 k
  | 0, _ => ⟨Int.le_refl _, Int.le_refl _⟩
  | k + 1, h => by
    have h1 := upP_bd (k := k) fun j a b => h j a (by omega)
    have h2 := h (k + 1) (by omega) (by omega)
    have h3 : 1 * 1 ≤ upP g k * g (k + 1) := Int.mul_le_mul h1.1 h2.1 (by omega) (by omega)
    have h4 : upP g k * g (k + 1) ≤ p45 k * 45 := Int.mul_le_mul h1.2 h2.2 (by omega) (by have := p45_pos k; omega)
    rw [upP, p45]
    omega
theorem dnP_bd {f : Nat → Int} {m : Nat} : ∀ {t}, t ≤ m → (∀ j, 1 ≤ j → j ≤ m → 1 ≤ f j ∧ f j ≤ 45) → 1 ≤ dnP f m t ∧ dnP f m t ≤ p45 t
  | 0, _, _ => ⟨Int.le_refl _, Int.le_refl _⟩
  | t + 1, ht, h => by
    have h1 := dnP_bd (t := t) (by omega) h
    have h2 := h (m - t) (by omega) (by omega)
    have h3 : 1 * 1 ≤ dnP f m t * f (m - t) := Int.mul_le_mul h1.1 h2.1 (by omega) (by omega)
    have h4 : dnP f m t * f (m - t) ≤ p45 t * 45 := Int.mul_le_mul h1.2 h2.2 (by omega) (by have := p45_pos t; omega)
    rw [dnP, p45]
    omega
theorem numP_bd {f g : Nat → Int} {m k : Nat} (h : FG f g m) (hk : k ≤ m) : 1 ≤ numP f g m k ∧ numP f g m k ≤ 184528125 := by
  have h1 := upP_bd (g := g) (k := k) fun j a b => h.g j a (by omega)
  have h2 := dnP_bd (f := f) (m := m) (t := m - k) (by omega) h.f
  have h3 : 1 * 1 ≤ upP g k * dnP f m (m - k) := Int.mul_le_mul h1.1 h2.1 (by omega) (by omega)
  have h4 : upP g k * dnP f m (m - k) ≤ p45 k * p45 (m - k) := Int.mul_le_mul h1.2 h2.2 (by omega) (by have := p45_pos k; omega)
  rw [p45_add] at h4
  have h5 := p45_5 (k := k + (m - k)) (by have := h.m5; omega)
  unfold numP
  omega
theorem up_bd {g : Nat → Int} {m k : Nat} (h : ∀ j, 1 ≤ j → j ≤ m → 1 ≤ g j ∧ g j ≤ 45) (hm : m ≤ 5) (hk : k ≤ m) : 1 ≤ upP g k ∧ upP g k ≤ 184528125 := by
  have h1 := upP_bd (g := g) (k := k) fun j a b => h j a (by omega)
  have h2 := p45_5 (k := k) (by omega)
  omega
theorem sm_num_bd {f g : Nat → Int} {m k : Nat} (h : FG f g m) (hk : k ≤ m + 1) : (k : Int) ≤ sm (numL f g m) k ∧ sm (numL f g m) k ≤ 1107168750 := by
  have h1 := sm_bd (xs := numL f g m) (k := k) (lo := 1) (hi := 184528125) fun j hj => by rw [gi_numL (by omega)]; exact numP_bd h (by omega)
  have := h.m5
  omega
theorem SS_bd {f g : Nat → Int} {i k : Nat} (h : FG f g k) : 0 ≤ SS f g i k ∧ SS f g i k ≤ 1107168750 := by
  have := sm_num_bd h (k := min i (k + 1)) (by omega)
  unfold SS
  omega
theorem tot_num_bd {f g : Nat → Int} {m : Nat} (h : FG f g m) : 1 ≤ tot (numL f g m) ∧ tot (numL f g m) ≤ 1107168750 := by
  have := sm_num_bd h (k := m + 1) (Nat.le_refl _)
  unfold tot
  rw [numL_len]
  omega
/-- The sums of two fractions in lowest terms, and their product and quotient. -/
theorem fr_add {u d v e : Int} (hd : 0 < d) (he : 0 < e) :
    frU (frU u d * frD v e + frU v e * frD u d) (frD u d * frD v e) = frU (u * e + v * d) (d * e) ∧ frD (frU u d * frD v e + frU v e * frD u d) (frD u d * frD v e) = frD (u * e + v * d) (d * e) := by
  have h1 := frD_pos (u := u) hd
  have h2 := frD_pos (u := v) he
  refine fr_eq (Int.mul_pos h1 h2) (Int.mul_pos hd he) ?_
  have r1 := fr_ratio u d
  have r2 := fr_ratio v e
  grind
theorem fr_tim {u d v e : Int} (hd : 0 < d) (he : 0 < e) :
    frU (frU u d * frU v e) (frD u d * frD v e) = frU (u * v) (d * e) ∧ frD (frU u d * frU v e) (frD u d * frD v e) = frD (u * v) (d * e) := by
  have h1 := frD_pos (u := u) hd
  have h2 := frD_pos (u := v) he
  refine fr_eq (Int.mul_pos h1 h2) (Int.mul_pos hd he) ?_
  have r1 := fr_ratio u d
  have r2 := fr_ratio v e
  grind
theorem fr_pos {u d : Int} (hd : 0 < d) (hu : 0 < u) : 0 < frU u d := by
  have h1 := frD_pos (u := u) hd
  have r1 := fr_ratio u d
  have h2 : 0 < u * frD u d := Int.mul_pos hu h1
  apply Classical.byContradiction
  intro hn
  have h3 : frU u d * d ≤ 0 := Int.mul_nonpos_of_nonpos_of_nonneg (by omega) (by omega)
  omega
theorem fr_turn {u d : Int} (hd : 0 < d) (hu : 0 < u) : frU (frD u d) (frU u d) = frU d u ∧ frD (frD u d) (frU u d) = frD d u := by
  refine fr_eq (fr_pos hd hu) hu ?_
  have r1 := fr_ratio u d
  grind
theorem frU_le {u d B : Int} (hd : 0 < d) (h0 : 0 ≤ u) (h : u ≤ B) : 0 ≤ frU u d ∧ frU u d ≤ B := by
  have h1 := frU_bd (u := u) (d := d) (B := B) hd (by omega)
  have h2 := frD_pos (u := u) hd
  have r1 := fr_ratio u d
  have h3 : 0 ≤ u * frD u d := Int.mul_nonneg h0 (by omega)
  refine ⟨?_, h1.2⟩
  apply Classical.byContradiction
  intro hn
  have h4 : frU u d * d < 0 := Int.mul_neg_of_neg_of_pos (by omega) hd
  omega
end Go.Proofs.Ytjmfkodbilknlaa

/- Fractions of greater numbers, by the model and by the laws. -/
namespace Go.Proofs.Ytjmfkodbilknlaa
open Go.RowKit

def Hug (x : Int) : Prop := -4000000000000000000 ≤ x ∧ x ≤ 4000000000000000000
theorem Hug.tmod {x y : Int} (h : Hug x) : Hug (x.tmod y) := by
  unfold Hug at *
  have h1 := Int.natAbs_tmod x y
  have h2 : x.natAbs % y.natAbs ≤ x.natAbs := Nat.mod_le _ _
  omega
theorem hmul {x y : Int} (hx : -1200000000 ≤ x ∧ x ≤ 1200000000) (hy : -1200000000 ≤ y ∧ y ≤ 1200000000) : -1440000000000000000 ≤ x * y ∧ x * y ≤ 1440000000000000000 := mulbd (A := 1200000000) (B := 1200000000) hx hy
set_option maxHeartbeats 400000 in
theorem gcdH_any (a b : Int) (w : World) (ha : Hug a) (hb : Hug b) :
    Calls Try.prog 65 #[.int .i64 a, .int .i64 b] w fun e w' => e = .returned (.int .i64 (gcdI a b)) ∧ Quiet w w' := by
  have HA := Lib.hid ha
  have HB := Lib.hid hb
  clear ha hb
  go_enter Try.func65, Try.ntmps65
  go_wp2
  go_loopw [0, 1] (fun s t wr => ∃ x y : Int, s = .int .i64 x ∧ t = .int .i64 y ∧ Hid (Hug x) ∧ Hid (Hug y) ∧ Hid (gcdI x y = gcdI a b) ∧ Quiet w wr) (fun _ t _ => (intOf t).natAbs)
  case atStart => exact ⟨a, b, rfl, rfl, HA, HB, Lib.hid rfl, Quiet.refl _⟩
  case round =>
    obtain ⟨x, y, rfl, rfl, HX, HY, HG, q, rfl⟩ := hrel
    obtain ⟨x1, x2⟩ := HX.out
    obtain ⟨y1, y2⟩ := HY.out
    by_cases hy : y = 0
    · subst hy
      have hg := Lib.hid (gcdI_zero x)
      go_wp2
      all_goals go_ret
      all_goals exact ⟨ret_int (by rw [← HG.out, hg.out]; omega), ⟨_, rfl⟩⟩
    · have hy' : (y != 0) = true := by simpa using hy
      have HM := Lib.hid (HX.out.tmod (y := y))
      have HS := Lib.hid (gcdI_step x y)
      have HT := Lib.hid (tmod_abs (a := x) hy)
      go_wp2
      go_roundw
      case rel => exact ⟨y, x.tmod y, rfl, rfl, HY, HM, Lib.hid (HS.out.trans HG.out), ⟨_, rfl⟩⟩
      case measure => have := HT.out; simpa [intOf] using this
set_option maxHeartbeats 1000000 in
theorem fracH_any (u d : Int) (w : World) (hu : Hug u) (hd : Hug d) (h1 : 1 ≤ d) :
    Calls Try.prog 34 #[.int .i64 u, .int .i64 d] w (Ret (frV u d) w) := by
  have HQ := Lib.hid (fun W => gcdH_any u d W hu hd)
  have hg1 := gcdI_pos (a := u) (b := d) (by omega)
  have hg2 := gcdI_le (a := u) (b := d) (by omega)
  have HUB := Lib.hid (frU_bd (u := u) (d := d) (B := 4000000000000000000) (by omega) hu)
  have HDB := Lib.hid (frD_bd (u := u) (d := d) (B := 4000000000000000000) (by omega) hd.2)
  obtain ⟨u1, u2⟩ := hu
  obtain ⟨d1, d2⟩ := hd
  have hB := Lib.hid (below_alloc w (.cells #[.int .i64 0, .int .i64 0] 25))
  go_enter Try.func34, Try.ntmps34
  go_wp2_with fail
  refine (HQ.out _).mono ?_
  rintro e w2 ⟨rfl, q2, rfl⟩
  have HFU : Hid (frU u d = u.tdiv (gcdI u d)) := Lib.hid rfl
  have HFD : Hid (frD u d = d / gcdI u d) := Lib.hid (by unfold frD; rw [Int.tdiv_eq_ediv_of_nonneg (by omega)])
  generalize gcdI u d = g at *
  have b0 : Blk ((w.alloc (.cells #[.int .i64 0, .int .i64 0] 25)).drewN q2) w.heap.size 25 #[.int .i64 0, .int .i64 0] := blk_new w _ _
  have c0 := blk_cell b0 (i := 0) rfl
  have c1 := blk_cell b0 (i := 1) rfl
  have f0 := blk_frozen b0 0
  have f1 := blk_frozen b0 1
  have g0 : (g == 0) = false := by simp; omega
  go_wp2
  go_region
  all_goals clear c0 c1 f0 f1
  all_goals go_wp2
  have B1 := blk_set (blk_set (show Blk ((w.alloc (.cells #[.int .i64 0, .int .i64 0] 25)).drewN (q2 + 1)) w.heap.size 25 #[.int .i64 0, .int .i64 0] from blk_new w _ _) 0 (.int .i64 (u.tdiv g))) 1 (.int .i64 (d / g))
  have r0 := blk_cell B1 (i := 0) (v := .int .i64 (u.tdiv g)) rfl
  have r1 := blk_cell B1 (i := 1) (v := .int .i64 (d / g)) rfl
  have HBW := Lib.hid (((below_drewN hB.out (q2 + 1)).setCell (p := ⟨w.heap.size, 0, none⟩) (Nat.le_refl _) (.int .i64 (u.tdiv g))).setCell (p := ⟨w.heap.size, 1, none⟩) (Nat.le_refl _) (.int .i64 (d / g)))
  clear B1 b0
  generalize (((w.alloc (.cells #[.int .i64 0, .int .i64 0] 25)).drewN (q2 + 1)).setCell ⟨w.heap.size, 0, none⟩ (.int .i64 (u.tdiv g))).setCell ⟨w.heap.size, 1, none⟩ (.int .i64 (d / g)) = W3 at *
  refine bodyPost_ret (v := .agg #[.int .i64 (u.tdiv g), .int .i64 (d / g)]) (by simp [results, Try.results34, go_sem, r0, r1]) rfl ?_
  exact ⟨by rw [frV, HFU.out, HFD.out], HBW.out⟩
set_option maxHeartbeats 400000 in
theorem divisorH_any (a b : Int) (w : World) (ha : Hug a) (hb : Hug b) :
    Calls Try.prog 56 #[.int .i64 a, .int .i64 b] w fun e w' => e = .returned (.int .i64 (gcdI a b)) ∧ Quiet w w' := by
  have HA := Lib.hid ha
  have HB := Lib.hid hb
  clear ha hb
  go_enter Try.func56, Try.ntmps56
  go_wp2
  go_loopw [0, 1] (fun s t wr => ∃ x y : Int, s = .int .i64 x ∧ t = .int .i64 y ∧ Hid (Hug x) ∧ Hid (Hug y) ∧ Hid (gcdI x y = gcdI a b) ∧ Quiet w wr) (fun _ t _ => (intOf t).natAbs)
  case atStart => exact ⟨a, b, rfl, rfl, HA, HB, Lib.hid rfl, Quiet.refl _⟩
  case round =>
    obtain ⟨x, y, rfl, rfl, HX, HY, HG, q, rfl⟩ := hrel
    obtain ⟨x1, x2⟩ := HX.out
    obtain ⟨y1, y2⟩ := HY.out
    by_cases hy : y = 0
    · subst hy
      have hg := Lib.hid (gcdI_zero x)
      go_wp2
      all_goals go_ret
      all_goals exact ⟨ret_int (by rw [← HG.out, hg.out]; omega), ⟨_, rfl⟩⟩
    · have hy' : (y != 0) = true := by simpa using hy
      have HM := Lib.hid (HX.out.tmod (y := y))
      have HS := Lib.hid (gcdI_step x y)
      have HT := Lib.hid (tmod_abs (a := x) hy)
      go_wp2
      go_roundw
      case rel => exact ⟨y, x.tmod y, rfl, rfl, HY, HM, Lib.hid (HS.out.trans HG.out), ⟨_, rfl⟩⟩
      case measure => have := HT.out; simpa [intOf] using this
set_option maxHeartbeats 1000000 in
theorem fracOfH_any (u d : Int) (w : World) (hu : Hug u) (hd : Hug d) (h1 : 1 ≤ d) :
    Calls Try.prog 20 #[.int .i64 u, .int .i64 d] w (Ret (frV u d) w) := by
  have HQ := Lib.hid (fun W => divisorH_any u d W hu hd)
  have hg1 := gcdI_pos (a := u) (b := d) (by omega)
  have hg2 := gcdI_le (a := u) (b := d) (by omega)
  obtain ⟨u1, u2⟩ := hu
  obtain ⟨d1, d2⟩ := hd
  have hB := Lib.hid (below_alloc w (.cells #[.int .i64 0, .int .i64 0] 25))
  go_enter Try.func20, Try.ntmps20
  go_wp2_with fail
  refine (HQ.out _).mono ?_
  rintro e w2 ⟨rfl, hq⟩
  have HFU : Hid (frU u d = u.tdiv (gcdI u d)) := Lib.hid rfl
  have HFD : Hid (frD u d = d / gcdI u d) := Lib.hid (by unfold frD; rw [Int.tdiv_eq_ediv_of_nonneg (by omega)])
  have b0 := blk_quiet (blk_new w 25 #[.int .i64 0, .int .i64 0]) hq
  have HBW := Lib.hid (below_quiet hB.out hq)
  clear hq hB HQ
  generalize gcdI u d = g at *
  have c0 := blk_cell b0 (i := 0) rfl
  have c1 := blk_cell b0 (i := 1) rfl
  have f0 := blk_frozen b0 0
  have f1 := blk_frozen b0 1
  have g0 : (g == 0) = false := by simp; omega
  go_wp2
  go_region
  all_goals clear c0 c1 f0 f1
  all_goals go_wp2
  have B1 := blk_set (blk_set b0 0 (.int .i64 (u.tdiv g))) 1 (.int .i64 (d / g))
  have r0 := blk_cell B1 (i := 0) (v := .int .i64 (u.tdiv g)) rfl
  have r1 := blk_cell B1 (i := 1) (v := .int .i64 (d / g)) rfl
  have HBX := Lib.hid ((HBW.out.setCell (p := ⟨w.heap.size, 0, none⟩) (Nat.le_refl _) (.int .i64 (u.tdiv g))).setCell (p := ⟨w.heap.size, 1, none⟩) (Nat.le_refl _) (.int .i64 (d / g))).drew
  replace r0 : ((w2.setCell ⟨w.heap.size, 0, none⟩ (.int .i64 (u.tdiv g))).setCell ⟨w.heap.size, 1, none⟩ (.int .i64 (d / g))).drew.cell? ⟨w.heap.size, 0, none⟩ = some (.int .i64 (u.tdiv g)) := r0
  replace r1 : ((w2.setCell ⟨w.heap.size, 0, none⟩ (.int .i64 (u.tdiv g))).setCell ⟨w.heap.size, 1, none⟩ (.int .i64 (d / g))).drew.cell? ⟨w.heap.size, 1, none⟩ = some (.int .i64 (d / g)) := r1
  clear B1 b0 HBW
  generalize ((w2.setCell ⟨w.heap.size, 0, none⟩ (.int .i64 (u.tdiv g))).setCell ⟨w.heap.size, 1, none⟩ (.int .i64 (d / g))).drew = W3 at *
  refine bodyPost_ret (v := .agg #[.int .i64 (u.tdiv g), .int .i64 (d / g)]) (by simp [results, Try.results20, go_sem, r0, r1]) rfl ?_
  exact ⟨by rw [frV, HFU.out, HFD.out], HBX.out⟩
set_option maxHeartbeats 1000000 in
theorem plusOfH_any (u d v e : Int) (w : World) (hu : -1200000000 ≤ u ∧ u ≤ 1200000000) (hv : -1200000000 ≤ v ∧ v ≤ 1200000000) (hd : 1 ≤ d ∧ d ≤ 1200000000) (he : 1 ≤ e ∧ e ≤ 1200000000) :
    Calls Try.prog 21 #[.agg #[.int .i64 u, .int .i64 d], .agg #[.int .i64 v, .int .i64 e]] w (Ret (frV (u * e + v * d) (d * e)) w) := by
  obtain ⟨p1, p2⟩ := mulbd (x := u) (y := e) (A := 1200000000) (B := 1200000000) hu (by omega)
  obtain ⟨p3, p4⟩ := mulbd (x := v) (y := d) (A := 1200000000) (B := 1200000000) hv (by omega)
  obtain ⟨p5, p6⟩ := mulbd (x := d) (y := e) (A := 1200000000) (B := 1200000000) (by omega) (by omega)
  obtain ⟨p7, p8⟩ := mulbd (x := u) (y := v) (A := 1200000000) (B := 1200000000) hu hv
  have p9 : 1 ≤ d * e := by have h : 1 * 1 ≤ d * e := Int.mul_le_mul hd.1 he.1 (by omega) (by omega); omega
  have HC := Lib.hid (fun W => fracOfH_any (u * e + v * d) (d * e) W (by unfold Hug; omega) (by unfold Hug; omega) p9)
  have b0 := blk_old (blk_old (blk_new w 25 #[.int .i64 u, .int .i64 d]) (.cells #[.int .i64 v, .int .i64 e] 25)) (.cells #[.int .i64 0, .int .i64 0] 25)
  have b1 := blk_old (blk_new (w.alloc (.cells #[.int .i64 u, .int .i64 d] 25)) 25 #[.int .i64 v, .int .i64 e]) (.cells #[.int .i64 0, .int .i64 0] 25)
  have b2 := blk_new ((w.alloc (.cells #[.int .i64 u, .int .i64 d] 25)).alloc (.cells #[.int .i64 v, .int .i64 e] 25)) 25 #[.int .i64 0, .int .i64 0]
  have HB := Lib.hid (below_up (below_up (below_alloc w (.cells #[.int .i64 u, .int .i64 d] 25)) (below_alloc _ (.cells #[.int .i64 v, .int .i64 e] 25))) (below_alloc _ (.cells #[.int .i64 0, .int .i64 0] 25)))
  have HFV : Hid (frV (u * e + v * d) (d * e) = .agg #[.int .i64 (frU (u * e + v * d) (d * e)), .int .i64 (frD (u * e + v * d) (d * e))]) := Lib.hid rfl
  rw [HFV.out] at HC
  simp only [World.size_alloc] at b1 b2
  have c0 := blk_cell b0 (i := 0) rfl
  have c1 := blk_cell b0 (i := 1) rfl
  have c2 := blk_cell b1 (i := 0) rfl
  have c3 := blk_cell b1 (i := 1) rfl
  have HB2 := Lib.hid b2
  clear b0 b1 b2
  go_enter Try.func21, Try.ntmps21
  go_wp2_with fail
  clear c0 c1 c2 c3
  generalize ((w.alloc (.cells #[.int .i64 u, .int .i64 d] 25)).alloc (.cells #[.int .i64 v, .int .i64 e] 25)).alloc (.cells #[.int .i64 0, .int .i64 0] 25) = w1 at *
  refine (HC.out _).mono ?_
  rintro e w2 ⟨rfl, hb⟩
  have b0 := blk_below HB2.out hb
  have HBW := Lib.hid (below_up HB.out hb)
  clear hb HC HB HB2
  generalize frU (u * e + v * d) (d * e) = U at *
  generalize frD (u * e + v * d) (d * e) = D at *
  have c0 := blk_cell b0 (i := 0) rfl
  have c1 := blk_cell b0 (i := 1) rfl
  have f0 := blk_frozen b0 0
  have f1 := blk_frozen b0 1
  go_wp2
  clear c0 c1 f0 f1
  have B1 := blk_set (blk_set b0 0 (.int .i64 U)) 1 (.int .i64 D)
  have r0 := blk_cell B1 (i := 0) (v := .int .i64 U) rfl
  have r1 := blk_cell B1 (i := 1) (v := .int .i64 D) rfl
  have hle : w.heap.size ≤ w.heap.size + 1 + 1 := by omega
  have HBX := Lib.hid ((HBW.out.setCell (p := ⟨w.heap.size + 1 + 1, 0, none⟩) hle (.int .i64 U)).setCell (p := ⟨w.heap.size + 1 + 1, 1, none⟩) hle (.int .i64 D))
  clear B1 b0 HBW
  generalize (w2.setCell ⟨w.heap.size + 1 + 1, 0, none⟩ (.int .i64 U)).setCell ⟨w.heap.size + 1 + 1, 1, none⟩ (.int .i64 D) = WE at *
  refine bodyPost_ret (v := .agg #[.int .i64 U, .int .i64 D]) (by simp [results, Try.results21, go_sem, r0, r1]) rfl ?_
  exact ⟨by rw [HFV.out], HBX.out⟩
set_option maxHeartbeats 1000000 in
theorem timesOfH_any (u d v e : Int) (w : World) (hu : -1200000000 ≤ u ∧ u ≤ 1200000000) (hv : -1200000000 ≤ v ∧ v ≤ 1200000000) (hd : 1 ≤ d ∧ d ≤ 1200000000) (he : 1 ≤ e ∧ e ≤ 1200000000) :
    Calls Try.prog 19 #[.agg #[.int .i64 u, .int .i64 d], .agg #[.int .i64 v, .int .i64 e]] w (Ret (frV (u * v) (d * e)) w) := by
  obtain ⟨p1, p2⟩ := mulbd (x := u) (y := e) (A := 1200000000) (B := 1200000000) hu (by omega)
  obtain ⟨p3, p4⟩ := mulbd (x := v) (y := d) (A := 1200000000) (B := 1200000000) hv (by omega)
  obtain ⟨p5, p6⟩ := mulbd (x := d) (y := e) (A := 1200000000) (B := 1200000000) (by omega) (by omega)
  obtain ⟨p7, p8⟩ := mulbd (x := u) (y := v) (A := 1200000000) (B := 1200000000) hu hv
  have p9 : 1 ≤ d * e := by have h : 1 * 1 ≤ d * e := Int.mul_le_mul hd.1 he.1 (by omega) (by omega); omega
  have HC := Lib.hid (fun W => fracOfH_any (u * v) (d * e) W (by unfold Hug; omega) (by unfold Hug; omega) p9)
  have b0 := blk_old (blk_old (blk_new w 25 #[.int .i64 u, .int .i64 d]) (.cells #[.int .i64 v, .int .i64 e] 25)) (.cells #[.int .i64 0, .int .i64 0] 25)
  have b1 := blk_old (blk_new (w.alloc (.cells #[.int .i64 u, .int .i64 d] 25)) 25 #[.int .i64 v, .int .i64 e]) (.cells #[.int .i64 0, .int .i64 0] 25)
  have b2 := blk_new ((w.alloc (.cells #[.int .i64 u, .int .i64 d] 25)).alloc (.cells #[.int .i64 v, .int .i64 e] 25)) 25 #[.int .i64 0, .int .i64 0]
  have HB := Lib.hid (below_up (below_up (below_alloc w (.cells #[.int .i64 u, .int .i64 d] 25)) (below_alloc _ (.cells #[.int .i64 v, .int .i64 e] 25))) (below_alloc _ (.cells #[.int .i64 0, .int .i64 0] 25)))
  have HFV : Hid (frV (u * v) (d * e) = .agg #[.int .i64 (frU (u * v) (d * e)), .int .i64 (frD (u * v) (d * e))]) := Lib.hid rfl
  rw [HFV.out] at HC
  simp only [World.size_alloc] at b1 b2
  have c0 := blk_cell b0 (i := 0) rfl
  have c1 := blk_cell b0 (i := 1) rfl
  have c2 := blk_cell b1 (i := 0) rfl
  have c3 := blk_cell b1 (i := 1) rfl
  have HB2 := Lib.hid b2
  clear b0 b1 b2
  go_enter Try.func19, Try.ntmps19
  go_wp2_with fail
  clear c0 c1 c2 c3
  generalize ((w.alloc (.cells #[.int .i64 u, .int .i64 d] 25)).alloc (.cells #[.int .i64 v, .int .i64 e] 25)).alloc (.cells #[.int .i64 0, .int .i64 0] 25) = w1 at *
  refine (HC.out _).mono ?_
  rintro e w2 ⟨rfl, hb⟩
  have b0 := blk_below HB2.out hb
  have HBW := Lib.hid (below_up HB.out hb)
  clear hb HC HB HB2
  generalize frU (u * v) (d * e) = U at *
  generalize frD (u * v) (d * e) = D at *
  have c0 := blk_cell b0 (i := 0) rfl
  have c1 := blk_cell b0 (i := 1) rfl
  have f0 := blk_frozen b0 0
  have f1 := blk_frozen b0 1
  go_wp2
  clear c0 c1 f0 f1
  have B1 := blk_set (blk_set b0 0 (.int .i64 U)) 1 (.int .i64 D)
  have r0 := blk_cell B1 (i := 0) (v := .int .i64 U) rfl
  have r1 := blk_cell B1 (i := 1) (v := .int .i64 D) rfl
  have hle : w.heap.size ≤ w.heap.size + 1 + 1 := by omega
  have HBX := Lib.hid ((HBW.out.setCell (p := ⟨w.heap.size + 1 + 1, 0, none⟩) hle (.int .i64 U)).setCell (p := ⟨w.heap.size + 1 + 1, 1, none⟩) hle (.int .i64 D))
  clear B1 b0 HBW
  generalize (w2.setCell ⟨w.heap.size + 1 + 1, 0, none⟩ (.int .i64 U)).setCell ⟨w.heap.size + 1 + 1, 1, none⟩ (.int .i64 D) = WE at *
  refine bodyPost_ret (v := .agg #[.int .i64 U, .int .i64 D]) (by simp [results, Try.results19, go_sem, r0, r1]) rfl ?_
  exact ⟨by rw [HFV.out], HBX.out⟩
set_option maxHeartbeats 1000000 in
theorem plusH_any (u d v e : Int) (w : World) (hu : -1200000000 ≤ u ∧ u ≤ 1200000000) (hv : -1200000000 ≤ v ∧ v ≤ 1200000000) (hd : 1 ≤ d ∧ d ≤ 1200000000) (he : 1 ≤ e ∧ e ≤ 1200000000) :
    Calls Try.prog 37 #[.agg #[.int .i64 u, .int .i64 d], .agg #[.int .i64 v, .int .i64 e]] w (Ret (frV (u * e + v * d) (d * e)) w) := by
  obtain ⟨p1, p2⟩ := mulbd (x := u) (y := e) (A := 1200000000) (B := 1200000000) hu (by omega)
  obtain ⟨p3, p4⟩ := mulbd (x := v) (y := d) (A := 1200000000) (B := 1200000000) hv (by omega)
  obtain ⟨p5, p6⟩ := mulbd (x := d) (y := e) (A := 1200000000) (B := 1200000000) (by omega) (by omega)
  obtain ⟨p7, p8⟩ := mulbd (x := u) (y := v) (A := 1200000000) (B := 1200000000) hu hv
  have p9 : 1 ≤ d * e := by have h : 1 * 1 ≤ d * e := Int.mul_le_mul hd.1 he.1 (by omega) (by omega); omega
  have HC := Lib.hid (fun W => fracH_any (u * e + v * d) (d * e) W (by unfold Hug; omega) (by unfold Hug; omega) p9)
  have b0 := blk_old (blk_old (blk_new w 25 #[.int .i64 u, .int .i64 d]) (.cells #[.int .i64 v, .int .i64 e] 25)) (.cells #[.int .i64 0, .int .i64 0] 25)
  have b1 := blk_old (blk_new (w.alloc (.cells #[.int .i64 u, .int .i64 d] 25)) 25 #[.int .i64 v, .int .i64 e]) (.cells #[.int .i64 0, .int .i64 0] 25)
  have b2 := blk_new ((w.alloc (.cells #[.int .i64 u, .int .i64 d] 25)).alloc (.cells #[.int .i64 v, .int .i64 e] 25)) 25 #[.int .i64 0, .int .i64 0]
  have HB := Lib.hid (below_up (below_up (below_alloc w (.cells #[.int .i64 u, .int .i64 d] 25)) (below_alloc _ (.cells #[.int .i64 v, .int .i64 e] 25))) (below_alloc _ (.cells #[.int .i64 0, .int .i64 0] 25)))
  have HFV : Hid (frV (u * e + v * d) (d * e) = .agg #[.int .i64 (frU (u * e + v * d) (d * e)), .int .i64 (frD (u * e + v * d) (d * e))]) := Lib.hid rfl
  rw [HFV.out] at HC
  simp only [World.size_alloc] at b1 b2
  have c0 := blk_cell b0 (i := 0) rfl
  have c1 := blk_cell b0 (i := 1) rfl
  have c2 := blk_cell b1 (i := 0) rfl
  have c3 := blk_cell b1 (i := 1) rfl
  have HB2 := Lib.hid b2
  clear b0 b1 b2
  go_enter Try.func37, Try.ntmps37
  go_wp2_with fail
  clear c0 c1 c2 c3
  generalize ((w.alloc (.cells #[.int .i64 u, .int .i64 d] 25)).alloc (.cells #[.int .i64 v, .int .i64 e] 25)).alloc (.cells #[.int .i64 0, .int .i64 0] 25) = w1 at *
  refine (HC.out _).mono ?_
  rintro e w2 ⟨rfl, hb⟩
  have b0 := blk_below HB2.out hb
  have HBW := Lib.hid (below_up HB.out hb)
  clear hb HC HB HB2
  generalize frU (u * e + v * d) (d * e) = U at *
  generalize frD (u * e + v * d) (d * e) = D at *
  have c0 := blk_cell b0 (i := 0) rfl
  have c1 := blk_cell b0 (i := 1) rfl
  have f0 := blk_frozen b0 0
  have f1 := blk_frozen b0 1
  go_wp2
  clear c0 c1 f0 f1
  have B1 := blk_set (blk_set b0 0 (.int .i64 U)) 1 (.int .i64 D)
  have r0 := blk_cell B1 (i := 0) (v := .int .i64 U) rfl
  have r1 := blk_cell B1 (i := 1) (v := .int .i64 D) rfl
  have hle : w.heap.size ≤ w.heap.size + 1 + 1 := by omega
  have HBX := Lib.hid ((HBW.out.setCell (p := ⟨w.heap.size + 1 + 1, 0, none⟩) hle (.int .i64 U)).setCell (p := ⟨w.heap.size + 1 + 1, 1, none⟩) hle (.int .i64 D))
  clear B1 b0 HBW
  generalize (w2.setCell ⟨w.heap.size + 1 + 1, 0, none⟩ (.int .i64 U)).setCell ⟨w.heap.size + 1 + 1, 1, none⟩ (.int .i64 D) = WE at *
  refine bodyPost_ret (v := .agg #[.int .i64 U, .int .i64 D]) (by simp [results, Try.results37, go_sem, r0, r1]) rfl ?_
  exact ⟨by rw [HFV.out], HBX.out⟩
set_option maxHeartbeats 1000000 in
theorem timesH_any (u d v e : Int) (w : World) (hu : -1200000000 ≤ u ∧ u ≤ 1200000000) (hv : -1200000000 ≤ v ∧ v ≤ 1200000000) (hd : 1 ≤ d ∧ d ≤ 1200000000) (he : 1 ≤ e ∧ e ≤ 1200000000) :
    Calls Try.prog 38 #[.agg #[.int .i64 u, .int .i64 d], .agg #[.int .i64 v, .int .i64 e]] w (Ret (frV (u * v) (d * e)) w) := by
  obtain ⟨p1, p2⟩ := mulbd (x := u) (y := e) (A := 1200000000) (B := 1200000000) hu (by omega)
  obtain ⟨p3, p4⟩ := mulbd (x := v) (y := d) (A := 1200000000) (B := 1200000000) hv (by omega)
  obtain ⟨p5, p6⟩ := mulbd (x := d) (y := e) (A := 1200000000) (B := 1200000000) (by omega) (by omega)
  obtain ⟨p7, p8⟩ := mulbd (x := u) (y := v) (A := 1200000000) (B := 1200000000) hu hv
  have p9 : 1 ≤ d * e := by have h : 1 * 1 ≤ d * e := Int.mul_le_mul hd.1 he.1 (by omega) (by omega); omega
  have HC := Lib.hid (fun W => fracH_any (u * v) (d * e) W (by unfold Hug; omega) (by unfold Hug; omega) p9)
  have b0 := blk_old (blk_old (blk_new w 25 #[.int .i64 u, .int .i64 d]) (.cells #[.int .i64 v, .int .i64 e] 25)) (.cells #[.int .i64 0, .int .i64 0] 25)
  have b1 := blk_old (blk_new (w.alloc (.cells #[.int .i64 u, .int .i64 d] 25)) 25 #[.int .i64 v, .int .i64 e]) (.cells #[.int .i64 0, .int .i64 0] 25)
  have b2 := blk_new ((w.alloc (.cells #[.int .i64 u, .int .i64 d] 25)).alloc (.cells #[.int .i64 v, .int .i64 e] 25)) 25 #[.int .i64 0, .int .i64 0]
  have HB := Lib.hid (below_up (below_up (below_alloc w (.cells #[.int .i64 u, .int .i64 d] 25)) (below_alloc _ (.cells #[.int .i64 v, .int .i64 e] 25))) (below_alloc _ (.cells #[.int .i64 0, .int .i64 0] 25)))
  have HFV : Hid (frV (u * v) (d * e) = .agg #[.int .i64 (frU (u * v) (d * e)), .int .i64 (frD (u * v) (d * e))]) := Lib.hid rfl
  rw [HFV.out] at HC
  simp only [World.size_alloc] at b1 b2
  have c0 := blk_cell b0 (i := 0) rfl
  have c1 := blk_cell b0 (i := 1) rfl
  have c2 := blk_cell b1 (i := 0) rfl
  have c3 := blk_cell b1 (i := 1) rfl
  have HB2 := Lib.hid b2
  clear b0 b1 b2
  go_enter Try.func38, Try.ntmps38
  go_wp2_with fail
  clear c0 c1 c2 c3
  generalize ((w.alloc (.cells #[.int .i64 u, .int .i64 d] 25)).alloc (.cells #[.int .i64 v, .int .i64 e] 25)).alloc (.cells #[.int .i64 0, .int .i64 0] 25) = w1 at *
  refine (HC.out _).mono ?_
  rintro e w2 ⟨rfl, hb⟩
  have b0 := blk_below HB2.out hb
  have HBW := Lib.hid (below_up HB.out hb)
  clear hb HC HB HB2
  generalize frU (u * v) (d * e) = U at *
  generalize frD (u * v) (d * e) = D at *
  have c0 := blk_cell b0 (i := 0) rfl
  have c1 := blk_cell b0 (i := 1) rfl
  have f0 := blk_frozen b0 0
  have f1 := blk_frozen b0 1
  go_wp2
  clear c0 c1 f0 f1
  have B1 := blk_set (blk_set b0 0 (.int .i64 U)) 1 (.int .i64 D)
  have r0 := blk_cell B1 (i := 0) (v := .int .i64 U) rfl
  have r1 := blk_cell B1 (i := 1) (v := .int .i64 D) rfl
  have hle : w.heap.size ≤ w.heap.size + 1 + 1 := by omega
  have HBX := Lib.hid ((HBW.out.setCell (p := ⟨w.heap.size + 1 + 1, 0, none⟩) hle (.int .i64 U)).setCell (p := ⟨w.heap.size + 1 + 1, 1, none⟩) hle (.int .i64 D))
  clear B1 b0 HBW
  generalize (w2.setCell ⟨w.heap.size + 1 + 1, 0, none⟩ (.int .i64 U)).setCell ⟨w.heap.size + 1 + 1, 1, none⟩ (.int .i64 D) = WE at *
  refine bodyPost_ret (v := .agg #[.int .i64 U, .int .i64 D]) (by simp [results, Try.results38, go_sem, r0, r1]) rfl ?_
  exact ⟨by rw [HFV.out], HBX.out⟩
set_option maxHeartbeats 400000 in
theorem lessOfH_any (u d v e : Int) (w : World) (hu : -1200000000 ≤ u ∧ u ≤ 1200000000) (hv : -1200000000 ≤ v ∧ v ≤ 1200000000) (hd : 0 ≤ d ∧ d ≤ 1200000000) (he : 0 ≤ e ∧ e ≤ 1200000000) :
    Calls Try.prog 17 #[.agg #[.int .i64 u, .int .i64 d], .agg #[.int .i64 v, .int .i64 e]] w (Ret (.bool (lessB u d v e)) w) := by
  obtain ⟨p1, p2⟩ := hmul (x := u) (y := e) hu (by omega)
  obtain ⟨p3, p4⟩ := hmul (x := v) (y := d) hv (by omega)
  have b0 := blk_old (blk_new w 25 #[.int .i64 u, .int .i64 d]) (.cells #[.int .i64 v, .int .i64 e] 25)
  have b1 := blk_new (w.alloc (.cells #[.int .i64 u, .int .i64 d] 25)) 25 #[.int .i64 v, .int .i64 e]
  have HB := Lib.hid (below_up (below_alloc w (.cells #[.int .i64 u, .int .i64 d] 25)) (below_alloc _ (.cells #[.int .i64 v, .int .i64 e] 25)))
  rw [World.size_alloc] at b1
  have c0 := blk_cell b0 (i := 0) rfl
  have c1 := blk_cell b0 (i := 1) rfl
  have c2 := blk_cell b1 (i := 0) rfl
  have c3 := blk_cell b1 (i := 1) rfl
  go_enter Try.func17, Try.ntmps17
  go_wp2
  go_ret
  exact ⟨rfl, HB.out⟩
end Go.Proofs.Ytjmfkodbilknlaa

/- Fractions over 64; kin, by the model. -/
namespace Go.Proofs.Ytjmfkodbilknlaa
open Go.RowKit

/-- A fraction that is told in parts of 64. -/
def fK (x : Int) : Value := frV x 64
theorem frV_K {u d x : Int} (hd : 0 < d) (h : u * 64 = x * d) : frV u d = fK x := by
  have := fr_eq hd (show (0 : Int) < 64 by decide) h
  unfold fK frV
  rw [this.1, this.2]
theorem fK_form (x : Int) : ∃ U D, fK x = .agg #[.int .i64 U, .int .i64 D] := ⟨_, _, rfl⟩
theorem fK_u {x : Int} (h : -200000 ≤ x ∧ x ≤ 200000) : -200000 ≤ frU x 64 ∧ frU x 64 ≤ 200000 := frU_bd (u := x) (d := 64) (by decide) h
theorem fK_d (x : Int) : 1 ≤ frD x 64 ∧ frD x 64 ≤ 64 := frD_bd (u := x) (d := 64) (by decide) (by decide)
theorem fK_plus (x y : Int) : frV (frU x 64 * frD y 64 + frU y 64 * frD x 64) (frD x 64 * frD y 64) = fK (x + y) := by
  have h1 := fK_d x
  have h2 := fK_d y
  refine frV_K (Int.mul_pos (by omega) (by omega)) ?_
  have r1 := fr_ratio x 64
  have r2 := fr_ratio y 64
  grind
theorem fK_times {x y z : Int} (h : x * y = z * 64) : frV (frU x 64 * frU y 64) (frD x 64 * frD y 64) = fK z := by
  have h1 := fK_d x
  have h2 := fK_d y
  refine frV_K (Int.mul_pos (by omega) (by omega)) ?_
  have r1 := fr_ratio x 64
  have r2 := fr_ratio y 64
  grind
theorem fK_over {x y z : Int} (hy : 0 < y) (h : x * 64 = z * y) : frV (frU x 64 * frD y 64) (frD x 64 * frU y 64) = fK z := by
  have h1 := fK_d x
  have h2 := fr_pos (u := y) (d := 64) (by decide) hy
  refine frV_K (Int.mul_pos (by omega) h2) ?_
  have r1 := fr_ratio x 64
  have r2 := fr_ratio y 64
  grind
theorem fK_less (x y : Int) : lessB (frU x 64) (frD x 64) (frU y 64) (frD y 64) = decide (x < y) := by
  unfold lessB
  have h := fr_lt (u := x) (d := 64) (v := y) (e := 64) (by decide) (by decide)
  by_cases e : x < y
  · rw [decide_eq_true (h.2 (by omega)), decide_eq_true e]
  · rw [decide_eq_false (fun k => e (by have := h.1 k; omega)), decide_eq_false e]
theorem plusK_spec (x y : Int) (w : World) (hx : -200000 ≤ x ∧ x ≤ 200000) (hy : -200000 ≤ y ∧ y ≤ 200000) : Calls Try.prog 37 #[fK x, fK y] w (Ret (fK (x + y)) w) := by
  have h1 := fK_u hx
  have h2 := fK_u hy
  have h3 := fK_d x
  have h4 := fK_d y
  have h := plusH_any (frU x 64) (frD x 64) (frU y 64) (frD y 64) w (by omega) (by omega) (by omega) (by omega)
  rw [fK_plus] at h
  exact h
theorem timesK_spec (x y z : Int) (w : World) (hx : -200000 ≤ x ∧ x ≤ 200000) (hy : -200000 ≤ y ∧ y ≤ 200000) (hz : x * y = z * 64) : Calls Try.prog 38 #[fK x, fK y] w (Ret (fK z) w) := by
  have h1 := fK_u hx
  have h2 := fK_u hy
  have h3 := fK_d x
  have h4 := fK_d y
  have h := timesH_any (frU x 64) (frD x 64) (frU y 64) (frD y 64) w (by omega) (by omega) (by omega) (by omega)
  rw [fK_times hz] at h
  exact h
theorem fracK_spec (u d x : Int) (w : World) (hu : -200000 ≤ u ∧ u ≤ 200000) (hd : 1 ≤ d ∧ d ≤ 200000) (h : u * 64 = x * d) : Calls Try.prog 34 #[.int .i64 u, .int .i64 d] w (Ret (fK x) w) := by
  have k := frac_any u d w (by unfold Mid; omega) (by unfold Mid; omega) hd.1
  rw [frV_K (by omega) h] at k
  exact k

set_option maxRecDepth 100000 in
set_option maxHeartbeats 4000000 in
theorem kin_any (A : Option Addr) (n c : Nat) (f : List (List Int)) (v : VPe f) : ∀ N i j : Nat, i < f.length → j < f.length → i + j < N → ∀ w : World, IntRows w A n c f →
    Calls Try.prog 55 #[.slice A n c, .int .i64 i, .int .i64 j] w (Ret (fK (kK f i j)) w)
  | 0, _, _, _, _, h, _, _ => absurd h (by omega)
  | N + 1, i, j, hi, hj, hN, w, hx => by
    have IH := Lib.hid (kin_any A n c f v N)
    have n6 := v.n6
    have key : ∀ i j : Nat, j ≤ i → i < f.length → i + j < N + 1 → ∀ w : World, IntRows w A n c f → Calls Try.prog 55 #[.slice A n c, .int .i64 i, .int .i64 j] w (Ret (fK (kK f i j)) w) := by
      clear hi hj hN hx i j w
      intro i j hji hi hN w hx
      have hm := hx.max
      have hnl := hx.len
      have hxa := hx.keep (PF.start w).keep
      have HPF := Lib.hid (PF.start w)
      have HXA := Lib.hid hxa
      obtain ⟨b, o, rfl, hc⟩ := hxa.at_ (by omega)
      obtain ⟨R, cc, c1, hR⟩ := hc i (by omega)
      have hlen := v.two hi
      rw [hlen] at c1 hR
      obtain ⟨b2, o2, rfl, hc2⟩ := hR.at_ (by omega)
      have c20 := hc2 0 (by omega)
      have c21 := hc2 1 (by omega)
      simp only [Nat.add_zero] at c20
      replace c20 : (w.alloc (.cells #[.int .i64 0, .int .i64 0] 25)).cell? ⟨b2, o2, none⟩ = some (.int .i64 (g2 f i 0)) := c20
      replace c21 : (w.alloc (.cells #[.int .i64 0, .int .i64 0] 25)).cell? ⟨b2, o2 + 1, none⟩ = some (.int .i64 (g2 f i 1)) := c21
      have e0 : decide ((i : Int) < (j : Int)) = false := by simp; omega
      have hin : i < n := by omega
      have hpar := v.par hi
      have HLN := Lib.hid hnl
      have VV := Lib.hid v
      clear hc hc2 hR hlen hx hxa hnl
      rcases hpar with ⟨hp, hq⟩ | ⟨hp, hq, _⟩
      · by_cases hij : i = j
        · subst hij
          have HK := Lib.hid (show kK f i i = 32 by have := kK_self v hi; rw [if_pos (by omega)] at this; omega)
          rw [hp] at c20
          rw [hq] at c21
          obtain ⟨U, D, hform⟩ := fK_form (kK f i i)
          have HFORM := Lib.hid hform
          clear hform v
          have HC := Lib.hid (fun W => fracK_spec 1 2 (kK f i i) W (by omega) (by omega) (by rw [HK.out]; rfl))
          rw [HFORM.out] at HC
          go_enter Try.func55, Try.ntmps55
          go_wp2_with fail
          refine (HC.out _).mono ?_
          rintro e w2 ⟨rfl, hb⟩
          have HPF := Lib.hid (HPF.out.up hb)
          clear hb HC
          have c0 := blk_cell HPF.out.box (i := 0) rfl
          have c1 := blk_cell HPF.out.box (i := 1) rfl
          have f0 := blk_frozen HPF.out.box 0
          have f1 := blk_frozen HPF.out.box 1
          go_wp2
          clear c0 c1 f0 f1
          have B1 := blk_set (blk_set HPF.out.box 0 (.int .i64 U)) 1 (.int .i64 D)
          have r0 := blk_cell B1 (i := 0) (v := .int .i64 U) rfl
          have r1 := blk_cell B1 (i := 1) (v := .int .i64 D) rfl
          have HBX := Lib.hid ((HPF.out.below.setCell (p := ⟨w.heap.size, 0, none⟩) (Nat.le_refl _) (.int .i64 U)).setCell (p := ⟨w.heap.size, 1, none⟩) (Nat.le_refl _) (.int .i64 D))
          clear B1 HPF
          generalize (w2.setCell ⟨w.heap.size, 0, none⟩ (.int .i64 U)).setCell ⟨w.heap.size, 1, none⟩ (.int .i64 D) = WE at *
          refine bodyPost_ret (v := .agg #[.int .i64 U, .int .i64 D]) (by simp [results, Try.results55, go_sem, r0, r1]) rfl ?_
          exact ⟨by rw [HFORM.out], HBX.out⟩
        · have HK := Lib.hid (show kK f i j = 0 by have := kK_off v hi (show j < i by omega); rw [if_pos (by omega)] at this; omega)
          rw [hp] at c20
          rw [hq] at c21
          have e2 : ((i : Int) == (j : Int)) = false := by simp; omega
          obtain ⟨U, D, hform⟩ := fK_form (kK f i j)
          have HFORM := Lib.hid hform
          clear hform v
          have HC := Lib.hid (fun W => fracK_spec 0 1 (kK f i j) W (by omega) (by omega) (by rw [HK.out]; rfl))
          rw [HFORM.out] at HC
          go_enter Try.func55, Try.ntmps55
          go_wp2_with fail
          refine (HC.out _).mono ?_
          rintro e w2 ⟨rfl, hb⟩
          have HPF := Lib.hid (HPF.out.up hb)
          clear hb HC
          have c0 := blk_cell HPF.out.box (i := 0) rfl
          have c1 := blk_cell HPF.out.box (i := 1) rfl
          have f0 := blk_frozen HPF.out.box 0
          have f1 := blk_frozen HPF.out.box 1
          go_wp2
          clear c0 c1 f0 f1
          have B1 := blk_set (blk_set HPF.out.box 0 (.int .i64 U)) 1 (.int .i64 D)
          have r0 := blk_cell B1 (i := 0) (v := .int .i64 U) rfl
          have r1 := blk_cell B1 (i := 1) (v := .int .i64 D) rfl
          have HBX := Lib.hid ((HPF.out.below.setCell (p := ⟨w.heap.size, 0, none⟩) (Nat.le_refl _) (.int .i64 U)).setCell (p := ⟨w.heap.size, 1, none⟩) (Nat.le_refl _) (.int .i64 D))
          clear B1 HPF
          generalize (w2.setCell ⟨w.heap.size, 0, none⟩ (.int .i64 U)).setCell ⟨w.heap.size, 1, none⟩ (.int .i64 D) = WE at *
          refine bodyPost_ret (v := .agg #[.int .i64 U, .int .i64 D]) (by simp [results, Try.results55, go_sem, r0, r1]) rfl ?_
          exact ⟨by rw [HFORM.out], HBX.out⟩
      · obtain ⟨p, ep⟩ : ∃ p : Nat, g2 f i 0 = p := ⟨_, (Int.toNat_of_nonneg hp.1).symm⟩
        obtain ⟨q, eq⟩ : ∃ q : Nat, g2 f i 1 = q := ⟨_, (Int.toNat_of_nonneg hq.1).symm⟩
        have hself := kK_self v hi
        have hoff := fun hj => kK_off v (j := j) hi hj
        rw [ep, eq, Int.toNat_natCast, Int.toNat_natCast, if_neg (by omega)] at hself
        rw [ep, eq, Int.toNat_natCast, Int.toNat_natCast, if_neg (by omega)] at hoff
        rw [ep] at c20 hp
        rw [eq] at c21 hq
        have hpl : (p : Int) < 9223372036854775807 := by omega
        have hql : (q : Int) < 9223372036854775807 := by omega
        have hp0 : ((p : Int) < 0) = False := by simp
        by_cases hij : i = j
        · subst hij
          obtain ⟨U, D, hform⟩ := fK_form (kK f i i)
          have HFORM := Lib.hid hform
          have hbd := kK_bd f p q
          have HC1 := Lib.hid (fun W => fracK_spec 1 2 32 W (by omega) (by omega) rfl)
          have HC2 := Lib.hid (fun W => fracK_spec 1 1 64 W (by omega) (by omega) rfl)
          have HC3 := Lib.hid (IH.out p q (by omega) (by omega) (by omega))
          have HC4 := Lib.hid (fun W => plusK_spec 64 (kK f p q) W (by omega) (by omega))
          have HC5 := Lib.hid (fun W => timesK_spec 32 (64 + kK f p q) (kK f i i) W (by omega) (by omega) (by omega))
          rw [HFORM.out] at HC5
          clear hform v hself hoff hbd IH
          go_enter Try.func55, Try.ntmps55
          go_wp2_with fail
          refine (HC1.out _).mono ?_
          rintro e w2 ⟨rfl, hb⟩
          have HPF := Lib.hid (HPF.out.up hb)
          have HXA := Lib.hid (HXA.out.keep (Keep.below hb))
          clear hb HC1
          go_wp2_with fail
          refine (HC2.out _).mono ?_
          rintro e w3 ⟨rfl, hb⟩
          have HPF := Lib.hid (HPF.out.up hb)
          have HXA := Lib.hid (HXA.out.keep (Keep.below hb))
          clear hb HC2
          go_wp2_with fail
          refine (HC3.out _ HXA.out).mono ?_
          rintro e w4 ⟨rfl, hb⟩
          have HPF := Lib.hid (HPF.out.up hb)
          clear hb HC3
          go_wp2_with fail
          refine (HC4.out _).mono ?_
          rintro e w5 ⟨rfl, hb⟩
          have HPF := Lib.hid (HPF.out.up hb)
          clear hb HC4
          go_wp2_with fail
          refine (HC5.out _).mono ?_
          rintro e w6 ⟨rfl, hb⟩
          have HPF := Lib.hid (HPF.out.up hb)
          clear hb HC5
          have c0 := blk_cell HPF.out.box (i := 0) rfl
          have c1 := blk_cell HPF.out.box (i := 1) rfl
          have f0 := blk_frozen HPF.out.box 0
          have f1 := blk_frozen HPF.out.box 1
          go_wp2
          clear c0 c1 f0 f1
          have B1 := blk_set (blk_set HPF.out.box 0 (.int .i64 U)) 1 (.int .i64 D)
          have r0 := blk_cell B1 (i := 0) (v := .int .i64 U) rfl
          have r1 := blk_cell B1 (i := 1) (v := .int .i64 D) rfl
          have HBX := Lib.hid ((HPF.out.below.setCell (p := ⟨w.heap.size, 0, none⟩) (Nat.le_refl _) (.int .i64 U)).setCell (p := ⟨w.heap.size, 1, none⟩) (Nat.le_refl _) (.int .i64 D))
          clear B1 HPF
          generalize (w6.setCell ⟨w.heap.size, 0, none⟩ (.int .i64 U)).setCell ⟨w.heap.size, 1, none⟩ (.int .i64 D) = WE at *
          refine bodyPost_ret (v := .agg #[.int .i64 U, .int .i64 D]) (by simp [results, Try.results55, go_sem, r0, r1]) rfl ?_
          exact ⟨by rw [HFORM.out], HBX.out⟩
        · have hof := hoff (by omega)
          have e2 : ((i : Int) == (j : Int)) = false := by simp; omega
          obtain ⟨U, D, hform⟩ := fK_form (kK f i j)
          have HFORM := Lib.hid hform
          have hbd := kK_bd f p j
          have hbd2 := kK_bd f q j
          have HC1 := Lib.hid (fun W => fracK_spec 1 2 32 W (by omega) (by omega) rfl)
          have HC2 := Lib.hid (IH.out p j (by omega) (by omega) (by omega))
          have HC3 := Lib.hid (IH.out q j (by omega) (by omega) (by omega))
          have HC4 := Lib.hid (fun W => plusK_spec (kK f p j) (kK f q j) W (by omega) (by omega))
          have HC5 := Lib.hid (fun W => timesK_spec 32 (kK f p j + kK f q j) (kK f i j) W (by omega) (by omega) (by omega))
          rw [HFORM.out] at HC5
          clear hform v hself hoff hof hbd hbd2 IH hij ep eq hp hq hpl hql
          go_enter Try.func55, Try.ntmps55
          go_wp2_with fail
          refine (HC1.out _).mono ?_
          rintro e w2 ⟨rfl, hb⟩
          have HPF := Lib.hid (HPF.out.up hb)
          have HXA := Lib.hid (HXA.out.keep (Keep.below hb))
          clear hb HC1
          go_wp2_with fail
          refine (HC2.out _ HXA.out).mono ?_
          rintro e w3 ⟨rfl, hb⟩
          have HPF := Lib.hid (HPF.out.up hb)
          have HXA := Lib.hid (HXA.out.keep (Keep.below hb))
          clear hb HC2
          go_wp2_with fail
          refine (HC3.out _ HXA.out).mono ?_
          rintro e w4 ⟨rfl, hb⟩
          have HPF := Lib.hid (HPF.out.up hb)
          clear hb HC3
          go_wp2_with fail
          refine (HC4.out _).mono ?_
          rintro e w5 ⟨rfl, hb⟩
          have HPF := Lib.hid (HPF.out.up hb)
          clear hb HC4
          go_wp2_with fail
          refine (HC5.out _).mono ?_
          rintro e w6 ⟨rfl, hb⟩
          have HPF := Lib.hid (HPF.out.up hb)
          clear hb HC5
          have c0 := blk_cell HPF.out.box (i := 0) rfl
          have c1 := blk_cell HPF.out.box (i := 1) rfl
          have f0 := blk_frozen HPF.out.box 0
          have f1 := blk_frozen HPF.out.box 1
          go_wp2
          clear c0 c1 f0 f1
          have B1 := blk_set (blk_set HPF.out.box 0 (.int .i64 U)) 1 (.int .i64 D)
          have r0 := blk_cell B1 (i := 0) (v := .int .i64 U) rfl
          have r1 := blk_cell B1 (i := 1) (v := .int .i64 D) rfl
          have HBX := Lib.hid ((HPF.out.below.setCell (p := ⟨w.heap.size, 0, none⟩) (Nat.le_refl _) (.int .i64 U)).setCell (p := ⟨w.heap.size, 1, none⟩) (Nat.le_refl _) (.int .i64 D))
          clear B1 HPF
          generalize (w6.setCell ⟨w.heap.size, 0, none⟩ (.int .i64 U)).setCell ⟨w.heap.size, 1, none⟩ (.int .i64 D) = WE at *
          refine bodyPost_ret (v := .agg #[.int .i64 U, .int .i64 D]) (by simp [results, Try.results55, go_sem, r0, r1]) rfl ?_
          exact ⟨by rw [HFORM.out], HBX.out⟩
    by_cases hij : i < j
    · have e0 : decide ((i : Int) < (j : Int)) = true := by simp; omega
      have HPF := Lib.hid (PF.start w)
      have hm := hx.max
      have HC := Lib.hid (key j i (by omega) hj (by omega) _ (hx.keep HPF.out.keep))
      rw [kK_symm f j i] at HC
      obtain ⟨U, D, hform⟩ := fK_form (kK f i j)
      have HFORM := Lib.hid hform
      rw [hform] at HC
      clear hform v key IH hx
      go_enter Try.func55, Try.ntmps55
      go_wp2_with fail
      refine HC.out.mono ?_
      rintro e w2 ⟨rfl, hb⟩
      have HPF := Lib.hid (HPF.out.up hb)
      clear hb HC
      have c0 := blk_cell HPF.out.box (i := 0) rfl
      have c1 := blk_cell HPF.out.box (i := 1) rfl
      have f0 := blk_frozen HPF.out.box 0
      have f1 := blk_frozen HPF.out.box 1
      go_wp2
      clear c0 c1 f0 f1
      have B1 := blk_set (blk_set HPF.out.box 0 (.int .i64 U)) 1 (.int .i64 D)
      have r0 := blk_cell B1 (i := 0) (v := .int .i64 U) rfl
      have r1 := blk_cell B1 (i := 1) (v := .int .i64 D) rfl
      have HBX := Lib.hid ((HPF.out.below.setCell (p := ⟨w.heap.size, 0, none⟩) (Nat.le_refl _) (.int .i64 U)).setCell (p := ⟨w.heap.size, 1, none⟩) (Nat.le_refl _) (.int .i64 D))
      clear B1 HPF
      generalize (w2.setCell ⟨w.heap.size, 0, none⟩ (.int .i64 U)).setCell ⟨w.heap.size, 1, none⟩ (.int .i64 D) = WE at *
      refine bodyPost_ret (v := .agg #[.int .i64 U, .int .i64 D]) (by simp [results, Try.results55, go_sem, r0, r1]) rfl ?_
      exact ⟨by rw [HFORM.out], HBX.out⟩
    · exact key i j (by omega) hi hN w hx

end Go.Proofs.Ytjmfkodbilknlaa

/- KinOf, InbredOf and HelpPays, by the model. -/
namespace Go.Proofs.Ytjmfkodbilknlaa
open Go.RowKit

theorem nat_of {n : Nat} {k : Int} (h : Blw n k) : ∃ i : Nat, k = i ∧ i < n := ⟨k.toNat, (Int.toNat_of_nonneg h.1).symm, by have := h.1; have := h.2; omega⟩
theorem inR_blw (n : Nat) (k : Int) : pb (InR k 0 ((n : Int) - 1)) = pb (Blw n k) := pb_congr ⟨fun h => ⟨h.1, by have := h.2; omega⟩, fun h => ⟨h.1, by have := h.2; omega⟩⟩
theorem inR_blw2 (k : Int) : pb (InR k 0 1000) = pb (Blw 1001 k) := pb_congr ⟨fun h => ⟨h.1, by have := h.2; omega⟩, fun h => ⟨h.1, by have := h.2; omega⟩⟩
/-- Two people. -/
structure KOk (f : List (List Int)) (i j : Int) : Prop where
  v : VPe f
  i : Blw f.length i
  j : Blw f.length j
noncomputable def kinF (f : List (List Int)) (i j : Int) : Value := if pb (KOk f i j) = true then fK (kK f i.toNat j.toNat) else .agg #[.int .i64 0, .int .i64 0]
theorem kinF_yes {f} {i j : Nat} (h : KOk f i j) : kinF f i j = fK (kK f i j) := by rw [kinF, if_pos (pb_true h), Int.toNat_natCast, Int.toNat_natCast]
theorem kinF_no {f i j} (h : ¬ KOk f i j) : kinF f i j = .agg #[.int .i64 0, .int .i64 0] := by rw [kinF, if_neg (by rw [pb_false h]; decide)]
theorem kinF_form (f : List (List Int)) (i j : Int) : ∃ U D, kinF f i j = .agg #[.int .i64 U, .int .i64 D] := by
  unfold kinF
  split
  · exact fK_form _
  · exact ⟨0, 0, rfl⟩
/-- One of the people. -/
structure IOk (f : List (List Int)) (i : Int) : Prop where
  v : VPe f
  i : Blw f.length i
/-- The kinship of both parents, in parts of 64. -/
def bK (f : List (List Int)) (i : Nat) : Int := if g2 f i 0 < 0 then 0 else kK f (g2 f i 0).toNat (g2 f i 1).toNat
theorem bK_bd (f : List (List Int)) (i : Nat) : 0 ≤ bK f i ∧ bK f i < 64 := by
  unfold bK
  split
  · decide
  · exact kK_bd _ _ _
theorem kK_bK {f : List (List Int)} (v : VPe f) {i : Nat} (hi : i < f.length) : 2 * kK f i i = 64 + bK f i := kK_self v hi
noncomputable def inbF (f : List (List Int)) (i : Int) : Value := if pb (IOk f i) = true then fK (bK f i.toNat) else .agg #[.int .i64 0, .int .i64 0]
theorem inbF_yes {f} {i : Nat} (h : IOk f i) : inbF f i = fK (bK f i) := by rw [inbF, if_pos (pb_true h), Int.toNat_natCast]
theorem inbF_no {f i} (h : ¬ IOk f i) : inbF f i = .agg #[.int .i64 0, .int .i64 0] := by rw [inbF, if_neg (by rw [pb_false h]; decide)]
theorem inbF_form (f : List (List Int)) (i : Int) : ∃ U D, inbF f i = .agg #[.int .i64 U, .int .i64 D] := by
  unfold inbF
  split
  · exact fK_form _
  · exact ⟨0, 0, rfl⟩
/-- It pays to help. -/
structure HOk (f : List (List Int)) (i j c g : Int) : Prop where
  k : KOk f i j
  hc : Blw 1001 c
  hg : Blw 1001 g
  lt : kK f i.toNat i.toNat * c < kK f i.toNat j.toNat * g
theorem mulK {f : List (List Int)} {i j : Nat} {c : Int} (hc : Blw 1001 c) : -200000 ≤ kK f i j * c ∧ kK f i j * c ≤ 200000 := by
  have h1 := kK_bd f i j
  have h2 : 0 * c ≤ kK f i j * c := Int.mul_le_mul_of_nonneg_right h1.1 hc.1
  have h3 : kK f i j * c ≤ 64 * 1000 := Int.mul_le_mul (by omega) (by have := hc.2; omega) hc.1 (by omega)
  omega

set_option maxRecDepth 100000 in
set_option maxHeartbeats 2000000 in
theorem bred_any (A : Option Addr) (n c : Nat) (f : List (List Int)) (v : VPe f) (i : Nat) (hi : i < f.length) (w : World) (hx : IntRows w A n c f) :
    Calls Try.prog 39 #[.slice A n c, .int .i64 i] w (Ret (fK (bK f i)) w) := by
  have n6 := v.n6
  have hm := hx.max
  have hnl := hx.len
  have hxa := hx.keep (PF.start w).keep
  have HPF := Lib.hid (PF.start w)
  have HXA := Lib.hid hxa
  obtain ⟨b, o, rfl, hc⟩ := hxa.at_ (by omega)
  obtain ⟨R, cc, c1, hR⟩ := hc i (by omega)
  have hlen := v.two hi
  rw [hlen] at c1 hR
  obtain ⟨b2, o2, rfl, hc2⟩ := hR.at_ (by omega)
  have c20 := hc2 0 (by omega)
  have c21 := hc2 1 (by omega)
  simp only [Nat.add_zero] at c20
  replace c20 : (w.alloc (.cells #[.int .i64 0, .int .i64 0] 25)).cell? ⟨b2, o2, none⟩ = some (.int .i64 (g2 f i 0)) := c20
  replace c21 : (w.alloc (.cells #[.int .i64 0, .int .i64 0] 25)).cell? ⟨b2, o2 + 1, none⟩ = some (.int .i64 (g2 f i 1)) := c21
  have hin : i < n := by omega
  have hpar := v.par hi
  obtain ⟨U, D, hform⟩ := fK_form (bK f i)
  have HFORM := Lib.hid hform
  have HLN := Lib.hid hnl
  clear hc hc2 hR hlen hx hxa hnl hform
  rcases hpar with ⟨hp, hq⟩ | ⟨hp, hq, _⟩
  · have HK := Lib.hid (show bK f i = 0 by unfold bK; rw [if_pos (by omega)])
    rw [hp] at c20
    rw [hq] at c21
    clear v
    have HC := Lib.hid (fun W => fracK_spec 0 1 (bK f i) W (by omega) (by omega) (by rw [HK.out]; rfl))
    rw [HFORM.out] at HC
    go_enter Try.func39, Try.ntmps39
    go_wp2_with fail
    refine (HC.out _).mono ?_
    rintro e w2 ⟨rfl, hb⟩
    have HPF := Lib.hid (HPF.out.up hb)
    clear hb HC
    have c0 := blk_cell HPF.out.box (i := 0) rfl
    have c1 := blk_cell HPF.out.box (i := 1) rfl
    have f0 := blk_frozen HPF.out.box 0
    have f1 := blk_frozen HPF.out.box 1
    go_wp2
    clear c0 c1 f0 f1
    have B1 := blk_set (blk_set HPF.out.box 0 (.int .i64 U)) 1 (.int .i64 D)
    have r0 := blk_cell B1 (i := 0) (v := .int .i64 U) rfl
    have r1 := blk_cell B1 (i := 1) (v := .int .i64 D) rfl
    have HBX := Lib.hid ((HPF.out.below.setCell (p := ⟨w.heap.size, 0, none⟩) (Nat.le_refl _) (.int .i64 U)).setCell (p := ⟨w.heap.size, 1, none⟩) (Nat.le_refl _) (.int .i64 D))
    clear B1 HPF
    generalize (w2.setCell ⟨w.heap.size, 0, none⟩ (.int .i64 U)).setCell ⟨w.heap.size, 1, none⟩ (.int .i64 D) = WE at *
    refine bodyPost_ret (v := .agg #[.int .i64 U, .int .i64 D]) (by simp [results, Try.results39, go_sem, r0, r1]) rfl ?_
    exact ⟨by rw [HFORM.out], HBX.out⟩
  · obtain ⟨p, ep⟩ : ∃ p : Nat, g2 f i 0 = p := ⟨_, (Int.toNat_of_nonneg hp.1).symm⟩
    obtain ⟨q, eq⟩ : ∃ q : Nat, g2 f i 1 = q := ⟨_, (Int.toNat_of_nonneg hq.1).symm⟩
    have HK := Lib.hid (show kK f p q = bK f i by unfold bK; rw [if_neg (by omega), ep, eq, Int.toNat_natCast, Int.toNat_natCast])
    rw [ep] at c20 hp
    rw [eq] at c21 hq
    have hp0 : ((p : Int) < 0) = False := by simp
    have HC := Lib.hid (kin_any (some ⟨b, o, none⟩) n c f v (p + q + 1) p q (by omega) (by omega) (by omega))
    rw [HK.out, HFORM.out] at HC
    clear v ep eq hp hq
    go_enter Try.func39, Try.ntmps39
    go_wp2
    generalize w.alloc (.cells #[.int .i64 0, .int .i64 0] 25) = w0 at *
    go_still_tail 13, (by kernel_rfl)
    have HXA := Lib.hid (show IntRows w0.drew _ n c f from HXA.out.keep (Keep.drewN _ 1))
    have HPF := Lib.hid (show PF w w0.drew from HPF.out.up (Quiet.below ⟨1, rfl⟩))
    change wpList _ _ _ _ _ w0.drew
    generalize w0.drew = w1 at *
    go_wp2_with fail
    refine (HC.out _ HXA.out).mono ?_
    rintro e w2 ⟨rfl, hb⟩
    have HPF := Lib.hid (HPF.out.up hb)
    clear hb HC
    have c0 := blk_cell HPF.out.box (i := 0) rfl
    have c1 := blk_cell HPF.out.box (i := 1) rfl
    have f0 := blk_frozen HPF.out.box 0
    have f1 := blk_frozen HPF.out.box 1
    go_wp2
    clear c0 c1 f0 f1
    have B1 := blk_set (blk_set HPF.out.box 0 (.int .i64 U)) 1 (.int .i64 D)
    have r0 := blk_cell B1 (i := 0) (v := .int .i64 U) rfl
    have r1 := blk_cell B1 (i := 1) (v := .int .i64 D) rfl
    have HBX := Lib.hid ((HPF.out.below.setCell (p := ⟨w.heap.size, 0, none⟩) (Nat.le_refl _) (.int .i64 U)).setCell (p := ⟨w.heap.size, 1, none⟩) (Nat.le_refl _) (.int .i64 D))
    clear B1 HPF
    generalize (w2.setCell ⟨w.heap.size, 0, none⟩ (.int .i64 U)).setCell ⟨w.heap.size, 1, none⟩ (.int .i64 D) = WE at *
    refine bodyPost_ret (v := .agg #[.int .i64 U, .int .i64 D]) (by simp [results, Try.results39, go_sem, r0, r1]) rfl ?_
    exact ⟨by rw [HFORM.out], HBX.out⟩

set_option maxRecDepth 100000 in
set_option maxHeartbeats 2000000 in
theorem KinOf_spec (A : Option Addr) (n c : Nat) (f : List (List Int)) (i j : Int) (w : World) (hx : IntRows w A n c f) (_ : Fit i) (_ : Fit j) :
    Calls Try.prog 16 #[.slice A n c, .int .i64 i, .int .i64 j] w (Ret (.tuple #[kinF f i j, .bool (pb (KOk f i j))]) w) := by
  have hm := hx.max
  have HLN := Lib.hid hx.len
  have HPF := Lib.hid (PF.start w)
  have HXA := Lib.hid (hx.keep HPF.out.keep)
  clear hx
  have HC := Lib.hid (validFolk_any A n c f _ HXA.out)
  by_cases hv : VPe f
  · rw [pb_true hv] at HC
    have HI := Lib.hid (fun W => inRange_any i 0 ((n : Int) - 1) W)
    rw [inR_blw, ← HLN.out] at HI
    by_cases hi : Blw f.length i
    · rw [pb_true hi] at HI
      have HJ := Lib.hid (fun W => inRange_any j 0 ((n : Int) - 1) W)
      rw [inR_blw, ← HLN.out] at HJ
      by_cases hj : Blw f.length j
      · rw [pb_true hj] at HJ
        have hok : KOk f i j := ⟨hv, hi, hj⟩
        obtain ⟨i, rfl, hi2⟩ := nat_of hi
        obtain ⟨j, rfl, hj2⟩ := nat_of hj
        have HK := Lib.hid (kin_any A n c f hv (i + j + 1) i j hi2 hj2 (by omega))
        rw [kinF_yes hok, pb_true hok]
        obtain ⟨U, D, hform⟩ := fK_form (kK f i j)
        have HFORM := Lib.hid hform
        rw [hform] at HK
        rw [HLN.out] at HI HJ
        clear hform hok hv hi hj hi2 hj2
        go_enter Try.func16, Try.ntmps16
        go_wp2_with fail
        refine HC.out.mono ?_
        rintro e w1 ⟨rfl, hq⟩
        have hb := hq.below (B := (w.alloc (.cells #[.int .i64 0, .int .i64 0] 25)).heap.size)
        have HPF := Lib.hid (HPF.out.up hb)
        have HXA := Lib.hid (HXA.out.keep (Keep.below hb))
        clear hb hq HC
        go_wp2_with (go_at_call 33; (first | (with_reducible refine (HI.out _).mono ?_) | (with_reducible refine (HJ.out _).mono ?_)); rintro e w' ⟨rfl, rfl⟩)
        refine (HK.out _ HXA.out).mono ?_
        rintro e w2 ⟨rfl, hb⟩
        have HPF := Lib.hid (HPF.out.up hb)
        clear hb HK HI HJ
        have c0 := blk_cell HPF.out.box (i := 0) rfl
        have c1 := blk_cell HPF.out.box (i := 1) rfl
        have f0 := blk_frozen HPF.out.box 0
        have f1 := blk_frozen HPF.out.box 1
        go_wp2
        clear c0 c1 f0 f1
        have B1 := blk_set (blk_set HPF.out.box 0 (.int .i64 U)) 1 (.int .i64 D)
        have r0 := blk_cell B1 (i := 0) (v := .int .i64 U) rfl
        have r1 := blk_cell B1 (i := 1) (v := .int .i64 D) rfl
        have HBX := Lib.hid ((HPF.out.below.setCell (p := ⟨w.heap.size, 0, none⟩) (Nat.le_refl _) (.int .i64 U)).setCell (p := ⟨w.heap.size, 1, none⟩) (Nat.le_refl _) (.int .i64 D))
        clear B1 HPF
        generalize (w2.setCell ⟨w.heap.size, 0, none⟩ (.int .i64 U)).setCell ⟨w.heap.size, 1, none⟩ (.int .i64 D) = WE at *
        refine bodyPost_ret (v := .tuple #[.agg #[.int .i64 U, .int .i64 D], .bool true]) (by simp [results, Try.results16, go_sem, r0, r1]) rfl ?_
        exact ⟨by rw [HFORM.out], HBX.out⟩
      · rw [pb_false hj] at HJ
        have HNO := Lib.hid (show kinF f i j = .agg #[.int .i64 0, .int .i64 0] ∧ pb (KOk f i j) = false from (fun h : ¬ KOk f i j => ⟨kinF_no h, pb_false h⟩) (fun h => hj h.j))
        rw [HNO.out.1, HNO.out.2]
        rw [HLN.out] at HI HJ
        clear hv hi hj
        go_enter Try.func16, Try.ntmps16
        go_wp2_with fail
        refine HC.out.mono ?_
        rintro e w1 ⟨rfl, hq⟩
        have HPF := Lib.hid (HPF.out.up (hq.below (B := (w.alloc (.cells #[.int .i64 0, .int .i64 0] 25)).heap.size)))
        clear hq HC
        have c0 := blk_cell HPF.out.box (i := 0) rfl
        have c1 := blk_cell HPF.out.box (i := 1) rfl
        have f0 := blk_frozen HPF.out.box 0
        have f1 := blk_frozen HPF.out.box 1
        go_wp2_with (go_at_call 33; (first | (with_reducible refine (HI.out _).mono ?_) | (with_reducible refine (HJ.out _).mono ?_)); rintro e w' ⟨rfl, rfl⟩)
        clear c0 c1 f0 f1
        have B1 := blk_set (blk_set HPF.out.box 0 (.int .i64 0)) 1 (.int .i64 0)
        have r0 := blk_cell B1 (i := 0) (v := .int .i64 0) rfl
        have r1 := blk_cell B1 (i := 1) (v := .int .i64 0) rfl
        have HBX := Lib.hid ((HPF.out.below.setCell (p := ⟨w.heap.size, 0, none⟩) (Nat.le_refl _) (.int .i64 0)).setCell (p := ⟨w.heap.size, 1, none⟩) (Nat.le_refl _) (.int .i64 0))
        clear B1 HPF
        generalize (w1.setCell ⟨w.heap.size, 0, none⟩ (.int .i64 0)).setCell ⟨w.heap.size, 1, none⟩ (.int .i64 0) = WE at *
        refine bodyPost_ret (v := .tuple #[.agg #[.int .i64 0, .int .i64 0], .bool false]) (by simp [results, Try.results16, go_sem, r0, r1]) rfl ?_
        exact ⟨rfl, HBX.out⟩
    · rw [pb_false hi] at HI
      have HNO := Lib.hid (show kinF f i j = .agg #[.int .i64 0, .int .i64 0] ∧ pb (KOk f i j) = false from (fun h : ¬ KOk f i j => ⟨kinF_no h, pb_false h⟩) (fun h => hi h.i))
      rw [HNO.out.1, HNO.out.2]
      rw [HLN.out] at HI
      clear hv hi
      go_enter Try.func16, Try.ntmps16
      go_wp2_with fail
      refine HC.out.mono ?_
      rintro e w1 ⟨rfl, hq⟩
      have HPF := Lib.hid (HPF.out.up (hq.below (B := (w.alloc (.cells #[.int .i64 0, .int .i64 0] 25)).heap.size)))
      clear hq HC
      have c0 := blk_cell HPF.out.box (i := 0) rfl
      have c1 := blk_cell HPF.out.box (i := 1) rfl
      have f0 := blk_frozen HPF.out.box 0
      have f1 := blk_frozen HPF.out.box 1
      go_wp2_with (go_at_call 33; (with_reducible refine (HI.out _).mono ?_); rintro e w' ⟨rfl, rfl⟩)
      clear c0 c1 f0 f1
      have B1 := blk_set (blk_set HPF.out.box 0 (.int .i64 0)) 1 (.int .i64 0)
      have r0 := blk_cell B1 (i := 0) (v := .int .i64 0) rfl
      have r1 := blk_cell B1 (i := 1) (v := .int .i64 0) rfl
      have HBX := Lib.hid ((HPF.out.below.setCell (p := ⟨w.heap.size, 0, none⟩) (Nat.le_refl _) (.int .i64 0)).setCell (p := ⟨w.heap.size, 1, none⟩) (Nat.le_refl _) (.int .i64 0))
      clear B1 HPF
      generalize (w1.setCell ⟨w.heap.size, 0, none⟩ (.int .i64 0)).setCell ⟨w.heap.size, 1, none⟩ (.int .i64 0) = WE at *
      refine bodyPost_ret (v := .tuple #[.agg #[.int .i64 0, .int .i64 0], .bool false]) (by simp [results, Try.results16, go_sem, r0, r1]) rfl ?_
      exact ⟨rfl, HBX.out⟩
  · rw [pb_false hv] at HC
    have HNO := Lib.hid (show kinF f i j = .agg #[.int .i64 0, .int .i64 0] ∧ pb (KOk f i j) = false from (fun h : ¬ KOk f i j => ⟨kinF_no h, pb_false h⟩) (fun h => hv h.v))
    rw [HNO.out.1, HNO.out.2]
    clear hv
    go_enter Try.func16, Try.ntmps16
    go_wp2_with fail
    refine HC.out.mono ?_
    rintro e w1 ⟨rfl, hq⟩
    have HPF := Lib.hid (HPF.out.up (hq.below (B := (w.alloc (.cells #[.int .i64 0, .int .i64 0] 25)).heap.size)))
    clear hq HC
    have c0 := blk_cell HPF.out.box (i := 0) rfl
    have c1 := blk_cell HPF.out.box (i := 1) rfl
    have f0 := blk_frozen HPF.out.box 0
    have f1 := blk_frozen HPF.out.box 1
    go_wp2
    clear c0 c1 f0 f1
    have B1 := blk_set (blk_set HPF.out.box 0 (.int .i64 0)) 1 (.int .i64 0)
    have r0 := blk_cell B1 (i := 0) (v := .int .i64 0) rfl
    have r1 := blk_cell B1 (i := 1) (v := .int .i64 0) rfl
    have HBX := Lib.hid ((HPF.out.below.setCell (p := ⟨w.heap.size, 0, none⟩) (Nat.le_refl _) (.int .i64 0)).setCell (p := ⟨w.heap.size, 1, none⟩) (Nat.le_refl _) (.int .i64 0))
    clear B1 HPF
    generalize (w1.setCell ⟨w.heap.size, 0, none⟩ (.int .i64 0)).setCell ⟨w.heap.size, 1, none⟩ (.int .i64 0) = WE at *
    refine bodyPost_ret (v := .tuple #[.agg #[.int .i64 0, .int .i64 0], .bool false]) (by simp [results, Try.results16, go_sem, r0, r1]) rfl ?_
    exact ⟨rfl, HBX.out⟩

end Go.Proofs.Ytjmfkodbilknlaa

/- How often a number is in a list: plain. -/
namespace Go.Proofs.Ytjmfkodbilknlaa

/-- How often a number is among the first k; in the list. -/
def cnI (xs : List Int) (s : Int) : Nat → Int
  | 0 => 0
  | k + 1 => if gi xs k = s then cnI xs s k + 1 else cnI xs s k
def cn (xs : List Int) (s : Int) : Int := cnI xs s xs.length
theorem cnI_bd (xs : List Int) (s : Int) : ∀ k : Nat, 0 ≤ cnI xs s k ∧ cnI xs s k ≤ (k : Int)
  | 0 => ⟨Int.le_refl _, Int.le_refl _⟩
  | k + 1 => by have := cnI_bd xs s k; rw [cnI]; split <;> omega
theorem cnI_in {xs : List Int} {s : Int} : ∀ {k : Nat}, cnI xs s k ≠ 0 → ∃ i, i < k ∧ gi xs i = s
  | 0, h => absurd rfl h
  | k + 1, h => by
    by_cases e : gi xs k = s
    · exact ⟨k, by omega, e⟩
    · rw [cnI, if_neg e] at h
      obtain ⟨i, hi, e'⟩ := cnI_in h
      exact ⟨i, by omega, e'⟩
end Go.Proofs.Ytjmfkodbilknlaa

/- How often a number is in a list, by the model. -/
namespace Go.Proofs.Ytjmfkodbilknlaa
open Go.RowKit

set_option maxHeartbeats 400000 in
theorem count_any (A : Option Addr) (n c : Nat) (xs : List Int) (s : Int) (w : World) (hx : Ints w A n c xs) (h7 : n ≤ 1000) :
    Calls Try.prog 66 #[.slice A n c, .int .i64 s] w fun e w' => e = .returned (.int .i64 (cn xs s)) ∧ w = w' := by
  have HX := Lib.hid hx
  have HL := Lib.hid hx.len
  clear hx
  go_enter Try.func66, Try.ntmps66
  go_wp2
  go_loop [5, 6] (fun v i => ∃ k : Nat, k ≤ n ∧ i = .int .i64 k ∧ v = .int .i64 (cnI xs s k)) (fun _ i => n - (intOf i).toNat)
  case atStart => exact ⟨0, Nat.zero_le _, rfl, rfl⟩
  case round =>
    obtain ⟨k, hk, rfl, rfl⟩ := hrel
    by_cases hlt : k < n
    · obtain ⟨b, o, rfl, hc⟩ := HX.out.at_ (by omega)
      have c1 := hc k hlt
      obtain ⟨b1, b2⟩ := cnI_bd xs s k
      clear hc
      by_cases he : gi xs k = s
      · have HS : Hid (cnI xs s (k + 1) = cnI xs s k + 1) := Lib.hid (by rw [cnI, if_pos he])
        have hb : (gi xs k == s) = true := by simpa using he
        clear he
        generalize gi xs k = x at *
        generalize cnI xs s k = v at *
        go_wp2
        go_round
        case rel => exact ⟨k + 1, by omega, by go_num, by rw [HS.out]⟩
        case measure => simp [intOf]; omega
      · have HS : Hid (cnI xs s (k + 1) = cnI xs s k) := Lib.hid (by rw [cnI, if_neg he])
        have hb : (gi xs k == s) = false := by simpa using he
        clear he
        generalize gi xs k = x at *
        generalize cnI xs s k = v at *
        go_wp2
        go_round
        case rel => exact ⟨k + 1, by omega, by go_num, by rw [HS.out]⟩
        case measure => simp [intOf]; omega
    · obtain rfl : k = n := by omega
      have HE := Lib.hid (show cn xs s = cnI xs s k by unfold cn; rw [HL.out])
      go_wp2
      go_ret
      exact ⟨ret_int HE.out.symm, rfl⟩
end Go.Proofs.Ytjmfkodbilknlaa

/- Two rows that meet at their ends alone, by the model. -/
namespace Go.Proofs.Ytjmfkodbilknlaa
open Go.RowKit

theorem ints_takeP {w : World} {A : Option Addr} {n c k : Nat} {xs : List Int} (h : Ints w A n c xs) (hk : k ≤ n) : Ints w A k c (xs.take k) := by
  obtain ⟨hl, hc, hm, hw, hn⟩ := h
  refine ⟨by rw [List.length_take]; omega, by omega, by omega, fun x hx => hw x (List.mem_of_mem_take hx), fun h0 => ?_⟩
  obtain ⟨b, o, e, hcell⟩ := hn (by omega)
  refine ⟨b, o, e, fun j hj => ?_⟩
  have : gi (xs.take k) j = gi xs j := by
    unfold gi
    simp only [List.getD_eq_getElem?_getD, List.getElem?_take]
    rw [if_pos hj]
  rw [this]; exact hcell j (by omega)
def APt (a b : List Int) : Prop := (∀ k, k + 1 < a.length → cn b (gi a k) ≤ 0) ∧ cn (b.take (b.length - 1)) (gi a (a.length - 1)) = 0
set_option maxHeartbeats 800000 in
theorem apart_any (A B : Option Addr) (n c m d : Nat) (a b : List Int) (w : World) (ha : Ints w A n c a) (hb : Ints w B m d b) (h1 : 1 ≤ n) (h2 : n ≤ 1000) (h3 : 1 ≤ m) (h4 : m ≤ 1000) :
    Calls Try.prog 36 #[.slice A n c, .slice B m d] w fun e w' => e = .returned (.bool (pb (APt a b))) ∧ Quiet w w' := by
  have HA := Lib.hid ha
  have HB := Lib.hid hb
  have HL := Lib.hid ha.len
  have HM := Lib.hid hb.len
  clear ha hb
  obtain ⟨bA, oA, rfl, hcA⟩ := HA.out.at_ (by omega)
  have HCA := Lib.hid hcA
  have HCO := Lib.hid (fun s => count_any B m d b s w HB.out h4)
  clear hcA
  go_enter Try.func36, Try.ntmps36
  go_wp2
  go_loop [5] (fun i => ∃ k : Nat, k + 1 ≤ n ∧ i = .int .i64 k ∧ Hid (∀ q, q < k → cn b (gi a q) ≤ 0)) (fun i => n - (intOf i).toNat)
  case atStart => exact ⟨0, by omega, rfl, Lib.hid (fun q hq => absurd hq (by omega))⟩
  case round =>
    obtain ⟨k, hk, rfl, HQ⟩ := hrel
    by_cases hlt : k + 1 < n
    · have c1 := HCA.out k (by omega)
      have HC := Lib.hid (HCO.out (gi a k))
      by_cases hp : 0 < cn b (gi a k)
      · have HV := Lib.hid (pb_false (p := APt a b) (fun h => by have := h.1 k (by rw [HL.out]; exact hlt); omega))
        generalize gi a k = x at *
        generalize cn b x = y at *
        go_wp2_with fail
        refine HC.out.mono ?_
        rintro e w1 ⟨rfl, rfl⟩
        go_wp2
        go_ret
        exact ⟨ret_bool HV.out.symm, Quiet.refl _⟩
      · have HN : Hid (∀ q, q < k + 1 → cn b (gi a q) ≤ 0) := Lib.hid (fun q hq => by
          by_cases e : q = k
          · subst e; omega
          · exact HQ.out q (by omega))
        generalize gi a k = x at *
        generalize cn b x = y at *
        go_wp2_with fail
        refine HC.out.mono ?_
        rintro e w1 ⟨rfl, rfl⟩
        go_wp2
        go_round
        case rel => exact ⟨k + 1, by omega, by go_num, HN⟩
        case measure => simp [intOf]; omega
    · obtain rfl : n = k + 1 := by omega
      obtain ⟨M, rfl⟩ : ∃ M, m = M + 1 := ⟨m - 1, by omega⟩
      have hcap := HB.out.cap
      have hMd : M ≤ d := by omega
      have hMd' : (M : Int) ≤ d := by omega
      have hwM : IntKind.i64.wrap (M : Int) = M := by rw [IntKind.wrap_i64]; omega
      have hwk : IntKind.i64.wrap (k : Int) = k := by rw [IntKind.wrap_i64]; omega
      have hM0 : (0 : Int) ≤ M := by omega
      have c1 := HCA.out k (by omega)
      have QX := Lib.hid (fun W (q : Quiet w W) => count_any B M d (b.take M) (gi a k) W ((ints_takeP HB.out (by omega)).keep (Keep.quiet q)) (by omega))
      have HV : Hid (pb (APt a b) = (cn (b.take M) (gi a k) == 0)) := Lib.hid (by
        have e1 : b.length - 1 = M := by rw [HM.out]; omega
        have e2 : a.length - 1 = k := by rw [HL.out]; omega
        by_cases e : cn (b.take M) (gi a k) = 0
        · rw [e]; exact pb_true ⟨fun q hq => HQ.out q (by rw [HL.out] at hq; omega), by rw [e1, e2]; exact e⟩
        · rw [pb_false (fun h => e (by have := h.2; rw [e1, e2] at this; exact this))]
          exact (beq_eq_false_iff_ne.2 e).symm)
      generalize gi a k = x at *
      generalize cn (b.take M) x = y at *
      go_wp2
      go_quiet ((go_at_call 66; (with_reducible refine same_fit (QX.out _ ?_) (fun m => ?_)); exact ⟨_, rfl⟩; exact drewN_to1 _ _ _))
      go_wp2
      go_ret
      exact ⟨ret_bool HV.out.symm, by first | exact Quiet.refl _ | exact ⟨_, rfl⟩ | exact Quiet.two _ _ _⟩
end Go.Proofs.Ytjmfkodbilknlaa

