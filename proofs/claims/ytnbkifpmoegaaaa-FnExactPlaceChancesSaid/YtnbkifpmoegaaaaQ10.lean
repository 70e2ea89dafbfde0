/- Texts merged: LiftB LiftC Enter Math31 Math51 Y1 Y7 U0 PX Y8a N7 N8. -/
import Derived.Test.YtnbkifpmoegaaaaQ9
import Derived.ChangeSlices
/- An argument of bytes, opened. -/
namespace Go.Proofs.Ytnbkifpmoegaaaa
open Go.ChangeShapes Go.WideShapes Go.ChangeAt Go.RowKit Go.Deep

theorem Try.cells_u8 : Try.prog.cellsOf 5 = 1 := by kernel_rfl
theorem Try.bytes_u8 : Try.prog.bytesOf 5 = 1 := by kernel_rfl
set_option maxRecDepth 100000 in
theorem open_bytes {H : Type} {enc : TypeId × Value → H} {W : World} {v : Value} {d : DataW H} {p : List MemPlace} {b0 : Nat} (hval : Value.okWide Try.prog W .any b0 22 v)
    (h : DataW.Trod enc Try.prog W 0 (fun _ => true) true 22 v d p) (hw : ∀ n ∈ d.weights Try.prog 22, n ≤ reachBytes) :
    ∃ A n c, v = .slice A n c ∧ Bytes W A n c := by
  obtain ⟨a1, len, cap, rfl⟩ := okWide_slice Try.underlying22 hval
  obtain ⟨fuel, hf⟩ := h
  rcases open_ints Try.underlying22 Try.underlying5 Try.cells_u8 hf with ⟨hcs, hx⟩ | ⟨a, len', cap', zs, hcs, _, hl, hm, hz, hx, hcell, hwz⟩
  · simp [Value.cells] at hcs
    obtain ⟨rfl, rfl, rfl⟩ := hcs
    exact ⟨none, 0, 0, rfl, Nat.le_refl _, by omega, fun h => absurd h (by omega)⟩
  · simp [Value.cells] at hcs
    obtain ⟨rfl, rfl, rfl⟩ := hcs
    simp only [Prod.mk.injEq] at hx
    obtain ⟨rfl, rfl⟩ := hx
    simp only [if_true] at hz
    have h1 := hw _ (weights_slice Try.underlying22 (.inl rfl))
    simp only [lits, List.length_map, List.length_take, List.length_drop, Try.bytes_u8, reachBytes] at h1
    refine ⟨some a, len, cap, rfl, hl, by omega, fun hn => ?_⟩
    have hspot : a.spot = none := by simpa [Addr.add] using World.cell?_spot (hcell 0 (by omega))
    obtain ⟨b, o, sp⟩ := a
    simp only at hspot
    subst hspot
    refine ⟨b, o, rfl, fun k hk => ⟨zs.getD k 0, ?_, ?_, by rw [← add_plain]; exact hcell k (by omega)⟩⟩
    · rw [List.getD_eq_getElem?_getD]; have := hwz (zs.getD k 0) (by rw [List.getD_eq_getElem?_getD, List.getElem?_eq_getElem (show k < zs.length by omega)]; simp)
      simp [Lit.wf, IntKind.min, IntKind.max, IntKind.signed, IntKind.bits] at this
      omega
    · rw [List.getD_eq_getElem?_getD]; have := hwz (zs.getD k 0) (by rw [List.getD_eq_getElem?_getD, List.getElem?_eq_getElem (show k < zs.length by omega)]; simp)
      simp [Lit.wf, IntKind.min, IntKind.max, IntKind.signed, IntKind.bits] at this
      omega
end Go.Proofs.Ytnbkifpmoegaaaa

/- Arguments that are a slice of ints, or an int, opened. -/
namespace Go.Proofs.Ytnbkifpmoegaaaa
open Go.ChangeShapes Go.WideShapes Go.ChangeAt Go.RowKit Go.Deep

set_option maxRecDepth 100000 in
theorem open_intS {H : Type} {enc : TypeId × Value → H} {W : World} {v : Value} {d : DataW H} {p : List MemPlace} {b0 : Nat} (hval : Value.okWide Try.prog W .any b0 23 v)
    (h : DataW.Trod enc Try.prog W 0 (fun _ => true) true 23 v d p) (hw : ∀ n ∈ d.weights Try.prog 23, n ≤ reachBytes) :
    ∃ A n c xs, v = .slice A n c ∧ Ints W A n c xs := by
  obtain ⟨a1, len, cap, rfl⟩ := okWide_slice Try.underlying23 hval
  obtain ⟨fuel, hf⟩ := h
  rcases open_ints Try.underlying23 Try.underlying3 Try.cells3 hf with ⟨hcs, hx⟩ | ⟨a, len', cap', zs, hcs, _, hl, hm, hz, hx, hcell, hwz⟩
  · simp [Value.cells] at hcs
    obtain ⟨rfl, rfl, rfl⟩ := hcs
    exact ⟨none, 0, 0, [], rfl, rfl, Nat.le_refl _, by omega, fun _ h => by simp at h, fun h => absurd h (by omega)⟩
  · simp [Value.cells] at hcs
    obtain ⟨rfl, rfl, rfl⟩ := hcs
    simp only [Prod.mk.injEq] at hx
    obtain ⟨rfl, rfl⟩ := hx
    simp only [if_true] at hz
    have h1 := hw _ (weights_slice Try.underlying23 (.inl rfl))
    simp only [lits, List.length_map, List.length_take, List.length_drop, Try.bytes3, reachBytes] at h1
    have hlen : (zs.take len).length = len := by rw [List.length_take]; omega
    refine ⟨some a, len, cap, zs.take len, rfl, hlen, hl, by omega, fun x hx => ?_, fun hn => ?_⟩
    · have := hwz x (List.mem_of_mem_take hx)
      simp [Lit.wf, IntKind.min, IntKind.max, IntKind.signed, IntKind.bits] at this
      omega
    have hspot : a.spot = none := by simpa [Addr.add] using World.cell?_spot (hcell 0 (by omega))
    obtain ⟨b, o, sp⟩ := a
    simp only at hspot
    subst hspot
    refine ⟨b, o, rfl, fun k hk => ?_⟩
    rw [← add_plain, hcell k (by omega)]
    congr 2
    rw [gi_get (by rw [hlen]; exact hk), List.getElem_take]
    simp [List.getD, show k < zs.length by omega]

set_option maxRecDepth 100000 in
theorem open_num {H : Type} {enc : TypeId × Value → H} {W : World} {v : Value} {d : DataW H} {p : List MemPlace} {b0 : Nat} (hval : Value.okWide Try.prog W .any b0 3 v)
    (h : DataW.Trod enc Try.prog W 0 (fun _ => true) true 3 v d p) : ∃ x, v = .int .i64 x ∧ Fit x := by
  obtain ⟨x, rfl, _, _, hw⟩ := open_int Try.underlying3 hval h
  refine ⟨x, rfl, ?_⟩
  simp [Lit.wf, IntKind.min, IntKind.max, IntKind.signed, IntKind.bits] at hw
  unfold Fit
  omega
end Go.Proofs.Ytnbkifpmoegaaaa

/- The program may be entered: facts of its head, once for all laws. -/
namespace Go.Proofs.Ytnbkifpmoegaaaa

theorem prog_enters : Try.pinned.checked.prog.mayEnter = true := by kernel_rfl
theorem prog_lifts0 : (false == Try.pinned.checked.prog.liftsFinal) = true := by kernel_rfl
theorem prog_make0 : (Try.pinned.checked.prog.make == some .cut) = true := by kernel_rfl
theorem prog_lifts {b : Bool} (h : b = false) : (b == Try.pinned.checked.prog.liftsFinal) = true := by subst h; exact prog_lifts0
theorem prog_make {m : Make} (h : m = .cut) : (Try.pinned.checked.prog.make == some m) = true := by subst h; exact prog_make0
end Go.Proofs.Ytnbkifpmoegaaaa

/- Small crowds, in plain Lean: the numbers of the steps, their sums, and chances. -/
namespace Go.Proofs.Ytnbkifpmoegaaaa

/-- The product of the first k numbers; of the last t up to m. -/
def upP (g : Nat → Int) : Nat → Int
  | 0 => 1
  | k + 1 => upP g k * g (k + 1)
def dnP (f : Nat → Int) (m : Nat) : Nat → Int
  | 0 => 1
  | t + 1 => dnP f m t * f (m - t)
/-- The numbers whose sums the chance is of. -/
def numP (f g : Nat → Int) (m k : Nat) : Int := upP g k * dnP f m (m - k)
def numL (f g : Nat → Int) (m : Nat) : List Int := (List.range (m + 1)).map (numP f g m)
theorem numL_len (f g : Nat → Int) (m : Nat) : (numL f g m).length = m + 1 := by simp [numL]
theorem gi_numL {f g : Nat → Int} {m k : Nat} (h : k ≤ m) : gi (numL f g m) k = numP f g m k := by
  rw [gi_get (by rw [numL_len]; omega)]; simp [numL]
theorem dnP_top (f : Nat → Int) (m : Nat) : ∀ t, t ≤ m → dnP f (m + 1) (t + 1) = f (m + 1) * dnP f m t
  | 0, _ => by simp [dnP]
  | t + 1, h => by
    rw [dnP, dnP_top f m t (by omega), dnP, Int.mul_assoc]
    congr 3
    omega
theorem up_dn (f : Nat → Int) (m : Nat) : ∀ t, t ≤ m → upP f m = upP f (m - t) * dnP f m t
  | 0, _ => by simp [dnP]
  | t + 1, h => by
    rw [up_dn f m t (by omega), dnP]
    have e : m - t = (m - (t + 1)) + 1 := by omega
    rw [e, upP, ← e]
    grind
/-- The sum of the first i of the numbers of k steps. -/
def SS (f g : Nat → Int) (i k : Nat) : Int := sm (numL f g k) (min i (k + 1))
theorem sm_numL {f g : Nat → Int} {m : Nat} : ∀ {k}, k ≤ m + 1 → sm (numL f g (m + 1)) k = sm (numL f g m) k * f (m + 1)
  | 0, _ => by simp [sm]
  | k + 1, h => by
    rw [sm, sm, sm_numL (by omega), gi_numL (by omega), gi_numL (by omega), numP, numP]
    have e : m + 1 - k = (m - k) + 1 := by omega
    rw [e, dnP_top f m (m - k) (by omega)]
    grind
theorem SS_zero (f g : Nat → Int) (i : Nat) : SS f g i 0 = if 0 < i then 1 else 0 := by
  unfold SS
  by_cases h : 0 < i
  · rw [show min i (0 + 1) = 1 by omega, if_pos h, sm, gi_numL (Nat.le_refl 0)]; simp [sm, numP, upP, dnP]
  · rw [show min i (0 + 1) = 0 by omega, if_neg h]; rfl
theorem SS_succ (f g : Nat → Int) (i k : Nat) : SS f g i (k + 1) = SS f g i k * f (k + 1) + if k + 1 < i then upP g (k + 1) else 0 := by
  unfold SS
  by_cases h : k + 1 < i
  · rw [if_pos h, show min i (k + 1 + 1) = (k + 1) + 1 by omega, show min i (k + 1) = k + 1 by omega, sm, sm_numL (by omega), gi_numL (Nat.le_refl _), numP]
    rw [show k + 1 - (k + 1) = 0 by omega]
    simp [dnP]
  · rw [if_neg h, show min i (k + 1 + 1) = min i (k + 1) by omega, sm_numL (by omega)]
    simp
theorem SS_all (f g : Nat → Int) (m : Nat) : SS f g (m + 1) m = tot (numL f g m) := by
  unfold SS tot
  rw [numL_len, Nat.min_self]

/-- What players have: 1 to 45 each. -/
structure FG (f g : Nat → Int) (m : Nat) : Prop where
  m5 : m ≤ 5
  f : ∀ j, 1 ≤ j → j ≤ m → 1 ≤ f j ∧ f j ≤ 45
  g : ∀ j, 1 ≤ j → j ≤ m → 1 ≤ g j ∧ g j ≤ 45
theorem FG.less {f g m k} (h : FG f g m) (hk : k ≤ m) : FG f g k := ⟨by have := h.m5; omega, fun j a b => h.f j a (by omega), fun j a b => h.g j a (by omega)⟩
theorem FG.flip {f g m} (h : FG f g m) : FG g f m := ⟨h.m5, h.g, h.f⟩
def p45 : Nat → Int
  | 0 => 1
  | k + 1 => p45 k * 45
theorem p45_add (a : Nat) : ∀ b, p45 a * p45 b = p45 (a + b)
  | 0 => by simp [p45]
  | b + 1 => by rw [p45, ← Int.mul_assoc, p45_add a b]; rfl
theorem p45_pos : ∀ k, 1 ≤ p45 k
  | 0 => Int.le_refl _
  | k + 1 => by have := p45_pos k; rw [p45]; omega
theorem p45_mono : ∀ {k m}, k ≤ m → p45 k ≤ p45 m
  | k, 0, h => by obtain rfl : k = 0 := by omega
                  exact Int.le_refl _
  | k, m + 1, h => by
    by_cases e : k = m + 1
    · subst e; exact Int.le_refl _
    · have h1 := p45_mono (k := k) (m := m) (by omega)
      have h2 := p45_pos m
      rw [p45]; omega
theorem p45_5 {k : Nat} (h : k ≤ 5) : p45 k ≤ 184528125 := by
  have := p45_mono h
  have e : p45 5 = 184528125 := by decide
  omega
theorem upP_bd {g : Nat → Int} : ∀ {k}, (∀ j, 1 ≤ j → j ≤ k → 1 ≤ g j ∧ g j ≤ 45) → 1 ≤ upP g k ∧ upP g k ≤ p45 k
  | 0, _ => ⟨Int.le_refl _, Int.le_refl _⟩
  | k + 1, h => by
    have h1 := upP_bd (k := k) fun j a b => h j a (by omega)
    have h2 := h (k + 1) (by omega) (by omega)
    have h3 : 1 * 1 ≤ upP g k * g (k + 1) := Int.mul_le_mul h1.1 h2.1 (by omega) (by omega)
    have h4 : upP g k * g (k + 1) ≤ p45 k * 45 := Int.mul_le_mul h1.2 h2.2 (by omega) (by have := p45_pos k; omega)
    rw [upP, p45]
    omega
theorem dnP_bd {f : Nat → Int} {m : Nat} : ∀ {t}, t ≤ m → (∀ j, 1 ≤ j → j ≤ m → 1 ≤ f j ∧ f j ≤ 45) → 1 ≤ dnP f m t ∧ dnP f m t ≤ p45 t
  | 0, _, _ => ⟨Int.le_refl _, Int.le_refl _⟩
  | t + 1, ht, h => by
    have h1 := dnP_bd (t := t) (by omega) h
    have h2 := h (m - t) (by omega) (by omega)
    have h3 : 1 * 1 ≤ dnP f m t * f (m - t) := Int.mul_le_mul h1.1 h2.1 (by omega) (by omega)
    have h4 : dnP f m t * f (m - t) ≤ p45 t * 45 := Int.mul_le_mul h1.2 h2.2 (by omega) (by have := p45_pos t; omega)
    rw [dnP, p45]
    omega
theorem numP_bd {f g : Nat → Int} {m k : Nat} (h : FG f g m) (hk : k ≤ m) : 1 ≤ numP f g m k ∧ numP f g m k ≤ 184528125 := by
  have h1 := upP_bd (g := g) (k := k) fun j a b => h.g j a (by omega)
  have h2 := dnP_bd (f := f) (m := m) (t := m - k) (by omega) h.f
  have h3 : 1 * 1 ≤ upP g k * dnP f m (m - k) := Int.mul_le_mul h1.1 h2.1 (by omega) (by omega)
  have h4 : upP g k * dnP f m (m - k) ≤ p45 k * p45 (m - k) := Int.mul_le_mul h1.2 h2.2 (by omega) (by have := p45_pos k; omega)
  rw [p45_add] at h4
  have h5 := p45_5 (k := k + (m - k)) (by have := h.m5; omega)
  unfold numP
  omega
theorem up_bd {g : Nat → Int} {m k : Nat} (h : ∀ j, 1 ≤ j → j ≤ m → 1 ≤ g j ∧ g j ≤ 45) (hm : m ≤ 5) (hk : k ≤ m) : 1 ≤ upP g k ∧ upP g k ≤ 184528125 := by
  have h1 := upP_bd (g := g) (k := k) fun j a b => h j a (by omega)
  have h2 := p45_5 (k := k) (by omega)
  omega
theorem sm_num_bd {f g : Nat → Int} {m k : Nat} (h : FG f g m) (hk : k ≤ m + 1) : (k : Int) ≤ sm (numL f g m) k ∧ sm (numL f g m) k ≤ 1107168750 := by
  have h1 := sm_bd (xs := numL f g m) (k := k) (lo := 1) (hi := 184528125) fun j hj => by rw [gi_numL (by omega)]; exact numP_bd h (by omega)
  have := h.m5
  omega
theorem SS_bd {f g : Nat → Int} {i k : Nat} (h : FG f g k) : 0 ≤ SS f g i k ∧ SS f g i k ≤ 1107168750 := by
  have := sm_num_bd h (k := min i (k + 1)) (by omega)
  unfold SS
  omega
theorem tot_num_bd {f g : Nat → Int} {m : Nat} (h : FG f g m) : 1 ≤ tot (numL f g m) ∧ tot (numL f g m) ≤ 1107168750 := by
  have := sm_num_bd h (k := m + 1) (Nat.le_refl _)
  unfold tot
  rw [numL_len]
  omega
/-- The sums of two fractions in lowest terms, and their product and quotient. -/
theorem fr_add {u d v e : Int} (hd : 0 < d) (he : 0 < e) :
    frU (frU u d * frD v e + frU v e * frD u d) (frD u d * frD v e) = frU (u * e + v * d) (d * e) ∧ frD (frU u d * frD v e + frU v e * frD u d) (frD u d * frD v e) = frD (u * e + v * d) (d * e) := by
  have h1 := frD_pos (u := u) hd
  have h2 := frD_pos (u := v) he
  refine fr_eq (Int.mul_pos h1 h2) (Int.mul_pos hd he) ?_
  have r1 := fr_ratio u d
  have r2 := fr_ratio v e
  grind
theorem fr_tim {u d v e : Int} (hd : 0 < d) (he : 0 < e) :
    frU (frU u d * frU v e) (frD u d * frD v e) = frU (u * v) (d * e) ∧ frD (frU u d * frU v e) (frD u d * frD v e) = frD (u * v) (d * e) := by
  have h1 := frD_pos (u := u) hd
  have h2 := frD_pos (u := v) he
  refine fr_eq (Int.mul_pos h1 h2) (Int.mul_pos hd he) ?_
  have r1 := fr_ratio u d
  have r2 := fr_ratio v e
  grind
theorem fr_pos {u d : Int} (hd : 0 < d) (hu : 0 < u) : 0 < frU u d := by
  have h1 := frD_pos (u := u) hd
  have r1 := fr_ratio u d
  have h2 : 0 < u * frD u d := Int.mul_pos hu h1
  apply Classical.byContradiction
  intro hn
  have h3 : frU u d * d ≤ 0 := Int.mul_nonpos_of_nonpos_of_nonneg (by omega) (by omega)
  omega
theorem fr_turn {u d : Int} (hd : 0 < d) (hu : 0 < u) : frU (frD u d) (frU u d) = frU d u ∧ frD (frD u d) (frU u d) = frD d u := by
  refine fr_eq (fr_pos hd hu) hu ?_
  have r1 := fr_ratio u d
  grind
theorem frU_le {u d B : Int} (hd : 0 < d) (h0 : 0 ≤ u) (h : u ≤ B) : 0 ≤ frU u d ∧ frU u d ≤ B := by
  have h1 := frU_bd (u := u) (d := d) (B := B) hd (by omega)
  have h2 := frD_pos (u := u) hd
  have r1 := fr_ratio u d
  have h3 : 0 ≤ u * frD u d := Int.mul_nonneg h0 (by omega)
  refine ⟨?_, h1.2⟩
  apply Classical.byContradiction
  intro hn
  have h4 : frU u d * d < 0 := Int.mul_neg_of_neg_of_pos (by omega) hd
  omega
end Go.Proofs.Ytnbkifpmoegaaaa

/- How much more weight a set has behind one step: plain. -/
namespace Go.Proofs.Ytnbkifpmoegaaaa

def sb (s : Int) (v : Nat) : Int := ((s.toNat / 2 ^ v % 2 : Nat) : Int)
theorem sb_01 (s : Int) (v : Nat) : sb s v = 0 ∨ sb s v = 1 := by unfold sb; omega
def dg (g : List Int) (v : Nat) : Nat := (nb g v).length
def byN (g : List Int) (b : Bool) (v u : Nat) : Nat := if b then dg g v else dg g u
def sU (f : Nat → Int) : Nat → Int
  | 0 => 0
  | k + 1 => sU f k + f k
theorem sU_bd {f : Nat → Int} {B : Int} : ∀ {m : Nat}, (∀ k, k < m → -B ≤ f k ∧ f k ≤ B) → -((m : Int) * B) ≤ sU f m ∧ sU f m ≤ (m : Int) * B
  | 0, _ => by simp [sU]
  | m + 1, h => by
    have h1 := sU_bd (m := m) fun k hk => h k (by omega)
    have h2 := h m (by omega)
    have e : ((m + 1 : Nat) : Int) * B = (m : Int) * B + B := by rw [Int.natCast_add, Int.add_mul]; simp
    rw [e, sU]; omega
theorem sU_congr {f f' : Nat → Int} : ∀ {m : Nat}, (∀ k, k < m → f k = f' k) → sU f m = sU f' m
  | 0, _ => rfl
  | m + 1, h => by rw [sU, sU, sU_congr (m := m) fun k hk => h k (by omega), h m (by omega)]
theorem sU_zero {f : Nat → Int} : ∀ {m : Nat}, (∀ k, k < m → f k = 0) → sU f m = 0
  | 0, _ => rfl
  | m + 1, h => by rw [sU, sU_zero (m := m) fun k hk => h k (by omega), h m (by omega)]; rfl
theorem sU_add {f f' : Nat → Int} : ∀ {m : Nat}, sU (fun k => f k + f' k) m = sU f m + sU f' m
  | 0 => rfl
  | m + 1 => by rw [sU, sU, sU, sU_add (m := m)]; omega
theorem sU_swap {F : Nat → Nat → Int} {m : Nat} : ∀ {n : Nat}, sU (fun v => sU (F v) m) n = sU (fun u => sU (fun v => F v u) n) m
  | 0 => (sU_zero fun _ _ => rfl).symm
  | n + 1 => by
    rw [sU, sU_swap (n := n), ← sU_add]
    exact sU_congr fun k _ => rfl
def dT (g c : List Int) (s : Int) (b : Bool) (v u : Nat) : Int := if bt g v u = 1 then ((12 / byN g b v u : Nat) : Int) * (gi c u * (sb s v - sb s u)) else 0
def dR (g c : List Int) (s : Int) (b : Bool) (v : Nat) : Nat → Int := sU (dT g c s b v)
def dA (g c : List Int) (s : Int) (b : Bool) : Nat → Int := sU (fun v => dR g c s b v g.length)
def dAll (g c : List Int) (s : Int) (b : Bool) : Int := dA g c s b g.length
/-- Weights of the places of a graph, and a set. -/
structure WQ (g c : List Int) (s : Int) : Prop where
  gr : GR g
  len : c.length = g.length
  wt : ∀ i, i < c.length → InR (gi c i) 0 1000
  set : InR s 0 (2 ^ g.length - 1)
theorem GR.deg {g : List Int} (h : GR g) {v : Nat} (hv : v < g.length) : 1 ≤ dg g v ∧ dg g v ≤ 4 ∧ ∀ u, u ∈ nb g v → u.toNat < g.length := by
  have t := List.all_eq_true.1 deg_table g (mem_graphs h.b)
  unfold degT at t
  rw [show (lnk g == 2 ^ g.length - 1) = true by simp [h.all]] at t
  simp only [Bool.not_true, Bool.false_or, List.all_eq_true, List.mem_range, Bool.and_eq_true, decide_eq_true_eq] at t
  have := t v hv
  exact ⟨this.1.1, this.1.2, this.2⟩
theorem dT_bd {g c : List Int} {s : Int} {b : Bool} (h : WQ g c s) {v u : Nat} (hu : u < g.length) : -12000 ≤ dT g c s b v u ∧ dT g c s b v u ≤ 12000 := by
  unfold dT
  split
  · have h1 : 12 / byN g b v u ≤ 12 := Nat.div_le_self _ _
    have h2 := h.wt u (by rw [h.len]; exact hu)
    unfold InR at h2
    have h3 : -1000 ≤ gi c u * (sb s v - sb s u) ∧ gi c u * (sb s v - sb s u) ≤ 1000 := by
      rcases sb_01 s v with e | e <;> rcases sb_01 s u with e2 | e2 <;> rw [e, e2] <;> omega
    generalize 12 / byN g b v u = k at *
    have h4 := mulbd (x := (k : Int)) (y := gi c u * (sb s v - sb s u)) (A := 12) (B := 1000) (by omega) h3
    omega
  · omega
theorem dR_bd {g c : List Int} {s : Int} {b : Bool} (h : WQ g c s) {v u : Nat} (hu : u ≤ g.length) : -60000 ≤ dR g c s b v u ∧ dR g c s b v u ≤ 60000 := by
  have h5 := h.gr.b.n5
  have := sU_bd (f := dT g c s b v) (B := 12000) (m := u) fun k hk => dT_bd h (by omega)
  unfold dR; omega
theorem dA_bd {g c : List Int} {s : Int} {b : Bool} (h : WQ g c s) {v : Nat} (hv : v ≤ g.length) : -300000 ≤ dA g c s b v ∧ dA g c s b v ≤ 300000 := by
  have h5 := h.gr.b.n5
  have := sU_bd (f := fun v => dR g c s b v g.length) (B := 60000) (m := v) fun k hk => dR_bd h (Nat.le_refl _)
  unfold dA; omega
theorem fr_zero {D : Int} (h : 0 < D) : frU 0 D = 0 ∧ frD 0 D = 1 := by
  have e := fr_eq (u := 0) (d := D) (v := 0) (e := 1) h (by omega) (by omega)
  exact ⟨e.1.trans (by decide), e.2.trans (by decide)⟩
/-- One neighbour more. -/
theorem dr_step {N G : Int} {n k : Nat} (hn : 0 < n) (hk : k = 1 ∨ k = 2 ∨ k = 3 ∨ k = 4) :
    frU (frU N (12 * (n : Int)) * frD G ((n : Int) * (k : Int)) + frU G ((n : Int) * (k : Int)) * frD N (12 * (n : Int))) (frD N (12 * (n : Int)) * frD G ((n : Int) * (k : Int))) = frU (N + ((12 / k : Nat) : Int) * G) (12 * (n : Int)) ∧
    frD (frU N (12 * (n : Int)) * frD G ((n : Int) * (k : Int)) + frU G ((n : Int) * (k : Int)) * frD N (12 * (n : Int))) (frD N (12 * (n : Int)) * frD G ((n : Int) * (k : Int))) = frD (N + ((12 / k : Nat) : Int) * G) (12 * (n : Int)) := by
  have hn' : (0 : Int) < (n : Int) := by omega
  have h1 : (0 : Int) < 12 * (n : Int) := by omega
  have h2 : (0 : Int) < (n : Int) * (k : Int) := Int.mul_pos hn' (by omega)
  have a := fr_add (u := N) (d := 12 * (n : Int)) (v := G) (e := (n : Int) * (k : Int)) h1 h2
  have e := fr_eq (u := N * ((n : Int) * (k : Int)) + G * (12 * (n : Int))) (d := 12 * (n : Int) * ((n : Int) * (k : Int))) (v := N + ((12 / k : Nat) : Int) * G) (e := 12 * (n : Int)) (Int.mul_pos h1 h2) h1 (by
    rcases hk with rfl | rfl | rfl | rfl <;> simp <;> grind)
  exact ⟨a.1.trans e.1, a.2.trans e.2⟩
/-- The answers. -/
noncomputable def dfV (g c : List Int) (s : Int) (b : Bool) : Value := if pb (WQ g c s) = true then frV (dAll g c s b) (12 * (g.length : Int)) else .agg #[.int .i64 0, .int .i64 0]
theorem df_yes {g c : List Int} {s : Int} {b : Bool} (h : WQ g c s) : dfV g c s b = frV (dAll g c s b) (12 * (g.length : Int)) := if_pos (pb_true h)
theorem df_no {g c : List Int} {s : Int} {b : Bool} (h : ¬ WQ g c s) : dfV g c s b = .agg #[.int .i64 0, .int .i64 0] := if_neg (by rw [pb_false h]; decide)
theorem df_form (g c : List Int) (s : Int) (b : Bool) : ∃ U D, dfV g c s b = .agg #[.int .i64 U, .int .i64 D] := by
  unfold dfV; split
  · exact ⟨_, _, rfl⟩
  · exact ⟨_, _, rfl⟩
/-- The sum over the list of neighbours is the sum over all that are. -/
def lS (f : Nat → Int) (l : List Nat) : Nat → Int
  | 0 => 0
  | j + 1 => lS f l j + f (l.getD j 0)
theorem lS_app (f : Nat → Int) (l : List Nat) (x : Nat) : ∀ j, j ≤ l.length → lS f (l ++ [x]) j = lS f l j
  | 0, _ => rfl
  | j + 1, h => by
    rw [lS, lS, lS_app f l x j (by omega)]
    congr 2
    simp [List.getD, List.getElem?_append_left (by omega : j < l.length)]
theorem lS_mem (f : Nat → Int) (s : Nat) : ∀ k, lS f ((memL s k).map Int.toNat) (memL s k).length = sU (fun u => if s / 2 ^ u % 2 = 1 then f u else 0) k
  | 0 => rfl
  | k + 1 => by
    by_cases h : s / 2 ^ k % 2 = 1
    · rw [memL_yes h, sU, ← lS_mem f s k, if_pos h, List.map_append, List.length_append, List.length_singleton, lS]
      rw [show ([(k : Int)] : List Int).map Int.toNat = [k] from rfl, lS_app f _ k _ (by simp)]
      congr 2
      simp [List.getD]
    · rw [memL_no h, sU, ← lS_mem f s k, if_neg h]; omega
end Go.Proofs.Ytnbkifpmoegaaaa

/- Small functions of the laws. -/
namespace Go.Proofs.Ytnbkifpmoegaaaa
open Go.RowKit

/-- Whether a list has a number. -/
def HasN (xs : List Int) (x : Int) : Prop := ∃ k, k < xs.length ∧ gi xs k = x
set_option maxHeartbeats 400000 in
theorem isIn_any (A : Option Addr) (n c : Nat) (xs : List Int) (x : Int) (w : World) (hx : Ints w A n c xs) :
    Calls Try.prog 20 #[.slice A n c, .int .i64 x] w fun e w' => e = .returned (.bool (pb (HasN xs x))) ∧ Quiet w w' := by
  have hl := hx.max
  have HX := Lib.hid hx
  have HL := Lib.hid hx.len
  clear hx
  go_enter Try.func20, Try.ntmps20
  go_wp2
  go_loopw [5] (fun i wr => ∃ k : Nat, k ≤ n ∧ i = .int .i64 k ∧ Hid (∀ j, j < k → gi xs j ≠ x) ∧ Quiet w wr) (fun i _ => n - (intOf i).toNat)
  case atStart => exact ⟨0, Nat.zero_le _, rfl, Lib.hid (fun _ h => absurd h (by omega)), Quiet.refl _⟩
  case round =>
    obtain ⟨k, hk, rfl, HN, q, rfl⟩ := hrel
    by_cases hlt : k < n
    · obtain ⟨b, o, rfl, hc⟩ := HX.out.at_ (by omega)
      have c1 := hc k hlt
      clear hc
      by_cases he : gi xs k = x
      · have HR := Lib.hid (pb_true (p := HasN xs x) ⟨k, by rw [HL.out]; exact hlt, he⟩)
        have hd : (gi xs k == x) = true := by simpa using he
        clear he
        go_wp2
        go_ret
        exact ⟨ret_bool HR.out.symm, ⟨_, rfl⟩⟩
      · have HE := Lib.hid he
        have hd : (gi xs k == x) = false := by simpa using he
        clear he
        go_wp2
        go_roundw
        case rel => exact ⟨k + 1, by omega, by go_num, Lib.hid (fun j hj => by
          by_cases hjk : j < k
          · exact HN.out j hjk
          · obtain rfl : j = k := by omega
            exact HE.out), ⟨_, rfl⟩⟩
        case measure => simp [intOf]; omega
    · obtain rfl : k = n := by omega
      have HR := Lib.hid (pb_false (p := HasN xs x) (fun ⟨j, hj, e⟩ => HN.out j (by rw [← HL.out]; exact hj) e))
      go_wp2
      go_ret
      exact ⟨ret_bool HR.out.symm, ⟨_, rfl⟩⟩
set_option maxHeartbeats 400000 in
theorem equalInts_any (A B : Option Addr) (n c m d : Nat) (xs ys : List Int) (w : World) (hx : Ints w A n c xs) (hy : Ints w B m d ys) :
    Calls Try.prog 18 #[.slice A n c, .slice B m d] w fun e w' => e = .returned (.bool (eqI xs ys)) ∧ Quiet w w' := by
  obtain ⟨lx, cx, mx, _, hx⟩ := hx
  obtain ⟨ly, cy, my, _, hy⟩ := hy
  have Lx := Lib.hid lx
  have Ly := Lib.hid ly
  clear lx ly
  by_cases hnm : n = m
  · subst hnm
    go_enter Try.func18, Try.ntmps18
    go_wp2
    go_loopw [5] (fun i wr => ∃ k : Nat, k ≤ n ∧ i = .int .i64 k ∧ (∀ j, j < k → gi xs j = gi ys j) ∧ Quiet w wr) (fun i _ => n - (intOf i).toNat)
    case atStart => exact ⟨0, Nat.zero_le _, rfl, fun _ h => absurd h (by omega), Quiet.refl _⟩
    case round =>
      obtain ⟨k, hk, rfl, hall, q, rfl⟩ := hrel
      have HALL := Lib.hid hall
      clear hall
      by_cases hlt : k < n
      · obtain ⟨b, o, rfl, hcx⟩ := hx (by omega)
        obtain ⟨b2, o2, rfl, hcy⟩ := hy (by omega)
        have c1 := hcx k hlt
        have c2 := hcy k hlt
        clear hx hy hcx hcy
        by_cases he : gi xs k = gi ys k
        · have he' : (gi xs k != gi ys k) = false := by simp [he]
          have HE := Lib.hid he
          clear he
          go_wp2
          go_quiet (fail)
          go_wp2
          go_roundw
          case rel => exact ⟨k + 1, by omega, by go_num, fun j hj => by
            by_cases hjk : j < k
            · exact HALL.out j hjk
            · obtain rfl : j = k := by omega
              exact HE.out, ⟨_, rfl⟩⟩
          case measure => simp [intOf]; omega
        · have he' : (gi xs k != gi ys k) = true := by simpa using he
          go_wp2
          go_quiet (fail)
          go_wp2
          go_ret
          exact ⟨ret_bool (eqI_no he).symm, Quiet.two _ _ _⟩
      · obtain rfl : k = n := by omega
        go_wp2
        go_ret
        exact ⟨ret_bool (eqI_yes (by rw [Lx.out, Ly.out]) fun j hj => HALL.out j (by rw [Lx.out] at hj; exact hj)).symm, ⟨_, rfl⟩⟩
  · go_enter Try.func18, Try.ntmps18
    go_wp2
    go_ret
    exact ⟨ret_bool (eqI_len (by rw [Lx.out, Ly.out]; exact hnm)).symm, Quiet.refl _⟩

end Go.Proofs.Ytnbkifpmoegaaaa

/- Fractions with greater numbers, by the laws. -/
namespace Go.Proofs.Ytnbkifpmoegaaaa
open Go.RowKit

def Big (x : Int) : Prop := -100000000000000000 ≤ x ∧ x ≤ 100000000000000000
theorem Big.tmod {x y : Int} (h : Big x) : Big (x.tmod y) := by
  unfold Big at *
  have h1 := Int.natAbs_tmod x y
  have h2 : x.natAbs % y.natAbs ≤ x.natAbs := Nat.mod_le _ _
  omega
end Go.Proofs.Ytnbkifpmoegaaaa

/- Fractions of greater numbers, by the model and by the laws. -/
namespace Go.Proofs.Ytnbkifpmoegaaaa
open Go.RowKit

def Hug (x : Int) : Prop := -4000000000000000000 ≤ x ∧ x ≤ 4000000000000000000
theorem Hug.tmod {x y : Int} (h : Hug x) : Hug (x.tmod y) := by
  unfold Hug at *
  have h1 := Int.natAbs_tmod x y
  have h2 : x.natAbs % y.natAbs ≤ x.natAbs := Nat.mod_le _ _
  omega
theorem hmul {x y : Int} (hx : -1200000000 ≤ x ∧ x ≤ 1200000000) (hy : -1200000000 ≤ y ∧ y ≤ 1200000000) : -1440000000000000000 ≤ x * y ∧ x * y ≤ 1440000000000000000 := mulbd (A := 1200000000) (B := 1200000000) hx hy
set_option maxHeartbeats 400000 in
theorem gcdH_any (a b : Int) (w : World) (ha : Hug a) (hb : Hug b) :
    Calls Try.prog 88 #[.int .i64 a, .int .i64 b] w fun e w' => e = .returned (.int .i64 (gcdI a b)) ∧ Quiet w w' := by
  have HA := Lib.hid ha
  have HB := Lib.hid hb
  clear ha hb
  go_enter Try.func88, Try.ntmps88
  go_wp2
  go_loopw [0, 1] (fun s t wr => ∃ x y : Int, s = .int .i64 x ∧ t = .int .i64 y ∧ Hid (Hug x) ∧ Hid (Hug y) ∧ Hid (gcdI x y = gcdI a b) ∧ Quiet w wr) (fun _ t _ => (intOf t).natAbs)
  case atStart => exact ⟨a, b, rfl, rfl, HA, HB, Lib.hid rfl, Quiet.refl _⟩
  case round =>
    obtain ⟨x, y, rfl, rfl, HX, HY, HG, q, rfl⟩ := hrel
    obtain ⟨x1, x2⟩ := HX.out
    obtain ⟨y1, y2⟩ := HY.out
    by_cases hy : y = 0
    · subst hy
      have hg := Lib.hid (gcdI_zero x)
      go_wp2
      all_goals go_ret
      all_goals exact ⟨ret_int (by rw [← HG.out, hg.out]; omega), ⟨_, rfl⟩⟩
    · have hy' : (y != 0) = true := by simpa using hy
      have HM := Lib.hid (HX.out.tmod (y := y))
      have HS := Lib.hid (gcdI_step x y)
      have HT := Lib.hid (tmod_abs (a := x) hy)
      go_wp2
      go_roundw
      case rel => exact ⟨y, x.tmod y, rfl, rfl, HY, HM, Lib.hid (HS.out.trans HG.out), ⟨_, rfl⟩⟩
      case measure => have := HT.out; simpa [intOf] using this
set_option maxHeartbeats 1000000 in
theorem fracH_any (u d : Int) (w : World) (hu : Hug u) (hd : Hug d) (h1 : 1 ≤ d) :
    Calls Try.prog 67 #[.int .i64 u, .int .i64 d] w (Ret (frV u d) w) := by
  have HQ := Lib.hid (fun W => gcdH_any u d W hu hd)
  have hg1 := gcdI_pos (a := u) (b := d) (by omega)
  have hg2 := gcdI_le (a := u) (b := d) (by omega)
  have HUB := Lib.hid (frU_bd (u := u) (d := d) (B := 4000000000000000000) (by omega) hu)
  have HDB := Lib.hid (frD_bd (u := u) (d := d) (B := 4000000000000000000) (by omega) hd.2)
  obtain ⟨u1, u2⟩ := hu
  obtain ⟨d1, d2⟩ := hd
  have hB := Lib.hid (below_alloc w (.cells #[.int .i64 0, .int .i64 0] 39))
  go_enter Try.func67, Try.ntmps67
  go_wp2_with fail
  refine (HQ.out _).mono ?_
  rintro e w2 ⟨rfl, q2, rfl⟩
  have HFU : Hid (frU u d = u.tdiv (gcdI u d)) := Lib.hid rfl
  have HFD : Hid (frD u d = d / gcdI u d) := Lib.hid (by unfold frD; rw [Int.tdiv_eq_ediv_of_nonneg (by omega)])
  generalize gcdI u d = g at *
  have b0 : Blk ((w.alloc (.cells #[.int .i64 0, .int .i64 0] 39)).drewN q2) w.heap.size 39 #[.int .i64 0, .int .i64 0] := blk_new w _ _
  have c0 := blk_cell b0 (i := 0) rfl
  have c1 := blk_cell b0 (i := 1) rfl
  have f0 := blk_frozen b0 0
  have f1 := blk_frozen b0 1
  have g0 : (g == 0) = false := by simp; omega
  go_wp2
  go_region
  all_goals clear c0 c1 f0 f1
  all_goals go_wp2
  have B1 := blk_set (blk_set (show Blk ((w.alloc (.cells #[.int .i64 0, .int .i64 0] 39)).drewN (q2 + 1)) w.heap.size 39 #[.int .i64 0, .int .i64 0] from blk_new w _ _) 0 (.int .i64 (u.tdiv g))) 1 (.int .i64 (d / g))
  have r0 := blk_cell B1 (i := 0) (v := .int .i64 (u.tdiv g)) rfl
  have r1 := blk_cell B1 (i := 1) (v := .int .i64 (d / g)) rfl
  have HBW := Lib.hid (((below_drewN hB.out (q2 + 1)).setCell (p := ⟨w.heap.size, 0, none⟩) (Nat.le_refl _) (.int .i64 (u.tdiv g))).setCell (p := ⟨w.heap.size, 1, none⟩) (Nat.le_refl _) (.int .i64 (d / g)))
  clear B1 b0
  generalize (((w.alloc (.cells #[.int .i64 0, .int .i64 0] 39)).drewN (q2 + 1)).setCell ⟨w.heap.size, 0, none⟩ (.int .i64 (u.tdiv g))).setCell ⟨w.heap.size, 1, none⟩ (.int .i64 (d / g)) = W3 at *
  refine bodyPost_ret (v := .agg #[.int .i64 (u.tdiv g), .int .i64 (d / g)]) (by simp [results, Try.results67, go_sem, r0, r1]) rfl ?_
  exact ⟨by rw [frV, HFU.out, HFD.out], HBW.out⟩
set_option maxHeartbeats 1000000 in
theorem plusH_any (u d v e : Int) (w : World) (hu : -1200000000 ≤ u ∧ u ≤ 1200000000) (hv : -1200000000 ≤ v ∧ v ≤ 1200000000) (hd : 1 ≤ d ∧ d ≤ 1200000000) (he : 1 ≤ e ∧ e ≤ 1200000000) :
    Calls Try.prog 69 #[.agg #[.int .i64 u, .int .i64 d], .agg #[.int .i64 v, .int .i64 e]] w (Ret (frV (u * e + v * d) (d * e)) w) := by
  obtain ⟨p1, p2⟩ := mulbd (x := u) (y := e) (A := 1200000000) (B := 1200000000) hu (by omega)
  obtain ⟨p3, p4⟩ := mulbd (x := v) (y := d) (A := 1200000000) (B := 1200000000) hv (by omega)
  obtain ⟨p5, p6⟩ := mulbd (x := d) (y := e) (A := 1200000000) (B := 1200000000) (by omega) (by omega)
  obtain ⟨p7, p8⟩ := mulbd (x := u) (y := v) (A := 1200000000) (B := 1200000000) hu hv
  have p9 : 1 ≤ d * e := by have h : 1 * 1 ≤ d * e := Int.mul_le_mul hd.1 he.1 (by omega) (by omega); omega
  have HC := Lib.hid (fun W => fracH_any (u * e + v * d) (d * e) W (by unfold Hug; omega) (by unfold Hug; omega) p9)
  have b0 := blk_old (blk_old (blk_new w 39 #[.int .i64 u, .int .i64 d]) (.cells #[.int .i64 v, .int .i64 e] 39)) (.cells #[.int .i64 0, .int .i64 0] 39)
  have b1 := blk_old (blk_new (w.alloc (.cells #[.int .i64 u, .int .i64 d] 39)) 39 #[.int .i64 v, .int .i64 e]) (.cells #[.int .i64 0, .int .i64 0] 39)
  have b2 := blk_new ((w.alloc (.cells #[.int .i64 u, .int .i64 d] 39)).alloc (.cells #[.int .i64 v, .int .i64 e] 39)) 39 #[.int .i64 0, .int .i64 0]
  have HB := Lib.hid (below_up (below_up (below_alloc w (.cells #[.int .i64 u, .int .i64 d] 39)) (below_alloc _ (.cells #[.int .i64 v, .int .i64 e] 39))) (below_alloc _ (.cells #[.int .i64 0, .int .i64 0] 39)))
  have HFV : Hid (frV (u * e + v * d) (d * e) = .agg #[.int .i64 (frU (u * e + v * d) (d * e)), .int .i64 (frD (u * e + v * d) (d * e))]) := Lib.hid rfl
  rw [HFV.out] at HC
  simp only [World.size_alloc] at b1 b2
  have c0 := blk_cell b0 (i := 0) rfl
  have c1 := blk_cell b0 (i := 1) rfl
  have c2 := blk_cell b1 (i := 0) rfl
  have c3 := blk_cell b1 (i := 1) rfl
  have HB2 := Lib.hid b2
  clear b0 b1 b2
  go_enter Try.func69, Try.ntmps69
  go_wp2_with fail
  clear c0 c1 c2 c3
  generalize ((w.alloc (.cells #[.int .i64 u, .int .i64 d] 39)).alloc (.cells #[.int .i64 v, .int .i64 e] 39)).alloc (.cells #[.int .i64 0, .int .i64 0] 39) = w1 at *
  refine (HC.out _).mono ?_
  rintro e w2 ⟨rfl, hb⟩
  have b0 := blk_below HB2.out hb
  have HBW := Lib.hid (below_up HB.out hb)
  clear hb HC HB HB2
  generalize frU (u * e + v * d) (d * e) = U at *
  generalize frD (u * e + v * d) (d * e) = D at *
  have c0 := blk_cell b0 (i := 0) rfl
  have c1 := blk_cell b0 (i := 1) rfl
  have f0 := blk_frozen b0 0
  have f1 := blk_frozen b0 1
  go_wp2
  clear c0 c1 f0 f1
  have B1 := blk_set (blk_set b0 0 (.int .i64 U)) 1 (.int .i64 D)
  have r0 := blk_cell B1 (i := 0) (v := .int .i64 U) rfl
  have r1 := blk_cell B1 (i := 1) (v := .int .i64 D) rfl
  have hle : w.heap.size ≤ w.heap.size + 1 + 1 := by omega
  have HBX := Lib.hid ((HBW.out.setCell (p := ⟨w.heap.size + 1 + 1, 0, none⟩) hle (.int .i64 U)).setCell (p := ⟨w.heap.size + 1 + 1, 1, none⟩) hle (.int .i64 D))
  clear B1 b0 HBW
  generalize (w2.setCell ⟨w.heap.size + 1 + 1, 0, none⟩ (.int .i64 U)).setCell ⟨w.heap.size + 1 + 1, 1, none⟩ (.int .i64 D) = WE at *
  refine bodyPost_ret (v := .agg #[.int .i64 U, .int .i64 D]) (by simp [results, Try.results69, go_sem, r0, r1]) rfl ?_
  exact ⟨by rw [HFV.out], HBX.out⟩
set_option maxHeartbeats 1000000 in
theorem timesH_any (u d v e : Int) (w : World) (hu : -1200000000 ≤ u ∧ u ≤ 1200000000) (hv : -1200000000 ≤ v ∧ v ≤ 1200000000) (hd : 1 ≤ d ∧ d ≤ 1200000000) (he : 1 ≤ e ∧ e ≤ 1200000000) :
    Calls Try.prog 70 #[.agg #[.int .i64 u, .int .i64 d], .agg #[.int .i64 v, .int .i64 e]] w (Ret (frV (u * v) (d * e)) w) := by
  obtain ⟨p1, p2⟩ := mulbd (x := u) (y := e) (A := 1200000000) (B := 1200000000) hu (by omega)
  obtain ⟨p3, p4⟩ := mulbd (x := v) (y := d) (A := 1200000000) (B := 1200000000) hv (by omega)
  obtain ⟨p5, p6⟩ := mulbd (x := d) (y := e) (A := 1200000000) (B := 1200000000) (by omega) (by omega)
  obtain ⟨p7, p8⟩ := mulbd (x := u) (y := v) (A := 1200000000) (B := 1200000000) hu hv
  have p9 : 1 ≤ d * e := by have h : 1 * 1 ≤ d * e := Int.mul_le_mul hd.1 he.1 (by omega) (by omega); omega
  have HC := Lib.hid (fun W => fracH_any (u * v) (d * e) W (by unfold Hug; omega) (by unfold Hug; omega) p9)
  have b0 := blk_old (blk_old (blk_new w 39 #[.int .i64 u, .int .i64 d]) (.cells #[.int .i64 v, .int .i64 e] 39)) (.cells #[.int .i64 0, .int .i64 0] 39)
  have b1 := blk_old (blk_new (w.alloc (.cells #[.int .i64 u, .int .i64 d] 39)) 39 #[.int .i64 v, .int .i64 e]) (.cells #[.int .i64 0, .int .i64 0] 39)
  have b2 := blk_new ((w.alloc (.cells #[.int .i64 u, .int .i64 d] 39)).alloc (.cells #[.int .i64 v, .int .i64 e] 39)) 39 #[.int .i64 0, .int .i64 0]
  have HB := Lib.hid (below_up (below_up (below_alloc w (.cells #[.int .i64 u, .int .i64 d] 39)) (below_alloc _ (.cells #[.int .i64 v, .int .i64 e] 39))) (below_alloc _ (.cells #[.int .i64 0, .int .i64 0] 39)))
  have HFV : Hid (frV (u * v) (d * e) = .agg #[.int .i64 (frU (u * v) (d * e)), .int .i64 (frD (u * v) (d * e))]) := Lib.hid rfl
  rw [HFV.out] at HC
  simp only [World.size_alloc] at b1 b2
  have c0 := blk_cell b0 (i := 0) rfl
  have c1 := blk_cell b0 (i := 1) rfl
  have c2 := blk_cell b1 (i := 0) rfl
  have c3 := blk_cell b1 (i := 1) rfl
  have HB2 := Lib.hid b2
  clear b0 b1 b2
  go_enter Try.func70, Try.ntmps70
  go_wp2_with fail
  clear c0 c1 c2 c3
  generalize ((w.alloc (.cells #[.int .i64 u, .int .i64 d] 39)).alloc (.cells #[.int .i64 v, .int .i64 e] 39)).alloc (.cells #[.int .i64 0, .int .i64 0] 39) = w1 at *
  refine (HC.out _).mono ?_
  rintro e w2 ⟨rfl, hb⟩
  have b0 := blk_below HB2.out hb
  have HBW := Lib.hid (below_up HB.out hb)
  clear hb HC HB HB2
  generalize frU (u * v) (d * e) = U at *
  generalize frD (u * v) (d * e) = D at *
  have c0 := blk_cell b0 (i := 0) rfl
  have c1 := blk_cell b0 (i := 1) rfl
  have f0 := blk_frozen b0 0
  have f1 := blk_frozen b0 1
  go_wp2
  clear c0 c1 f0 f1
  have B1 := blk_set (blk_set b0 0 (.int .i64 U)) 1 (.int .i64 D)
  have r0 := blk_cell B1 (i := 0) (v := .int .i64 U) rfl
  have r1 := blk_cell B1 (i := 1) (v := .int .i64 D) rfl
  have hle : w.heap.size ≤ w.heap.size + 1 + 1 := by omega
  have HBX := Lib.hid ((HBW.out.setCell (p := ⟨w.heap.size + 1 + 1, 0, none⟩) hle (.int .i64 U)).setCell (p := ⟨w.heap.size + 1 + 1, 1, none⟩) hle (.int .i64 D))
  clear B1 b0 HBW
  generalize (w2.setCell ⟨w.heap.size + 1 + 1, 0, none⟩ (.int .i64 U)).setCell ⟨w.heap.size + 1 + 1, 1, none⟩ (.int .i64 D) = WE at *
  refine bodyPost_ret (v := .agg #[.int .i64 U, .int .i64 D]) (by simp [results, Try.results70, go_sem, r0, r1]) rfl ?_
  exact ⟨by rw [HFV.out], HBX.out⟩
end Go.Proofs.Ytnbkifpmoegaaaa

/- The result's box, untouched, and a fraction's box beside it. -/
namespace Go.Proofs.Ytnbkifpmoegaaaa
open Go.RowKit

/-- The result's box, untouched, and a fraction's box at r. -/
structure PX (w : World) (r : Nat) (U D : Int) (W : World) : Prop where
  p : PF w W
  b : Blk W r 39 #[.int .i64 U, .int .i64 D]
  lt : w.heap.size < r
theorem PX.next {w r U D W W'} (h : PX w r U D W) (k : Below W.heap.size W W') : PX w r U D W' := ⟨h.p.up k, blk_below h.b k, h.lt⟩
theorem PX.drew {w r U D W} (h : PX w r U D W) : PX w r U D W.drew := h.next (Quiet.below ⟨1, rfl⟩)
theorem PX.set {w r U D W} (h : PX w r U D W) (U' D' : Int) : PX w r U' D' ((W.setCell ⟨r, 0, none⟩ (.int .i64 U')).setCell ⟨r, 1, none⟩ (.int .i64 D')) := by
  have hl := h.lt
  have h1 : w.heap.size ≠ r := by omega
  have h2 : w.heap.size ≤ r := by omega
  exact ⟨⟨blk_other (blk_other h.p.box (p := ⟨r, 0, none⟩) h1 _) (p := ⟨r, 1, none⟩) h1 _, (h.p.below.setCell (p := ⟨r, 0, none⟩) h2 (.int .i64 U')).setCell (p := ⟨r, 1, none⟩) h2 (.int .i64 D')⟩, blk_set (blk_set h.b 0 (.int .i64 U')) 1 (.int .i64 D'), h.lt⟩
end Go.Proofs.Ytnbkifpmoegaaaa

/- A region that ends in one frame, whatever the order: walked on once. -/
namespace Go.Proofs.Ytnbkifpmoegaaaa
open Go.RowKit

/-- At the end of a region: one frame, and F of the world. -/
def OnceQ (b : Act) (F : World → Prop) : Exit → Act → World → Prop
  | .normal, b', v => b' = b ∧ F v
  | _, _, _ => False
theorem OnceQ.mk {b b' : Act} {F : World → Prop} {v : World} (h : b' = b) (f : F v) : OnceQ b F .normal b' v := ⟨h, f⟩
/-- A region that ends in one frame, whatever the order: what follows is walked once. -/
theorem region_once {P : Program} {c : Code} {Q : Exit → Act → World → Prop} {a : Act} {w : World} (F : World → Prop) {b : Act} (h : c.wp P (OnceQ b F) a w) (k : ∀ v, F v → Q .normal b v) : c.wp P Q a w :=
  Code.wp_mono (fun e b' v h => by
    cases e <;> first | exact (h : False).elim | (obtain ⟨rfl, hf⟩ := (h : b' = b ∧ F v); exact k v hf)) h
end Go.Proofs.Ytnbkifpmoegaaaa

/- How much more weight a set has behind one step, by the model. -/
namespace Go.Proofs.Ytnbkifpmoegaaaa
open Go.RowKit

theorem nb_all : ((List.range 6).all fun n => (List.range (2 ^ n)).all fun s => memL s n == memL s 5) = true := by decide +kernel
theorem nb_n {g : List Int} (hi : InG g) (h5 : g.length ≤ 5) {v : Nat} (hv : v < g.length) : memL (gi g v).toNat g.length = nb g v := by
  have t := nb_all
  simp only [List.all_eq_true, List.mem_range, beq_iff_eq] at t
  have h1 := hi v hv
  unfold InR at h1
  have h6 : ((2 ^ g.length : Nat) : Int) = (2 : Int) ^ g.length := by simp
  exact t g.length (by omega) (gi g v).toNat (by omega)
set_option maxHeartbeats 800000 in
theorem degree_any (A : Option Addr) (n c : Nat) (g : List Int) (v : Nat) (w : World) (hx : Ints w A n c g) (h : GB g) (hv : v < g.length) :
    Calls Try.prog 68 #[.slice A n c, .int .i64 v] w fun e w' => e = .returned (.int .i64 (dg g v : Nat)) ∧ w = w' := by
  have HX := Lib.hid hx
  have hl := hx.len
  have hn5 : n ≤ 5 := by rw [← hl]; exact h.n5
  obtain ⟨hg1, hg2⟩ := h.nat hv
  have HDG := Lib.hid (show dg g v = (memL (gi g v).toNat n).length by rw [← hl, nb_n h.inn h.n5 hv]; rfl)
  have HBT := Lib.hid (fun u => show bt g v u = (gi g v).toNat / 2 ^ u % 2 from rfl)
  have hvn : v < n := by rw [← hl]; exact hv
  obtain ⟨b, o, rfl, hc⟩ := HX.out.at_ (by omega)
  have c1 := hc v hvn
  rw [hg1] at c1
  have HS0 : Hid ((memL (gi g v).toNat 0).length = 0) := Lib.hid rfl
  clear hx h hl hc hg1 hv HX
  generalize (gi g v).toNat = s at *
  go_enter Try.func68, Try.ntmps68
  go_wp2
  go_loop [5, 6] (fun x i => ∃ k : Nat, k ≤ n ∧ i = .int .i64 k ∧ x = .int .i64 ((memL s k).length : Nat)) (fun _ i => n - (intOf i).toNat)
  case atStart => exact ⟨0, Nat.zero_le _, rfl, by rw [HS0.out]; rfl⟩
  case round =>
    obtain ⟨k, hk, rfl, rfl⟩ := hrel
    have hml := memL_le s k
    by_cases hlt : k < n
    · have HB := Lib.hid (fun W => bit_any s k W (by omega) (by omega))
      by_cases hb : s / 2 ^ k % 2 = 1
      · have HE := Lib.hid (show (memL s (k + 1)).length = (memL s k).length + 1 by rw [memL_yes hb]; simp)
        rw [hb] at HB
        clear hb
        generalize (memL s k).length = m at *
        go_wp2_with (go_at_call 77; refine (HB.out _).mono ?_; rintro e w' ⟨rfl, rfl⟩)
        go_round
        case rel => exact ⟨k + 1, by omega, by go_num, by rw [HE.out]; go_num⟩
        case measure => simp [intOf]; omega
      · have HE := Lib.hid (show (memL s (k + 1)).length = (memL s k).length by rw [memL_no hb])
        have hb0 : s / 2 ^ k % 2 = 0 := by omega
        rw [hb0] at HB
        clear hb hb0
        generalize (memL s k).length = m at *
        go_wp2_with (go_at_call 77; refine (HB.out _).mono ?_; rintro e w' ⟨rfl, rfl⟩)
        go_round
        case rel => exact ⟨k + 1, by omega, by go_num, by rw [HE.out]⟩
        case measure => simp [intOf]; omega
    · obtain rfl : k = n := by omega
      rw [← HDG.out]
      go_wp2
      go_ret
      exact ⟨rfl, rfl⟩
theorem set_nat {g : List Int} {s : Int} (h5 : g.length ≤ 5) (h : InR s 0 (2 ^ g.length - 1)) : s = (s.toNat : Int) ∧ s.toNat < 32 := by
  unfold InR at h
  have h6 : ((2 ^ g.length : Nat) : Int) = (2 : Int) ^ g.length := by simp
  have h7 : 2 ^ g.length ≤ 2 ^ 5 := Nat.pow_le_pow_right (by omega) h5
  omega
set_option maxRecDepth 100000 in
set_option maxHeartbeats 6400000 in
theorem drift_any (A C : Option Addr) (n k m kc : Nat) (g c : List Int) (s : Int) (b : Bool) (w : World) (hx : Ints w A n k g) (hc : Ints w C m kc c) (h : WQ g c s) :
    Calls Try.prog 61 #[.slice A n k, .slice C m kc, .int .i64 s, .bool b] w (Ret (frV (dAll g c s b) (12 * (n : Int))) w) := by
  have HX := Lib.hid hx
  have HC := Lib.hid hc
  have hl := hx.len
  have hm : m = n := by rw [← hl, ← hc.len, h.len]
  subst hm
  have HW := Lib.hid h
  have HL := Lib.hid hl
  have h5 : m ≤ 5 := by rw [← hl]; exact h.gr.b.n5
  have h2 : 2 ≤ m := by rw [← hl]; exact h.gr.b.n2
  have HG := Lib.hid (fun v (hv : v < m) => h.gr.b.nat (v := v) (by rw [hl]; exact hv))
  have HDD := Lib.hid (fun v (hv : v < m) => show 1 ≤ dg g v ∧ dg g v ≤ 4 from have q := h.gr.deg (v := v) (by rw [hl]; exact hv); ⟨q.1, q.2.1⟩)
  have HGB := Lib.hid h.gr.b
  have HWT := Lib.hid (fun u (hu : u < m) => show 0 ≤ gi c u ∧ gi c u ≤ 1000 from h.wt u (by rw [h.len, hl]; exact hu))
  obtain ⟨hs1, hs2⟩ := set_nat h.gr.b.n5 h.set
  have HSB := Lib.hid (fun v => show sb s v = ((s.toNat / 2 ^ v % 2 : Nat) : Int) from rfl)
  have HAB := Lib.hid (fun v (hv : v ≤ m) => dA_bd (b := b) h (v := v) (by rw [hl]; exact hv))
  have HRB := Lib.hid (fun v u (hu : u ≤ m) => dR_bd (b := b) h (v := v) (u := u) (by rw [hl]; exact hu))
  have HAS := Lib.hid (fun v => show dA g c s b (v + 1) = dA g c s b v + dR g c s b v m by rw [← hl]; rfl)
  have HRS := Lib.hid (fun v u => show dR g c s b v (u + 1) = dR g c s b v u + dT g c s b v u from rfl)
  have HRZ : Hid (∀ v, dR g c s b v 0 = 0) := Lib.hid (fun _ => rfl)
  have HEND := Lib.hid (show dAll g c s b = dA g c s b m by rw [← hl]; rfl)
  have HBTL := Lib.hid (fun v u => bt_lt g v u)
  have HDT := Lib.hid (fun v u => show dT g c s b v u = if bt g v u = 1 then ((12 / byN g b v u : Nat) : Int) * (gi c u * (sb s v - sb s u)) else 0 from rfl)
  have HBY := Lib.hid (fun v u => show byN g b v u = if b then dg g v else dg g u from rfl)
  have HZ := Lib.hid (show frV 0 1 = .agg #[.int .i64 (frU 0 (12 * (m : Int))), .int .i64 (frD 0 (12 * (m : Int)))] by
    have e := fr_zero (D := 12 * (m : Int)) (by omega); rw [e.1, e.2]; rfl)
  have HFD := Lib.hid (show frU 0 (12 * (m : Int)) = 0 ∧ frD 0 (12 * (m : Int)) = 1 from fr_zero (by omega))
  have HF0 := Lib.hid (fun W => fracH_any 0 1 W (by unfold Hug; omega) (by unfold Hug; omega) (by omega))
  have HE0 : Hid (frV 0 1 = .agg #[.int .i64 0, .int .i64 1]) := Lib.hid (by have e := fr_zero (D := 1) (by omega); rw [frV, e.1, e.2])
  rw [HE0.out] at HF0
  have HA0 : Hid (dA g c s b 0 = 0) := Lib.hid rfl
  have HPF := Lib.hid (PF.start w)
  rw [show (Value.int .i64 s) = .int .i64 (s.toNat : Int) by rw [← hs1]]
  clear hx hc hl h HZ HE0 hs1
  generalize s.toNat = t at *
  go_enter Try.func61, Try.ntmps61
  go_wp2_with fail
  refine (HF0.out _).mono ?_
  rintro e w1 ⟨rfl, hb⟩
  have HP1 := Lib.hid (HPF.out.up hb)
  clear hb HF0 HPF
  have HW0 := Lib.hid (show PX w w1.heap.size (frU (dA g c s b 0) (12 * (m : Int))) (frD (dA g c s b 0) (12 * (m : Int))) (w1.alloc (.cells #[.int .i64 0, .int .i64 1] 39)) from ⟨HP1.out.up (below_alloc _ _), by
    rw [HA0.out, HFD.out.1, HFD.out.2]; exact blk_new _ _ _, blk_lt HP1.out.box⟩)
  clear HP1
  go_wp2
  generalize w1.alloc (.cells #[.int .i64 0, .int .i64 1] 39) = W0 at *
  generalize w1.heap.size = r at *
  go_loopw [10] (fun i wr => ∃ v : Nat, v ≤ m ∧ i = .int .i64 v ∧ Hid (PX w r (frU (dA g c s b v) (12 * (m : Int))) (frD (dA g c s b v) (12 * (m : Int))) wr)) (fun i _ => m - (intOf i).toNat)
  case atStart => exact ⟨0, Nat.zero_le _, rfl, HW0⟩
  case round =>
    clear HW0 HA0 HFD
    obtain ⟨v, hv, rfl, HP⟩ := hrel
    by_cases hlt : v < m
    · have HP0 := Lib.hid (show PX w r (frU (dA g c s b v + dR g c s b v 0) (12 * (m : Int))) (frD (dA g c s b v + dR g c s b v 0) (12 * (m : Int))) wr by rw [HRZ.out, Int.add_zero]; exact HP.out)
      clear HP
      go_wp2
      go_loopw [11] (fun i wi => ∃ u : Nat, u ≤ m ∧ i = .int .i64 u ∧ Hid (PX w r (frU (dA g c s b v + dR g c s b v u) (12 * (m : Int))) (frD (dA g c s b v + dR g c s b v u) (12 * (m : Int))) wi)) (fun i _ => m - (intOf i).toNat)
      case atStart => exact ⟨0, Nat.zero_le _, rfl, HP0⟩
      case round =>
        clear HP0
        obtain ⟨u, hu, rfl, HP⟩ := hrel
        by_cases hul : u < m
        · obtain ⟨ba, oa, rfl, hca⟩ := (HX.out.keep HP.out.p.keep).at_ (by omega)
          have c1 := hca v hlt
          obtain ⟨hg1, hg2⟩ := HG.out v hlt
          have HB1 := Lib.hid (fun W => bit_any (gi g v).toNat u W (by omega) (by omega))
          have HB2 := Lib.hid (fun W => bit_any t v W (by omega) (by omega))
          have HB3 := Lib.hid (fun W => bit_any t u W (by omega) (by omega))
          rw [show (gi g v).toNat / 2 ^ u % 2 = bt g v u from rfl] at HB1
          rw [hg1] at c1
          have hbt := HBTL.out v u
          have HD := HDT.out v u
          have hsv := HSB.out v
          have hsu := HSB.out u
          have HR1 := HRS.out v u
          clear hca hg1 hg2
          generalize (gi g v).toNat = gv at *
          by_cases hb1 : bt g v u = 1
          · rw [hb1] at HB1
            rw [if_pos hb1] at HD
            by_cases hsd : t / 2 ^ v % 2 = t / 2 ^ u % 2
            · have hdz : dT g c s b v u = 0 := by rw [HD, hsv, hsu, hsd, Int.sub_self, Int.mul_zero, Int.mul_zero]
              rw [hsd] at HB2
              clear HD
              have HD := hdz
              clear hdz hsd hb1
              have HP2 := Lib.hid (show PX w r (frU (dA g c s b v + dR g c s b v (u + 1)) (12 * (m : Int))) (frD (dA g c s b v + dR g c s b v (u + 1)) (12 * (m : Int))) wr by rw [HR1, HD, Int.add_zero]; exact HP.out)
              clear HP HD HR1 hsv hsu
              generalize t / 2 ^ u % 2 = su at *
              go_wp2_with (first | (go_at_call 77; (with_reducible refine (HB1.out _).mono ?_); rintro e w' ⟨rfl, rfl⟩) | (go_at_call 77; (with_reducible refine (HB2.out _).mono ?_); rintro e w' ⟨rfl, rfl⟩) | (go_at_call 77; (with_reducible refine (HB3.out _).mono ?_); rintro e w' ⟨rfl, rfl⟩))
              go_roundw
              case rel => exact ⟨u + 1, by omega, by go_num, HP2⟩
              case measure => simp [intOf]; omega
            · have hlu : t / 2 ^ u % 2 < 2 := Nat.mod_lt _ (by decide)
              have hlv : t / 2 ^ v % 2 < 2 := Nat.mod_lt _ (by decide)
              by_cases hs1v : t / 2 ^ v % 2 = 1
              · have e1 : t / 2 ^ v % 2 = 1 := by omega
                have e2 : t / 2 ^ u % 2 = 0 := by omega
                rw [e1] at HB2 hsv
                rw [e2] at HB3 hsu
                obtain ⟨w1, w2⟩ := HWT.out u hul
                obtain ⟨bc, oc, rfl, hcc⟩ := (HC.out.keep HP.out.p.keep).at_ (by omega)
                have c2 := hcc u hul
                clear hcc e1 e2 hsd
                have HG1 : Hid (gi c u * (sb s v - sb s u) = gi c u) := Lib.hid (by rw [hsv, hsu]; simp)
                rw [HG1.out] at HD
                clear HG1 hsv hsu
                have HG := Lib.hid (show 0 ≤ gi c u ∧ gi c u ≤ 1000 from ⟨w1, w2⟩)
                have HDV := Lib.hid (degree_any (some ⟨ba, oa, none⟩) m k g v wr (HX.out.keep HP.out.p.keep) HGB.out (by rw [HL.out]; exact hlt))
                have HDU := Lib.hid (degree_any (some ⟨ba, oa, none⟩) m k g u wr (HX.out.keep HP.out.p.keep) HGB.out (by rw [HL.out]; exact hul))
                have hNb := HAB.out v hv
                have hRb := HRB.out v u hu
                have hRb1 := HRB.out v (u + 1) hul
                cases b
                · have HK : Hid (byN g false v u = dg g u) := Lib.hid (by rw [HBY.out]; rfl)
                  rw [HK.out] at HD
                  clear HK
                  obtain ⟨d1, d2⟩ := HDD.out u (by omega)
                  obtain ⟨d3, d4⟩ := HDD.out v (by omega)
                  generalize dg g u = dd at *
                  generalize dg g v = de at *
                  have hkk : dd = 1 ∨ dd = 2 ∨ dd = 3 ∨ dd = 4 := by omega
                  have HST := Lib.hid (dr_step (N := dA g c s false v + dR g c s false v u) (G := gi c u) (n := m) (by omega) hkk)
                  rw [show dA g c s false v + dR g c s false v u + ((12 / dd : Nat) : Int) * gi c u = dA g c s false v + dR g c s false v (u + 1) by rw [HR1, HD, Int.add_assoc]] at HST
                  clear HD HR1
                  have hmk : (m : Int) * (dd : Int) ≤ 20 ∧ 1 ≤ (m : Int) * (dd : Int) := by rcases hkk with rfl | rfl | rfl | rfl <;> omega
                  clear hkk
                  have HN := Lib.hid (show -600000 ≤ dA g c s false v + dR g c s false v u ∧ dA g c s false v + dR g c s false v u ≤ 600000 by omega)
                  have HN1 := Lib.hid (show -600000 ≤ dA g c s false v + dR g c s false v (u + 1) ∧ dA g c s false v + dR g c s false v (u + 1) ≤ 600000 by omega)
                  clear hNb hRb hRb1
                  generalize dA g c s false v + dR g c s false v u = N at *
                  generalize hN1 : dA g c s false v + dR g c s false v (u + 1) = N1 at *
                  have HN1E := Lib.hid hN1
                  clear hN1
                  generalize gi c u = x at *
                  have hmk2 : IntKind.i64.wrap ((m : Int) * (dd : Int)) = (m : Int) * (dd : Int) := wrapIn (by omega)
                  have HB5 := Lib.hid (frU_bd (u := N) (d := 12 * (m : Int)) (B := 600000) (by omega) HN.out)
                  have HB6 := Lib.hid (frD_bd (u := N) (d := 12 * (m : Int)) (B := 60) (by omega) (by omega))
                  have HB7 := Lib.hid (frU_bd (u := x) (d := (m : Int) * (dd : Int)) (B := 1000) (by omega) (by have := HG.out; omega))
                  have HB8 := Lib.hid (frD_bd (u := x) (d := (m : Int) * (dd : Int)) (B := 20) (by omega) (by omega))
                  have HFR := Lib.hid (fun W => fracH_any (x) ((m : Int) * (dd : Int)) W (by unfold Hug; omega) (by unfold Hug; omega) (by omega))
                  have HFV : Hid (frV (x) ((m : Int) * (dd : Int)) = .agg #[.int .i64 (frU (x) ((m : Int) * (dd : Int))), .int .i64 (frD (x) ((m : Int) * (dd : Int)))]) := Lib.hid rfl
                  rw [HFV.out] at HFR
                  clear HFV
                  have HPL := Lib.hid (fun W => plusH_any (frU N (12 * (m : Int))) (frD N (12 * (m : Int))) (frU (x) ((m : Int) * (dd : Int))) (frD (x) ((m : Int) * (dd : Int))) W (by have := HB5.out; omega) (by have := HB7.out; omega) (by have := HB6.out; omega) (by have := HB8.out; omega))
                  rw [frV, HST.out.1, HST.out.2] at HPL
                  clear HST HB5 HB6 HB7 HB8 HN HN1
                  generalize frU (x) ((m : Int) * (dd : Int)) = GU at *
                  generalize frD (x) ((m : Int) * (dd : Int)) = GD at *
                  generalize hNU : frU N1 (12 * (m : Int)) = NU at *
                  generalize hND : frD N1 (12 * (m : Int)) = ND at *
                  have HNE := Lib.hid (And.intro hNU hND)
                  clear hNU hND
                  generalize frU N (12 * (m : Int)) = OU at *
                  generalize frD N (12 * (m : Int)) = OD at *
                  have y0 := blk_cell HP.out.b (i := 0) rfl
                  have y1 := blk_cell HP.out.b (i := 1) rfl
                  go_wp2_with (first | (first | (go_at_call 77; (with_reducible refine (HB1.out _).mono ?_); rintro e w' ⟨rfl, rfl⟩) | (go_at_call 77; (with_reducible refine (HB2.out _).mono ?_); rintro e w' ⟨rfl, rfl⟩) | (go_at_call 77; (with_reducible refine (HB3.out _).mono ?_); rintro e w' ⟨rfl, rfl⟩)) | (go_at_call 68; (with_reducible refine HDV.out.mono ?_); rintro e w' ⟨rfl, rfl⟩) | (go_at_call 68; (with_reducible refine HDU.out.mono ?_); rintro e w' ⟨rfl, rfl⟩))
                  apply region_once (F := fun v => Hid (PX w r NU ND v))
                  · go_region_law ((first
                      | (go_simp; go_at_call 67; (with_reducible refine (HFR.out _).mono ?_); rintro e v1 ⟨rfl, hb⟩; have DX := Lib.hid (HP.out.drew.next hb); have y0 := blk_cell DX.out.b (i := 0) rfl; have y1 := blk_cell DX.out.b (i := 1) rfl; clear hb)
                      | (go_simp; go_at_call 69; (with_reducible refine (HPL.out _).mono ?_); rintro e v2 ⟨rfl, hb⟩; have DX := Lib.hid (DX.out.next hb); have y0 := blk_cell DX.out.b (i := 0) rfl; have y1 := blk_cell DX.out.b (i := 1) rfl; have f0 := blk_frozen DX.out.b 0; have f1 := blk_frozen DX.out.b 1; clear hb)
                      | fail))
                    all_goals exact OnceQ.mk rfl (Lib.hid (DX.out.set NU ND))
                  · rintro w7 HP2
                    clear y0 y1 HFR HPL HP
                    go_wp2
                    go_roundw
                    case rel => exact ⟨u + 1, by omega, by go_num, Lib.hid (by rw [HN1E.out, HNE.out.1, HNE.out.2]; exact HP2.out)⟩
                    case measure => simp [intOf]; omega
                · have HK : Hid (byN g true v u = dg g v) := Lib.hid (by rw [HBY.out]; rfl)
                  rw [HK.out] at HD
                  clear HK
                  obtain ⟨d1, d2⟩ := HDD.out v (by omega)
                  skip
                  generalize dg g v = dd at *
                  have hkk : dd = 1 ∨ dd = 2 ∨ dd = 3 ∨ dd = 4 := by omega
                  have HST := Lib.hid (dr_step (N := dA g c s true v + dR g c s true v u) (G := gi c u) (n := m) (by omega) hkk)
                  rw [show dA g c s true v + dR g c s true v u + ((12 / dd : Nat) : Int) * gi c u = dA g c s true v + dR g c s true v (u + 1) by rw [HR1, HD, Int.add_assoc]] at HST
                  clear HD HR1
                  have hmk : (m : Int) * (dd : Int) ≤ 20 ∧ 1 ≤ (m : Int) * (dd : Int) := by rcases hkk with rfl | rfl | rfl | rfl <;> omega
                  clear hkk
                  have HN := Lib.hid (show -600000 ≤ dA g c s true v + dR g c s true v u ∧ dA g c s true v + dR g c s true v u ≤ 600000 by omega)
                  have HN1 := Lib.hid (show -600000 ≤ dA g c s true v + dR g c s true v (u + 1) ∧ dA g c s true v + dR g c s true v (u + 1) ≤ 600000 by omega)
                  clear hNb hRb hRb1
                  generalize dA g c s true v + dR g c s true v u = N at *
                  generalize hN1 : dA g c s true v + dR g c s true v (u + 1) = N1 at *
                  have HN1E := Lib.hid hN1
                  clear hN1
                  generalize gi c u = x at *
                  have hmk2 : IntKind.i64.wrap ((m : Int) * (dd : Int)) = (m : Int) * (dd : Int) := wrapIn (by omega)
                  have HB5 := Lib.hid (frU_bd (u := N) (d := 12 * (m : Int)) (B := 600000) (by omega) HN.out)
                  have HB6 := Lib.hid (frD_bd (u := N) (d := 12 * (m : Int)) (B := 60) (by omega) (by omega))
                  have HB7 := Lib.hid (frU_bd (u := x) (d := (m : Int) * (dd : Int)) (B := 1000) (by omega) (by have := HG.out; omega))
                  have HB8 := Lib.hid (frD_bd (u := x) (d := (m : Int) * (dd : Int)) (B := 20) (by omega) (by omega))
                  have HFR := Lib.hid (fun W => fracH_any (x) ((m : Int) * (dd : Int)) W (by unfold Hug; omega) (by unfold Hug; omega) (by omega))
                  have HFV : Hid (frV (x) ((m : Int) * (dd : Int)) = .agg #[.int .i64 (frU (x) ((m : Int) * (dd : Int))), .int .i64 (frD (x) ((m : Int) * (dd : Int)))]) := Lib.hid rfl
                  rw [HFV.out] at HFR
                  clear HFV
                  have HPL := Lib.hid (fun W => plusH_any (frU N (12 * (m : Int))) (frD N (12 * (m : Int))) (frU (x) ((m : Int) * (dd : Int))) (frD (x) ((m : Int) * (dd : Int))) W (by have := HB5.out; omega) (by have := HB7.out; omega) (by have := HB6.out; omega) (by have := HB8.out; omega))
                  rw [frV, HST.out.1, HST.out.2] at HPL
                  clear HST HB5 HB6 HB7 HB8 HN HN1
                  generalize frU (x) ((m : Int) * (dd : Int)) = GU at *
                  generalize frD (x) ((m : Int) * (dd : Int)) = GD at *
                  generalize hNU : frU N1 (12 * (m : Int)) = NU at *
                  generalize hND : frD N1 (12 * (m : Int)) = ND at *
                  have HNE := Lib.hid (And.intro hNU hND)
                  clear hNU hND
                  generalize frU N (12 * (m : Int)) = OU at *
                  generalize frD N (12 * (m : Int)) = OD at *
                  have y0 := blk_cell HP.out.b (i := 0) rfl
                  have y1 := blk_cell HP.out.b (i := 1) rfl
                  go_wp2_with (first | (first | (go_at_call 77; (with_reducible refine (HB1.out _).mono ?_); rintro e w' ⟨rfl, rfl⟩) | (go_at_call 77; (with_reducible refine (HB2.out _).mono ?_); rintro e w' ⟨rfl, rfl⟩) | (go_at_call 77; (with_reducible refine (HB3.out _).mono ?_); rintro e w' ⟨rfl, rfl⟩)) | (go_at_call 68; (with_reducible refine HDV.out.mono ?_); rintro e w' ⟨rfl, rfl⟩) | (go_at_call 68; (with_reducible refine HDU.out.mono ?_); rintro e w' ⟨rfl, rfl⟩))
                  apply region_once (F := fun v => Hid (PX w r NU ND v))
                  · go_region_law ((first
                      | (go_simp; go_at_call 67; (with_reducible refine (HFR.out _).mono ?_); rintro e v1 ⟨rfl, hb⟩; have DX := Lib.hid (HP.out.drew.next hb); have y0 := blk_cell DX.out.b (i := 0) rfl; have y1 := blk_cell DX.out.b (i := 1) rfl; clear hb)
                      | (go_simp; go_at_call 69; (with_reducible refine (HPL.out _).mono ?_); rintro e v2 ⟨rfl, hb⟩; have DX := Lib.hid (DX.out.next hb); have y0 := blk_cell DX.out.b (i := 0) rfl; have y1 := blk_cell DX.out.b (i := 1) rfl; have f0 := blk_frozen DX.out.b 0; have f1 := blk_frozen DX.out.b 1; clear hb)
                      | fail))
                    all_goals exact OnceQ.mk rfl (Lib.hid (DX.out.set NU ND))
                  · rintro w7 HP2
                    clear y0 y1 HFR HPL HP
                    go_wp2
                    go_roundw
                    case rel => exact ⟨u + 1, by omega, by go_num, Lib.hid (by rw [HN1E.out, HNE.out.1, HNE.out.2]; exact HP2.out)⟩
                    case measure => simp [intOf]; omega
              · have e1 : t / 2 ^ v % 2 = 0 := by omega
                have e2 : t / 2 ^ u % 2 = 1 := by omega
                rw [e1] at HB2 hsv
                rw [e2] at HB3 hsu
                obtain ⟨w1, w2⟩ := HWT.out u hul
                obtain ⟨bc, oc, rfl, hcc⟩ := (HC.out.keep HP.out.p.keep).at_ (by omega)
                have c2 := hcc u hul
                clear hcc e1 e2 hsd
                have HG1 : Hid (gi c u * (sb s v - sb s u) = -(gi c u)) := Lib.hid (by rw [hsv, hsu]; simp)
                rw [HG1.out] at HD
                clear HG1 hsv hsu
                have HG := Lib.hid (show 0 ≤ gi c u ∧ gi c u ≤ 1000 from ⟨w1, w2⟩)
                have HDV := Lib.hid (degree_any (some ⟨ba, oa, none⟩) m k g v wr (HX.out.keep HP.out.p.keep) HGB.out (by rw [HL.out]; exact hlt))
                have HDU := Lib.hid (degree_any (some ⟨ba, oa, none⟩) m k g u wr (HX.out.keep HP.out.p.keep) HGB.out (by rw [HL.out]; exact hul))
                have hNb := HAB.out v hv
                have hRb := HRB.out v u hu
                have hRb1 := HRB.out v (u + 1) hul
                cases b
                · have HK : Hid (byN g false v u = dg g u) := Lib.hid (by rw [HBY.out]; rfl)
                  rw [HK.out] at HD
                  clear HK
                  obtain ⟨d1, d2⟩ := HDD.out u (by omega)
                  obtain ⟨d3, d4⟩ := HDD.out v (by omega)
                  generalize dg g u = dd at *
                  generalize dg g v = de at *
                  have hkk : dd = 1 ∨ dd = 2 ∨ dd = 3 ∨ dd = 4 := by omega
                  have HST := Lib.hid (dr_step (N := dA g c s false v + dR g c s false v u) (G := (-(gi c u))) (n := m) (by omega) hkk)
                  rw [show dA g c s false v + dR g c s false v u + ((12 / dd : Nat) : Int) * (-(gi c u)) = dA g c s false v + dR g c s false v (u + 1) by rw [HR1, HD, Int.add_assoc]] at HST
                  clear HD HR1
                  have hmk : (m : Int) * (dd : Int) ≤ 20 ∧ 1 ≤ (m : Int) * (dd : Int) := by rcases hkk with rfl | rfl | rfl | rfl <;> omega
                  clear hkk
                  have HN := Lib.hid (show -600000 ≤ dA g c s false v + dR g c s false v u ∧ dA g c s false v + dR g c s false v u ≤ 600000 by omega)
                  have HN1 := Lib.hid (show -600000 ≤ dA g c s false v + dR g c s false v (u + 1) ∧ dA g c s false v + dR g c s false v (u + 1) ≤ 600000 by omega)
                  clear hNb hRb hRb1
                  generalize dA g c s false v + dR g c s false v u = N at *
                  generalize hN1 : dA g c s false v + dR g c s false v (u + 1) = N1 at *
                  have HN1E := Lib.hid hN1
                  clear hN1
                  generalize gi c u = x at *
                  have hmk2 : IntKind.i64.wrap ((m : Int) * (dd : Int)) = (m : Int) * (dd : Int) := wrapIn (by omega)
                  have HB5 := Lib.hid (frU_bd (u := N) (d := 12 * (m : Int)) (B := 600000) (by omega) HN.out)
                  have HB6 := Lib.hid (frD_bd (u := N) (d := 12 * (m : Int)) (B := 60) (by omega) (by omega))
                  have HB7 := Lib.hid (frU_bd (u := -x) (d := (m : Int) * (dd : Int)) (B := 1000) (by omega) (by have := HG.out; omega))
                  have HB8 := Lib.hid (frD_bd (u := -x) (d := (m : Int) * (dd : Int)) (B := 20) (by omega) (by omega))
                  have HFR := Lib.hid (fun W => fracH_any (-x) ((m : Int) * (dd : Int)) W (by unfold Hug; omega) (by unfold Hug; omega) (by omega))
                  have HFV : Hid (frV (-x) ((m : Int) * (dd : Int)) = .agg #[.int .i64 (frU (-x) ((m : Int) * (dd : Int))), .int .i64 (frD (-x) ((m : Int) * (dd : Int)))]) := Lib.hid rfl
                  rw [HFV.out] at HFR
                  clear HFV
                  have HPL := Lib.hid (fun W => plusH_any (frU N (12 * (m : Int))) (frD N (12 * (m : Int))) (frU (-x) ((m : Int) * (dd : Int))) (frD (-x) ((m : Int) * (dd : Int))) W (by have := HB5.out; omega) (by have := HB7.out; omega) (by have := HB6.out; omega) (by have := HB8.out; omega))
                  rw [frV, HST.out.1, HST.out.2] at HPL
                  clear HST HB5 HB6 HB7 HB8 HN HN1
                  generalize frU (-x) ((m : Int) * (dd : Int)) = GU at *
                  generalize frD (-x) ((m : Int) * (dd : Int)) = GD at *
                  generalize hNU : frU N1 (12 * (m : Int)) = NU at *
                  generalize hND : frD N1 (12 * (m : Int)) = ND at *
                  have HNE := Lib.hid (And.intro hNU hND)
                  clear hNU hND
                  generalize frU N (12 * (m : Int)) = OU at *
                  generalize frD N (12 * (m : Int)) = OD at *
                  have y0 := blk_cell HP.out.b (i := 0) rfl
                  have y1 := blk_cell HP.out.b (i := 1) rfl
                  go_wp2_with (first | (first | (go_at_call 77; (with_reducible refine (HB1.out _).mono ?_); rintro e w' ⟨rfl, rfl⟩) | (go_at_call 77; (with_reducible refine (HB2.out _).mono ?_); rintro e w' ⟨rfl, rfl⟩) | (go_at_call 77; (with_reducible refine (HB3.out _).mono ?_); rintro e w' ⟨rfl, rfl⟩)) | (go_at_call 68; (with_reducible refine HDV.out.mono ?_); rintro e w' ⟨rfl, rfl⟩) | (go_at_call 68; (with_reducible refine HDU.out.mono ?_); rintro e w' ⟨rfl, rfl⟩))
                  apply region_once (F := fun v => Hid (PX w r NU ND v))
                  · go_region_law ((first
                      | (go_simp; go_at_call 67; (with_reducible refine (HFR.out _).mono ?_); rintro e v1 ⟨rfl, hb⟩; have DX := Lib.hid (HP.out.drew.next hb); have y0 := blk_cell DX.out.b (i := 0) rfl; have y1 := blk_cell DX.out.b (i := 1) rfl; clear hb)
                      | (go_simp; go_at_call 69; (with_reducible refine (HPL.out _).mono ?_); rintro e v2 ⟨rfl, hb⟩; have DX := Lib.hid (DX.out.next hb); have y0 := blk_cell DX.out.b (i := 0) rfl; have y1 := blk_cell DX.out.b (i := 1) rfl; have f0 := blk_frozen DX.out.b 0; have f1 := blk_frozen DX.out.b 1; clear hb)
                      | fail))
                    all_goals exact OnceQ.mk rfl (Lib.hid (DX.out.set NU ND))
                  · rintro w7 HP2
                    clear y0 y1 HFR HPL HP
                    go_wp2
                    go_roundw
                    case rel => exact ⟨u + 1, by omega, by go_num, Lib.hid (by rw [HN1E.out, HNE.out.1, HNE.out.2]; exact HP2.out)⟩
                    case measure => simp [intOf]; omega
                · have HK : Hid (byN g true v u = dg g v) := Lib.hid (by rw [HBY.out]; rfl)
                  rw [HK.out] at HD
                  clear HK
                  obtain ⟨d1, d2⟩ := HDD.out v (by omega)
                  skip
                  generalize dg g v = dd at *
                  have hkk : dd = 1 ∨ dd = 2 ∨ dd = 3 ∨ dd = 4 := by omega
                  have HST := Lib.hid (dr_step (N := dA g c s true v + dR g c s true v u) (G := (-(gi c u))) (n := m) (by omega) hkk)
                  rw [show dA g c s true v + dR g c s true v u + ((12 / dd : Nat) : Int) * (-(gi c u)) = dA g c s true v + dR g c s true v (u + 1) by rw [HR1, HD, Int.add_assoc]] at HST
                  clear HD HR1
                  have hmk : (m : Int) * (dd : Int) ≤ 20 ∧ 1 ≤ (m : Int) * (dd : Int) := by rcases hkk with rfl | rfl | rfl | rfl <;> omega
                  clear hkk
                  have HN := Lib.hid (show -600000 ≤ dA g c s true v + dR g c s true v u ∧ dA g c s true v + dR g c s true v u ≤ 600000 by omega)
                  have HN1 := Lib.hid (show -600000 ≤ dA g c s true v + dR g c s true v (u + 1) ∧ dA g c s true v + dR g c s true v (u + 1) ≤ 600000 by omega)
                  clear hNb hRb hRb1
                  generalize dA g c s true v + dR g c s true v u = N at *
                  generalize hN1 : dA g c s true v + dR g c s true v (u + 1) = N1 at *
                  have HN1E := Lib.hid hN1
                  clear hN1
                  generalize gi c u = x at *
                  have hmk2 : IntKind.i64.wrap ((m : Int) * (dd : Int)) = (m : Int) * (dd : Int) := wrapIn (by omega)
                  have HB5 := Lib.hid (frU_bd (u := N) (d := 12 * (m : Int)) (B := 600000) (by omega) HN.out)
                  have HB6 := Lib.hid (frD_bd (u := N) (d := 12 * (m : Int)) (B := 60) (by omega) (by omega))
                  have HB7 := Lib.hid (frU_bd (u := -x) (d := (m : Int) * (dd : Int)) (B := 1000) (by omega) (by have := HG.out; omega))
                  have HB8 := Lib.hid (frD_bd (u := -x) (d := (m : Int) * (dd : Int)) (B := 20) (by omega) (by omega))
                  have HFR := Lib.hid (fun W => fracH_any (-x) ((m : Int) * (dd : Int)) W (by unfold Hug; omega) (by unfold Hug; omega) (by omega))
                  have HFV : Hid (frV (-x) ((m : Int) * (dd : Int)) = .agg #[.int .i64 (frU (-x) ((m : Int) * (dd : Int))), .int .i64 (frD (-x) ((m : Int) * (dd : Int)))]) := Lib.hid rfl
                  rw [HFV.out] at HFR
                  clear HFV
                  have HPL := Lib.hid (fun W => plusH_any (frU N (12 * (m : Int))) (frD N (12 * (m : Int))) (frU (-x) ((m : Int) * (dd : Int))) (frD (-x) ((m : Int) * (dd : Int))) W (by have := HB5.out; omega) (by have := HB7.out; omega) (by have := HB6.out; omega) (by have := HB8.out; omega))
                  rw [frV, HST.out.1, HST.out.2] at HPL
                  clear HST HB5 HB6 HB7 HB8 HN HN1
                  generalize frU (-x) ((m : Int) * (dd : Int)) = GU at *
                  generalize frD (-x) ((m : Int) * (dd : Int)) = GD at *
                  generalize hNU : frU N1 (12 * (m : Int)) = NU at *
                  generalize hND : frD N1 (12 * (m : Int)) = ND at *
                  have HNE := Lib.hid (And.intro hNU hND)
                  clear hNU hND
                  generalize frU N (12 * (m : Int)) = OU at *
                  generalize frD N (12 * (m : Int)) = OD at *
                  have y0 := blk_cell HP.out.b (i := 0) rfl
                  have y1 := blk_cell HP.out.b (i := 1) rfl
                  go_wp2_with (first | (first | (go_at_call 77; (with_reducible refine (HB1.out _).mono ?_); rintro e w' ⟨rfl, rfl⟩) | (go_at_call 77; (with_reducible refine (HB2.out _).mono ?_); rintro e w' ⟨rfl, rfl⟩) | (go_at_call 77; (with_reducible refine (HB3.out _).mono ?_); rintro e w' ⟨rfl, rfl⟩)) | (go_at_call 68; (with_reducible refine HDV.out.mono ?_); rintro e w' ⟨rfl, rfl⟩) | (go_at_call 68; (with_reducible refine HDU.out.mono ?_); rintro e w' ⟨rfl, rfl⟩))
                  apply region_once (F := fun v => Hid (PX w r NU ND v))
                  · go_region_law ((first
                      | (go_simp; go_at_call 67; (with_reducible refine (HFR.out _).mono ?_); rintro e v1 ⟨rfl, hb⟩; have DX := Lib.hid (HP.out.drew.next hb); have y0 := blk_cell DX.out.b (i := 0) rfl; have y1 := blk_cell DX.out.b (i := 1) rfl; clear hb)
                      | (go_simp; go_at_call 69; (with_reducible refine (HPL.out _).mono ?_); rintro e v2 ⟨rfl, hb⟩; have DX := Lib.hid (DX.out.next hb); have y0 := blk_cell DX.out.b (i := 0) rfl; have y1 := blk_cell DX.out.b (i := 1) rfl; have f0 := blk_frozen DX.out.b 0; have f1 := blk_frozen DX.out.b 1; clear hb)
                      | fail))
                    all_goals exact OnceQ.mk rfl (Lib.hid (DX.out.set NU ND))
                  · rintro w7 HP2
                    clear y0 y1 HFR HPL HP
                    go_wp2
                    go_roundw
                    case rel => exact ⟨u + 1, by omega, by go_num, Lib.hid (by rw [HN1E.out, HNE.out.1, HNE.out.2]; exact HP2.out)⟩
                    case measure => simp [intOf]; omega
          · have hb0 : bt g v u = 0 := by omega
            rw [hb0] at HB1
            rw [if_neg hb1] at HD
            clear hb0 hb1
            have HP2 := Lib.hid (show PX w r (frU (dA g c s b v + dR g c s b v (u + 1)) (12 * (m : Int))) (frD (dA g c s b v + dR g c s b v (u + 1)) (12 * (m : Int))) wr by rw [HR1, HD, Int.add_zero]; exact HP.out)
            clear HP HD HR1 hsv hsu
            go_wp2_with (first | (go_at_call 77; (with_reducible refine (HB1.out _).mono ?_); rintro e w' ⟨rfl, rfl⟩) | (go_at_call 77; (with_reducible refine (HB2.out _).mono ?_); rintro e w' ⟨rfl, rfl⟩) | (go_at_call 77; (with_reducible refine (HB3.out _).mono ?_); rintro e w' ⟨rfl, rfl⟩))
            go_roundw
            case rel => exact ⟨u + 1, by omega, by go_num, HP2⟩
            case measure => simp [intOf]; omega
        · obtain rfl : u = m := by omega
          have HP1 := Lib.hid (show PX w r (frU (dA g c s b (v + 1)) (12 * (u : Int))) (frD (dA g c s b (v + 1)) (12 * (u : Int))) wr by rw [HAS.out]; exact HP.out)
          clear HP
          go_wp2
          go_roundw
          case rel => exact ⟨v + 1, by omega, by go_num, HP1⟩
          case measure => simp [intOf]; omega
    · obtain rfl : v = m := by omega
      have HFE : Hid (frV (dA g c s b v) (12 * (v : Int)) = .agg #[.int .i64 (frU (dA g c s b v) (12 * (v : Int))), .int .i64 (frD (dA g c s b v) (12 * (v : Int)))]) := Lib.hid rfl
      have HPF := Lib.hid HP.out.p
      have q0 := blk_cell HP.out.b (i := 0) rfl
      have q1 := blk_cell HP.out.b (i := 1) rfl
      clear HP
      generalize frU (dA g c s b v) (12 * (v : Int)) = U at *
      generalize frD (dA g c s b v) (12 * (v : Int)) = D at *
      have c0 := blk_cell HPF.out.box (i := 0) rfl
      have c1 := blk_cell HPF.out.box (i := 1) rfl
      have f0 := blk_frozen HPF.out.box 0
      have f1 := blk_frozen HPF.out.box 1
      go_wp2
      clear c0 c1 f0 f1 q0 q1
      have B1 := blk_set (blk_set HPF.out.box 0 (.int .i64 U)) 1 (.int .i64 D)
      have r0 := blk_cell B1 (i := 0) (v := .int .i64 U) rfl
      have r1 := blk_cell B1 (i := 1) (v := .int .i64 D) rfl
      have HBX := Lib.hid ((HPF.out.below.setCell (p := ⟨w.heap.size, 0, none⟩) (Nat.le_refl _) (.int .i64 U)).setCell (p := ⟨w.heap.size, 1, none⟩) (Nat.le_refl _) (.int .i64 D))
      clear B1 HPF
      generalize (wr.setCell ⟨w.heap.size, 0, none⟩ (.int .i64 U)).setCell ⟨w.heap.size, 1, none⟩ (.int .i64 D) = WE at *
      refine bodyPost_ret (v := .agg #[.int .i64 U, .int .i64 D]) (by simp [results, Try.results61, go_sem, r0, r1]) rfl ?_
      exact ⟨by rw [HEND.out, HFE.out], HBX.out⟩
end Go.Proofs.Ytnbkifpmoegaaaa

/- BirthDrift and DeathDrift, by the model. -/
namespace Go.Proofs.Ytnbkifpmoegaaaa
open Go.RowKit

theorem WQ_no {g c : List Int} {s : Int} {v : Nat} (hv : v < c.length) (h : ¬ InR (gi c v) 0 1000) : pb (WQ g c s) = false := pb_false fun k => h (k.wt v hv)
set_option maxRecDepth 100000 in
set_option maxHeartbeats 1600000 in
theorem validWeigh_any (A C : Option Addr) (n k m kc : Nat) (g c : List Int) (s : Int) (w : World) (hx : Ints w A n k g) (hc : Ints w C m kc c) :
    Calls Try.prog 60 #[.slice A n k, .slice C m kc, .int .i64 s] w fun e w' => e = .returned (.bool (pb (WQ g c s))) ∧ Quiet w w' := by
  have HC := Lib.hid hc
  have HLC := Lib.hid hc.len
  have HLG := Lib.hid hx.len
  have hmn := hx.max
  have hmc := hc.max
  have HVG := Lib.hid (fun q => validGraph_any A n k g (w.drewN q) (hx.keep (Keep.drewN _ _)))
  clear hx hc
  go_enter Try.func60, Try.ntmps60
  go_wp2
  go_loopw [7] (fun i wr => ∃ v : Nat, v ≤ m ∧ i = .int .i64 v ∧ Hid (∀ j, j < v → InR (gi c j) 0 1000) ∧ Quiet w wr) (fun i _ => m - (intOf i).toNat)
  case atStart => exact ⟨0, Nat.zero_le _, rfl, Lib.hid (fun _ h => absurd h (by omega)), Quiet.refl _⟩
  case round =>
    obtain ⟨v, hv, rfl, HI, q, rfl⟩ := hrel
    by_cases hlt : v < m
    · obtain ⟨b, o, rfl, hcc⟩ := HC.out.at_ (by omega)
      have c1 := hcc v hlt
      clear hcc
      by_cases hin : InR (gi c v) 0 1000
      · have HIN := Lib.hid (fun W => pb_true hin ▸ inRange_any (gi c v) 0 1000 W)
        have HN := Lib.hid (show ∀ j, j < v + 1 → InR (gi c j) 0 1000 from fun j hj => by
          by_cases hjv : j < v
          · exact HI.out j hjv
          · obtain rfl : j = v := by omega
            exact hin)
        clear hin
        go_wp2_with (go_at_call 76; refine (HIN.out _).mono ?_; rintro e w' ⟨rfl, rfl⟩)
        go_roundw
        case rel => exact ⟨v + 1, by omega, by go_num, HN, ⟨_, rfl⟩⟩
        case measure => simp [intOf]; omega
      · have HIN := Lib.hid (fun W => pb_false hin ▸ inRange_any (gi c v) 0 1000 W)
        have HE := Lib.hid (WQ_no (g := g) (s := s) (by rw [HLC.out]; exact hlt) hin)
        clear hin
        go_wp2_with (go_at_call 76; refine (HIN.out _).mono ?_; rintro e w' ⟨rfl, rfl⟩)
        go_ret
        exact ⟨ret_bool HE.out.symm, ⟨_, rfl⟩⟩
    · obtain rfl : v = m := by omega
      have HWT := Lib.hid (show ∀ i, i < c.length → InR (gi c i) 0 1000 from fun i hi => HI.out i (by rw [← HLC.out]; exact hi))
      clear HI
      by_cases hg : GR g
      · have HV := Lib.hid (pb_true hg ▸ HVG.out q)
        have HG := Lib.hid hg
        have hn5 : n ≤ 5 := by rw [← HLG.out]; exact hg.b.n5
        clear hg HVG
        by_cases hl : v = n
        · subst hl
          have hle : ((v : Int) == (v : Int)) = true := by simp
          have HPW := Lib.hid (fun W => power_any v W hmn)
          have HPB : Hid (wrap64 (pwF v - 1) = 2 ^ v - 1) := Lib.hid (pwB5 v (by omega))
          obtain ⟨hp1, hp2⟩ := pw_bd v
          have HE : Hid (pb (WQ g c s) = pb (InR s 0 (2 ^ v - 1))) := Lib.hid (pb_congr ⟨fun h => by have := h.set; rwa [HLG.out] at this, fun h => ⟨HG.out, by rw [HLC.out, HLG.out], HWT.out, by rw [HLG.out]; exact h⟩⟩)
          have HIN := Lib.hid (fun W => HPB.out ▸ inRange_any s 0 (wrap64 (pwF v - 1)) W)
          have HEQ : Hid (pb (InR s 0 (wrap64 (pwF v - 1))) = pb (WQ g c s)) := Lib.hid (by rw [HE.out, HPB.out])
          have HIN := Lib.hid (fun W => HEQ.out ▸ inRange_any s 0 (wrap64 (pwF v - 1)) W)
          clear HE HPB HEQ
          generalize hr : pb (WQ g c s) = r at *
          have HR := Lib.hid hr
          clear hr
          generalize pwF v = p at *
          go_wp2_with (first
            | (go_at_call 49; refine HV.out.mono ?_; rintro e w' ⟨rfl, q2, rfl⟩)
            | (go_at_call 73; refine (HPW.out _).mono ?_; rintro e w' ⟨rfl, rfl⟩)
            | (go_at_call 76; refine (HIN.out _).mono ?_; rintro e w' ⟨rfl, rfl⟩))
          go_ret
          exact ⟨ret_bool HR.out.symm, ⟨_, rfl⟩⟩
        · have hle : ((v : Int) == (n : Int)) = false := by simp; omega
          have HE := Lib.hid (show pb (WQ g c s) = false from pb_false fun k => hl (by have := k.len; rw [HLC.out, HLG.out] at this; exact this))
          clear hl
          go_wp2_with (go_at_call 49; refine HV.out.mono ?_; rintro e w' ⟨rfl, q2, rfl⟩)
          go_ret
          exact ⟨ret_bool HE.out.symm, ⟨_, rfl⟩⟩
      · have HV := Lib.hid (pb_false hg ▸ HVG.out q)
        have HE := Lib.hid (show pb (WQ g c s) = false from pb_false fun k => hg k.gr)
        clear hg HVG
        go_wp2_with (go_at_call 49; refine HV.out.mono ?_; rintro e w' ⟨rfl, q2, rfl⟩)
        go_ret
        exact ⟨ret_bool HE.out.symm, ⟨_, rfl⟩⟩
set_option maxRecDepth 100000 in
set_option maxHeartbeats 1600000 in
theorem BirthDrift_spec (A : Option Addr) (n k : Nat) (g : List Int) (C : Option Addr) (m kc : Nat) (c : List Int) (s : Int) (w : World) (hx : Ints w A n k g) (hc : Ints w C m kc c) (_ : Fit s) :
    Calls Try.prog 27 #[.slice A n k, .slice C m kc, .int .i64 s] w (Ret (.tuple #[dfV g c s true, .bool (pb (WQ g c s))]) w) := by
  have HPF := Lib.hid (PF.start w)
  have HX := Lib.hid (hx.keep HPF.out.keep)
  have HC := Lib.hid (hc.keep HPF.out.keep)
  have HLG := Lib.hid hx.len
  clear hx hc
  by_cases hw : WQ g c s
  · have HV := Lib.hid (pb_true hw ▸ validWeigh_any A C n k m kc g c s _ HX.out HC.out)
    have HFV : Hid (dfV g c s true = .agg #[.int .i64 (frU (dAll g c s true) (12 * (n : Int))), .int .i64 (frD (dAll g c s true) (12 * (n : Int)))]) := Lib.hid (by rw [df_yes hw, HLG.out]; rfl)
    have HFR : Hid (frV (dAll g c s true) (12 * (n : Int)) = .agg #[.int .i64 (frU (dAll g c s true) (12 * (n : Int))), .int .i64 (frD (dAll g c s true) (12 * (n : Int)))]) := Lib.hid rfl
    have HD := Lib.hid (fun W a b => HFR.out ▸ drift_any A C n k m kc g c s true W a b hw)
    have HP := Lib.hid (pb_true hw)
    clear hw HFR
    generalize frU (dAll g c s true) (12 * (n : Int)) = U at *
    generalize frD (dAll g c s true) (12 * (n : Int)) = D at *
    go_enter Try.func27, Try.ntmps27
    go_wp2_with fail
    refine HV.out.mono ?_
    rintro e w1 ⟨rfl, hq⟩
    have HP1 := Lib.hid (HPF.out.up hq.below)
    have HD1 := Lib.hid (HD.out w1 (HX.out.keep (Keep.quiet hq)) (HC.out.keep (Keep.quiet hq)))
    clear hq HV HPF HD
    go_wp2_with fail
    refine HD1.out.mono ?_
    rintro e w2 ⟨rfl, hb⟩
    have HPF := Lib.hid (HP1.out.up hb)
    clear hb HD1 HP1
    have c0 := blk_cell HPF.out.box (i := 0) rfl
    have c1 := blk_cell HPF.out.box (i := 1) rfl
    have f0 := blk_frozen HPF.out.box 0
    have f1 := blk_frozen HPF.out.box 1
    go_wp2
    clear c0 c1 f0 f1
    have B1 := blk_set (blk_set HPF.out.box 0 (.int .i64 U)) 1 (.int .i64 D)
    have r0 := blk_cell B1 (i := 0) (v := .int .i64 U) rfl
    have r1 := blk_cell B1 (i := 1) (v := .int .i64 D) rfl
    have HBX := Lib.hid ((HPF.out.below.setCell (p := ⟨w.heap.size, 0, none⟩) (Nat.le_refl _) (.int .i64 U)).setCell (p := ⟨w.heap.size, 1, none⟩) (Nat.le_refl _) (.int .i64 D))
    clear B1 HPF
    generalize (w2.setCell ⟨w.heap.size, 0, none⟩ (.int .i64 U)).setCell ⟨w.heap.size, 1, none⟩ (.int .i64 D) = WE at *
    refine bodyPost_ret (v := .tuple #[.agg #[.int .i64 U, .int .i64 D], .bool true]) (by simp [results, Try.results27, go_sem, r0, r1]) rfl ?_
    exact ⟨by rw [HFV.out, HP.out], HBX.out⟩
  · have HV := Lib.hid (pb_false hw ▸ validWeigh_any A C n k m kc g c s _ HX.out HC.out)
    have HFV := Lib.hid (df_no (b := true) hw)
    have HP := Lib.hid (pb_false hw)
    clear hw
    go_enter Try.func27, Try.ntmps27
    go_wp2_with fail
    refine HV.out.mono ?_
    rintro e w1 ⟨rfl, hq⟩
    have HP1 := Lib.hid (HPF.out.up hq.below)
    clear hq HV HPF
    have HPF := HP1
    clear HP1
    have c0 := blk_cell HPF.out.box (i := 0) rfl
    have c1 := blk_cell HPF.out.box (i := 1) rfl
    have f0 := blk_frozen HPF.out.box 0
    have f1 := blk_frozen HPF.out.box 1
    go_wp2
    clear c0 c1 f0 f1
    have B1 := blk_set (blk_set HPF.out.box 0 (.int .i64 0)) 1 (.int .i64 0)
    have r0 := blk_cell B1 (i := 0) (v := .int .i64 0) rfl
    have r1 := blk_cell B1 (i := 1) (v := .int .i64 0) rfl
    have HBX := Lib.hid ((HPF.out.below.setCell (p := ⟨w.heap.size, 0, none⟩) (Nat.le_refl _) (.int .i64 0)).setCell (p := ⟨w.heap.size, 1, none⟩) (Nat.le_refl _) (.int .i64 0))
    clear B1 HPF
    generalize (w1.setCell ⟨w.heap.size, 0, none⟩ (.int .i64 0)).setCell ⟨w.heap.size, 1, none⟩ (.int .i64 0) = WE at *
    refine bodyPost_ret (v := .tuple #[.agg #[.int .i64 0, .int .i64 0], .bool false]) (by simp [results, Try.results27, go_sem, r0, r1]) rfl ?_
    exact ⟨by rw [HFV.out, HP.out], HBX.out⟩
set_option maxRecDepth 100000 in
set_option maxHeartbeats 1600000 in
theorem DeathDrift_spec (A : Option Addr) (n k : Nat) (g : List Int) (C : Option Addr) (m kc : Nat) (c : List Int) (s : Int) (w : World) (hx : Ints w A n k g) (hc : Ints w C m kc c) (_ : Fit s) :
    Calls Try.prog 30 #[.slice A n k, .slice C m kc, .int .i64 s] w (Ret (.tuple #[dfV g c s false, .bool (pb (WQ g c s))]) w) := by
  have HPF := Lib.hid (PF.start w)
  have HX := Lib.hid (hx.keep HPF.out.keep)
  have HC := Lib.hid (hc.keep HPF.out.keep)
  have HLG := Lib.hid hx.len
  clear hx hc
  by_cases hw : WQ g c s
  · have HV := Lib.hid (pb_true hw ▸ validWeigh_any A C n k m kc g c s _ HX.out HC.out)
    have HFV : Hid (dfV g c s false = .agg #[.int .i64 (frU (dAll g c s false) (12 * (n : Int))), .int .i64 (frD (dAll g c s false) (12 * (n : Int)))]) := Lib.hid (by rw [df_yes hw, HLG.out]; rfl)
    have HFR : Hid (frV (dAll g c s false) (12 * (n : Int)) = .agg #[.int .i64 (frU (dAll g c s false) (12 * (n : Int))), .int .i64 (frD (dAll g c s false) (12 * (n : Int)))]) := Lib.hid rfl
    have HD := Lib.hid (fun W a b => HFR.out ▸ drift_any A C n k m kc g c s false W a b hw)
    have HP := Lib.hid (pb_true hw)
    clear hw HFR
    generalize frU (dAll g c s false) (12 * (n : Int)) = U at *
    generalize frD (dAll g c s false) (12 * (n : Int)) = D at *
    go_enter Try.func30, Try.ntmps30
    go_wp2_with fail
    refine HV.out.mono ?_
    rintro e w1 ⟨rfl, hq⟩
    have HP1 := Lib.hid (HPF.out.up hq.below)
    have HD1 := Lib.hid (HD.out w1 (HX.out.keep (Keep.quiet hq)) (HC.out.keep (Keep.quiet hq)))
    clear hq HV HPF HD
    go_wp2_with fail
    refine HD1.out.mono ?_
    rintro e w2 ⟨rfl, hb⟩
    have HPF := Lib.hid (HP1.out.up hb)
    clear hb HD1 HP1
    have c0 := blk_cell HPF.out.box (i := 0) rfl
    have c1 := blk_cell HPF.out.box (i := 1) rfl
    have f0 := blk_frozen HPF.out.box 0
    have f1 := blk_frozen HPF.out.box 1
    go_wp2
    clear c0 c1 f0 f1
    have B1 := blk_set (blk_set HPF.out.box 0 (.int .i64 U)) 1 (.int .i64 D)
    have r0 := blk_cell B1 (i := 0) (v := .int .i64 U) rfl
    have r1 := blk_cell B1 (i := 1) (v := .int .i64 D) rfl
    have HBX := Lib.hid ((HPF.out.below.setCell (p := ⟨w.heap.size, 0, none⟩) (Nat.le_refl _) (.int .i64 U)).setCell (p := ⟨w.heap.size, 1, none⟩) (Nat.le_refl _) (.int .i64 D))
    clear B1 HPF
    generalize (w2.setCell ⟨w.heap.size, 0, none⟩ (.int .i64 U)).setCell ⟨w.heap.size, 1, none⟩ (.int .i64 D) = WE at *
    refine bodyPost_ret (v := .tuple #[.agg #[.int .i64 U, .int .i64 D], .bool true]) (by simp [results, Try.results30, go_sem, r0, r1]) rfl ?_
    exact ⟨by rw [HFV.out, HP.out], HBX.out⟩
  · have HV := Lib.hid (pb_false hw ▸ validWeigh_any A C n k m kc g c s _ HX.out HC.out)
    have HFV := Lib.hid (df_no (b := false) hw)
    have HP := Lib.hid (pb_false hw)
    clear hw
    go_enter Try.func30, Try.ntmps30
    go_wp2_with fail
    refine HV.out.mono ?_
    rintro e w1 ⟨rfl, hq⟩
    have HP1 := Lib.hid (HPF.out.up hq.below)
    clear hq HV HPF
    have HPF := HP1
    clear HP1
    have c0 := blk_cell HPF.out.box (i := 0) rfl
    have c1 := blk_cell HPF.out.box (i := 1) rfl
    have f0 := blk_frozen HPF.out.box 0
    have f1 := blk_frozen HPF.out.box 1
    go_wp2
    clear c0 c1 f0 f1
    have B1 := blk_set (blk_set HPF.out.box 0 (.int .i64 0)) 1 (.int .i64 0)
    have r0 := blk_cell B1 (i := 0) (v := .int .i64 0) rfl
    have r1 := blk_cell B1 (i := 1) (v := .int .i64 0) rfl
    have HBX := Lib.hid ((HPF.out.below.setCell (p := ⟨w.heap.size, 0, none⟩) (Nat.le_refl _) (.int .i64 0)).setCell (p := ⟨w.heap.size, 1, none⟩) (Nat.le_refl _) (.int .i64 0))
    clear B1 HPF
    generalize (w1.setCell ⟨w.heap.size, 0, none⟩ (.int .i64 0)).setCell ⟨w.heap.size, 1, none⟩ (.int .i64 0) = WE at *
    refine bodyPost_ret (v := .tuple #[.agg #[.int .i64 0, .int .i64 0], .bool false]) (by simp [results, Try.results30, go_sem, r0, r1]) rfl ?_
    exact ⟨by rw [HFV.out, HP.out], HBX.out⟩

end Go.Proofs.Ytnbkifpmoegaaaa

