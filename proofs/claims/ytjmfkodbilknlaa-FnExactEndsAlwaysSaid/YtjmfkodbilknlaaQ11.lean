/- Texts merged: LiftB LiftC Enter Math82. -/
import Derived.Test.YtjmfkodbilknlaaQ10
import Derived.ChangeSlices
/- An argument of bytes, opened. -/
namespace Go.Proofs.Ytjmfkodbilknlaa
open Go.ChangeShapes Go.WideShapes Go.ChangeAt Go.RowKit Go.Deep

theorem Try.cells_u8 : Try.prog.cellsOf 5 = 1 := by kernel_rfl
theorem Try.bytes_u8 : Try.prog.bytesOf 5 = 1 := by kernel_rfl
set_option maxRecDepth 100000 in
theorem open_bytes {H : Type} {enc : TypeId × Value → H} {W : World} {v : Value} {d : DataW H} {p : List MemPlace} {b0 : Nat} (hval : Value.okWide Try.prog W .any b0 32 v)
    (h : DataW.Trod enc Try.prog W 0 (fun _ => true) true 32 v d p) (hw : ∀ n ∈ d.weights Try.prog 32, n ≤ reachBytes) :
    ∃ A n c, v = .slice A n c ∧ Bytes W A n c := by
  obtain ⟨a1, len, cap, rfl⟩ := okWide_slice Try.underlying32 hval
  obtain ⟨fuel, hf⟩ := h
  rcases open_ints Try.underlying32 Try.underlying5 Try.cells_u8 hf with ⟨hcs, hx⟩ | ⟨a, len', cap', zs, hcs, _, hl, hm, hz, hx, hcell, hwz⟩
  · simp [Value.cells] at hcs
    obtain ⟨rfl, rfl, rfl⟩ := hcs
    exact ⟨none, 0, 0, rfl, Nat.le_refl _, by omega, fun h => absurd h (by omega)⟩
  · simp [Value.cells] at hcs
    obtain ⟨rfl, rfl, rfl⟩ := hcs
    simp only [Prod.mk.injEq] at hx
    obtain ⟨rfl, rfl⟩ := hx
    simp only [if_true] at hz
    have h1 := hw _ (weights_slice Try.underlying32 (.inl rfl))
    simp only [lits, List.length_map, List.length_take, List.length_drop, Try.bytes_u8, reachBytes] at h1
    refine ⟨some a, len, cap, rfl, hl, by omega, fun hn => ?_⟩
    have hspot : a.spot = none := by simpa [Addr.add] using World.cell?_spot (hcell 0 (by omega))
    obtain ⟨b, o, sp⟩ := a
    simp only at hspot
    subst hspot
    refine ⟨b, o, rfl, fun k hk => ⟨zs.getD k 0, ?_, ?_, by rw [← add_plain]; exact hcell k (by omega)⟩⟩
    · rw [List.getD_eq_getElem?_getD]; have := hwz (zs.getD k 0) (by rw [List.getD_eq_getElem?_getD, List.getElem?_eq_getElem (show k < zs.length by omega)]; simp)
      simp [Lit.wf, IntKind.min, IntKind.max, IntKind.signed, IntKind.bits] at this
      omega
    · rw [List.getD_eq_getElem?_getD]; have := hwz (zs.getD k 0) (by rw [List.getD_eq_getElem?_getD, List.getElem?_eq_getElem (show k < zs.length by omega)]; simp)
      simp [Lit.wf, IntKind.min, IntKind.max, IntKind.signed, IntKind.bits] at this
      omega
end Go.Proofs.Ytjmfkodbilknlaa

/- Arguments that are a slice of ints, or an int, opened. -/
namespace Go.Proofs.Ytjmfkodbilknlaa
open Go.ChangeShapes Go.WideShapes Go.ChangeAt Go.RowKit Go.Deep

set_option maxRecDepth 100000 in
theorem open_intS {H : Type} {enc : TypeId × Value → H} {W : World} {v : Value} {d : DataW H} {p : List MemPlace} {b0 : Nat} (hval : Value.okWide Try.prog W .any b0 36 v)
    (h : DataW.Trod enc Try.prog W 0 (fun _ => true) true 36 v d p) (hw : ∀ n ∈ d.weights Try.prog 36, n ≤ reachBytes) :
    ∃ A n c xs, v = .slice A n c ∧ Ints W A n c xs := by
  obtain ⟨a1, len, cap, rfl⟩ := okWide_slice Try.underlying36 hval
  obtain ⟨fuel, hf⟩ := h
  rcases open_ints Try.underlying36 Try.underlying3 Try.cells3 hf with ⟨hcs, hx⟩ | ⟨a, len', cap', zs, hcs, _, hl, hm, hz, hx, hcell, hwz⟩
  · simp [Value.cells] at hcs
    obtain ⟨rfl, rfl, rfl⟩ := hcs
    exact ⟨none, 0, 0, [], rfl, rfl, Nat.le_refl _, by omega, fun _ h => by simp at h, fun h => absurd h (by omega)⟩
  · simp [Value.cells] at hcs
    obtain ⟨rfl, rfl, rfl⟩ := hcs
    simp only [Prod.mk.injEq] at hx
    obtain ⟨rfl, rfl⟩ := hx
    simp only [if_true] at hz
    have h1 := hw _ (weights_slice Try.underlying36 (.inl rfl))
    simp only [lits, List.length_map, List.length_take, List.length_drop, Try.bytes3, reachBytes] at h1
    have hlen : (zs.take len).length = len := by rw [List.length_take]; omega
    refine ⟨some a, len, cap, zs.take len, rfl, hlen, hl, by omega, fun x hx => ?_, fun hn => ?_⟩
    · have := hwz x (List.mem_of_mem_take hx)
      simp [Lit.wf, IntKind.min, IntKind.max, IntKind.signed, IntKind.bits] at this
      omega
    have hspot : a.spot = none := by simpa [Addr.add] using World.cell?_spot (hcell 0 (by omega))
    obtain ⟨b, o, sp⟩ := a
    simp only at hspot
    subst hspot
    refine ⟨b, o, rfl, fun k hk => ?_⟩
    rw [← add_plain, hcell k (by omega)]
    congr 2
    rw [gi_get (by rw [hlen]; exact hk), List.getElem_take]
    simp [List.getD, show k < zs.length by omega]

set_option maxRecDepth 100000 in
theorem open_num {H : Type} {enc : TypeId × Value → H} {W : World} {v : Value} {d : DataW H} {p : List MemPlace} {b0 : Nat} (hval : Value.okWide Try.prog W .any b0 3 v)
    (h : DataW.Trod enc Try.prog W 0 (fun _ => true) true 3 v d p) : ∃ x, v = .int .i64 x ∧ Fit x := by
  obtain ⟨x, rfl, _, _, hw⟩ := open_int Try.underlying3 hval h
  refine ⟨x, rfl, ?_⟩
  simp [Lit.wf, IntKind.min, IntKind.max, IntKind.signed, IntKind.bits] at hw
  unfold Fit
  omega
end Go.Proofs.Ytjmfkodbilknlaa

/- The program may be entered: facts of its head, once for all laws. -/
namespace Go.Proofs.Ytjmfkodbilknlaa

theorem prog_enters : Try.pinned.checked.prog.mayEnter = true := by kernel_rfl
theorem prog_lifts0 : (false == Try.pinned.checked.prog.liftsFinal) = true := by kernel_rfl
theorem prog_make0 : (Try.pinned.checked.prog.make == some .cut) = true := by kernel_rfl
theorem prog_lifts {b : Bool} (h : b = false) : (b == Try.pinned.checked.prog.liftsFinal) = true := by subst h; exact prog_lifts0
theorem prog_make {m : Make} (h : m = .cut) : (Try.pinned.checked.prog.make == some m) = true := by subst h; exact prog_make0
end Go.Proofs.Ytjmfkodbilknlaa

/- Where replies end there is a rest; with both players exchanged they end as well. Plain. -/
namespace Go.Proofs.Ytjmfkodbilknlaa

theorem eF_on {xs ys : List (List Int)} (v : VG xs ys) (h : ∀ i j, i < xs.length → j < (gr xs 0).length → repL xs ys xs.length i j ≠ []) : ∀ k i j, i < xs.length → j < (gr xs 0).length → eF xs ys xs.length k i j = false
  | 0, i, j, hi, hj => by
    rw [eF]
    cases e : repL xs ys xs.length i j with
    | nil => exact absurd e (h i j hi hj)
    | cons x l => rfl
  | k + 1, i, j, hi, hj => by
    rw [eF, List.all_eq_false]
    cases e : repL xs ys xs.length i j with
    | nil => exact absurd e (h i j hi hj)
    | cons x l =>
      obtain ⟨a, b, rfl, ha, hb⟩ := repL_in hi hj (v.rowy hi) x (by rw [e]; exact List.mem_cons_self ..)
      exact ⟨_, List.mem_cons_self .., by simpa [gi] using eF_on v h k a b ha hb⟩
theorem ends_rest {xs ys : List (List Int)} (h : EnP xs ys) : 0 < (pureR xs ys).length := by
  have v := h.v
  refine Classical.byContradiction fun hn => ?_
  have he : pureR xs ys = [] := List.eq_nil_of_length_eq_zero (by omega)
  have hi := v.ta.n1
  have hj := v.ta.m1
  have := eF_on v (fun i j hi hj e => by
    have hr := (repL_nil hi hj (v.rowy hi)).1 e
    have := (pureR_mem v hi hj).2 hr
    rw [he] at this; cases this) (xs.length * (gr xs 0).length) 0 0 hi hj
  rw [h.all 0 0 hi hj] at this; cases this
theorem repL_pair {xs ys : List (List Int)} {n i j a b : Nat} : [(a : Int), (b : Int)] ∈ repL xs ys n i j ↔ (b = j ∧ (a : Int) ∈ brF (colOf xs n j) i) ∨ (a = i ∧ (b : Int) ∈ brF (gr ys i) j) := by
  unfold repL mvA mvB
  rw [List.mem_append, List.mem_map, List.mem_map]
  constructor
  · rintro (⟨x, hx, e⟩ | ⟨x, hx, e⟩)
    · simp only [List.cons.injEq, and_true] at e
      exact .inl ⟨by omega, by rw [← e.1]; exact hx⟩
    · simp only [List.cons.injEq, and_true] at e
      exact .inr ⟨by omega, by rw [← e.2]; exact hx⟩
  · rintro (⟨rfl, h⟩ | ⟨rfl, h⟩)
    · exact .inl ⟨_, h, rfl⟩
    · exact .inr ⟨_, h, rfl⟩
theorem repL_flip {xs ys : List (List Int)} {n m i j a b : Nat} (hi : i < n) (hj : j < m) (hl : (gr ys i).length = m) : [(b : Int), (a : Int)] ∈ repL (flip ys n m) (flip xs n m) m j i ↔ [(a : Int), (b : Int)] ∈ repL xs ys n i j := by
  have e : colOf (flip ys n m) m i = gr ys i := gi_ext (by rw [colOf_len, hl]) fun k hk => by
    rw [colOf_len] at hk
    rw [gi_colOf hk, g2_flip hk hi]; rfl
  rw [repL_pair, repL_pair, e, flip_colOf hj]
  exact Or.comm
theorem eF_flip {xs ys : List (List Int)} (v : VG xs ys) {n m : Nat} (hn : xs.length = n) (hm : (gr xs 0).length = m) : ∀ k i j, i < n → j < m → eF (flip ys n m) (flip xs n m) m k j i = eF xs ys n k i j := by
  have key : ∀ i j, i < n → j < m → ∀ P : Nat → Nat → Bool, (∀ a b, a < n → b < m → P a b = true) ∨ True → True := fun _ _ _ _ _ _ => trivial
  clear key
  have hry : ∀ i, i < n → (gr ys i).length = m := fun i hi => by rw [← hm]; exact v.rowy (by rw [hn]; exact hi)
  have hrf : ∀ j, j < m → (gr (flip xs n m) j).length = n := fun j hj => by rw [flip_colOf hj, colOf_len]
  have pairs : ∀ i j, i < n → j < m → ∀ a b : Nat, [(b : Int), (a : Int)] ∈ repL (flip ys n m) (flip xs n m) m j i ↔ [(a : Int), (b : Int)] ∈ repL xs ys n i j := fun i j hi hj a b => repL_flip hi hj (hry i hi)
  intro k
  induction k with
  | zero =>
    intro i j hi hj
    rw [eF, eF]
    cases e : repL xs ys n i j with
    | nil =>
      cases e2 : repL (flip ys n m) (flip xs n m) m j i with
      | nil => rfl
      | cons x l =>
        obtain ⟨b, a, rfl, _, _⟩ := repL_in hj hi (hrf j hj) x (by rw [e2]; exact List.mem_cons_self ..)
        have := (pairs i j hi hj a b).1 (by rw [e2]; exact List.mem_cons_self ..)
        rw [e] at this; cases this
    | cons x l =>
      cases e2 : repL (flip ys n m) (flip xs n m) m j i with
      | cons x l => rfl
      | nil =>
        obtain ⟨a, b, rfl, _, _⟩ := repL_in hi hj (hry i hi) x (by rw [e]; exact List.mem_cons_self ..)
        have := (pairs i j hi hj a b).2 (by rw [e]; exact List.mem_cons_self ..)
        rw [e2] at this; cases this
  | succ k ih =>
    intro i j hi hj
    rw [eF, eF, Bool.eq_iff_iff, List.all_eq_true, List.all_eq_true]
    constructor
    · intro h r hr
      obtain ⟨a, b, rfl, ha, hb⟩ := repL_in hi hj (hry i hi) r hr
      have := h _ ((pairs i j hi hj a b).2 hr)
      simp only [gi, List.getD_cons_zero, List.getD_cons_succ, Int.toNat_natCast] at this ⊢
      rw [← ih a b ha hb]; exact this
    · intro h r hr
      obtain ⟨b, a, rfl, hb, ha⟩ := repL_in hj hi (hrf j hj) r hr
      have := h _ ((pairs i j hi hj a b).1 hr)
      simp only [gi, List.getD_cons_zero, List.getD_cons_succ, Int.toNat_natCast] at this ⊢
      rw [ih a b ha hb]; exact this
theorem ends_flip {xs ys : List (List Int)} (v : VG xs ys) : EnP (flip ys ys.length (gr ys 0).length) (flip xs xs.length (gr xs 0).length) ↔ EnP xs ys := by
  have hn := v.n
  have hm := v.m
  have h1 := v.tb.m1
  have v2 := v.flip2
  have hl : (flip ys ys.length (gr ys 0).length).length = (gr ys 0).length := flip_len _ _ _
  have hl0 : (gr (flip ys ys.length (gr ys 0).length) 0).length = ys.length := by rw [gr_flip h1]; simp
  rw [← hn, ← hm] at *
  constructor
  · intro h
    refine ⟨v, fun i j hi hj => ?_⟩
    have := h.all j i (by rw [hl]; exact hj) (by rw [hl0]; exact hi)
    rw [hl, hl0, eF_flip v rfl rfl _ i j hi hj, Nat.mul_comm] at this
    exact this
  · intro h
    refine ⟨v2, fun j i hj hi => ?_⟩
    rw [hl] at hj
    rw [hl0] at hi
    rw [hl, hl0, eF_flip v rfl rfl _ i j hi hj, Nat.mul_comm]
    exact h.all i j hi hj
end Go.Proofs.Ytjmfkodbilknlaa

