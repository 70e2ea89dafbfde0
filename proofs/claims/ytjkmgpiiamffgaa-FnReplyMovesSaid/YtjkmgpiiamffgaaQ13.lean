/- Texts merged: LiftB LiftC Enter LO1 LO2 C9 E9. -/
import Derived.Test.YtjkmgpiiamffgaaQ12
import Derived.ChangeSlices
/- An argument of bytes, opened. -/
namespace Go.Proofs.Ytjkmgpiiamffgaa
open Go.ChangeShapes Go.WideShapes Go.ChangeAt Go.RowKit Go.Deep

theorem Try.cells_u8 : Try.prog.cellsOf 5 = 1 := by kernel_rfl
theorem Try.bytes_u8 : Try.prog.bytesOf 5 = 1 := by kernel_rfl
set_option maxRecDepth 100000 in
theorem open_bytes {H : Type} {enc : TypeId × Value → H} {W : World} {v : Value} {d : DataW H} {p : List MemPlace} {b0 : Nat} (hval : Value.okWide Try.prog W .any b0 22 v)
    (h : DataW.Trod enc Try.prog W 0 (fun _ => true) true 22 v d p) (hw : ∀ n ∈ d.weights Try.prog 22, n ≤ reachBytes) :
    ∃ A n c, v = .slice A n c ∧ Bytes W A n c := by
  obtain ⟨a1, len, cap, rfl⟩ := okWide_slice Try.underlying22 hval
  obtain ⟨fuel, hf⟩ := h
  rcases open_ints Try.underlying22 Try.underlying5 Try.cells_u8 hf with ⟨hcs, hx⟩ | ⟨a, len', cap', zs, hcs, _, hl, hm, hz, hx, hcell, hwz⟩
  · simp [Value.cells] at hcs
    obtain ⟨rfl, rfl, rfl⟩ := hcs
    exact ⟨none, 0, 0, rfl, Nat.le_refl _, by omega, fun h => absurd h (by omega)⟩
  · simp [Value.cells] at hcs
    obtain ⟨rfl, rfl, rfl⟩ := hcs
    simp only [Prod.mk.injEq] at hx
    obtain ⟨rfl, rfl⟩ := hx
    simp only [if_true] at hz
    have h1 := hw _ (weights_slice Try.underlying22 (.inl rfl))
    simp only [lits, List.length_map, List.length_take, List.length_drop, Try.bytes_u8, reachBytes] at h1
    refine ⟨some a, len, cap, rfl, hl, by omega, fun hn => ?_⟩
    have hspot : a.spot = none := by simpa [Addr.add] using World.cell?_spot (hcell 0 (by omega))
    obtain ⟨b, o, sp⟩ := a
    simp only at hspot
    subst hspot
    refine ⟨b, o, rfl, fun k hk => ⟨zs.getD k 0, ?_, ?_, by rw [← add_plain]; exact hcell k (by omega)⟩⟩
    · rw [List.getD_eq_getElem?_getD]; have := hwz (zs.getD k 0) (by rw [List.getD_eq_getElem?_getD, List.getElem?_eq_getElem (show k < zs.length by omega)]; simp)
      simp [Lit.wf, IntKind.min, IntKind.max, IntKind.signed, IntKind.bits] at this
      omega
    · rw [List.getD_eq_getElem?_getD]; have := hwz (zs.getD k 0) (by rw [List.getD_eq_getElem?_getD, List.getElem?_eq_getElem (show k < zs.length by omega)]; simp)
      simp [Lit.wf, IntKind.min, IntKind.max, IntKind.signed, IntKind.bits] at this
      omega
end Go.Proofs.Ytjkmgpiiamffgaa

/- Arguments that are a slice of ints, or an int, opened. -/
namespace Go.Proofs.Ytjkmgpiiamffgaa
open Go.ChangeShapes Go.WideShapes Go.ChangeAt Go.RowKit Go.Deep

set_option maxRecDepth 100000 in
theorem open_intS {H : Type} {enc : TypeId × Value → H} {W : World} {v : Value} {d : DataW H} {p : List MemPlace} {b0 : Nat} (hval : Value.okWide Try.prog W .any b0 30 v)
    (h : DataW.Trod enc Try.prog W 0 (fun _ => true) true 30 v d p) (hw : ∀ n ∈ d.weights Try.prog 30, n ≤ reachBytes) :
    ∃ A n c xs, v = .slice A n c ∧ Ints W A n c xs := by
  obtain ⟨a1, len, cap, rfl⟩ := okWide_slice Try.underlying30 hval
  obtain ⟨fuel, hf⟩ := h
  rcases open_ints Try.underlying30 Try.underlying3 Try.cells3 hf with ⟨hcs, hx⟩ | ⟨a, len', cap', zs, hcs, _, hl, hm, hz, hx, hcell, hwz⟩
  · simp [Value.cells] at hcs
    obtain ⟨rfl, rfl, rfl⟩ := hcs
    exact ⟨none, 0, 0, [], rfl, rfl, Nat.le_refl _, by omega, fun _ h => by simp at h, fun h => absurd h (by omega)⟩
  · simp [Value.cells] at hcs
    obtain ⟨rfl, rfl, rfl⟩ := hcs
    simp only [Prod.mk.injEq] at hx
    obtain ⟨rfl, rfl⟩ := hx
    simp only [if_true] at hz
    have h1 := hw _ (weights_slice Try.underlying30 (.inl rfl))
    simp only [lits, List.length_map, List.length_take, List.length_drop, Try.bytes3, reachBytes] at h1
    have hlen : (zs.take len).length = len := by rw [List.length_take]; omega
    refine ⟨some a, len, cap, zs.take len, rfl, hlen, hl, by omega, fun x hx => ?_, fun hn => ?_⟩
    · have := hwz x (List.mem_of_mem_take hx)
      simp [Lit.wf, IntKind.min, IntKind.max, IntKind.signed, IntKind.bits] at this
      omega
    have hspot : a.spot = none := by simpa [Addr.add] using World.cell?_spot (hcell 0 (by omega))
    obtain ⟨b, o, sp⟩ := a
    simp only at hspot
    subst hspot
    refine ⟨b, o, rfl, fun k hk => ?_⟩
    rw [← add_plain, hcell k (by omega)]
    congr 2
    rw [gi_get (by rw [hlen]; exact hk), List.getElem_take]
    simp [List.getD, show k < zs.length by omega]

set_option maxRecDepth 100000 in
theorem open_num {H : Type} {enc : TypeId × Value → H} {W : World} {v : Value} {d : DataW H} {p : List MemPlace} {b0 : Nat} (hval : Value.okWide Try.prog W .any b0 3 v)
    (h : DataW.Trod enc Try.prog W 0 (fun _ => true) true 3 v d p) : ∃ x, v = .int .i64 x ∧ Fit x := by
  obtain ⟨x, rfl, _, _, hw⟩ := open_int Try.underlying3 hval h
  refine ⟨x, rfl, ?_⟩
  simp [Lit.wf, IntKind.min, IntKind.max, IntKind.signed, IntKind.bits] at hw
  unfold Fit
  omega
end Go.Proofs.Ytjkmgpiiamffgaa

/- The program may be entered: facts of its head, once for all laws. -/
namespace Go.Proofs.Ytjkmgpiiamffgaa

theorem prog_enters : Try.pinned.checked.prog.mayEnter = true := by kernel_rfl
theorem prog_lifts0 : (false == Try.pinned.checked.prog.liftsFinal) = true := by kernel_rfl
theorem prog_make0 : (Try.pinned.checked.prog.make == some .cut) = true := by kernel_rfl
theorem prog_lifts {b : Bool} (h : b = false) : (b == Try.pinned.checked.prog.liftsFinal) = true := by subst h; exact prog_lifts0
theorem prog_make {m : Make} (h : m = .cut) : (Try.pinned.checked.prog.make == some m) = true := by subst h; exact prog_make0
end Go.Proofs.Ytjkmgpiiamffgaa

/- What is left over, by the model: numbers up to n, beaten rows, rows that are kept. -/
namespace Go.Proofs.Ytjkmgpiiamffgaa
open Go.RowKit

/-- Row r is more than row i in all of the first l columns told. -/
def BeatC (a : List (List Int)) (cols : List Int) (r i l : Nat) : Prop := ∀ y, y < l → g2 a i (gi cols y).toNat < g2 a r (gi cols y).toNat
theorem BeatC.zero (a : List (List Int)) (cols : List Int) (r i : Nat) : BeatC a cols r i 0 := fun _ h => absurd h (by omega)
theorem BeatC.succ {a : List (List Int)} {cols : List Int} {r i l : Nat} : BeatC a cols r i (l + 1) ↔ BeatC a cols r i l ∧ g2 a i (gi cols l).toNat < g2 a r (gi cols l).toNat := by
  constructor
  · exact fun h => ⟨fun j hj => h j (by omega), h l (by omega)⟩
  · rintro ⟨h1, h2⟩ j hj
    by_cases e : j = l
    · subst e; exact h2
    · exact h1 j (by omega)
def Beaten (a : List (List Int)) (rows cols : List Int) (i : Nat) : Prop := ∃ x, x < rows.length ∧ BeatC a cols (gi rows x).toNat i cols.length
/-- The rows before place k that are not beaten. -/
noncomputable def keepL (a : List (List Int)) (rows cols : List Int) : Nat → List Int
  | 0 => []
  | k + 1 => keepL a rows cols k ++ (if pb (Beaten a rows cols (gi rows k).toNat) = true then [] else [gi rows k])
theorem keepL_no {a : List (List Int)} {rows cols : List Int} {k : Nat} (h : Beaten a rows cols (gi rows k).toNat) : keepL a rows cols (k + 1) = keepL a rows cols k := by rw [keepL, if_pos (pb_true h), List.append_nil]
theorem keepL_yes {a : List (List Int)} {rows cols : List Int} {k : Nat} (h : ¬ Beaten a rows cols (gi rows k).toNat) : keepL a rows cols (k + 1) = keepL a rows cols k ++ [gi rows k] := by rw [keepL, if_neg (by rw [pb_false h]; decide)]
theorem keepL_len (a : List (List Int)) (rows cols : List Int) : ∀ k, (keepL a rows cols k).length ≤ k
  | 0 => by simp [keepL]
  | k + 1 => by
    have := keepL_len a rows cols k
    rw [keepL, List.length_append]
    split <;> simp <;> omega
theorem keepL_mem (a : List (List Int)) (rows cols : List Int) : ∀ k, ∀ y ∈ keepL a rows cols k, ∃ j, j < k ∧ y = gi rows j
  | 0, y, h => by simp [keepL] at h
  | k + 1, y, h => by
    rw [keepL, List.mem_append] at h
    rcases h with h | h
    · obtain ⟨j, hj, e⟩ := keepL_mem a rows cols k y h; exact ⟨j, by omega, e⟩
    · split at h
      · simp at h
      · simp only [List.mem_singleton] at h; exact ⟨k, by omega, h⟩
/-- The numbers before n. -/
def upL (n : Nat) : List Int := (List.range n).map fun (k : Nat) => (k : Int)
theorem upL_succ (n : Nat) : upL (n + 1) = upL n ++ [(n : Int)] := by simp [upL, List.range_succ]
theorem upL_len (n : Nat) : (upL n).length = n := by simp [upL]
theorem upL_bd (n : Nat) : ∀ y ∈ upL n, 0 ≤ y ∧ y < (n : Int) := fun y h => by
  simp only [upL, List.mem_map, List.mem_range] at h
  obtain ⟨k, hk, rfl⟩ := h
  omega

end Go.Proofs.Ytjkmgpiiamffgaa

/- What is left over, as sets: f tells which of the first n numbers are left. Plain. -/
namespace Go.Proofs.Ytjkmgpiiamffgaa

theorem keepL_filter (a : List (List Int)) (rows cols : List Int) : ∀ k, k ≤ rows.length → keepL a rows cols k = (rows.take k).filter fun y => !pb (Beaten a rows cols y.toNat)
  | 0, _ => by simp [keepL]
  | k + 1, h => by
    have hk : k < rows.length := by omega
    rw [keepL, keepL_filter a rows cols k (by omega), List.take_succ_eq_append_getElem hk, List.filter_append, gi_get hk]
    congr 1
    cases e : pb (Beaten a rows cols (rows[k].toNat)) <;> simp [e]
theorem keepL_all (a : List (List Int)) (rows cols : List Int) : keepL a rows cols rows.length = rows.filter fun y => !pb (Beaten a rows cols y.toNat) := by
  rw [keepL_filter a rows cols _ (Nat.le_refl _), List.take_length]
/-- The numbers before n that f tells, ascending. -/
def selL (f : Nat → Bool) (n : Nat) : List Int := ((List.range n).filter f).map fun (k : Nat) => (k : Int)
theorem selL_up (n : Nat) : selL (fun _ => true) n = upL n := by unfold selL upL; rw [List.filter_eq_self.2 (fun _ _ => rfl)]
theorem selL_mem {f : Nat → Bool} {n : Nat} {y : Int} : y ∈ selL f n ↔ ∃ k : Nat, k < n ∧ f k = true ∧ y = k := by
  simp only [selL, List.mem_map, List.mem_filter, List.mem_range]
  constructor
  · rintro ⟨k, ⟨h1, h2⟩, rfl⟩; exact ⟨k, h1, h2, rfl⟩
  · rintro ⟨k, h1, h2, rfl⟩; exact ⟨k, ⟨h1, h2⟩, rfl⟩
theorem selL_len (f : Nat → Bool) (n : Nat) : (selL f n).length ≤ n := by
  have := List.length_filter_le f (List.range n)
  simp [selL] at this ⊢; exact this
theorem selL_bd {f : Nat → Bool} {n x : Nat} (h : x < (selL f n).length) : 0 ≤ gi (selL f n) x ∧ gi (selL f n) x < n := by
  rw [gi_get h]
  obtain ⟨k, hk, _, e⟩ := selL_mem.1 (List.getElem_mem h)
  omega
/-- Row i is beaten among those that f tells, against the columns that h tells. -/
def BT (a : List (List Int)) (f h : Nat → Bool) (n m i : Nat) : Prop := ∃ r, r < n ∧ f r = true ∧ ∀ y, y < m → h y = true → g2 a i y < g2 a r y
theorem beaten_sel {a : List (List Int)} {f h : Nat → Bool} {n m i : Nat} : Beaten a (selL f n) (selL h m) i ↔ BT a f h n m i := by
  constructor
  · rintro ⟨x, hx, hb⟩
    obtain ⟨r, hr, hf, e⟩ := selL_mem.1 (List.getElem_mem hx)
    refine ⟨r, hr, hf, fun y hy hh => ?_⟩
    obtain ⟨l, hl, e2⟩ := List.mem_iff_getElem.1 (selL_mem.2 ⟨y, hy, hh, rfl⟩ : (y : Int) ∈ selL h m)
    have := hb l hl
    rw [gi_get hl, e2, gi_get hx, e] at this
    simpa using this
  · rintro ⟨r, hr, hf, hb⟩
    obtain ⟨x, hx, e⟩ := List.mem_iff_getElem.1 (selL_mem.2 ⟨r, hr, hf, rfl⟩ : (r : Int) ∈ selL f n)
    refine ⟨x, hx, fun l hl => ?_⟩
    obtain ⟨y, hy, hh, e2⟩ := selL_mem.1 (List.getElem_mem hl)
    rw [gi_get hl, e2, gi_get hx, e]
    simpa using hb y hy hh
/-- Those that stay. -/
noncomputable def stayF (a : List (List Int)) (f h : Nat → Bool) (n m : Nat) : Nat → Bool := fun i => f i && !pb (BT a f h n m i)
theorem keepL_sel (a : List (List Int)) (f h : Nat → Bool) (n m : Nat) : keepL a (selL f n) (selL h m) (selL f n).length = selL (stayF a f h n m) n := by
  rw [keepL_all]
  unfold selL stayF
  rw [List.filter_map, List.filter_filter]
  congr 1
  apply List.filter_congr
  intro k _
  have e : pb (Beaten a (selL f n) (selL h m) k) = pb (BT a f h n m k) := pb_congr beaten_sel
  unfold selL at e
  simp only [Function.comp, Int.toNat_natCast]
  rw [e, Bool.and_comm]
/-- One round: first the rows, then the columns against the rows that stay. -/
noncomputable def loStep (a b : List (List Int)) (n m : Nat) (s : (Nat → Bool) × (Nat → Bool)) : (Nat → Bool) × (Nat → Bool) :=
  (stayF a s.1 s.2 n m, stayF b s.2 (stayF a s.1 s.2 n m) m n)
noncomputable def loIt (a b : List (List Int)) (n m : Nat) : Nat → (Nat → Bool) × (Nat → Bool)
  | 0 => (fun _ => true, fun _ => true)
  | k + 1 => loStep a b n m (loIt a b n m k)
/-- The same numbers before n and before m. -/
def SameS (n m : Nat) (s t : (Nat → Bool) × (Nat → Bool)) : Prop := (∀ i, i < n → s.1 i = t.1 i) ∧ ∀ j, j < m → s.2 j = t.2 j
theorem BT_congr {a : List (List Int)} {f f' h h' : Nat → Bool} {n m : Nat} (hf : ∀ i, i < n → f i = f' i) (hh : ∀ j, j < m → h j = h' j) (i : Nat) : BT a f h n m i ↔ BT a f' h' n m i := by
  constructor
  · rintro ⟨r, h1, h2, h3⟩; exact ⟨r, h1, by rw [← hf r h1]; exact h2, fun y hy e => h3 y hy (by rw [hh y hy]; exact e)⟩
  · rintro ⟨r, h1, h2, h3⟩; exact ⟨r, h1, by rw [hf r h1]; exact h2, fun y hy e => h3 y hy (by rw [← hh y hy]; exact e)⟩
theorem stayF_congr {a : List (List Int)} {f f' h h' : Nat → Bool} {n m : Nat} (hf : ∀ i, i < n → f i = f' i) (hh : ∀ j, j < m → h j = h' j) (i : Nat) (hi : i < n) : stayF a f h n m i = stayF a f' h' n m i := by
  unfold stayF; rw [hf i hi, pb_congr (BT_congr hf hh i)]
theorem loStep_congr {a b : List (List Int)} {n m : Nat} {s t : (Nat → Bool) × (Nat → Bool)} (h : SameS n m s t) : SameS n m (loStep a b n m s) (loStep a b n m t) := by
  have h1 : ∀ i, i < n → stayF a s.1 s.2 n m i = stayF a t.1 t.2 n m i := fun i hi => stayF_congr h.1 h.2 i hi
  exact ⟨h1, fun j hj => stayF_congr h.2 h1 j hj⟩
theorem SameS.trans {n m s t u} (h : SameS n m s t) (k : SameS n m t u) : SameS n m s u := ⟨fun i hi => (h.1 i hi).trans (k.1 i hi), fun j hj => (h.2 j hj).trans (k.2 j hj)⟩
theorem SameS.symm {n m s t} (h : SameS n m s t) : SameS n m t s := ⟨fun i hi => (h.1 i hi).symm, fun j hj => (h.2 j hj).symm⟩
theorem SameS.refl (n m : Nat) (s : (Nat → Bool) × (Nat → Bool)) : SameS n m s s := ⟨fun _ _ => rfl, fun _ _ => rfl⟩
/-- Where a round changes nothing, none behind it does. -/
theorem loIt_fix {a b : List (List Int)} {n m k : Nat} (h : SameS n m (loIt a b n m (k + 1)) (loIt a b n m k)) : ∀ l, SameS n m (loIt a b n m (k + l)) (loIt a b n m k)
  | 0 => SameS.refl _ _ _
  | l + 1 => (show SameS n m (loStep a b n m (loIt a b n m (k + l))) (loIt a b n m k) from (loStep_congr (loIt_fix h l)).trans h)
/-- Two rounds that change nothing agree. -/
theorem loIt_one {a b : List (List Int)} {n m k l : Nat} (h : SameS n m (loIt a b n m (k + 1)) (loIt a b n m k)) (h' : SameS n m (loIt a b n m (l + 1)) (loIt a b n m l)) : SameS n m (loIt a b n m k) (loIt a b n m l) := by
  by_cases e : k ≤ l
  · obtain ⟨d, rfl⟩ := Nat.le.dest e; exact (loIt_fix h d).symm
  · obtain ⟨d, rfl⟩ := Nat.le.dest (show l ≤ k by omega); exact loIt_fix h' d
theorem selL_congr {f g : Nat → Bool} {n : Nat} (h : ∀ i, i < n → f i = g i) : selL f n = selL g n := by
  unfold selL; congr 1; exact List.filter_congr fun k hk => h k (List.mem_range.1 hk)
/-- What stays is all, if it is as many. -/
theorem sel_same {f g : Nat → Bool} {n : Nat} (hs : ∀ i, g i = true → f i = true) (h : (selL g n).length = (selL f n).length) : ∀ i, i < n → g i = f i := by
  have hl : (selL f n).filter (fun y => g y.toNat) = selL g n := by
    unfold selL
    rw [List.filter_map, List.filter_filter]
    congr 1
    apply List.filter_congr
    intro k _
    simp only [Function.comp, Int.toNat_natCast]
    cases e : g k
    · simp
    · rw [hs k e]; rfl
  have hall : ∀ y ∈ selL f n, g y.toNat = true := List.length_filter_eq_length_iff.1 (by rw [hl]; exact h)
  intro i hi
  cases e : f i
  · cases e2 : g i
    · rfl
    · rw [hs i e2] at e; cases e
  · simpa using hall i (selL_mem.2 ⟨i, hi, e, rfl⟩)
theorem stay_sub {a : List (List Int)} {f h : Nat → Bool} {n m i : Nat} (e : stayF a f h n m i = true) : f i = true := by
  unfold stayF at e; simp at e; exact e.1
theorem stay_le (a : List (List Int)) (f h : Nat → Bool) (n m : Nat) : (selL (stayF a f h n m) n).length ≤ (selL f n).length := by
  rw [← keepL_sel]; exact keepL_len a (selL f n) (selL h m) _
/-- As many as before: nothing was left out. -/
theorem lo_same {a b : List (List Int)} {n m : Nat} {s : (Nat → Bool) × (Nat → Bool)}
    (h : (selL (loStep a b n m s).1 n).length + (selL (loStep a b n m s).2 m).length = (selL s.1 n).length + (selL s.2 m).length) : SameS n m (loStep a b n m s) s := by
  have h1 := stay_le a s.1 s.2 n m
  have h2 := stay_le b s.2 (stayF a s.1 s.2 n m) m n
  simp only [loStep] at h
  exact ⟨sel_same (fun i => stay_sub) (by show (selL (stayF a s.1 s.2 n m) n).length = _; omega), sel_same (fun i => stay_sub) (by show (selL (stayF b s.2 (stayF a s.1 s.2 n m) m n) m).length = _; omega)⟩
theorem lo_less {a b : List (List Int)} {n m : Nat} {s : (Nat → Bool) × (Nat → Bool)}
    (h : (selL (loStep a b n m s).1 n).length + (selL (loStep a b n m s).2 m).length ≠ (selL s.1 n).length + (selL s.2 m).length) : (selL (loStep a b n m s).1 n).length + (selL (loStep a b n m s).2 m).length < (selL s.1 n).length + (selL s.2 m).length := by
  have h1 := stay_le a s.1 s.2 n m
  have h2 := stay_le b s.2 (stayF a s.1 s.2 n m) m n
  simp only [loStep] at h ⊢
  omega
end Go.Proofs.Ytjkmgpiiamffgaa

/- Tables as arrays of nine numbers. -/
namespace Go.Proofs.Ytjkmgpiiamffgaa
open Go.RowKit

/-- Nine cells, three rows one behind the other. -/
def cs9 (f : Nat → Nat → Int) : Array Value := #[.int .i64 (f 0 0), .int .i64 (f 0 1), .int .i64 (f 0 2), .int .i64 (f 1 0), .int .i64 (f 1 1), .int .i64 (f 1 2), .int .i64 (f 2 0), .int .i64 (f 2 1), .int .i64 (f 2 2)]
def upd9 (f : Nat → Nat → Int) (i j : Nat) (v : Int) : Nat → Nat → Int := fun r c => if r = i ∧ c = j then v else f r c
theorem lt3 {i : Nat} (h : i < 3) : i = 0 ∨ i = 1 ∨ i = 2 := by omega
theorem cs9_get (f : Nat → Nat → Int) {i j : Nat} (hi : i < 3) (hj : j < 3) : (cs9 f)[i * 3 + j]? = some (.int .i64 (f i j)) := by
  rcases lt3 hi with rfl | rfl | rfl <;> rcases lt3 hj with rfl | rfl | rfl <;> rfl
theorem cs9_congr {f g : Nat → Nat → Int} (h : ∀ r c, r < 3 → c < 3 → f r c = g r c) : cs9 f = cs9 g := by
  unfold cs9
  rw [h 0 0 (by omega) (by omega), h 0 1 (by omega) (by omega), h 0 2 (by omega) (by omega), h 1 0 (by omega) (by omega), h 1 1 (by omega) (by omega), h 1 2 (by omega) (by omega), h 2 0 (by omega) (by omega), h 2 1 (by omega) (by omega), h 2 2 (by omega) (by omega)]
theorem cs9_set (f : Nat → Nat → Int) {i j : Nat} (hi : i < 3) (hj : j < 3) (v : Int) : (cs9 f).setIfInBounds (i * 3 + j) (.int .i64 v) = cs9 (upd9 f i j v) := by
  rcases lt3 hi with rfl | rfl | rfl <;> rcases lt3 hj with rfl | rfl | rfl <;> rfl
/-- A table filled up to row i, column j. -/
def part9 (a : List (List Int)) (m i j : Nat) : Nat → Nat → Int := fun r c => if (r < i ∨ r = i ∧ c < j) ∧ c < m then g2 a r c else 0
def full9 (a : List (List Int)) (n m : Nat) : Nat → Nat → Int := fun r c => if r < n ∧ c < m then g2 a r c else 0
theorem part9_zero (a : List (List Int)) (m : Nat) : cs9 (part9 a m 0 0) = cs9 (fun _ _ => 0) := cs9_congr fun r c _ _ => by unfold part9; rw [if_neg (by omega)]
theorem part9_next (a : List (List Int)) (m i j : Nat) (hj : j < m) : cs9 (upd9 (part9 a m i j) i j (g2 a i j)) = cs9 (part9 a m i (j + 1)) := cs9_congr fun r c _ _ => by
  unfold upd9 part9
  by_cases e : r = i ∧ c = j
  · obtain ⟨rfl, rfl⟩ := e; rw [if_pos ⟨rfl, rfl⟩, if_pos (by omega)]
  · rw [if_neg e]
    by_cases h : (r < i ∨ r = i ∧ c < j) ∧ c < m
    · rw [if_pos h, if_pos (by omega)]
    · rw [if_neg h, if_neg (by omega)]
theorem part9_row (a : List (List Int)) (m i : Nat) : cs9 (part9 a m i m) = cs9 (part9 a m (i + 1) 0) := cs9_congr fun r c _ _ => by
  unfold part9
  by_cases h : (r < i ∨ r = i ∧ c < m) ∧ c < m
  · rw [if_pos h, if_pos (by omega)]
  · rw [if_neg h, if_neg (by omega)]
theorem part9_all (a : List (List Int)) (n m : Nat) : cs9 (part9 a m n 0) = cs9 (full9 a n m) := cs9_congr fun r c _ _ => by
  unfold part9 full9
  by_cases h : r < n ∧ c < m
  · rw [if_pos h, if_pos (by omega)]
  · rw [if_neg h, if_neg (by omega)]
abbrev agg9 (f : Nat → Nat → Int) : Value := .agg (cs9 f)
end Go.Proofs.Ytjkmgpiiamffgaa

/- Arrays compared: three numbers, three bools, nine numbers. -/
namespace Go.Proofs.Ytjkmgpiiamffgaa
open Go.RowKit

theorem info_i1 : (Try.prog.info? 3).map (·.size) = some 1 := by kernel_rfl
theorem run_sizeOf' {t : TypeId} {n : Nat} (h : (Try.prog.info? t).map (·.size) = some n) (w : World) : (sizeOf t).run Try.prog w = .ok n w := by
  cases hq : Try.prog.info? t with
  | none => simp [hq] at h
  | some i => simp [hq] at h; simp [sizeOf, typeInfo, hq, h]
theorem und_int : Try.prog.underlying 3 = some (.int .i64) := by kernel_rfl
theorem run_isAgg_no (w : World) : (isAgg 3).run Try.prog w = .ok false w := by
  unfold isAgg; rw [Sem.run_bind, run_underlying und_int w]; rfl
theorem run_part_int {cs : Array Value} {k : Nat} {v : Value} (h : cs[k]? = some v) (w : World) : (part 3 cs k).run Try.prog w = .ok v w := by
  unfold part; rw [Sem.run_bind, run_isAgg_no]; simp [h]
end Go.Proofs.Ytjkmgpiiamffgaa

