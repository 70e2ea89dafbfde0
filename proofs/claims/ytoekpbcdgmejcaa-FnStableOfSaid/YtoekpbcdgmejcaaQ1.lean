/- Texts merged: Mem Math1 Math3 Math4 Math5 Simplex Math6 Math7 A1 A2 Own Math8 B1 S1 LitI. -/
import Derived.Test.YtoekpbcdgmejcaaRows
import Derived.WalkKit
import Derived.WalkSpells
import Derived.WalkLawsBesides
import Derived.Deep.QuietTactic
import Derived.BigQuiet
import Derived.Lib.Hide
import Derived.Deep.Matrix
import Derived.Deep.AppendLies
import Derived.Deep.Draws
import Derived.Maps.AppendAt
import Derived.Deep.OwnRows
/- Words for memory: slices of ints and slices of these, as lists. -/
namespace Go.Proofs.Ytoekpbcdgmejcaa
open Go.RowKit

/-- The element of a list at a place, 0 behind its end; the row at a place. -/
def gi (xs : List Int) (k : Nat) : Int := xs.getD k 0
def gr (xss : List (List Int)) (k : Nat) : List Int := xss.getD k []
theorem gi_get {xs : List Int} {k : Nat} (h : k < xs.length) : gi xs k = xs[k] := by simp [gi, List.getD, List.getElem?_eq_getElem h]
theorem gr_get {xs : List (List Int)} {k : Nat} (h : k < xs.length) : gr xs k = xs[k] := by simp [gr, List.getD, List.getElem?_eq_getElem h]
theorem gi_mem {xs : List Int} {k : Nat} (h : k < xs.length) : gi xs k ∈ xs := by rw [gi_get h]; exact List.getElem_mem h
theorem gr_mem {xs : List (List Int)} {k : Nat} (h : k < xs.length) : gr xs k ∈ xs := by rw [gr_get h]; exact List.getElem_mem h
theorem gi_ext {xs ys : List Int} (hl : xs.length = ys.length) (h : ∀ k, k < xs.length → gi xs k = gi ys k) : xs = ys :=
  List.ext_getElem hl fun i h1 h2 => by rw [← gi_get h1, ← gi_get h2]; exact h i h1
theorem gr_ext {xs ys : List (List Int)} (hl : xs.length = ys.length) (h : ∀ k, k < xs.length → gr xs k = gr ys k) : xs = ys :=
  List.ext_getElem hl fun i h1 h2 => by rw [← gr_get h1, ← gr_get h2]; exact h i h1

theorem ret_int {k : IntKind} {a b : Int} (h : a = b) : Ending.returned (.int k a) = .returned (.int k b) := by rw [h]
theorem ret_bool {a b : Bool} (h : a = b) : Ending.returned (.bool a) = .returned (.bool b) := by rw [h]

def Quiet (w w' : World) : Prop := ∃ n, w' = w.drewN n
theorem Quiet.refl (w : World) : Quiet w w := ⟨0, rfl⟩
theorem Quiet.trans {a b c : World} (h : Quiet a b) (k : Quiet b c) : Quiet a c := by
  obtain ⟨n, rfl⟩ := h; obtain ⟨m, rfl⟩ := k; exact ⟨n + m, by rw [World.drewN_drewN]⟩

/-- A slice value whose cells read as ints. -/
structure Ints (w : World) (A : Option Addr) (n c : Nat) (xs : List Int) : Prop where
  len : xs.length = n
  cap : n ≤ c
  max : n ≤ 17592186044416
  wf : ∀ x ∈ xs, -9223372036854775808 ≤ x ∧ x ≤ 9223372036854775807
  at_ : 0 < n → ∃ b o, A = some ⟨b, o, none⟩ ∧ ∀ k, k < n → w.cell? ⟨b, o + k, none⟩ = some (.int .i64 (gi xs k))

theorem Quiet.two (w : World) (a b : Nat) : Quiet w ((w.drewN a).drewN b) := ⟨a + b, by rw [World.drewN_drewN]⟩

/-- A quiet callee, met in a quiet region: the draws add up. -/
theorem quiet_fit {P : Program} {f : FuncId} {args : Array Value} {W : World} {v : Value} {C : World → Prop}
    (h : Calls P f args W fun e w' => e = .returned v ∧ Quiet W w') (hC : ∀ m, C (W.drewN m)) : Calls P f args W fun e w' => e = .returned v ∧ C w' :=
  h.mono fun _ _ ⟨he, m, hm⟩ => ⟨he, by rw [hm]; exact hC m⟩
theorem same_fit {P : Program} {f : FuncId} {args : Array Value} {W : World} {v : Value} {C : World → Prop}
    (h : Calls P f args W fun e w' => e = .returned v ∧ W = w') (hC : ∀ m, C (W.drewN m)) : Calls P f args W fun e w' => e = .returned v ∧ C w' :=
  h.mono fun _ _ ⟨he, hm⟩ => ⟨he, by rw [← hm]; exact hC 0⟩
theorem drewN_to1 (w : World) (a b : Nat) : ∃ m, (w.drewN a).drewN b = w.drewN m := ⟨a + b, by rw [World.drewN_drewN]⟩
theorem drewN_to2 (w : World) (a b c : Nat) : ∃ m, (w.drewN (a + b)).drewN c = w.drewN (a + m) := ⟨b + c, by rw [World.drewN_drewN, Nat.add_assoc]⟩

/-- Every cell that was there reads as it did. -/
def Keep (w w' : World) : Prop := ∀ p u, w.cell? p = some u → w'.cell? p = some u
theorem Keep.refl (w : World) : Keep w w := fun _ _ h => h
theorem Keep.trans {a b c : World} (h : Keep a b) (k : Keep b c) : Keep a c := fun p u e => k p u (h p u e)
theorem Keep.drewN (w : World) (n : Nat) : Keep w (w.drewN n) := fun _ _ h => h
theorem Keep.below {w w' : World} (h : Below w.heap.size w w') : Keep w w' := fun p u e => by
  rw [h.cell (World.block_lt_of_cell? w p e)]; exact e
theorem Keep.quiet {w w' : World} (h : Quiet w w') : Keep w w' := by obtain ⟨n, rfl⟩ := h; exact Keep.drewN w n

theorem Ints.keep {w w' : World} {A n c xs} (h : Ints w A n c xs) (k : Keep w w') : Ints w' A n c xs :=
  ⟨h.len, h.cap, h.max, h.wf, fun hn => let ⟨b, o, e, hc⟩ := h.at_ hn; ⟨b, o, e, fun i hi => k _ _ (hc i hi)⟩⟩

structure IntRows (w : World) (A : Option Addr) (n c : Nat) (xss : List (List Int)) : Prop where
  len : xss.length = n
  cap : n ≤ c
  max : n ≤ 5864062014805
  at_ : 0 < n → ∃ b o, A = some ⟨b, o, none⟩ ∧ ∀ k, k < n → ∃ R cc, w.cell? ⟨b, o + k, none⟩ = some (.slice R (gr xss k).length cc) ∧ Ints w R (gr xss k).length cc (gr xss k)

theorem IntRows.keep {w w' : World} {A n c xs} (h : IntRows w A n c xs) (k : Keep w w') : IntRows w' A n c xs :=
  ⟨h.len, h.cap, h.max, fun hn => let ⟨b, o, e, hc⟩ := h.at_ hn; ⟨b, o, e, fun i hi => let ⟨R, cc, h1, h2⟩ := hc i hi; ⟨R, cc, k _ _ h1, h2.keep k⟩⟩⟩


/-- .. and which the call owns: in block b, from number lo up to less than hi, not frozen. -/
structure OwnI (lo hi : Nat) (w : World) (b : Nat) (A : Option Addr) (n c : Nat) (xs : List Int) : Prop where
  ints : Ints w A n c xs
  own : 0 < n → ∃ o, A = some ⟨b, o, none⟩ ∧ lo ≤ b ∧ b < hi ∧ ∀ k, k < n → w.frozen? ⟨b, o + k, none⟩ = false

theorem OwnI.lt {lo hi w b A n c xs} (h : OwnI lo hi w b A n c xs) (hn : 0 < n) : b < w.heap.size := by
  obtain ⟨b', o', e, hc⟩ := h.ints.at_ hn
  obtain ⟨o, e', _⟩ := h.own hn
  rw [e] at e'
  injection e' with e'
  injection e' with e1 _ _
  rw [← e1]
  exact World.block_lt_of_cell? w _ (hc 0 hn)
theorem OwnI.of_block {lo hi w w' b A n c xs} (h : OwnI lo hi w b A n c xs) (e : 0 < n → w'.heap[b]? = w.heap[b]?) : OwnI lo hi w' b A n c xs := by
  refine ⟨⟨h.ints.len, h.ints.cap, h.ints.max, h.ints.wf, fun hn => ?_⟩, fun hn => ?_⟩
  · obtain ⟨b', o', e1, hc⟩ := h.ints.at_ hn
    obtain ⟨o, e2, _⟩ := h.own hn
    rw [e1] at e2
    injection e2 with e2
    injection e2 with e2 _ _
    subst e2
    exact ⟨b', o', e1, fun k hk => by rw [World.cell?_of_block (w := w) (e hn)]; exact hc k hk⟩
  · obtain ⟨o, e2, hB, hB2, hf⟩ := h.own hn
    exact ⟨o, e2, hB, hB2, fun k hk => by rw [World.frozen?_of_block (w := w) (e hn)]; exact hf k hk⟩
theorem OwnI.mono {lo hi lo' hi' w b A n c xs} (h : OwnI lo hi w b A n c xs) (hB : lo' ≤ lo) (hB' : hi ≤ hi') : OwnI lo' hi' w b A n c xs :=
  ⟨h.ints, fun hn => let ⟨o, e, h1, h2, h3⟩ := h.own hn; ⟨o, e, Nat.le_trans hB h1, Nat.lt_of_lt_of_le h2 hB', h3⟩⟩
theorem OwnI.below {lo hi w w' b A n c xs} (h : OwnI lo hi w b A n c xs) (k : Below w.heap.size w w') : OwnI lo hi w' b A n c xs :=
  h.of_block fun hn => k.block _ (h.lt hn)
theorem OwnI.quiet {lo hi w w' b A n c xs} (h : OwnI lo hi w b A n c xs) (k : Quiet w w') : OwnI lo hi w' b A n c xs := by
  obtain ⟨m, rfl⟩ := k; exact h.of_block fun _ => rfl
theorem OwnI.nil (lo hi : Nat) (w : World) (b : Nat) : OwnI lo hi w b none 0 0 [] :=
  ⟨⟨rfl, Nat.le_refl _, by omega, fun _ h => by simp at h, fun h => absurd h (by omega)⟩, fun h => absurd h (by omega)⟩
/-- It returns v, and nothing that was there has turned. -/
def Ret (v : Value) (w : World) (e : Ending) (w' : World) : Prop := e = .returned v ∧ Below w.heap.size w w'

/-- Only blocks from lo up to less than hi have turned. -/
structure Touch (lo hi : Nat) (w w' : World) : Prop where
  os : w'.os = w.os
  tape : w'.tape = w.tape
  output : w'.output = w.output
  size : w'.heap.size = w.heap.size
  block : ∀ k, k < lo ∨ hi ≤ k → w'.heap[k]? = w.heap[k]?
theorem Touch.refl (lo hi : Nat) (w : World) : Touch lo hi w w := ⟨rfl, rfl, rfl, rfl, fun _ _ => rfl⟩
theorem Touch.trans {lo hi : Nat} {a b c : World} (h : Touch lo hi a b) (k : Touch lo hi b c) : Touch lo hi a c :=
  ⟨k.os.trans h.os, k.tape.trans h.tape, k.output.trans h.output, k.size.trans h.size, fun i hi => (k.block i hi).trans (h.block i hi)⟩
theorem Touch.mono {lo hi lo' hi' : Nat} {w w' : World} (h : Touch lo hi w w') (h1 : lo' ≤ lo) (h2 : hi ≤ hi') : Touch lo' hi' w w' :=
  ⟨h.os, h.tape, h.output, h.size, fun k hk => h.block k (by omega)⟩
theorem Touch.set {lo hi : Nat} {a w : World} (h : Touch lo hi a w) {p : Addr} (h1 : lo ≤ p.block) (h2 : p.block < hi) (u : Value) : Touch lo hi a (w.setCell p u) :=
  ⟨h.os, h.tape, h.output, by simpa [World.setCell] using h.size, fun k hk => (Below.heap_setCell _ _ _ _ (by omega)).trans (h.block k hk)⟩
theorem Touch.quiet {lo hi : Nat} {a w w' : World} (h : Touch lo hi a w) (k : Quiet w w') : Touch lo hi a w' := by
  obtain ⟨m, rfl⟩ := k; exact ⟨h.os, h.tape, h.output, h.size, h.block⟩
theorem Touch.below {lo hi B : Nat} {a w w' : World} (h : Below B a w) (k : Touch lo hi w w') (hB : B ≤ lo) : Below B a w' :=
  ⟨k.os.trans h.os, k.tape.trans h.tape, k.output.trans h.output, by rw [k.size]; exact h.size, fun i hi => (k.block i (.inl (by omega))).trans (h.block i hi)⟩
/-- A block that is known whole. -/
def Blk (w : World) (g : Nat) (t : TypeId) (cs : Array Value) : Prop := w.heap[g]? = some (.cells cs t (0, 0))
theorem blk_lt {w g t cs} (h : Blk w g t cs) : g < w.heap.size := (Array.getElem?_eq_some_iff.1 h).1
theorem blk_cell {w g t cs} (h : Blk w g t cs) {i : Nat} {v : Value} (hv : cs[i]? = some v) : w.cell? ⟨g, i, none⟩ = some v := by
  unfold Blk at h; simp [World.cell?, h, hv]
theorem blk_frozen {w g t cs} (h : Blk w g t cs) (i : Nat) : w.frozen? ⟨g, i, none⟩ = false := by
  unfold Blk at h; simp [World.frozen?, h]
theorem blk_new (w : World) (t : TypeId) (cs : Array Value) : Blk (w.alloc (.cells cs t)) w.heap.size t cs := heap_alloc_new w _
theorem blk_old {w g t cs} (h : Blk w g t cs) (o : Obj) : Blk (w.alloc o) g t cs := (Below.heap_alloc w o g (blk_lt h)).trans h
theorem blk_below {w w' g t cs} (h : Blk w g t cs) (k : Below w.heap.size w w') : Blk w' g t cs := (k.block g (blk_lt h)).trans h
theorem blk_touch {w w' g t cs lo hi} (h : Blk w g t cs) (k : Touch lo hi w w') (hd : g < lo ∨ hi ≤ g) : Blk w' g t cs := (k.block g hd).trans h
theorem blk_set {w g t cs} (h : Blk w g t cs) (i : Nat) (u : Value) : Blk (w.setCell ⟨g, i, none⟩ u) g t (cs.setIfInBounds i u) := by
  unfold Blk at h ⊢
  simp [World.setCell, Array.getElem?_modify, h]
theorem blk_other {w g t cs} (h : Blk w g t cs) {p : Addr} (hp : g ≠ p.block) (u : Value) : Blk (w.setCell p u) g t cs := (Below.heap_setCell w p u g hp).trans h
theorem blk_quiet {w w' g t cs} (h : Blk w g t cs) (k : Quiet w w') : Blk w' g t cs := by obtain ⟨m, rfl⟩ := k; exact h

theorem Quiet.below {B : Nat} {w w' : World} (h : Quiet w w') : Below B w w' := by
  obtain ⟨n, rfl⟩ := h; exact ⟨rfl, rfl, rfl, Nat.le_refl _, fun _ _ => rfl⟩
theorem below_drewN {B : Nat} {a w : World} (h : Below B a w) (n : Nat) : Below B a (w.drewN n) := ⟨h.os, h.tape, h.output, h.size, h.block⟩
theorem below_alloc (w : World) (o : Obj) : Below w.heap.size w (w.alloc o) := (Below.refl _ _).alloc (Nat.le_refl _) o
theorem below_up {w w1 w2 : World} (h : Below w.heap.size w w1) (k : Below w1.heap.size w1 w2) : Below w.heap.size w w2 := h.trans (k.mono h.size)
theorem below_quiet {w w1 w2 : World} (h : Below w.heap.size w w1) (k : Quiet w1 w2) : Below w.heap.size w w2 := by obtain ⟨m, rfl⟩ := k; exact below_drewN h m

theorem OwnI.of_rowIs {lo hi w g n} {xs : List Int} (hl : xs.length = n) (hm : n ≤ 17592186044416) (hw : ∀ x ∈ xs, -9223372036854775808 ≤ x ∧ x ≤ 9223372036854775807)
    (hB : lo ≤ g) (hB' : g < hi) {f : Nat → Value} (h : w.rowIs g 3 n f) (hf : ∀ k, k < n → f k = .int .i64 (gi xs k)) : OwnI lo hi w g (some ⟨g, 0, none⟩) n n xs :=
  ⟨⟨hl, Nat.le_refl _, hm, hw, fun _ => ⟨g, 0, rfl, fun k hk => by rw [Nat.zero_add, h.cell hk, hf k hk]⟩⟩, fun _ => ⟨0, rfl, hB, hB', fun k _ => by rw [Nat.zero_add]; exact h.frozen k⟩⟩

/-- Rows of their own, each in a block of its own. -/
structure OwnR (lo hi : Nat) (w : World) (b : Nat) (A : Option Addr) (n c : Nat) (xss : List (List Int)) : Prop where
  len : xss.length = n
  cap : n ≤ c
  max : n ≤ 5864062014805
  at_ : 0 < n → ∃ (o : Nat) (G : Nat → Nat) (R : Nat → Option Addr) (C : Nat → Nat), A = some ⟨b, o, none⟩ ∧ lo ≤ b ∧ b < hi ∧ (∀ k, k < n → w.frozen? ⟨b, o + k, none⟩ = false ∧
      w.cell? ⟨b, o + k, none⟩ = some (.slice (R k) (gr xss k).length (C k)) ∧ OwnI lo hi w (G k) (R k) (gr xss k).length (C k) (gr xss k) ∧ (0 < (gr xss k).length → G k ≠ b)) ∧
      ∀ j k, j < k → k < n → 0 < (gr xss j).length → 0 < (gr xss k).length → G j ≠ G k

theorem OwnR.rows {lo hi w b A n c xss} (h : OwnR lo hi w b A n c xss) : IntRows w A n c xss :=
  ⟨h.len, h.cap, h.max, fun hn => by
    obtain ⟨o, G, R, C, e, _, _, hr, _⟩ := h.at_ hn
    exact ⟨b, o, e, fun k hk => ⟨R k, C k, (hr k hk).2.1, (hr k hk).2.2.1.ints⟩⟩⟩
theorem OwnR.lt {lo hi w b A n c xss} (h : OwnR lo hi w b A n c xss) (hn : 0 < n) : b < w.heap.size := by
  obtain ⟨o, G, R, C, e, _, _, hr, _⟩ := h.at_ hn
  exact World.block_lt_of_cell? w _ (hr 0 hn).2.1
theorem OwnR.mono {lo hi lo' hi' w b A n c xss} (h : OwnR lo hi w b A n c xss) (hB : lo' ≤ lo) (hB' : hi ≤ hi') : OwnR lo' hi' w b A n c xss :=
  ⟨h.len, h.cap, h.max, fun hn => by
    obtain ⟨o, G, R, C, e, h1, h2, hr, hd⟩ := h.at_ hn
    exact ⟨o, G, R, C, e, Nat.le_trans hB h1, Nat.lt_of_lt_of_le h2 hB', fun k hk => ⟨(hr k hk).1, (hr k hk).2.1, (hr k hk).2.2.1.mono hB hB', (hr k hk).2.2.2⟩, hd⟩⟩
theorem OwnR.of_blocks {lo hi w w' b A n c xss} (h : OwnR lo hi w b A n c xss) (e : ∀ g, lo ≤ g → g < hi → g < w.heap.size → w'.heap[g]? = w.heap[g]?) : OwnR lo hi w' b A n c xss :=
  ⟨h.len, h.cap, h.max, fun hn => by
    have hbl := h.lt hn
    obtain ⟨o, G, R, C, ea, h1, h2, hr, hd⟩ := h.at_ hn
    have eb := e b h1 h2 hbl
    refine ⟨o, G, R, C, ea, h1, h2, fun k hk => ⟨?_, ?_, (hr k hk).2.2.1.of_block fun hp => ?_, (hr k hk).2.2.2⟩, hd⟩
    · rw [World.frozen?_of_block (w := w) eb]; exact (hr k hk).1
    · rw [World.cell?_of_block (w := w) eb]; exact (hr k hk).2.1
    · obtain ⟨_, _, hB, hB2, _⟩ := (hr k hk).2.2.1.own hp
      exact e _ hB hB2 ((hr k hk).2.2.1.lt hp)⟩
theorem OwnR.below {lo hi w w' b A n c xss} (h : OwnR lo hi w b A n c xss) (k : Below w.heap.size w w') : OwnR lo hi w' b A n c xss := h.of_blocks fun g _ _ hg => k.block g hg
theorem OwnR.quiet {lo hi w w' b A n c xss} (h : OwnR lo hi w b A n c xss) (k : Quiet w w') : OwnR lo hi w' b A n c xss := by
  obtain ⟨m, rfl⟩ := k; exact h.of_blocks fun _ _ _ _ => rfl
theorem OwnR.nil (lo hi : Nat) (w : World) (b : Nat) : OwnR lo hi w b none 0 0 [] := ⟨rfl, Nat.le_refl _, by omega, fun h => absurd h (by omega)⟩

/-- What lies elsewhere stays. -/
theorem OwnI.touch {lo hi lo' hi' w w' b A n c xs} (h : OwnI lo hi w b A n c xs) (k : Touch lo' hi' w w') (hd : hi ≤ lo' ∨ hi' ≤ lo) : OwnI lo hi w' b A n c xs :=
  h.of_block fun hn => k.block _ (by obtain ⟨_, _, h1, h2, _⟩ := h.own hn; omega)
theorem OwnR.touch {lo hi lo' hi' w w' b A n c xss} (h : OwnR lo hi w b A n c xss) (k : Touch lo' hi' w w') (hd : hi ≤ lo' ∨ hi' ≤ lo) : OwnR lo hi w' b A n c xss :=
  h.of_blocks fun g h1 h2 _ => k.block g (by omega)
/-- What lies below a number stays. -/
theorem Ints.touch {lo hi w w' A n c xs} (h : Ints w A n c xs) (k : Touch lo hi w w') {B : Nat} (hB : B ≤ lo) (hb : ∀ b o, 0 < n → A = some ⟨b, o, none⟩ → b < B) : Ints w' A n c xs :=
  ⟨h.len, h.cap, h.max, h.wf, fun hn => let ⟨b, o, e, hc⟩ := h.at_ hn; ⟨b, o, e, fun i hi => by rw [World.cell?_of_block (w := w) (k.block b (.inl (by have := hb b o hn e; omega)))]; exact hc i hi⟩⟩

end Go.Proofs.Ytoekpbcdgmejcaa

/- Chapter 1 as plain functions on lists. -/
namespace Go.Proofs.Ytoekpbcdgmejcaa

noncomputable def pb (p : Prop) : Bool := @decide p (Classical.propDecidable p)
theorem pb_true {p : Prop} (h : p) : pb p = true := by unfold pb; exact @decide_eq_true p (Classical.propDecidable p) h
theorem pb_false {p : Prop} (h : ¬ p) : pb p = false := by unfold pb; exact @decide_eq_false p (Classical.propDecidable p) h
theorem pb_iff {p : Prop} : pb p = true ↔ p := ⟨fun h => by unfold pb at h; exact @of_decide_eq_true p (Classical.propDecidable p) h, pb_true⟩
theorem pb_congr {p q : Prop} (h : p ↔ q) : pb p = pb q := by rw [propext h]

def InR (n lo hi : Int) : Prop := lo ≤ n ∧ n ≤ hi
def RowOk (a : List (List Int)) (i : Nat) : Prop := (gr a i).length = (gr a 0).length ∧ ∀ j, j < (gr a i).length → InR (gi (gr a i) j) (-9) 9
/-- A table: one to three rows of as many numbers, one to three, from -9 to 9. -/
structure VT (a : List (List Int)) : Prop where
  rows : ∀ i, i < a.length → RowOk a i
  n1 : 1 ≤ a.length
  n3 : a.length ≤ 3
  m1 : 1 ≤ (gr a 0).length
  m3 : (gr a 0).length ≤ 3

def RowV (r : List Int) : Prop := 1 ≤ r.length ∧ r.length ≤ 3 ∧ ∀ j, j < r.length → InR (gi r j) (-9) 9
theorem RowV_no {r : List Int} {j : Nat} (hj : j < r.length) (h : ¬ InR (gi r j) (-9) 9) : pb (RowV r) = false := pb_false fun v => h (v.2.2 j hj)
theorem VT_rowV {a : List (List Int)} (v : VT a) {i : Nat} (hi : i < a.length) : RowV (gr a i) := by
  have h := v.rows i hi
  have h1 := v.m1
  have h3 := v.m3
  exact ⟨by rw [h.1]; exact h1, by rw [h.1]; exact h3, h.2⟩
theorem VT_of {a : List (List Int)} (h1 : 1 ≤ a.length) (h3 : a.length ≤ 3) (h : ∀ i, i < a.length → (gr a i).length = (gr a 0).length ∧ RowV (gr a i)) : VT a :=
  ⟨fun i hi => ⟨(h i hi).1, (h i hi).2.2.2⟩, h1, h3, (h 0 (by omega)).2.1, (h 0 (by omega)).2.2.1⟩

structure VG (a b : List (List Int)) : Prop where
  ta : VT a
  tb : VT b
  n : a.length = b.length
  m : (gr a 0).length = (gr b 0).length

def g2 (a : List (List Int)) (i j : Nat) : Int := gi (gr a i) j
theorem VT.bd {a : List (List Int)} (v : VT a) {i j : Nat} (hi : i < a.length) (hj : j < (gr a 0).length) : -9 ≤ g2 a i j ∧ g2 a i j ≤ 9 := by
  have h := v.rows i hi
  exact h.2 j (by rw [h.1]; exact hj)

/-- The changes round four places. -/
def rnd (a b : List (List Int)) (i k j l : Nat) : Int := g2 a k j - g2 a i j + (g2 b k l - g2 b k j) + (g2 a i l - g2 a k l) + (g2 b i j - g2 b i l)
structure NR (a b : List (List Int)) : Prop where
  vg : VG a b
  no : ∀ i k j l, i < a.length → k < a.length → j < (gr a 0).length → l < (gr a 0).length → rnd a b i k j l = 0
theorem NR_half {a b : List (List Int)} (v : VG a b) (h : ∀ i k j l, i < a.length → k < i → j < (gr a 0).length → l < j → rnd a b i k j l = 0) : NR a b := by
  refine ⟨v, fun i k j l hi hk hj hl => ?_⟩
  have s1 : rnd a b i k j l = - rnd a b k i j l := by unfold rnd; omega
  have s2 : rnd a b i k j l = - rnd a b i k l j := by unfold rnd; omega
  have s3 : rnd a b i k j l = rnd a b k i l j := by unfold rnd; omega
  rcases Nat.lt_trichotomy k i with h1 | h1 | h1 <;> rcases Nat.lt_trichotomy l j with h2 | h2 | h2
  · exact h i k j l hi h1 hj h2
  · subst h2; unfold rnd; omega
  · rw [s2, h i k l j hi h1 hl h2]; rfl
  · subst h1; unfold rnd; omega
  · subst h1; unfold rnd; omega
  · subst h1; unfold rnd; omega
  · rw [s1, h k i j l hk h1 hj h2]; rfl
  · subst h2; unfold rnd; omega
  · rw [s3, h k i l j hk h1 hl h2]

/-- The least of the first k + 1 numbers; of a row. -/
def mn (xs : List Int) : Nat → Int
  | 0 => gi xs 0
  | k + 1 => min (mn xs k) (gi xs (k + 1))
def lst (xs : List Int) : Int := mn xs (xs.length - 1)
theorem mn_bd {xs : List Int} {lo hi : Int} : ∀ {k : Nat}, (∀ j, j ≤ k → lo ≤ gi xs j ∧ gi xs j ≤ hi) → lo ≤ mn xs k ∧ mn xs k ≤ hi
  | 0, h => h 0 (Nat.le_refl _)
  | k + 1, h => by
    have h1 := mn_bd (k := k) fun j hj => h j (by omega)
    have h2 := h (k + 1) (Nat.le_refl _)
    simp only [mn]
    omega
/-- The first row with the greatest least number, of the first k rows. -/
def bst (a : List (List Int)) : Nat → Nat
  | 0 => 0
  | k + 1 => if lst (gr a (bst a k)) < lst (gr a k) then k else bst a k
theorem bst_one (a : List (List Int)) : bst a 1 = 0 := by simp [bst]
theorem bst_lt (a : List (List Int)) : ∀ {k : Nat}, 0 < k → bst a k < k
  | 0, h => absurd h (by omega)
  | k + 1, _ => by
    rw [bst]
    split
    · omega
    · rcases Nat.eq_zero_or_pos k with h | h
      · subst h; simp [bst]
      · have := bst_lt a h; omega
theorem bst_up {a : List (List Int)} {k : Nat} (h : lst (gr a (bst a k)) < lst (gr a k)) : bst a (k + 1) = k := by rw [bst, if_pos h]
theorem bst_same {a : List (List Int)} {k : Nat} (h : ¬ lst (gr a (bst a k)) < lst (gr a k)) : bst a (k + 1) = bst a k := by rw [bst, if_neg h]

/-- Neither player has more by another act. -/
def RestAt (a b : List (List Int)) (n m i j : Nat) : Prop := (∀ k, k < n → g2 a k j ≤ g2 a i j) ∧ ∀ k, k < m → g2 b i k ≤ g2 b i j
noncomputable def rowRests (a b : List (List Int)) (n m i : Nat) : Nat → List (List Int)
  | 0 => []
  | j + 1 => rowRests a b n m i j ++ (if pb (RestAt a b n m i j) = true then [[(i : Int), (j : Int)]] else [])
noncomputable def allRests (a b : List (List Int)) (n m : Nat) : Nat → List (List Int)
  | 0 => []
  | i + 1 => allRests a b n m i ++ rowRests a b n m i m
noncomputable def pureR (a b : List (List Int)) : List (List Int) := if pb (VG a b) = true then allRests a b a.length (gr a 0).length a.length else []
theorem rowRests_yes {a b : List (List Int)} {n m i j : Nat} (h : RestAt a b n m i j) : rowRests a b n m i (j + 1) = rowRests a b n m i j ++ [[(i : Int), (j : Int)]] := by rw [rowRests, if_pos (pb_true h)]
theorem rowRests_no {a b : List (List Int)} {n m i j : Nat} (h : ¬ RestAt a b n m i j) : rowRests a b n m i (j + 1) = rowRests a b n m i j := by rw [rowRests, if_neg (by rw [pb_false h]; decide), List.append_nil]
theorem rowRests_len (a b : List (List Int)) (n m i : Nat) : ∀ j, (rowRests a b n m i j).length ≤ j
  | 0 => by simp [rowRests]
  | j + 1 => by
    have := rowRests_len a b n m i j
    rw [rowRests, List.length_append]
    split <;> simp <;> omega
theorem allRests_len (a b : List (List Int)) (n m : Nat) (hm : m ≤ 3) : ∀ i, (allRests a b n m i).length ≤ 3 * i
  | 0 => by simp [allRests]
  | i + 1 => by
    have h1 := allRests_len a b n m hm i
    have h2 := rowRests_len a b n m i m
    rw [allRests, List.length_append]
    omega

end Go.Proofs.Ytoekpbcdgmejcaa

/- Chapter 2 as plain functions: sums, shares, fractions, means, the worst. -/
namespace Go.Proofs.Ytoekpbcdgmejcaa

/-- The sum of the first k numbers; of all. -/
def sm (xs : List Int) : Nat → Int
  | 0 => 0
  | k + 1 => sm xs k + gi xs k
def tot (xs : List Int) : Int := sm xs xs.length
theorem sm_bd {xs : List Int} {lo hi : Int} : ∀ {k : Nat}, (∀ j, j < k → lo ≤ gi xs j ∧ gi xs j ≤ hi) → lo * (k : Int) ≤ sm xs k ∧ sm xs k ≤ hi * (k : Int)
  | 0, _ => by simp [sm]
  | k + 1, h => by
    have h1 := sm_bd (k := k) fun j hj => h j (by omega)
    have h2 := h k (by omega)
    have e1 : lo * ((k + 1 : Nat) : Int) = lo * (k : Int) + lo := by rw [show ((k + 1 : Nat) : Int) = (k : Int) + 1 by omega, Int.mul_add, Int.mul_one]
    have e2 : hi * ((k + 1 : Nat) : Int) = hi * (k : Int) + hi := by rw [show ((k + 1 : Nat) : Int) = (k : Int) + 1 by omega, Int.mul_add, Int.mul_one]
    simp only [sm]
    omega
theorem sm_snoc {xs : List Int} {x : Int} : ∀ {k : Nat}, k ≤ xs.length → sm (xs ++ [x]) k = sm xs k
  | 0, _ => rfl
  | k + 1, h => by
    have h1 := sm_snoc (xs := xs) (x := x) (k := k) (by omega)
    have h2 : gi (xs ++ [x]) k = gi xs k := by rw [gi_get (by simp; omega), gi_get (by omega), List.getElem_append_left (by omega)]
    simp only [sm, h1, h2]
theorem tot_snoc (xs : List Int) (x : Int) : tot (xs ++ [x]) = tot xs + x := by
  unfold tot
  rw [List.length_append, List.length_singleton]
  have h2 : gi (xs ++ [x]) xs.length = x := by rw [gi_get (by simp), List.getElem_append_right (Nat.le_refl _)]; simp
  simp only [sm, sm_snoc (Nat.le_refl _), h2]

/-- Shares of n things. -/
def VS (w : List Int) (n : Int) : Prop := (w.length : Int) = n ∧ (∀ j, j < w.length → InR (gi w j) 0 1000) ∧ 0 < tot w
def VSn (w : List Int) (n : Int) : Prop := 1 ≤ n ∧ n ≤ 3 ∧ VS w n
theorem VS.bd {w : List Int} {n : Int} (v : VS w n) (hn : n ≤ 3) : 0 < tot w ∧ tot w ≤ 3000 := by
  obtain ⟨h1, h2, h3⟩ := v
  have := (sm_bd (xs := w) (lo := 0) (hi := 1000) (k := w.length) h2).2
  unfold tot at *
  omega

/-- The sum of payoffs with both weights: of the first i rows; in row i, of the first j columns. -/
def payR (a : List (List Int)) (x y : List Int) (i : Nat) : Nat → Int
  | 0 => 0
  | j + 1 => payR a x y i j + gi x i * gi y j * g2 a i j
def payU (a : List (List Int)) (x y : List Int) (m : Nat) : Nat → Int
  | 0 => 0
  | i + 1 => payU a x y m i + payR a x y i m

theorem mul_bd {x y a : Int} (hx : 0 ≤ x ∧ x ≤ 1000) (hy : 0 ≤ y ∧ y ≤ 1000) (ha : -9 ≤ a ∧ a ≤ 9) : -9000000 ≤ x * y * a ∧ x * y * a ≤ 9000000 := by
  have h1 : 0 ≤ x * y := Int.mul_nonneg hx.1 hy.1
  have h2 : x * y ≤ 1000 * 1000 := Int.mul_le_mul hx.2 hy.2 hy.1 (by omega)
  have h3 : x * y * a ≤ x * y * 9 := Int.mul_le_mul_of_nonneg_left ha.2 h1
  have h4 : x * y * -9 ≤ x * y * a := Int.mul_le_mul_of_nonneg_left ha.1 h1
  omega
theorem mul_bd2 {x y : Int} (hx : 0 ≤ x ∧ x ≤ 1000) (hy : 0 ≤ y ∧ y ≤ 1000) : 0 ≤ x * y ∧ x * y ≤ 1000000 := by
  have h1 : 0 ≤ x * y := Int.mul_nonneg hx.1 hy.1
  have h2 : x * y ≤ 1000 * 1000 := Int.mul_le_mul hx.2 hy.2 hy.1 (by omega)
  omega
theorem mul_bd3 {x a : Int} (hx : 0 ≤ x ∧ x ≤ 1000) (ha : -9 ≤ a ∧ a ≤ 9) : -9000 ≤ a * x ∧ a * x ≤ 9000 := by
  have h3 : a * x ≤ 9 * x := Int.mul_le_mul_of_nonneg_right ha.2 hx.1
  have h4 : -9 * x ≤ a * x := Int.mul_le_mul_of_nonneg_right ha.1 hx.1
  omega

/-- Shares and a table of which a mean is taken: bounds of all that is read. -/
structure PB (a : List (List Int)) (x y : List Int) (n m : Nat) : Prop where
  a : ∀ i j, i < n → j < m → -9 ≤ g2 a i j ∧ g2 a i j ≤ 9
  x : ∀ i, i < n → 0 ≤ gi x i ∧ gi x i ≤ 1000
  y : ∀ j, j < m → 0 ≤ gi y j ∧ gi y j ≤ 1000
theorem payR_bd {a x y n m} (h : PB a x y n m) {i : Nat} (hi : i < n) : ∀ {j : Nat}, j ≤ m → -9000000 * (j : Int) ≤ payR a x y i j ∧ payR a x y i j ≤ 9000000 * (j : Int)
  | 0, _ => by simp [payR]
  | j + 1, hj => by
    have h1 := payR_bd h hi (j := j) (by omega)
    have h2 := mul_bd (h.x i hi) (h.y j (by omega)) (h.a i j hi (by omega))
    simp only [payR]
    omega
theorem payU_bd {a x y n m} (h : PB a x y n m) (hm : m ≤ 3) : ∀ {i : Nat}, i ≤ n → -27000000 * (i : Int) ≤ payU a x y m i ∧ payU a x y m i ≤ 27000000 * (i : Int)
  | 0, _ => by simp [payU]
  | i + 1, hi => by
    have h1 := payU_bd h hm (i := i) (by omega)
    have h2 := payR_bd h (i := i) (by omega) (j := m) (Nat.le_refl _)
    simp only [payU]
    omega
theorem payP_bd {a x y n m} (h : PB a x y n m) (hm : m ≤ 3) (hn : n ≤ 3) {i j : Nat} (hi : i < n) (hj : j ≤ m) : -108000000 ≤ payU a x y m i + payR a x y i j ∧ payU a x y m i + payR a x y i j ≤ 108000000 := by
  have h1 := payU_bd h hm (i := i) (by omega)
  have h2 := payR_bd h hi hj
  omega

/-- The greatest common divisor, and what Go's loop does to it. -/
def gcdI (a b : Int) : Int := (Int.gcd a b : Int)
theorem gcdI_zero (a : Int) : gcdI a 0 = max a (-a) := by
  unfold gcdI; rw [Int.gcd_zero_right]; omega
theorem gcdI_zero_left (a : Int) : gcdI 0 a = max a (-a) := by
  unfold gcdI; rw [Int.gcd_zero_left]; omega
theorem gcdI_step (a b : Int) : gcdI b (a.tmod b) = gcdI a b := by
  have h : Nat.gcd b.natAbs (a.tmod b).natAbs = Nat.gcd a.natAbs b.natAbs := by
    rw [Int.natAbs_tmod, Nat.gcd_comm, ← Nat.gcd_rec, Nat.gcd_comm]
  exact congrArg Int.ofNat h
theorem gcdI_abs (a b : Int) : gcdI (max a (-a)) b = gcdI a b := by
  have h : Nat.gcd (max a (-a)).natAbs b.natAbs = Nat.gcd a.natAbs b.natAbs := by
    congr 1
    omega
  exact congrArg Int.ofNat h
theorem gcdI_pos {a b : Int} (h : b ≠ 0) : 1 ≤ gcdI a b := by
  unfold gcdI
  have := Int.gcd_pos_of_ne_zero_right a h
  omega
theorem gcdI_pos_left {a b : Int} (h : a ≠ 0) : 1 ≤ gcdI a b := by
  unfold gcdI
  have := Int.gcd_pos_of_ne_zero_left b h
  omega
theorem gcdI_nonneg (a b : Int) : 0 ≤ gcdI a b := by unfold gcdI; omega
theorem gcdI_dvd_left (a b : Int) : gcdI a b ∣ a := Int.gcd_dvd_left a b
theorem gcdI_dvd_right (a b : Int) : gcdI a b ∣ b := Int.gcd_dvd_right a b
theorem gcdI_le {a b : Int} (h : 0 < b) : gcdI a b ≤ b := Int.le_of_dvd h (gcdI_dvd_right a b)
theorem tmod_abs {a b : Int} (h : b ≠ 0) : (a.tmod b).natAbs < b.natAbs := by
  rw [Int.natAbs_tmod]; exact Nat.mod_lt _ (by omega)

/-- A fraction in lowest terms, as a pair of numbers. -/
def frU (u d : Int) : Int := u.tdiv (gcdI u d)
def frD (u d : Int) : Int := d.tdiv (gcdI u d)
theorem tdiv_bd {u g B : Int} (_ : 1 ≤ g) (h : -B ≤ u ∧ u ≤ B) : -B ≤ u.tdiv g ∧ u.tdiv g ≤ B := by
  have h1 : (u.tdiv g).natAbs ≤ u.natAbs := by rw [Int.natAbs_tdiv]; exact Nat.div_le_self _ _
  omega
theorem frU_bd {u d B : Int} (hd : 0 < d) (h : -B ≤ u ∧ u ≤ B) : -B ≤ frU u d ∧ frU u d ≤ B := tdiv_bd (gcdI_pos (by omega)) h
theorem frD_bd {u d B : Int} (hd : 0 < d) (h : d ≤ B) : 1 ≤ frD u d ∧ frD u d ≤ B := by
  have hg := gcdI_pos (a := u) (b := d) (by omega)
  have h1 := tdiv_bd (u := d) (g := gcdI u d) (B := B) hg (by omega)
  have h2 := gcdI_le (a := u) hd
  have h3 : 1 ≤ d / gcdI u d := by rw [Int.le_ediv_iff_mul_le (by omega)]; omega
  rw [Int.tdiv_eq_ediv_of_nonneg (by omega)] at h1
  unfold frD
  rw [Int.tdiv_eq_ediv_of_nonneg (by omega)]
  omega
theorem frU_mul (u d : Int) : frU u d * gcdI u d = u := Int.tdiv_mul_cancel (gcdI_dvd_left u d)
theorem frD_mul (u d : Int) : frD u d * gcdI u d = d := Int.tdiv_mul_cancel (gcdI_dvd_right u d)

/-- Less, of fractions with a positive number below. -/
def ltF (u d v e : Int) : Prop := u * e < v * d

/-- The shares of one of n alone. -/
def onl (n i : Nat) : List Int := (List.range n).map fun k => if k = i then 1 else 0
theorem onl_len (n i : Nat) : (onl n i).length = n := by simp [onl]
theorem gi_onl {n i k : Nat} (h : k < n) : gi (onl n i) k = if k = i then 1 else 0 := by
  rw [gi_get (by rw [onl_len]; exact h)]; simp [onl]
theorem sm_onl {n i : Nat} : ∀ {k : Nat}, k ≤ n → sm (onl n i) k = if i < k then 1 else 0
  | 0, _ => by simp [sm]
  | k + 1, h => by
    have h1 := sm_onl (n := n) (i := i) (k := k) (by omega)
    rw [sm, h1, gi_onl (by omega)]
    split <;> split <;> split <;> omega
theorem tot_onl {n i : Nat} (h : i < n) : tot (onl n i) = 1 := by
  unfold tot; rw [sm_onl (by rw [onl_len]; exact Nat.le_refl _), onl_len, if_pos h]
theorem onl_bd {n i k : Nat} (h : k < n) : 0 ≤ gi (onl n i) k ∧ gi (onl n i) k ≤ 1 := by
  rw [gi_onl h]; split <;> omega

/-- The mean against column j alone, above the line; the least of the first k + 1 of these. -/
def colU (a : List (List Int)) (x : List Int) (n m j : Nat) : Int := payU a x (onl m j) m n
def wst (a : List (List Int)) (x : List Int) (n m : Nat) : Nat → Int × Int
  | 0 => (frU (colU a x n m 0) (tot x), frD (colU a x n m 0) (tot x))
  | k + 1 =>
    let p := (frU (colU a x n m (k + 1)) (tot x), frD (colU a x n m (k + 1)) (tot x))
    if p.1 * (wst a x n m k).2 < (wst a x n m k).1 * p.2 then p else wst a x n m k

end Go.Proofs.Ytoekpbcdgmejcaa

/- Fractions in lowest terms; the least mean, as the fraction of a least sum. -/
namespace Go.Proofs.Ytoekpbcdgmejcaa

theorem fr_unique {a b c f : Int} (hb : 0 < b) (hf : 0 < f) (h : a * f = c * b) (g1 : Int.gcd a b = 1) (g2 : Int.gcd c f = 1) : a = c ∧ b = f := by
  have hN : a.natAbs * f.natAbs = c.natAbs * b.natAbs := by rw [← Int.natAbs_mul, ← Int.natAbs_mul, h]
  have c1 : Nat.Coprime b.natAbs a.natAbs := by unfold Nat.Coprime; rw [Nat.gcd_comm]; exact g1
  have c2 : Nat.Coprime f.natAbs c.natAbs := by unfold Nat.Coprime; rw [Nat.gcd_comm]; exact g2
  have d1 : b.natAbs ∣ f.natAbs := c1.dvd_of_dvd_mul_left (by rw [hN]; exact Nat.dvd_mul_left _ _)
  have d2 : f.natAbs ∣ b.natAbs := c2.dvd_of_dvd_mul_left (by rw [← hN]; exact Nat.dvd_mul_left _ _)
  have e := Nat.dvd_antisymm d1 d2
  have hbf : b = f := by omega
  subst hbf
  exact ⟨Int.eq_of_mul_eq_mul_right (by omega) h, rfl⟩
theorem fr_coprime (u d : Int) (hd : 0 < d) : Int.gcd (frU u d) (frD u d) = 1 := by
  have hg := gcdI_pos (a := u) (b := d) (by omega)
  have h := Int.gcd_mul_right (frU u d) (gcdI u d) (frD u d)
  rw [frU_mul, frD_mul] at h
  have e : (gcdI u d).natAbs = Int.gcd u d := by unfold gcdI; simp
  rw [e] at h
  have hp : 0 < Int.gcd u d := by unfold gcdI at hg; omega
  exact Nat.eq_of_mul_eq_mul_right hp (by omega)
theorem frD_pos {u d : Int} (hd : 0 < d) : 0 < frD u d := by
  have hg := gcdI_pos (a := u) (b := d) (by omega)
  have h := frD_mul u d
  apply Classical.byContradiction
  intro hn
  have h1 : 0 ≤ (- frD u d) * gcdI u d := Int.mul_nonneg (by omega) (by omega)
  rw [Int.neg_mul, h] at h1
  omega
/-- Fractions that are the same number are the same. -/
theorem fr_eq {u d v e : Int} (hd : 0 < d) (he : 0 < e) (h : u * e = v * d) : frU u d = frU v e ∧ frD u d = frD v e := by
  refine fr_unique (frD_pos hd) (frD_pos he) ?_ (fr_coprime u d hd) (fr_coprime v e he)
  have g1 := gcdI_pos (a := u) (b := d) (by omega)
  have g2 := gcdI_pos (a := v) (b := e) (by omega)
  have k1 := frU_mul u d
  have k2 := frD_mul u d
  have k3 := frU_mul v e
  have k4 := frD_mul v e
  generalize frU u d = a at *
  generalize frD u d = b at *
  generalize frU v e = c at *
  generalize frD v e = f at *
  generalize gcdI u d = g at *
  generalize gcdI v e = k at *
  have : (a * f) * (g * k) = (c * b) * (g * k) := by grind
  exact Int.eq_of_mul_eq_mul_right (by have := Int.mul_pos (a := g) (b := k) (by omega) (by omega); omega) this
/-- .. and the other way round. -/
theorem fr_ratio (u d : Int) : frU u d * d = u * frD u d := by
  have k1 := frU_mul u d
  have k2 := frD_mul u d
  generalize frU u d = a at *
  generalize frD u d = b at *
  generalize gcdI u d = g at *
  grind
theorem fr_lt {u d v e : Int} (hd : 0 < d) (he : 0 < e) : frU u d * frD v e < frU v e * frD u d ↔ u * e < v * d := by
  have g1 := gcdI_pos (a := u) (b := d) (by omega)
  have g2 := gcdI_pos (a := v) (b := e) (by omega)
  have k1 := frU_mul u d
  have k2 := frD_mul u d
  have k3 := frU_mul v e
  have k4 := frD_mul v e
  generalize frU u d = a at *
  generalize frD u d = b at *
  generalize frU v e = c at *
  generalize frD v e = f at *
  generalize gcdI u d = g at *
  generalize gcdI v e = k at *
  have hp : 0 < g * k := Int.mul_pos (by omega) (by omega)
  have e1 : u * e = (a * f) * (g * k) := by grind
  have e2 : v * d = (c * b) * (g * k) := by grind
  rw [e1, e2]
  exact ⟨fun h => Int.mul_lt_mul_of_pos_right h hp, fun h => Int.lt_of_mul_lt_mul_right h (by omega)⟩

/-- The sum of a column with the shares of the rows. -/
def dotc (a : List (List Int)) (x : List Int) (j : Nat) : Nat → Int
  | 0 => 0
  | i + 1 => dotc a x j i + gi x i * g2 a i j
theorem payR_onl (a : List (List Int)) (x : List Int) (m j i : Nat) : ∀ {k : Nat}, k ≤ m → payR a x (onl m j) i k = if j < k then gi x i * g2 a i j else 0
  | 0, _ => by simp [payR]
  | k + 1, h => by
    rw [payR, payR_onl a x m j i (by omega), gi_onl (by omega)]
    by_cases e : k = j
    · subst e; rw [if_neg (by omega), if_pos rfl, if_pos (by omega)]; simp
    · rw [if_neg e]
      by_cases h2 : j < k
      · rw [if_pos h2, if_pos (by omega)]; simp
      · rw [if_neg h2, if_neg (by omega)]; simp
theorem colU_dotc (a : List (List Int)) (x : List Int) (n m j : Nat) (h : j < m) : colU a x n m j = dotc a x j n := by
  unfold colU
  have : ∀ i, payU a x (onl m j) m i = dotc a x j i := fun i => by
    induction i with
    | zero => rfl
    | succ i ih => rw [payU, dotc, ih, payR_onl a x m j i (Nat.le_refl m), if_pos h]
  exact this n
/-- The least mean is the fraction of the least sum. -/
theorem wst_least (a : List (List Int)) (x : List Int) (n m : Nat) (tx : 0 < tot x) : ∀ k, ∃ j, j ≤ k ∧ wst a x n m k = (frU (colU a x n m j) (tot x), frD (colU a x n m j) (tot x)) ∧ ∀ i, i ≤ k → colU a x n m j ≤ colU a x n m i
  | 0 => ⟨0, Nat.le_refl _, rfl, fun i hi => by obtain rfl : i = 0 := by omega
                                                exact Int.le_refl _⟩
  | k + 1 => by
    obtain ⟨j, hj, e, hm⟩ := wst_least a x n m tx k
    simp only [wst]
    rw [e]
    by_cases h : frU (colU a x n m (k + 1)) (tot x) * frD (colU a x n m j) (tot x) < frU (colU a x n m j) (tot x) * frD (colU a x n m (k + 1)) (tot x)
    · rw [if_pos h]
      have h2 := (fr_lt tx tx).1 h
      have h3 : colU a x n m (k + 1) < colU a x n m j := Int.lt_of_mul_lt_mul_right h2 (by omega)
      refine ⟨k + 1, Nat.le_refl _, rfl, fun i hi => ?_⟩
      by_cases e : i = k + 1
      · subst e; exact Int.le_refl _
      · have := hm i (by omega); omega
    · rw [if_neg h]
      have h3 : ¬ colU a x n m (k + 1) < colU a x n m j := fun hlt => h ((fr_lt tx tx).2 (Int.mul_lt_mul_of_pos_right hlt tx))
      refine ⟨j, by omega, rfl, fun i hi => ?_⟩
      by_cases e : i = k + 1
      · subst e; omega
      · exact hm i (by omega)
end Go.Proofs.Ytoekpbcdgmejcaa

/- Shares that make the same sure from both sides. -/
namespace Go.Proofs.Ytoekpbcdgmejcaa

theorem gcdI_neg (u d : Int) : gcdI (-u) d = gcdI u d := by unfold gcdI; rw [Int.neg_gcd]
theorem frU_neg (u d : Int) : frU (-u) d = - frU u d := by unfold frU; rw [gcdI_neg, Int.neg_tdiv]
theorem frD_neg (u d : Int) : frD (-u) d = frD u d := by unfold frD; rw [gcdI_neg]

/-- The least sum of columns, where it is known with a factor. -/
theorem wst_is (a : List (List Int)) (x : List Int) (n m : Nat) (hm : 1 ≤ m) (tx : 0 < tot x) (G V : Int) (hG : 0 < G) (ha : ∀ j, j < m → V ≤ dotc a x j n * G) (h0 : ∃ j, j < m ∧ dotc a x j n * G = V) :
    ∃ L, L * G = V ∧ wst a x n m (m - 1) = (frU L (tot x), frD L (tot x)) := by
  obtain ⟨j, hj, e, hl⟩ := wst_least a x n m tx (m - 1)
  refine ⟨colU a x n m j, ?_, e⟩
  have h1 := ha j (by omega)
  rw [colU_dotc a x n m j (by omega)]
  obtain ⟨i, hi, h2⟩ := h0
  have h3 := hl i (by omega)
  rw [colU_dotc a x n m j (by omega), colU_dotc a x n m i hi] at h3
  have h4 := Int.mul_le_mul_of_nonneg_right h3 (Int.le_of_lt hG)
  omega

theorem best_of (a b : List (List Int)) (x y : List Int) (n m : Nat) (hn : 1 ≤ n) (hm : 1 ≤ m) (tx : 0 < tot x) (ty : 0 < tot y) (S V G H : Int) (hG : 0 < G) (hH : 0 < H) (hx : tot x * G = S) (hy : tot y * H = S)
    (ha : ∀ j, j < m → V ≤ dotc a x j n * G) (ha0 : ∃ j, j < m ∧ dotc a x j n * G = V) (hb : ∀ i, i < n → -V ≤ dotc b y i m * H) (hb0 : ∃ i, i < n ∧ dotc b y i m * H = -V) :
    wst a x n m (m - 1) = (- (wst b y m n (n - 1)).1, (wst b y m n (n - 1)).2) := by
  obtain ⟨L, h1, e1⟩ := wst_is a x n m hm tx G V hG ha ha0
  obtain ⟨L', h2, e2⟩ := wst_is b y m n hn ty H (-V) hH hb hb0
  rw [e1, e2]
  have h : L * tot y = (-L') * tot x := by
    have : (L * tot y) * (G * H) = ((-L') * tot x) * (G * H) := by grind
    exact Int.eq_of_mul_eq_mul_right (by have := Int.mul_pos hG hH; omega) this
  have := fr_eq tx ty h
  rw [frU_neg, frD_neg] at this
  exact Prod.ext this.1 this.2
/-- No shares make more sure than others let through: the value is one. -/
theorem dotc_mix (a : List (List Int)) (x : List Int) (n : Nat) (hx : ∀ i, i < n → 0 ≤ gi x i) (j : Nat) (B : Int) (h : ∀ i, i < n → g2 a i j ≤ B) : ∀ {k : Nat}, k ≤ n → dotc a x j k ≤ B * sm x k
  | 0, _ => by simp [dotc, sm]
  | k + 1, hk => by
    have h1 := dotc_mix a x n hx j B h (k := k) (by omega)
    have h2 := Int.mul_le_mul_of_nonneg_left (h k (by omega)) (hx k (by omega))
    simp only [dotc, sm]
    rw [Int.mul_add, Int.mul_comm B (gi x k)]
    omega
end Go.Proofs.Ytoekpbcdgmejcaa

/- Some part of every table tells best shares: the best dictionary of a programme, by simplex steps in the order of words, and what its basis says. Plain. -/
namespace Go.Proofs.Ytoekpbcdgmejcaa.V
def lp (a b c d : Rat) : Prop := 0 < a ∨ (a = 0 ∧ (0 < b ∨ (b = 0 ∧ (0 < c ∨ (c = 0 ∧ 0 < d)))))
/-- A row with its sum is greater than 0, in the order of words. -/
def LP (r : Nat → Rat) : Prop := lp (r 0 + r 1 + r 2) (r 0) (r 1) (r 2)
theorem LP.add {r s : Nat → Rat} (h : LP r) (k : LP s) : LP (fun i => r i + s i) := by
  unfold LP lp at *; grind
theorem LP.congr {r s : Nat → Rat} (h : LP r) (e : ∀ i, i < 3 → s i = r i) : LP s := by
  unfold LP at *; rw [e 0 (by omega), e 1 (by omega), e 2 (by omega)]; exact h
theorem mulpos {t x : Rat} (ht : 0 < t) (hx : 0 < x) : 0 < t * x := Rat.mul_pos ht hx
theorem LP.smul {r : Nat → Rat} {t : Rat} (h : LP r) (ht : 0 < t) : LP (fun i => t * r i) := by
  unfold LP lp at *
  have p := fun {x : Rat} (hx : 0 < x) => mulpos ht hx
  grind
theorem LP.irr {r : Nat → Rat} (h : LP r) (e : ∀ i, i < 3 → r i = 0) : False := by
  unfold LP lp at h
  rw [e 0 (by omega), e 1 (by omega), e 2 (by omega)] at h
  grind
theorem LP.tri (r : Nat → Rat) : LP r ∨ (∀ i, i < 3 → r i = 0) ∨ LP (fun i => - r i) := by
  by_cases e : r 0 = 0 ∧ r 1 = 0 ∧ r 2 = 0
  · refine .inr (.inl fun i hi => ?_)
    have : i = 0 ∨ i = 1 ∨ i = 2 := by omega
    rcases this with rfl | rfl | rfl
    · exact e.1
    · exact e.2.1
    · exact e.2.2
  · unfold LP lp; grind
theorem exists_min {α : Type} (lt : α → α → Prop) (irr : ∀ a, ¬ lt a a) (tr : ∀ a b c, lt a b → lt b c → lt a c) : ∀ l : List α, l ≠ [] → ∃ a, a ∈ l ∧ ∀ b, b ∈ l → ¬ lt b a
  | [], h => absurd rfl h
  | [a], _ => ⟨a, by simp, fun b hb => by simp at hb; subst hb; exact irr _⟩
  | a :: b :: l, _ => by
    obtain ⟨m, hm, h⟩ := exists_min lt irr tr (b :: l) (by simp)
    by_cases e : lt a m
    · refine ⟨a, by simp, fun x hx hxa => ?_⟩
      rcases List.mem_cons.1 hx with rfl | hx
      · exact irr _ hxa
      · exact h x hx (tr _ _ _ hxa e)
    · refine ⟨m, by simp at hm ⊢; exact .inr hm, fun x hx => ?_⟩
      rcases List.mem_cons.1 hx with rfl | hx
      · exact e
      · exact h x hx

def dot (f g : Nat → Rat) : Rat := f 0 * g 0 + f 1 * g 1 + f 2 * g 2
def col (M : Nat → Nat → Rat) (v i : Nat) : Rat := if v < 3 then M i v else if v = i + 3 then 1 else 0
def cst (c : Nat → Rat) (v : Nat) : Rat := if v < 3 then c v else 0
structure Dict (M : Nat → Nat → Rat) (b : Nat → Nat) (P : Nat → Nat → Rat) : Prop where
  pb : ∀ k l, k < 3 → l < 3 → dot (P k) (col M (b l)) = if k = l then 1 else 0
  bp : ∀ i j, i < 3 → j < 3 → col M (b 0) i * P 0 j + col M (b 1) i * P 1 j + col M (b 2) i * P 2 j = if i = j then 1 else 0
  lex : ∀ k, k < 3 → LP (P k)
  bv : ∀ k, k < 3 → b k < 6
/-- The prices. -/
def prc (c : Nat → Rat) (b : Nat → Nat) (P : Nat → Nat → Rat) (i : Nat) : Rat := cst c (b 0) * P 0 i + cst c (b 1) * P 1 i + cst c (b 2) * P 2 i
structure Prob (M : Nat → Nat → Rat) (c : Nat → Rat) : Prop where
  nn : ∀ i j, i < 3 → j < 3 → 0 ≤ M i j
  pos : ∀ j, j < 3 → (∃ i, i < 3 ∧ 0 < M i j) ∨ (c j = 0 ∧ ∀ i, i < 3 → M i j = 0)
theorem lt3 {i : Nat} (h : i < 3) : i = 0 ∨ i = 1 ∨ i = 2 := by omega

theorem Prob.col_nn {M c} (h : Prob M c) {v i : Nat} (hi : i < 3) : 0 ≤ col M v i := by
  unfold col
  split
  · exact h.nn i v hi (by omega)
  · split <;> grind
theorem mulnn {x y : Rat} (hx : 0 ≤ x) (hy : 0 ≤ y) : 0 ≤ x * y := Rat.mul_nonneg hx hy

theorem some_up {M c b P} (h : Prob M c) (D : Dict M b P) {q : Nat} (hq : q < 6) (hr : dot (prc c b P) (col M q) < cst c q) : ∃ k, k < 3 ∧ 0 < dot (P k) (col M q) := by
  apply Classical.byContradiction
  intro hno
  have hd : ∀ k, k < 3 → dot (P k) (col M q) ≤ 0 := fun k hk => by
    apply Classical.byContradiction
    intro hlt
    exact hno ⟨k, hk, by grind⟩
  have hpos : ∃ i, i < 3 ∧ 0 < col M q i := by
    by_cases h3 : q < 3
    · rcases h.pos q h3 with ⟨i, hi, hp⟩ | ⟨hc, hz⟩
      · exact ⟨i, hi, by unfold col; rw [if_pos h3]; exact hp⟩
      · exfalso
        have z0 : col M q 0 = 0 := by unfold col; rw [if_pos h3]; exact hz 0 (by omega)
        have z1 : col M q 1 = 0 := by unfold col; rw [if_pos h3]; exact hz 1 (by omega)
        have z2 : col M q 2 = 0 := by unfold col; rw [if_pos h3]; exact hz 2 (by omega)
        unfold dot at hr
        rw [z0, z1, z2] at hr
        unfold cst at hr
        rw [if_pos h3, hc] at hr
        grind
    · refine ⟨q - 3, by omega, ?_⟩
      unfold col
      rw [if_neg h3, if_pos (by omega)]
      grind
  obtain ⟨i, hi, hp⟩ := hpos
  have e0 := D.bp i 0 hi (by omega)
  have e1 := D.bp i 1 hi (by omega)
  have e2 := D.bp i 2 hi (by omega)
  have hsum : col M (b 0) i * dot (P 0) (col M q) + col M (b 1) i * dot (P 1) (col M q) + col M (b 2) i * dot (P 2) (col M q) = col M q i := by
    unfold dot
    rcases lt3 hi with rfl | rfl | rfl <;> simp at e0 e1 e2 <;> grind
  have n0 := mulnn (h.col_nn (v := b 0) hi) (show 0 ≤ - dot (P 0) (col M q) by have := hd 0 (by omega); grind)
  have n1 := mulnn (h.col_nn (v := b 1) hi) (show 0 ≤ - dot (P 1) (col M q) by have := hd 1 (by omega); grind)
  have n2 := mulnn (h.col_nn (v := b 2) hi) (show 0 ≤ - dot (P 2) (col M q) by have := hd 2 (by omega); grind)
  grind

/-- The row that leaves. -/
theorem some_row {M b P} (D : Dict M b P) {q : Nat} (hk : ∃ k, k < 3 ∧ 0 < dot (P k) (col M q)) :
    ∃ r, r < 3 ∧ 0 < dot (P r) (col M q) ∧ ∀ k, k < 3 → k ≠ r → 0 < dot (P k) (col M q) → LP (fun i => P k i * dot (P r) (col M q) - P r i * dot (P k) (col M q)) := by
  let d := fun k => dot (P k) (col M q)
  let lt := fun (k l : Nat) => 0 < d k ∧ 0 < d l ∧ LP (fun i => P l i * d k - P k i * d l)
  have irr : ∀ k, ¬ lt k k := fun k ⟨_, _, h⟩ => h.irr fun i _ => by grind
  have tr : ∀ k l m, lt k l → lt l m → lt k m := fun k l m ⟨h1, h2, h3⟩ ⟨_, h5, h6⟩ => by
    refine ⟨h1, h5, ?_⟩
    have := ((h6.smul h1).add (h3.smul h5))
    have hx : LP (fun i => d l * (P m i * d k - P k i * d m)) := this.congr fun i _ => by grind
    refine (hx.smul (t := (d l)⁻¹) (by rw [Rat.inv_pos]; exact h2)).congr fun i _ => ?_
    grind
  obtain ⟨r, hr, hmin⟩ := exists_min lt irr tr ([0, 1, 2].filter fun k => decide (0 < d k)) (by
    obtain ⟨k, hk3, hk⟩ := hk
    intro e
    have := List.filter_eq_nil_iff.1 e k (by simp; omega)
    simp at this
    exact absurd hk (by grind))
  simp only [List.mem_filter, decide_eq_true_eq] at hr hmin
  refine ⟨r, by have := hr.1; simp at this; omega, hr.2, fun k hk3 hkr hkp => ?_⟩
  have hr3 : r < 3 := by have := hr.1; simp at this; omega
  rcases LP.tri (fun i => P k i * d r - P r i * d k) with h | h | h
  · exact h
  · exfalso
    have a := D.pb k k hk3 hk3
    have b' := D.pb r k hr3 hk3
    have h0 := h 0 (by omega)
    have h1 := h 1 (by omega)
    have h2 := h 2 (by omega)
    rw [if_pos rfl] at a
    rw [if_neg (Ne.symm hkr)] at b'
    unfold dot at a b'
    have : d r = 0 := by grind
    have hr2 : 0 < d r := hr.2
    rw [this] at hr2
    exact absurd hr2 (by grind)
  · exfalso
    refine hmin k ⟨by simp; omega, hkp⟩ ⟨hkp, hr.2, h.congr fun i _ => by grind⟩
def upd (b : Nat → Nat) (r q : Nat) : Nat → Nat := fun k => if k = r then q else b k
def piv (P : Nat → Nat → Rat) (d : Nat → Rat) (r : Nat) : Nat → Nat → Rat := fun k i => if k = r then P r i * (d r)⁻¹ else P k i - d k * (d r)⁻¹ * P r i

theorem pivot {M c b P} (D : Dict M b P) {q r : Nat} (hq : q < 6) (hr : r < 3) (hd : 0 < dot (P r) (col M q))
    (hmin : ∀ k, k < 3 → k ≠ r → 0 < dot (P k) (col M q) → LP (fun i => P k i * dot (P r) (col M q) - P r i * dot (P k) (col M q)))
    (hred : dot (prc c b P) (col M q) < cst c q) :
    ∃ P', Dict M (upd b r q) P' ∧ LP (fun i => prc c (upd b r q) P' i - prc c b P i) := by
  have he : (dot (P r) (col M q))⁻¹ * dot (P r) (col M q) = 1 := by grind
  have hep : 0 < (dot (P r) (col M q))⁻¹ := by rw [Rat.inv_pos]; exact hd
  refine ⟨piv P (fun k => dot (P k) (col M q)) r, ⟨?_, ?_, ?_, ?_⟩, ?_⟩
  · intro k l hk hl
    have h1 := D.pb k l hk hl
    have h2 := D.pb r l hr hl
    by_cases el : l = r
    · have hb : upd b r q l = q := by simp [upd, el]
      rw [hb]
      by_cases ek : k = r
      · rw [if_pos (by rw [ek, el])]
        subst ek
        simp only [piv, if_true, dot] at *
        grind
      · rw [if_neg (by rw [el]; exact ek)]
        simp only [piv, if_neg ek, dot] at *
        grind
    · have hb : upd b r q l = b l := by simp [upd, el]
      rw [hb]
      rw [if_neg (Ne.symm el)] at h2
      by_cases ek : k = r
      · rw [if_neg (by rw [ek]; exact Ne.symm el)]
        subst ek
        simp only [piv, if_true, dot] at *
        grind
      · rw [← h1]
        simp only [dot, piv, if_neg ek] at *
        grind
  · intro i j hi hj
    have h1 := D.bp i j hi hj
    rw [← h1]
    have e0 := D.bp i 0 hi (by omega)
    have e1 := D.bp i 1 hi (by omega)
    have e2 := D.bp i 2 hi (by omega)
    have hsum : col M (b 0) i * dot (P 0) (col M q) + col M (b 1) i * dot (P 1) (col M q) + col M (b 2) i * dot (P 2) (col M q) = col M q i := by
      unfold dot
      rcases lt3 hi with rfl | rfl | rfl <;> simp at e0 e1 e2 <;> grind
    clear h1 e0 e1 e2 hmin hred hep
    generalize hdd : (fun k => dot (P k) (col M q)) = d at *
    have hd0 : dot (P 0) (col M q) = d 0 := by rw [← hdd]
    have hd1 : dot (P 1) (col M q) = d 1 := by rw [← hdd]
    have hd2 : dot (P 2) (col M q) = d 2 := by rw [← hdd]
    have hdr : dot (P r) (col M q) = d r := by rw [← hdd]
    rw [hd0, hd1, hd2] at hsum
    rw [hdr] at he
    rcases lt3 hr with rfl | rfl | rfl <;> simp [piv, upd] <;> grind
  · intro k hk
    by_cases ek : k = r
    · refine ((D.lex r hr).smul hep).congr fun i _ => ?_
      simp only [piv, if_pos ek]
      grind
    · by_cases hp : 0 < dot (P k) (col M q)
      · refine ((hmin k hk ek hp).smul hep).congr fun i _ => ?_
        simp only [piv, if_neg ek]
        grind
      · by_cases hz : dot (P k) (col M q) = 0
        · refine (D.lex k hk).congr fun i _ => ?_
          simp only [piv, if_neg ek, hz]
          grind
        · have hneg : 0 < - dot (P k) (col M q) * (dot (P r) (col M q))⁻¹ := mulpos (by grind) hep
          refine ((D.lex k hk).add ((D.lex r hr).smul hneg)).congr fun i _ => ?_
          simp only [piv, if_neg ek]
          grind
  · intro k hk
    unfold upd
    split
    · exact hq
    · exact D.bv k hk
  · have hpos : 0 < (cst c q - dot (prc c b P) (col M q)) * (dot (P r) (col M q))⁻¹ := mulpos (by grind) hep
    refine ((D.lex r hr).smul hpos).congr fun i _ => ?_
    have hx : dot (prc c b P) (col M q) = cst c (b 0) * dot (P 0) (col M q) + cst c (b 1) * dot (P 1) (col M q) + cst c (b 2) * dot (P 2) (col M q) := by
      simp only [dot, prc]; grind
    rw [hx]
    clear hx hpos hmin hred hep
    generalize hdd : (fun k => dot (P k) (col M q)) = d at *
    have hd0 : dot (P 0) (col M q) = d 0 := by rw [← hdd]
    have hd1 : dot (P 1) (col M q) = d 1 := by rw [← hdd]
    have hd2 : dot (P 2) (col M q) = d 2 := by rw [← hdd]
    have hdr : dot (P r) (col M q) = d r := by rw [← hdd]
    rw [hd0, hd1, hd2, hdr]
    rw [hdr] at he
    rcases lt3 hr with rfl | rfl | rfl <;> simp [piv, upd, prc] <;> grind

theorem dict_start (M : Nat → Nat → Rat) : Dict M (fun k => k + 3) (fun k i => if k = i then 1 else 0) := by
  refine ⟨fun k l hk hl => ?_, fun i j hi hj => ?_, fun k hk => ?_, fun k hk => ?_⟩
  · rcases lt3 hk with rfl | rfl | rfl <;> rcases lt3 hl with rfl | rfl | rfl <;> simp [dot, col] <;> grind
  · rcases lt3 hi with rfl | rfl | rfl <;> rcases lt3 hj with rfl | rfl | rfl <;> simp [col] <;> grind
  · rcases lt3 hk with rfl | rfl | rfl <;> simp [LP, lp] <;> grind
  · show k + 3 < 6; omega

/-- The best dictionary. -/
theorem best {M c} (h : Prob M c) : ∃ b P, Dict M b P ∧ ∀ q, q < 6 → cst c q ≤ dot (prc c b P) (col M q) := by
  let all : List (Nat × Nat × Nat) := (List.range 6).flatMap fun x => (List.range 6).flatMap fun y => (List.range 6).map fun z => (x, y, z)
  let bo : Nat × Nat × Nat → Nat → Nat := fun t k => if k = 0 then t.1 else if k = 1 then t.2.1 else t.2.2
  have uniq : ∀ {b P P'}, Dict M b P → Dict M b P' → ∀ k i, k < 3 → i < 3 → P k i = P' k i := by
    intro b P P' D D' k i hk hi
    have a0 := D.pb k 0 hk (by omega)
    have a1 := D.pb k 1 hk (by omega)
    have a2 := D.pb k 2 hk (by omega)
    have c0 := D'.bp 0 i (by omega) hi
    have c1 := D'.bp 1 i (by omega) hi
    have c2 := D'.bp 2 i (by omega) hi
    unfold dot at a0 a1 a2
    have key : P k 0 * (if 0 = i then 1 else 0) + P k 1 * (if 1 = i then 1 else 0) + P k 2 * (if 2 = i then 1 else 0) = (if k = 0 then 1 else 0) * P' 0 i + (if k = 1 then 1 else 0) * P' 1 i + (if k = 2 then 1 else 0) * P' 2 i := by
      rw [← c0, ← c1, ← c2, ← a0, ← a1, ← a2]; grind
    rcases lt3 hk with rfl | rfl | rfl <;> rcases lt3 hi with rfl | rfl | rfl <;> simp at key <;> grind
  have prc_eq : ∀ {b P P'}, Dict M b P → Dict M b P' → ∀ i, i < 3 → prc c b P i = prc c b P' i := by
    intro b P P' D D' i hi
    unfold prc
    rw [uniq D D' 0 i (by omega) hi, uniq D D' 1 i (by omega) hi, uniq D D' 2 i (by omega) hi]
  have ext : ∀ {b b' P}, (∀ k, k < 3 → b k = b' k) → Dict M b P → Dict M b' P := by
    intro b b' P e D
    refine ⟨fun k l hk hl => by rw [← e l hl]; exact D.pb k l hk hl, fun i j hi hj => by rw [← e 0 (by omega), ← e 1 (by omega), ← e 2 (by omega)]; exact D.bp i j hi hj, D.lex, fun k hk => by rw [← e k hk]; exact D.bv k hk⟩
  have prc_ext : ∀ {b b' P}, (∀ k, k < 3 → b k = b' k) → ∀ i, prc c b P i = prc c b' P i := by
    intro b b' P e i
    unfold prc
    rw [e 0 (by omega), e 1 (by omega), e 2 (by omega)]
  let lt : Nat × Nat × Nat → Nat × Nat × Nat → Prop := fun s t => ∃ P Q, Dict M (bo s) P ∧ Dict M (bo t) Q ∧ LP (fun i => prc c (bo s) P i - prc c (bo t) Q i)
  have irr : ∀ s, ¬ lt s s := fun s ⟨P, Q, D, E, hl⟩ => hl.irr fun i hi => by rw [prc_eq D E i hi]; grind
  have tr : ∀ s t u, lt s t → lt t u → lt s u := fun s t u ⟨P, Q, D, E, hl⟩ ⟨P', Q', D', E', hl'⟩ =>
    ⟨P, Q', D, E', (hl.add hl').congr fun i hi => by rw [prc_eq E D' i hi]; grind⟩
  have mem : ∀ b : Nat → Nat, (∀ k, k < 3 → b k < 6) → (b 0, b 1, b 2) ∈ all := by
    intro b hb
    have h0 := hb 0 (by omega)
    have h1 := hb 1 (by omega)
    have h2 := hb 2 (by omega)
    simp only [all, List.mem_flatMap, List.mem_map, List.mem_range]
    exact ⟨b 0, h0, b 1, h1, b 2, h2, rfl⟩
  have bo_eq : ∀ b : Nat → Nat, ∀ k, k < 3 → bo (b 0, b 1, b 2) k = b k := by
    intro b k hk
    rcases lt3 hk with rfl | rfl | rfl <;> simp [bo]
  have step : ∃ t P, Dict M (bo t) P ∧ ∀ s, s ∈ all → ¬ lt s t := by
    have ⟨t, ht, hm⟩ := exists_min lt irr tr (all.filter fun t => @decide (∃ P, Dict M (bo t) P) (Classical.propDecidable _)) (by
      intro e
      have hs := mem (fun k => k + 3) (fun k hk => by show k + 3 < 6; omega)
      have := List.filter_eq_nil_iff.1 e _ hs
      refine this (@decide_eq_true _ (Classical.propDecidable _) ⟨_, ext (fun k hk => (bo_eq (fun k => k + 3) k hk).symm) (dict_start M)⟩))
    have ht2 := List.mem_filter.1 ht
    obtain ⟨P, D⟩ := @of_decide_eq_true _ (Classical.propDecidable _) ht2.2
    refine ⟨t, P, D, fun s hs hl => ?_⟩
    obtain ⟨P', Q', D', E', hl'⟩ := hl
    exact hm s (List.mem_filter.2 ⟨hs, @decide_eq_true _ (Classical.propDecidable _) ⟨P', D'⟩⟩) ⟨P', Q', D', E', hl'⟩
  obtain ⟨t, P, D, hmax⟩ := step
  refine ⟨bo t, P, D, fun q hq => ?_⟩
  apply Classical.byContradiction
  intro hno
  have hred : dot (prc c (bo t) P) (col M q) < cst c q := by grind
  obtain ⟨r, hr, hd, hmin⟩ := some_row D (some_up h D hq hred)
  obtain ⟨P', D', hl⟩ := pivot D hq hr hd hmin hred
  let b' := upd (bo t) r q
  have hb' := fun k hk => (bo_eq b' k hk).symm
  exact hmax _ (mem b' D'.bv) ⟨P', P, ext hb' D', D, hl.congr fun i _ => by rw [← prc_ext hb' i]⟩
/-- Sums, determinants and cofactors of squares that are functions. -/
def sumN (f : Nat → Int) : Nat → Int
  | 0 => 0
  | k + 1 => sumN f k + f k
def skip (i p : Nat) : Nat := if p < i then p else p + 1
def minorN (f : Nat → Nat → Int) (i j : Nat) : Nat → Nat → Int := fun p q => f (skip i p) (skip j q)
def sgn (i : Nat) : Int := if i % 2 = 1 then -1 else 1
def detN : Nat → (Nat → Nat → Int) → Int
  | 0, _ => 1
  | k + 1, f => sumN (fun j => sgn j * (f 0 j * detN k (minorN f 0 j))) (k + 1)
def cofN (k : Nat) (f : Nat → Nat → Int) (i j : Nat) : Int := sgn (i + j) * detN (k - 1) (minorN f i j)
def rowC (k : Nat) (f : Nat → Nat → Int) (i : Nat) : Int := sumN (fun j => cofN k f i j) k
def colC (k : Nat) (f : Nat → Nat → Int) (j : Nat) : Int := sumN (fun i => cofN k f i j) k

/-- The part with rows R and columns C tells best shares (of numbers M): its sums of cofactors have one sign, make the value sure and let no more through. -/
structure Kern (M : Nat → Nat → Int) (n m k : Nat) (r c : Nat → Nat) : Prop where
  det : detN k (fun p q => M (r p) (c q)) ≠ 0
  tot : sumN (rowC k fun p q => M (r p) (c q)) k ≠ 0
  eq : sumN (colC k fun p q => M (r p) (c q)) k = sumN (rowC k fun p q => M (r p) (c q)) k
  x : ∀ p, p < k → 0 ≤ sumN (rowC k fun p q => M (r p) (c q)) k * rowC k (fun p q => M (r p) (c q)) p
  y : ∀ q, q < k → 0 ≤ sumN (rowC k fun p q => M (r p) (c q)) k * colC k (fun p q => M (r p) (c q)) q
  xj : ∀ j, j < m → sumN (rowC k fun p q => M (r p) (c q)) k * detN k (fun p q => M (r p) (c q)) ≤ sumN (rowC k fun p q => M (r p) (c q)) k * sumN (fun p => rowC k (fun p q => M (r p) (c q)) p * M (r p) j) k
  yi : ∀ i, i < n → sumN (rowC k fun p q => M (r p) (c q)) k * sumN (fun q => M i (c q) * colC k (fun p q => M (r p) (c q)) q) k ≤ sumN (rowC k fun p q => M (r p) (c q)) k * detN k (fun p q => M (r p) (c q))
  xc : ∀ q, q < k → sumN (fun p => rowC k (fun p q => M (r p) (c q)) p * M (r p) (c q)) k = detN k (fun p q => M (r p) (c q))
  yr : ∀ p, p < k → sumN (fun q => M (r p) (c q) * colC k (fun p q => M (r p) (c q)) q) k = detN k (fun p q => M (r p) (c q))

/-- Best prices and amounts, with bases of as many rows as columns. -/
structure Opt (M : Nat → Nat → Int) (n m : Nat) (u w : Nat → Rat) : Prop where
  u0 : ∀ i, i < n → 0 ≤ u i
  w0 : ∀ j, j < m → 0 ≤ w j
  us : 0 < u 0 + u 1 + u 2
  uj : ∀ j, j < m → 1 ≤ u 0 * M 0 j + u 1 * M 1 j + u 2 * M 2 j
  wi : ∀ i, i < n → M i 0 * w 0 + M i 1 * w 1 + M i 2 * w 2 ≤ 1


def sumQ (f : Nat → Rat) : Nat → Rat
  | 0 => 0
  | k + 1 => sumQ f k + f k
theorem cast_sumN (f : Nat → Int) : ∀ k, ((sumN f k : Int) : Rat) = sumQ (fun p => (f p : Rat)) k
  | 0 => by simp [sumN, sumQ]
  | k + 1 => by rw [sumN, sumQ, Rat.intCast_add, cast_sumN f k]
theorem sumQ_mul (D : Rat) (g : Nat → Rat) : ∀ k, sumQ (fun p => D * g p) k = D * sumQ g k
  | 0 => by simp [sumQ]
  | k + 1 => by rw [sumQ, sumQ, sumQ_mul D g k]; grind
theorem sumQ_congr {f g : Nat → Rat} : ∀ {k}, (∀ p, p < k → f p = g p) → sumQ f k = sumQ g k
  | 0, _ => rfl
  | k + 1, h => by rw [sumQ, sumQ, sumQ_congr (k := k) fun p hp => h p (by omega), h k (by omega)]
theorem mulnn' {x y : Rat} (hx : 0 ≤ x) (hy : 0 ≤ y) : 0 ≤ x * y := Rat.mul_nonneg hx hy
theorem sq_pos' {x : Rat} (h : x ≠ 0) : 0 < x * x := by
  rcases Rat.le_total (a := 0) (b := x) with h0 | h0
  · exact Rat.mul_pos (by grind) (by grind)
  · have := Rat.mul_pos (a := -x) (b := -x) (by grind) (by grind); grind
theorem toInt_le {a b : Int} (h : (a : Rat) ≤ (b : Rat)) : a ≤ b := Rat.intCast_le_intCast.1 h
theorem toInt_eq {a b : Int} (h : (a : Rat) = (b : Rat)) : a = b := Rat.intCast_inj.1 h

theorem kern_of (M : Nat → Nat → Int) (n m k : Nat) (r c : Nat → Nat) (x y : Nat → Rat) (U : Rat) (hD : detN k (fun p q => M (r p) (c q)) ≠ 0)
    (hX : ∀ p, p < k → ((rowC k (fun p q => M (r p) (c q)) p : Int) : Rat) = (detN k (fun p q => M (r p) (c q)) : Int) * x p)
    (hY : ∀ q, q < k → ((colC k (fun p q => M (r p) (c q)) q : Int) : Rat) = (detN k (fun p q => M (r p) (c q)) : Int) * y q)
    (hU : 0 < U) (ux : sumQ x k = U) (uy : sumQ y k = U) (x0 : ∀ p, p < k → 0 ≤ x p) (y0 : ∀ q, q < k → 0 ≤ y q)
    (hx : ∀ j, j < m → 1 ≤ sumQ (fun p => x p * (M (r p) j : Int)) k) (hxc : ∀ q, q < k → sumQ (fun p => x p * (M (r p) (c q) : Int)) k = 1)
    (hy : ∀ i, i < n → sumQ (fun q => (M i (c q) : Int) * y q) k ≤ 1) (hyr : ∀ p, p < k → sumQ (fun q => (M (r p) (c q) : Int) * y q) k = 1) : Kern M n m k r c := by
  generalize hf : (fun p q => M (r p) (c q)) = f at *
  generalize hdd : detN k f = D at *
  have hs : ((sumN (rowC k f) k : Int) : Rat) = (D : Rat) * U := by
    rw [cast_sumN, sumQ_congr hX, sumQ_mul, ux]
  have ht : ((sumN (colC k f) k : Int) : Rat) = (D : Rat) * U := by
    rw [cast_sumN, sumQ_congr hY, sumQ_mul, uy]
  have hDR : (D : Rat) ≠ 0 := by
    intro e
    have : ((D : Int) : Rat) = ((0 : Int) : Rat) := by rw [e]; rfl
    exact hD (toInt_eq this)
  have hDD := sq_pos' hDR
  have hDU : 0 < (D : Rat) * D * U := Rat.mul_pos hDD hU
  have hXs : ∀ j, ((sumN (fun p => rowC k f p * M (r p) j) k : Int) : Rat) = (D : Rat) * sumQ (fun p => x p * (M (r p) j : Int)) k := fun j => by
    rw [cast_sumN, ← sumQ_mul]
    exact sumQ_congr fun p hp => by rw [Rat.intCast_mul, hX p hp]; grind
  have hYs : ∀ i, ((sumN (fun q => M i (c q) * colC k f q) k : Int) : Rat) = (D : Rat) * sumQ (fun q => (M i (c q) : Int) * y q) k := fun i => by
    rw [cast_sumN, ← sumQ_mul]
    exact sumQ_congr fun q hq => by rw [Rat.intCast_mul, hY q hq]; grind
  refine ⟨by rw [hf, hdd]; exact hD, ?_, ?_, fun p hp => ?_, fun q hq => ?_, fun j hj => ?_, fun i hi => ?_, fun q hq => ?_, fun p hp => ?_⟩ <;> rw [hf]
  · intro e
    rw [e] at hs
    have h0 : (D : Rat) * U = 0 := by rw [← hs]; rfl
    rcases Rat.mul_eq_zero.1 h0 with h0 | h0
    · exact hDR h0
    · rw [h0] at hU; exact absurd hU (by grind)
  · exact toInt_eq (by rw [hs, ht])
  · apply toInt_le
    rw [Rat.intCast_mul, hs, hX p hp]
    have := mulnn' (show 0 ≤ (D : Rat) * D * U by grind) (x0 p hp)
    have e : ((0 : Int) : Rat) = 0 := rfl
    rw [e]; grind
  · apply toInt_le
    rw [Rat.intCast_mul, hs, hY q hq]
    have := mulnn' (show 0 ≤ (D : Rat) * D * U by grind) (y0 q hq)
    have e : ((0 : Int) : Rat) = 0 := rfl
    rw [e]; grind
  · apply toInt_le
    rw [hdd, Rat.intCast_mul, Rat.intCast_mul, hs, hXs]
    have := mulnn' (show 0 ≤ (D : Rat) * D * U by grind) (show 0 ≤ sumQ (fun p => x p * (M (r p) j : Int)) k - 1 by have := hx j hj; grind)
    grind
  · apply toInt_le
    rw [hdd, Rat.intCast_mul, Rat.intCast_mul, hs, hYs]
    have := mulnn' (show 0 ≤ (D : Rat) * D * U by grind) (show 0 ≤ 1 - sumQ (fun q => (M i (c q) : Int) * y q) k by have := hy i hi; grind)
    grind
  · apply toInt_eq
    rw [hdd, hXs, hxc q hq]; grind
  · apply toInt_eq
    rw [hdd, hYs, hyr p hp]; grind
/-- What the best dictionary says, without its order. -/
structure Fin3 (M : Nat → Nat → Int) (n m : Nat) (u w : Nat → Rat) (B : Nat → Prop) : Prop where
  n3 : n ≤ 3
  m3 : m ≤ 3
  pos : ∀ i j, i < n → j < m → 0 < M i j
  u0 : ∀ i, i < 3 → 0 ≤ u i
  w0 : ∀ j, j < 3 → 0 ≤ w j
  uj : ∀ j, j < m → 1 ≤ u 0 * M 0 j + u 1 * M 1 j + u 2 * M 2 j
  ub : ∀ j, j < m → B j → u 0 * M 0 j + u 1 * M 1 j + u 2 * M 2 j = 1
  uz : ∀ i, i < 3 → B (i + 3) → u i = 0
  wi : ∀ i, i < n → M i 0 * w 0 + M i 1 * w 1 + M i 2 * w 2 ≤ 1
  wb : ∀ i, i < n → ¬ B (i + 3) → M i 0 * w 0 + M i 1 * w 1 + M i 2 * w 2 = 1
  wz : ∀ j, j < 3 → ¬ B j → w j = 0
  bn : ∀ i, i < 3 → ¬ B (i + 3) → i < n
  bm : ∀ j, j < 3 → B j → j < m
  non : ∀ z : Nat → Rat, (∀ j, j < 3 → ¬ B j → z j = 0) → (∀ i, i < n → ¬ B (i + 3) → M i 0 * z 0 + M i 1 * z 1 + M i 2 * z 2 = 0) → ∀ j, j < 3 → z j = 0

/-- Three numbers in some order. -/
def Prm (i j k : Nat) : Prop := ∀ f : Nat → Rat, f 0 + f 1 + f 2 = f i + f j + f k
theorem rat_pos {a : Int} (h : 0 < a) : (0 : Rat) < (a : Rat) := by
  have : ((0 : Int) : Rat) < (a : Rat) := Rat.intCast_lt_intCast.2 h
  exact this

theorem one_ok {M n m u w B} (h : Fin3 M n m u w B) (i i' i'' j j' j'' : Nat) (pi : Prm i i' i'') (pj : Prm j j' j'') (hi : i < 3) (hj : j < 3) (hi' : i' < 3) (hi'' : i'' < 3) (hj' : j' < 3) (hj'' : j'' < 3)
    (bi : ¬ B (i + 3)) (bi' : B (i' + 3)) (bi'' : B (i'' + 3)) (bj : B j) (bj' : ¬ B j') (bj'' : ¬ B j'') : Kern M n m 1 (fun _ => i) (fun _ => j) := by
  have hin := h.bn i hi bi
  have hjm := h.bm j hj bj
  have hp := h.pos i j hin hjm
  have hpr := rat_pos hp
  have zi' := h.uz i' hi' bi'
  have zi'' := h.uz i'' hi'' bi''
  have zj' := h.wz j' hj' bj'
  have zj'' := h.wz j'' hj'' bj''
  have eu := h.ub j hjm bj
  have ew := h.wb i hin bi
  rw [pi (fun v => u v * M v j), zi', zi''] at eu
  rw [pj (fun v => M i v * w v), zj', zj''] at ew
  have ue : u i * M i j = 1 := by grind
  have we : M i j * w j = 1 := by grind
  have uw : u i = w j := by
    have : u i * M i j * w j = w j := by rw [ue]; grind
    grind
  have up : 0 < u i := by
    have := h.u0 i hi
    by_cases e : u i = 0
    · rw [e] at ue; grind
    · grind
  refine kern_of M n m 1 _ _ (fun _ => u i) (fun _ => w j) (u i) ?_ ?_ ?_ up ?_ ?_ ?_ ?_ ?_ ?_ ?_ ?_
  · simp [detN, sumN, sgn]; omega
  · intro p hp; obtain rfl : p = 0 := by omega
    simp [detN, sumN, sgn, rowC, cofN]; grind
  · intro p hp; obtain rfl : p = 0 := by omega
    simp [detN, sumN, sgn, colC, cofN]; grind
  · simp [sumQ]; grind
  · simp [sumQ]; grind
  · intro p _; exact h.u0 i hi
  · intro p _; exact h.w0 j hj
  · intro k hk
    have := h.uj k hk
    rw [pi (fun v => u v * M v k), zi', zi''] at this
    simp [sumQ]; grind
  · intro q _; simp [sumQ]; grind
  · intro k hk
    have := h.wi k hk
    rw [pj (fun v => M k v * w v), zj', zj''] at this
    simp [sumQ]; grind
  · intro q _; simp [sumQ]; grind

def two (i j : Nat) (p : Nat) : Nat := if p = 0 then i else j
theorem two_ok {M n m u w B} (h : Fin3 M n m u w B) (i i' i'' j j' j'' : Nat) (pi : Prm i i' i'') (pj : Prm j j' j'') (hi : i < 3) (hj : j < 3) (hi' : i' < 3) (hi'' : i'' < 3) (hj' : j' < 3) (hj'' : j'' < 3)
    (nj : j ≠ j') (nj2 : j'' ≠ j) (nj3 : j'' ≠ j') (ni : ∀ k, k < 3 → k = i ∨ k = i' ∨ k = i'') (bi : ¬ B (i + 3)) (bi' : ¬ B (i' + 3)) (bi'' : B (i'' + 3)) (bj : B j) (bj' : B j') (bj'' : ¬ B j'') : Kern M n m 2 (two i i') (two j j') := by
  have hin := h.bn i hi bi
  have hin' := h.bn i' hi' bi'
  have hjm := h.bm j hj bj
  have hjm' := h.bm j' hj' bj'
  have hp := rat_pos (h.pos i' j' hin' hjm')
  have zi'' := h.uz i'' hi'' bi''
  have zj'' := h.wz j'' hj'' bj''
  have eu := h.ub j hjm bj
  have eu' := h.ub j' hjm' bj'
  have ew := h.wb i hin bi
  have ew' := h.wb i' hin' bi'
  rw [pi (fun v => u v * M v j), zi''] at eu
  rw [pi (fun v => u v * M v j'), zi''] at eu'
  rw [pj (fun v => M i v * w v), zj''] at ew
  rw [pj (fun v => M i' v * w v), zj''] at ew'
  have hD : (M i j : Rat) * M i' j' - M i j' * M i' j ≠ 0 := by
    intro e
    have hz := h.non (fun v => if v = j then (M i' j' : Rat) else if v = j' then - (M i' j : Rat) else 0) (fun v hv hb => by
        have h1 : v ≠ j := fun e => hb (e ▸ bj)
        have h2 : v ≠ j' := fun e => hb (e ▸ bj')
        show (if v = j then (M i' j' : Rat) else if v = j' then - (M i' j : Rat) else 0) = 0
        rw [if_neg h1, if_neg h2]) (fun k hk hb => by
        have hp := pj (fun v => (M k v : Rat) * (if v = j then (M i' j' : Rat) else if v = j' then - (M i' j : Rat) else 0))
        rw [hp, if_pos rfl, if_neg (Ne.symm nj), if_pos rfl, if_neg nj2, if_neg nj3]
        rcases ni k (by have := h.n3; omega) with rfl | rfl | rfl
        · grind
        · grind
        · exact absurd bi'' hb) j hj
    simp at hz
    rw [hz] at hp
    exact absurd hp (by grind)
  have hU : u i + u i' = w j + w j' := by grind
  have u0 := h.u0 i hi
  have u0' := h.u0 i' hi'
  have w0 := h.w0 j hj
  have w0' := h.w0 j' hj'
  have hUp : 0 < u i + u i' := by
    by_cases e : u i + u i' = 0
    · have e1 : u i = 0 := by grind
      have e2 : u i' = 0 := by grind
      rw [e1, e2] at eu; grind
    · grind
  have hDI : M i j * M i' j' - M i j' * M i' j ≠ 0 := by
    intro e
    apply hD
    have : (((M i j * M i' j' - M i j' * M i' j : Int)) : Rat) = ((0 : Int) : Rat) := by rw [e]
    rw [Rat.intCast_sub, Rat.intCast_mul, Rat.intCast_mul] at this
    exact this
  have dd : detN 2 (fun p q => M (two i i' p) (two j j' q)) = M i j * M i' j' - M i j' * M i' j := by
    simp [detN, sumN, sgn, minorN, skip, two]; grind
  refine kern_of M n m 2 _ _ (fun p => u (two i i' p)) (fun q => w (two j j' q)) (u i + u i') (by rw [dd]; exact hDI) ?_ ?_ hUp ?_ ?_ ?_ ?_ ?_ ?_ ?_ ?_
  · intro p hp
    rw [dd, Rat.intCast_sub, Rat.intCast_mul, Rat.intCast_mul]
    have : p = 0 ∨ p = 1 := by omega
    rcases this with rfl | rfl <;> simp [detN, sumN, sgn, rowC, cofN, minorN, skip, two] <;> (try simp [Rat.intCast_add, Rat.intCast_neg, Rat.intCast_mul]) <;> grind
  · intro p hp
    rw [dd, Rat.intCast_sub, Rat.intCast_mul, Rat.intCast_mul]
    have : p = 0 ∨ p = 1 := by omega
    rcases this with rfl | rfl <;> simp [detN, sumN, sgn, colC, cofN, minorN, skip, two] <;> (try simp [Rat.intCast_add, Rat.intCast_neg, Rat.intCast_mul]) <;> grind
  · simp [sumQ, two]; grind
  · simp [sumQ, two]; grind
  · intro p _; unfold two; split
    · exact u0
    · exact u0'
  · intro p _; unfold two; split
    · exact w0
    · exact w0'
  · intro k hk
    have := h.uj k hk
    rw [pi (fun v => u v * M v k), zi''] at this
    simp [sumQ, two]; grind
  · intro q hq
    have : q = 0 ∨ q = 1 := by omega
    rcases this with rfl | rfl <;> simp [sumQ, two] <;> grind
  · intro k hk
    have := h.wi k hk
    rw [pj (fun v => M k v * w v), zj''] at this
    simp [sumQ, two]; grind
  · intro q hq
    have : q = 0 ∨ q = 1 := by omega
    rcases this with rfl | rfl <;> simp [sumQ, two] <;> grind
theorem det3 (f : Nat → Nat → Int) : detN 3 f = f 0 0 * (f 1 1 * f 2 2 - f 1 2 * f 2 1) - f 0 1 * (f 1 0 * f 2 2 - f 1 2 * f 2 0) + f 0 2 * (f 1 0 * f 2 1 - f 1 1 * f 2 0) := by
  simp [detN, sumN, sgn, minorN, skip]; grind
theorem rowC3 (f : Nat → Nat → Int) : rowC 3 f 0 = (f 1 1 * f 2 2 - f 1 2 * f 2 1) - (f 1 0 * f 2 2 - f 1 2 * f 2 0) + (f 1 0 * f 2 1 - f 1 1 * f 2 0) ∧
    rowC 3 f 1 = - (f 0 1 * f 2 2 - f 0 2 * f 2 1) + (f 0 0 * f 2 2 - f 0 2 * f 2 0) - (f 0 0 * f 2 1 - f 0 1 * f 2 0) ∧
    rowC 3 f 2 = (f 0 1 * f 1 2 - f 0 2 * f 1 1) - (f 0 0 * f 1 2 - f 0 2 * f 1 0) + (f 0 0 * f 1 1 - f 0 1 * f 1 0) := by
  refine ⟨?_, ?_, ?_⟩ <;> simp [detN, sumN, sgn, minorN, skip, rowC, cofN] <;> grind
theorem colC3 (f : Nat → Nat → Int) : colC 3 f 0 = (f 1 1 * f 2 2 - f 1 2 * f 2 1) - (f 0 1 * f 2 2 - f 0 2 * f 2 1) + (f 0 1 * f 1 2 - f 0 2 * f 1 1) ∧
    colC 3 f 1 = - (f 1 0 * f 2 2 - f 1 2 * f 2 0) + (f 0 0 * f 2 2 - f 0 2 * f 2 0) - (f 0 0 * f 1 2 - f 0 2 * f 1 0) ∧
    colC 3 f 2 = (f 1 0 * f 2 1 - f 1 1 * f 2 0) - (f 0 0 * f 2 1 - f 0 1 * f 2 0) + (f 0 0 * f 1 1 - f 0 1 * f 1 0) := by
  refine ⟨?_, ?_, ?_⟩ <;> simp [detN, sumN, sgn, minorN, skip, colC, cofN] <;> grind

theorem three_ok {M n m u w B} (h : Fin3 M n m u w B) (bi : ∀ i, i < 3 → ¬ B (i + 3)) (bj : ∀ j, j < 3 → B j) : Kern M n m 3 (fun p => p) (fun q => q) := by
  have hn := fun i hi => h.bn i hi (bi i hi)
  have hm := fun j hj => h.bm j hj (bj j hj)
  have hp := rat_pos (h.pos 0 0 (hn 0 (by omega)) (hm 0 (by omega)))
  have u0 := h.ub 0 (hm 0 (by omega)) (bj 0 (by omega))
  have u1 := h.ub 1 (hm 1 (by omega)) (bj 1 (by omega))
  have u2 := h.ub 2 (hm 2 (by omega)) (bj 2 (by omega))
  have w0 := h.wb 0 (hn 0 (by omega)) (bi 0 (by omega))
  have w1 := h.wb 1 (hn 1 (by omega)) (bi 1 (by omega))
  have w2 := h.wb 2 (hn 2 (by omega)) (bi 2 (by omega))
  have p0 := h.u0 0 (by omega)
  have p1 := h.u0 1 (by omega)
  have p2 := h.u0 2 (by omega)
  have q0 := h.w0 0 (by omega)
  have q1 := h.w0 1 (by omega)
  have q2 := h.w0 2 (by omega)
  have hnon : ∀ z : Nat → Rat, (M 0 0 * z 0 + M 0 1 * z 1 + M 0 2 * z 2 = 0) → (M 1 0 * z 0 + M 1 1 * z 1 + M 1 2 * z 2 = 0) → (M 2 0 * z 0 + M 2 1 * z 1 + M 2 2 * z 2 = 0) → ∀ j, j < 3 → z j = 0 := by
    intro z h0 h1 h2
    refine h.non z (fun j hj hb => absurd (bj j hj) hb) fun i hi _ => ?_
    rcases lt3 (show i < 3 by have := h.n3; omega) with rfl | rfl | rfl
    · exact h0
    · exact h1
    · exact h2
  let f : Nat → Nat → Rat := fun i j => (M i j : Rat)
  let v3 : Rat → Rat → Rat → Nat → Rat := fun a b c k => if k = 0 then a else if k = 1 then b else c
  have e0 : ∀ a b c, v3 a b c 0 = a := fun _ _ _ => rfl
  have e1 : ∀ a b c, v3 a b c 1 = b := fun _ _ _ => rfl
  have e2 : ∀ a b c, v3 a b c 2 = c := fun _ _ _ => rfl
  have cast : ((detN 3 M : Int) : Rat) = f 0 0 * (f 1 1 * f 2 2 - f 1 2 * f 2 1) - f 0 1 * (f 1 0 * f 2 2 - f 1 2 * f 2 0) + f 0 2 * (f 1 0 * f 2 1 - f 1 1 * f 2 0) := by
    rw [det3]; simp only [Rat.intCast_add, Rat.intCast_sub, Rat.intCast_mul]; rfl
  have hD : ((detN 3 M : Int) : Rat) ≠ 0 := by
    intro e
    rw [cast] at e
    have a2 := hnon (v3 (f 0 1 * f 1 2 - f 0 2 * f 1 1) (- (f 0 0 * f 1 2 - f 0 2 * f 1 0)) (f 0 0 * f 1 1 - f 0 1 * f 1 0)) (by rw [e0, e1, e2]; grind) (by rw [e0, e1, e2]; grind) (by rw [e0, e1, e2]; grind) 2 (by omega)
    have a1 := hnon (v3 (- (f 0 1 * f 2 2 - f 0 2 * f 2 1)) (f 0 0 * f 2 2 - f 0 2 * f 2 0) (- (f 0 0 * f 2 1 - f 0 1 * f 2 0))) (by rw [e0, e1, e2]; grind) (by rw [e0, e1, e2]; grind) (by rw [e0, e1, e2]; grind) 2 (by omega)
    rw [e2] at a1 a2
    have a0 := hnon (v3 (f 0 1) (- f 0 0) 0) (by rw [e0, e1, e2]; grind) (by rw [e0, e1, e2]; grind) (by rw [e0, e1, e2]; grind) 1 (by omega)
    rw [e1] at a0
    have : f 0 0 = 0 := by grind
    rw [show (M 0 0 : Rat) = f 0 0 from rfl, this] at hp
    exact absurd hp (by grind)
  have hDI : detN 3 M ≠ 0 := fun e => hD (by rw [e]; rfl)
  have hU : u 0 + u 1 + u 2 = w 0 + w 1 + w 2 := by
    have : u 0 * (M 0 0 * w 0 + M 0 1 * w 1 + M 0 2 * w 2) + u 1 * (M 1 0 * w 0 + M 1 1 * w 1 + M 1 2 * w 2) + u 2 * (M 2 0 * w 0 + M 2 1 * w 1 + M 2 2 * w 2) =
      w 0 * (u 0 * M 0 0 + u 1 * M 1 0 + u 2 * M 2 0) + w 1 * (u 0 * M 0 1 + u 1 * M 1 1 + u 2 * M 2 1) + w 2 * (u 0 * M 0 2 + u 1 * M 1 2 + u 2 * M 2 2) := by grind
    rw [u0, u1, u2, w0, w1, w2] at this
    grind
  have hUp : 0 < u 0 + u 1 + u 2 := by
    by_cases e : u 0 + u 1 + u 2 = 0
    · have z0 : u 0 = 0 := by grind
      have z1 : u 1 = 0 := by grind
      have z2 : u 2 = 0 := by grind
      rw [z0, z1, z2] at u0; grind
    · grind
  have X0 : ((rowC 3 M 0 : Int) : Rat) = (detN 3 M : Int) * u 0 := by
    rw [cast, (rowC3 M).1]; simp only [Rat.intCast_add, Rat.intCast_sub, Rat.intCast_mul]
    have : (f 1 1 * f 2 2 - f 1 2 * f 2 1) * (u 0 * f 0 0 + u 1 * f 1 0 + u 2 * f 2 0) - (f 1 0 * f 2 2 - f 1 2 * f 2 0) * (u 0 * f 0 1 + u 1 * f 1 1 + u 2 * f 2 1) + (f 1 0 * f 2 1 - f 1 1 * f 2 0) * (u 0 * f 0 2 + u 1 * f 1 2 + u 2 * f 2 2) =
      (f 0 0 * (f 1 1 * f 2 2 - f 1 2 * f 2 1) - f 0 1 * (f 1 0 * f 2 2 - f 1 2 * f 2 0) + f 0 2 * (f 1 0 * f 2 1 - f 1 1 * f 2 0)) * u 0 := by grind
    rw [← this, u0, u1, u2]; grind
  have X1 : ((rowC 3 M 1 : Int) : Rat) = (detN 3 M : Int) * u 1 := by
    rw [cast, (rowC3 M).2.1]; simp only [Rat.intCast_add, Rat.intCast_sub, Rat.intCast_mul, Rat.intCast_neg]
    have : - (f 0 1 * f 2 2 - f 0 2 * f 2 1) * (u 0 * f 0 0 + u 1 * f 1 0 + u 2 * f 2 0) + (f 0 0 * f 2 2 - f 0 2 * f 2 0) * (u 0 * f 0 1 + u 1 * f 1 1 + u 2 * f 2 1) - (f 0 0 * f 2 1 - f 0 1 * f 2 0) * (u 0 * f 0 2 + u 1 * f 1 2 + u 2 * f 2 2) =
      (f 0 0 * (f 1 1 * f 2 2 - f 1 2 * f 2 1) - f 0 1 * (f 1 0 * f 2 2 - f 1 2 * f 2 0) + f 0 2 * (f 1 0 * f 2 1 - f 1 1 * f 2 0)) * u 1 := by grind
    rw [← this, u0, u1, u2]; grind
  have X2 : ((rowC 3 M 2 : Int) : Rat) = (detN 3 M : Int) * u 2 := by
    rw [cast, (rowC3 M).2.2]; simp only [Rat.intCast_add, Rat.intCast_sub, Rat.intCast_mul]
    have : (f 0 1 * f 1 2 - f 0 2 * f 1 1) * (u 0 * f 0 0 + u 1 * f 1 0 + u 2 * f 2 0) - (f 0 0 * f 1 2 - f 0 2 * f 1 0) * (u 0 * f 0 1 + u 1 * f 1 1 + u 2 * f 2 1) + (f 0 0 * f 1 1 - f 0 1 * f 1 0) * (u 0 * f 0 2 + u 1 * f 1 2 + u 2 * f 2 2) =
      (f 0 0 * (f 1 1 * f 2 2 - f 1 2 * f 2 1) - f 0 1 * (f 1 0 * f 2 2 - f 1 2 * f 2 0) + f 0 2 * (f 1 0 * f 2 1 - f 1 1 * f 2 0)) * u 2 := by grind
    rw [← this, u0, u1, u2]; grind
  have Y0 : ((colC 3 M 0 : Int) : Rat) = (detN 3 M : Int) * w 0 := by
    rw [cast, (colC3 M).1]; simp only [Rat.intCast_add, Rat.intCast_sub, Rat.intCast_mul]
    have : (f 1 1 * f 2 2 - f 1 2 * f 2 1) * (f 0 0 * w 0 + f 0 1 * w 1 + f 0 2 * w 2) - (f 0 1 * f 2 2 - f 0 2 * f 2 1) * (f 1 0 * w 0 + f 1 1 * w 1 + f 1 2 * w 2) + (f 0 1 * f 1 2 - f 0 2 * f 1 1) * (f 2 0 * w 0 + f 2 1 * w 1 + f 2 2 * w 2) =
      (f 0 0 * (f 1 1 * f 2 2 - f 1 2 * f 2 1) - f 0 1 * (f 1 0 * f 2 2 - f 1 2 * f 2 0) + f 0 2 * (f 1 0 * f 2 1 - f 1 1 * f 2 0)) * w 0 := by grind
    rw [← this, w0, w1, w2]; grind
  have Y1 : ((colC 3 M 1 : Int) : Rat) = (detN 3 M : Int) * w 1 := by
    rw [cast, (colC3 M).2.1]; simp only [Rat.intCast_add, Rat.intCast_sub, Rat.intCast_mul, Rat.intCast_neg]
    have : - (f 1 0 * f 2 2 - f 1 2 * f 2 0) * (f 0 0 * w 0 + f 0 1 * w 1 + f 0 2 * w 2) + (f 0 0 * f 2 2 - f 0 2 * f 2 0) * (f 1 0 * w 0 + f 1 1 * w 1 + f 1 2 * w 2) - (f 0 0 * f 1 2 - f 0 2 * f 1 0) * (f 2 0 * w 0 + f 2 1 * w 1 + f 2 2 * w 2) =
      (f 0 0 * (f 1 1 * f 2 2 - f 1 2 * f 2 1) - f 0 1 * (f 1 0 * f 2 2 - f 1 2 * f 2 0) + f 0 2 * (f 1 0 * f 2 1 - f 1 1 * f 2 0)) * w 1 := by grind
    rw [← this, w0, w1, w2]; grind
  have Y2 : ((colC 3 M 2 : Int) : Rat) = (detN 3 M : Int) * w 2 := by
    rw [cast, (colC3 M).2.2]; simp only [Rat.intCast_add, Rat.intCast_sub, Rat.intCast_mul]
    have : (f 1 0 * f 2 1 - f 1 1 * f 2 0) * (f 0 0 * w 0 + f 0 1 * w 1 + f 0 2 * w 2) - (f 0 0 * f 2 1 - f 0 1 * f 2 0) * (f 1 0 * w 0 + f 1 1 * w 1 + f 1 2 * w 2) + (f 0 0 * f 1 1 - f 0 1 * f 1 0) * (f 2 0 * w 0 + f 2 1 * w 1 + f 2 2 * w 2) =
      (f 0 0 * (f 1 1 * f 2 2 - f 1 2 * f 2 1) - f 0 1 * (f 1 0 * f 2 2 - f 1 2 * f 2 0) + f 0 2 * (f 1 0 * f 2 1 - f 1 1 * f 2 0)) * w 2 := by grind
    rw [← this, w0, w1, w2]; grind
  refine kern_of M n m 3 _ _ u w (u 0 + u 1 + u 2) hDI ?_ ?_ hUp ?_ ?_ (fun p hp => h.u0 p hp) (fun p hp => h.w0 p hp) ?_ ?_ ?_ ?_
  · intro p hp; rcases lt3 hp with rfl | rfl | rfl
    · exact X0
    · exact X1
    · exact X2
  · intro p hp; rcases lt3 hp with rfl | rfl | rfl
    · exact Y0
    · exact Y1
    · exact Y2
  · simp [sumQ]; grind
  · simp [sumQ]; grind
  · intro j hj
    have := h.uj j hj
    simp [sumQ]; grind
  · intro q hq
    rcases lt3 hq with rfl | rfl | rfl <;> simp [sumQ] <;> grind
  · intro i hi
    have := h.wi i hi
    simp [sumQ]; grind
  · intro q hq
    rcases lt3 hq with rfl | rfl | rfl <;> simp [sumQ] <;> grind
theorem col_split (M : Nat → Nat → Rat) (v : Nat) (hv : v < 6) (i : Nat) (hi : i < 3) (t : Rat) :
    col M v i * t = M i 0 * (if v = 0 then t else 0) + M i 1 * (if v = 1 then t else 0) + M i 2 * (if v = 2 then t else 0) + (if v = i + 3 then t else 0) := by
  have : v = 0 ∨ v = 1 ∨ v = 2 ∨ v = 3 ∨ v = 4 ∨ v = 5 := by omega
  rcases this with rfl | rfl | rfl | rfl | rfl | rfl <;> rcases lt3 hi with rfl | rfl | rfl <;> simp [col] <;> grind

theorem fin3_of (M : Nat → Nat → Int) (n m : Nat) (hn : n ≤ 3) (hm : m ≤ 3) (hp : ∀ i j, i < n → j < m → 0 < M i j) (hz : ∀ i j, ¬ (i < n ∧ j < m) → M i j = 0) (h0 : 1 ≤ n) :
    ∃ (b : Nat → Nat) (u w : Nat → Rat), (∀ k, k < 3 → b k < 6) ∧ (∀ k l, k < 3 → l < 3 → k ≠ l → b k ≠ b l) ∧ Fin3 M n m u w (fun v => b 0 = v ∨ b 1 = v ∨ b 2 = v) := by
  let Q : Nat → Nat → Rat := fun i j => (M i j : Rat)
  let c : Nat → Rat := fun j => if j < m then 1 else 0
  have hQ : Prob Q c := by
    refine ⟨fun i j hi hj => ?_, fun j hj => ?_⟩
    · by_cases h : i < n ∧ j < m
      · have := rat_pos (hp i j h.1 h.2); show 0 ≤ (M i j : Rat); grind
      · show 0 ≤ (M i j : Rat); rw [hz i j h]; decide
    · by_cases h : j < m
      · exact .inl ⟨0, by omega, rat_pos (hp 0 j (by omega) h)⟩
      · refine .inr ⟨by simp only [c]; rw [if_neg h], fun i _ => ?_⟩
        show (M i j : Rat) = 0
        rw [hz i j (fun x => h x.2)]; rfl
  obtain ⟨b, P, D, hopt⟩ := best hQ
  let t : Nat → Rat := fun k => P k 0 + P k 1 + P k 2
  let w : Nat → Rat := fun v => (if b 0 = v then t 0 else 0) + (if b 1 = v then t 1 else 0) + (if b 2 = v then t 2 else 0)
  have ht : ∀ k, k < 3 → 0 ≤ t k := fun k hk => by
    have := D.lex k hk
    unfold LP lp at this
    show 0 ≤ P k 0 + P k 1 + P k 2
    grind
  have ht0 := ht 0 (by omega)
  have ht1 := ht 1 (by omega)
  have ht2 := ht 2 (by omega)
  have hdist : ∀ k l, k < 3 → l < 3 → k ≠ l → b k ≠ b l := fun k l hk hl hkl e => by
    have h1 := D.pb k l hk hl
    have h2 := D.pb k k hk hk
    rw [if_neg hkl, ← e] at h1
    rw [if_pos rfl, h1] at h2
    exact absurd h2 (by decide)
  have row : ∀ i, i < 3 → Q i 0 * w 0 + Q i 1 * w 1 + Q i 2 * w 2 + w (i + 3) = 1 := fun i hi => by
    have e0 := D.bp i 0 hi (by omega)
    have e1 := D.bp i 1 hi (by omega)
    have e2 := D.bp i 2 hi (by omega)
    have s0 := col_split Q (b 0) (D.bv 0 (by omega)) i hi (t 0)
    have s1 := col_split Q (b 1) (D.bv 1 (by omega)) i hi (t 1)
    have s2 := col_split Q (b 2) (D.bv 2 (by omega)) i hi (t 2)
    have hs : col Q (b 0) i * t 0 + col Q (b 1) i * t 1 + col Q (b 2) i * t 2 = 1 := by
      simp only [t]
      rcases lt3 hi with rfl | rfl | rfl <;> simp at e0 e1 e2 <;> grind
    rw [s0, s1, s2] at hs
    simp only [w]
    grind
  have red : ∀ k, k < 3 → dot (prc c b P) (col Q (b k)) = cst c (b k) := fun k hk => by
    have h0 := D.pb 0 k (by omega) hk
    have h1 := D.pb 1 k (by omega) hk
    have h2 := D.pb 2 k (by omega) hk
    have : dot (prc c b P) (col Q (b k)) = cst c (b 0) * dot (P 0) (col Q (b k)) + cst c (b 1) * dot (P 1) (col Q (b k)) + cst c (b 2) * dot (P 2) (col Q (b k)) := by
      simp only [dot, prc]; grind
    rw [this, h0, h1, h2]
    rcases lt3 hk with rfl | rfl | rfl <;> simp <;> grind
  have dotS : ∀ i, i < 3 → dot (prc c b P) (col Q (i + 3)) = prc c b P i := fun i hi => by
    rcases lt3 hi with rfl | rfl | rfl <;> simp [dot, col] <;> grind
  have dotC : ∀ j, j < 3 → dot (prc c b P) (col Q j) = prc c b P 0 * M 0 j + prc c b P 1 * M 1 j + prc c b P 2 * M 2 j := fun j hj => by
    simp only [dot, col, if_pos hj]; rfl
  have csS : ∀ i, cst c (i + 3) = 0 := fun i => by unfold cst; rw [if_neg (by omega)]
  have csC : ∀ j, j < 3 → cst c j = c j := fun j hj => by unfold cst; rw [if_pos hj]
  have inb : ∀ v, (b 0 = v ∨ b 1 = v ∨ b 2 = v) → ∃ k, k < 3 ∧ b k = v := fun v h => by
    rcases h with h | h | h
    · exact ⟨0, by omega, h⟩
    · exact ⟨1, by omega, h⟩
    · exact ⟨2, by omega, h⟩
  have w0 : ∀ v, 0 ≤ w v := fun v => by simp only [w]; grind
  have wz : ∀ v, ¬ (b 0 = v ∨ b 1 = v ∨ b 2 = v) → w v = 0 := fun v h => by
    simp only [w]
    rw [if_neg (fun e => h (.inl e)), if_neg (fun e => h (.inr (.inl e))), if_neg (fun e => h (.inr (.inr e)))]
    grind
  refine ⟨b, prc c b P, w, D.bv, hdist, ⟨hn, hm, hp, fun i hi => ?_, fun j _ => w0 j, fun j hj => ?_, fun j hj hb => ?_, fun i hi hb => ?_, fun i hi => ?_, fun i hi hb => ?_, fun j _ hb => wz j hb, fun i hi hb => ?_, fun j hj hb => ?_, fun z hz1 hz2 j hj => ?_⟩⟩
  · have := hopt (i + 3) (by omega)
    rw [csS, dotS i hi] at this
    exact this
  · have := hopt j (by omega)
    rw [csC j (by omega), dotC j (by omega)] at this
    simp only [c, if_pos hj] at this
    exact this
  · obtain ⟨k, hk, e⟩ := inb j hb
    have := red k hk
    rw [e, csC j (by omega), dotC j (by omega)] at this
    simp only [c, if_pos hj] at this
    exact this
  · obtain ⟨k, hk, e⟩ := inb _ hb
    have := red k hk
    rw [e, csS, dotS i hi] at this
    exact this
  · have := row i (by omega)
    have h1 := w0 (i + 3)
    show Q i 0 * w 0 + Q i 1 * w 1 + Q i 2 * w 2 ≤ 1
    grind
  · have := row i (by omega)
    have h1 := wz (i + 3) hb
    show Q i 0 * w 0 + Q i 1 * w 1 + Q i 2 * w 2 = 1
    grind
  · apply Classical.byContradiction
    intro hni
    have := row i hi
    have z0 : Q i 0 = 0 := by show (M i 0 : Rat) = 0; rw [hz i 0 (by omega)]; rfl
    have z1 : Q i 1 = 0 := by show (M i 1 : Rat) = 0; rw [hz i 1 (by omega)]; rfl
    have z2 : Q i 2 = 0 := by show (M i 2 : Rat) = 0; rw [hz i 2 (by omega)]; rfl
    rw [z0, z1, z2, wz (i + 3) hb] at this
    exact absurd this (by grind)
  · apply Classical.byContradiction
    intro hnj
    obtain ⟨k, hk, e⟩ := inb j hb
    have h1 := D.pb k k hk hk
    rw [if_pos rfl, e] at h1
    have z : ∀ i, i < 3 → col Q j i = 0 := fun i _ => by
      unfold col; rw [if_pos hj]; show (M i j : Rat) = 0; rw [hz i j (by omega)]; rfl
    unfold dot at h1
    rw [z 0 (by omega), z 1 (by omega), z 2 (by omega)] at h1
    exact absurd h1 (by grind)
  · -- z on the columns of the basis, the rest of it by the rows
    let y : Nat → Rat := fun v => if v < 3 then z v else - (Q (v - 3) 0 * z 0 + Q (v - 3) 1 * z 1 + Q (v - 3) 2 * z 2)
    have yz : ∀ v, v < 6 → ¬ (b 0 = v ∨ b 1 = v ∨ b 2 = v) → y v = 0 := fun v hv hb => by
      by_cases h3 : v < 3
      · simp only [y, if_pos h3]; exact hz1 v h3 hb
      · simp only [y, if_neg h3]
        have e : v - 3 + 3 = v := by omega
        by_cases hvn : v - 3 < n
        · have := hz2 (v - 3) hvn (by rw [e]; exact hb)
          show - ((M (v - 3) 0 : Rat) * z 0 + (M (v - 3) 1 : Rat) * z 1 + (M (v - 3) 2 : Rat) * z 2) = 0
          rw [this]; grind
        · have z0 : Q (v - 3) 0 = 0 := by show (M (v - 3) 0 : Rat) = 0; rw [hz _ 0 (by omega)]; rfl
          have z1 : Q (v - 3) 1 = 0 := by show (M (v - 3) 1 : Rat) = 0; rw [hz _ 1 (by omega)]; rfl
          have z2 : Q (v - 3) 2 = 0 := by show (M (v - 3) 2 : Rat) = 0; rw [hz _ 2 (by omega)]; rfl
          rw [z0, z1, z2]; grind
    have hb01 := hdist 0 1 (by omega) (by omega) (by omega)
    have hb02 := hdist 0 2 (by omega) (by omega) (by omega)
    have hb12 := hdist 1 2 (by omega) (by omega) (by omega)
    have hsum : ∀ i, i < 3 → col Q (b 0) i * y (b 0) + col Q (b 1) i * y (b 1) + col Q (b 2) i * y (b 2) = 0 := fun i hi => by
      have s0 := col_split Q (b 0) (D.bv 0 (by omega)) i hi (y (b 0))
      have s1 := col_split Q (b 1) (D.bv 1 (by omega)) i hi (y (b 1))
      have s2 := col_split Q (b 2) (D.bv 2 (by omega)) i hi (y (b 2))
      have yv : ∀ v, v < 6 → (if b 0 = v then y (b 0) else 0) + (if b 1 = v then y (b 1) else 0) + (if b 2 = v then y (b 2) else 0) = y v := fun v hv => by
        by_cases h : b 0 = v ∨ b 1 = v ∨ b 2 = v
        · rcases h with h | h | h
          · rw [if_pos h, if_neg (by omega), if_neg (by omega), h]; grind
          · rw [if_neg (by omega), if_pos h, if_neg (by omega), h]; grind
          · rw [if_neg (by omega), if_neg (by omega), if_pos h, h]; grind
        · rw [yz v hv h, if_neg (fun e => h (.inl e)), if_neg (fun e => h (.inr (.inl e))), if_neg (fun e => h (.inr (.inr e)))]; grind
      have y0 := yv 0 (by omega)
      have y1 := yv 1 (by omega)
      have y2 := yv 2 (by omega)
      have y3 := yv (i + 3) (by omega)
      have q0 : y 0 = z 0 := rfl
      have q1 : y 1 = z 1 := rfl
      have q2 : y 2 = z 2 := rfl
      have q3 : y (i + 3) = - (Q i 0 * z 0 + Q i 1 * z 1 + Q i 2 * z 2) := by simp only [y]; rw [if_neg (by omega)]; simp
      rw [q0] at y0
      rw [q1] at y1
      rw [q2] at y2
      rw [q3] at y3
      rw [s0, s1, s2]
      grind
    have yb : ∀ k, k < 3 → y (b k) = 0 := fun k hk => by
      have a0 := hsum 0 (by omega)
      have a1 := hsum 1 (by omega)
      have a2 := hsum 2 (by omega)
      have c0 := D.pb k 0 hk (by omega)
      have c1 := D.pb k 1 hk (by omega)
      have c2 := D.pb k 2 hk (by omega)
      have key : dot (P k) (col Q (b 0)) * y (b 0) + dot (P k) (col Q (b 1)) * y (b 1) + dot (P k) (col Q (b 2)) * y (b 2) =
        P k 0 * (col Q (b 0) 0 * y (b 0) + col Q (b 1) 0 * y (b 1) + col Q (b 2) 0 * y (b 2)) + P k 1 * (col Q (b 0) 1 * y (b 0) + col Q (b 1) 1 * y (b 1) + col Q (b 2) 1 * y (b 2)) + P k 2 * (col Q (b 0) 2 * y (b 0) + col Q (b 1) 2 * y (b 1) + col Q (b 2) 2 * y (b 2)) := by
        unfold dot; grind
      rw [a0, a1, a2, c0, c1, c2] at key
      rcases lt3 hk with rfl | rfl | rfl <;> simp at key <;> grind
    have : y j = z j := by simp only [y, if_pos hj]
    rw [← this]
    by_cases h : b 0 = j ∨ b 1 = j ∨ b 2 = j
    · obtain ⟨k, hk, e⟩ := inb j h
      rw [← e]; exact yb k hk
    · exact yz j (by omega) h

/-- Ascending numbers below n. -/
def Asc (n k : Nat) (r : Nat → Nat) : Prop := (∀ p, p < k → r p < n) ∧ ∀ p, p + 1 < k → r p < r (p + 1)
theorem prm (i j k : Nat) (h : (i = 0 ∧ j = 1 ∧ k = 2) ∨ (i = 1 ∧ j = 0 ∧ k = 2) ∨ (i = 2 ∧ j = 0 ∧ k = 1) ∨ (i = 0 ∧ j = 2 ∧ k = 1) ∨ (i = 1 ∧ j = 2 ∧ k = 0) ∨ (i = 2 ∧ j = 1 ∧ k = 0)) : Prm i j k := by
  intro f
  rcases h with ⟨rfl, rfl, rfl⟩ | ⟨rfl, rfl, rfl⟩ | ⟨rfl, rfl, rfl⟩ | ⟨rfl, rfl, rfl⟩ | ⟨rfl, rfl, rfl⟩ | ⟨rfl, rfl, rfl⟩ <;> grind

/-- Some part of the table tells best shares. -/
theorem kern_exists (M : Nat → Nat → Int) (n m : Nat) (h0 : 1 ≤ n) (m0 : 1 ≤ m) (hn : n ≤ 3) (hm : m ≤ 3) (hp : ∀ i j, i < n → j < m → 0 < M i j) (hz : ∀ i j, ¬ (i < n ∧ j < m) → M i j = 0) :
    ∃ k r c, 1 ≤ k ∧ k ≤ 3 ∧ Asc n k r ∧ Asc m k c ∧ Kern M n m k r c := by
  obtain ⟨b, u, w, hb, hd, F⟩ := fin3_of M n m hn hm hp hz h0
  have b0 := hb 0 (by omega)
  have b1 := hb 1 (by omega)
  have b2 := hb 2 (by omega)
  have d01 := hd 0 1 (by omega) (by omega) (by omega)
  have d02 := hd 0 2 (by omega) (by omega) (by omega)
  have d12 := hd 1 2 (by omega) (by omega) (by omega)
  have one : ∀ i i' i'' j j' j'', Prm i i' i'' → Prm j j' j'' → i < 3 → j < 3 → i' < 3 → i'' < 3 → j' < 3 → j'' < 3 → ¬ (b 0 = i + 3 ∨ b 1 = i + 3 ∨ b 2 = i + 3) → (b 0 = i' + 3 ∨ b 1 = i' + 3 ∨ b 2 = i' + 3) → (b 0 = i'' + 3 ∨ b 1 = i'' + 3 ∨ b 2 = i'' + 3) →
      (b 0 = j ∨ b 1 = j ∨ b 2 = j) → ¬ (b 0 = j' ∨ b 1 = j' ∨ b 2 = j') → ¬ (b 0 = j'' ∨ b 1 = j'' ∨ b 2 = j'') → ∃ k r c, 1 ≤ k ∧ k ≤ 3 ∧ Asc n k r ∧ Asc m k c ∧ Kern M n m k r c := by
    intro i i' i'' j j' j'' pi pj hi hj hi' hi'' hj' hj'' q1 q2 q3 q4 q5 q6
    exact ⟨1, _, _, by omega, by omega, ⟨fun p _ => F.bn i hi q1, fun p h => by omega⟩, ⟨fun p _ => F.bm j hj q4, fun p h => by omega⟩, one_ok F i i' i'' j j' j'' pi pj hi hj hi' hi'' hj' hj'' q1 q2 q3 q4 q5 q6⟩
  have twoK : ∀ i i' i'' j j' j'', Prm i i' i'' → Prm j j' j'' → i < i' → j < j' → i' < 3 → i'' < 3 → j' < 3 → j'' < 3 → j'' ≠ j → j'' ≠ j' → (∀ k, k < 3 → k = i ∨ k = i' ∨ k = i'') → ¬ (b 0 = i + 3 ∨ b 1 = i + 3 ∨ b 2 = i + 3) → ¬ (b 0 = i' + 3 ∨ b 1 = i' + 3 ∨ b 2 = i' + 3) → (b 0 = i'' + 3 ∨ b 1 = i'' + 3 ∨ b 2 = i'' + 3) →
      (b 0 = j ∨ b 1 = j ∨ b 2 = j) → (b 0 = j' ∨ b 1 = j' ∨ b 2 = j') → ¬ (b 0 = j'' ∨ b 1 = j'' ∨ b 2 = j'') → ∃ k r c, 1 ≤ k ∧ k ≤ 3 ∧ Asc n k r ∧ Asc m k c ∧ Kern M n m k r c := by
    intro i i' i'' j j' j'' pi pj hi hj hi' hi'' hj' hj'' n1 n2 ni q1 q2 q3 q4 q5 q6
    have two_asc : ∀ {n i i'}, i < n → i' < n → i < i' → Asc n 2 (two i i') := fun {n i i'} h1 h2 h3 => ⟨fun p hp => by unfold two; split <;> assumption, fun p hp => by
      obtain rfl : p = 0 := by omega
      simpa [two] using h3⟩
    exact ⟨2, _, _, by omega, by omega, two_asc (F.bn i (by omega) q1) (F.bn i' hi' q2) hi, two_asc (F.bm j (by omega) q4) (F.bm j' hj' q5) hj, two_ok F i i' i'' j j' j'' pi pj (by omega) (by omega) hi' hi'' hj' hj'' (by omega) n1 n2 ni q1 q2 q3 q4 q5 q6⟩
  by_cases c0 : b 0 = 0 ∨ b 1 = 0 ∨ b 2 = 0 <;> by_cases c1 : b 0 = 1 ∨ b 1 = 1 ∨ b 2 = 1 <;> by_cases c2 : b 0 = 2 ∨ b 1 = 2 ∨ b 2 = 2 <;>
    by_cases c3 : b 0 = 0 + 3 ∨ b 1 = 0 + 3 ∨ b 2 = 0 + 3 <;> by_cases c4 : b 0 = 1 + 3 ∨ b 1 = 1 + 3 ∨ b 2 = 1 + 3 <;> by_cases c5 : b 0 = 2 + 3 ∨ b 1 = 2 + 3 ∨ b 2 = 2 + 3
  all_goals first
    | (exfalso; omega)
    | skip
  all_goals first
    | exact one 0 1 2 0 1 2 (prm _ _ _ (by omega)) (prm _ _ _ (by omega)) (by omega) (by omega) (by omega) (by omega) (by omega) (by omega) c3 c4 c5 c0 c1 c2
    | exact one 0 1 2 1 0 2 (prm _ _ _ (by omega)) (prm _ _ _ (by omega)) (by omega) (by omega) (by omega) (by omega) (by omega) (by omega) c3 c4 c5 c1 c0 c2
    | exact one 0 1 2 2 0 1 (prm _ _ _ (by omega)) (prm _ _ _ (by omega)) (by omega) (by omega) (by omega) (by omega) (by omega) (by omega) c3 c4 c5 c2 c0 c1
    | exact one 1 0 2 0 1 2 (prm _ _ _ (by omega)) (prm _ _ _ (by omega)) (by omega) (by omega) (by omega) (by omega) (by omega) (by omega) c4 c3 c5 c0 c1 c2
    | exact one 1 0 2 1 0 2 (prm _ _ _ (by omega)) (prm _ _ _ (by omega)) (by omega) (by omega) (by omega) (by omega) (by omega) (by omega) c4 c3 c5 c1 c0 c2
    | exact one 1 0 2 2 0 1 (prm _ _ _ (by omega)) (prm _ _ _ (by omega)) (by omega) (by omega) (by omega) (by omega) (by omega) (by omega) c4 c3 c5 c2 c0 c1
    | exact one 2 0 1 0 1 2 (prm _ _ _ (by omega)) (prm _ _ _ (by omega)) (by omega) (by omega) (by omega) (by omega) (by omega) (by omega) c5 c3 c4 c0 c1 c2
    | exact one 2 0 1 1 0 2 (prm _ _ _ (by omega)) (prm _ _ _ (by omega)) (by omega) (by omega) (by omega) (by omega) (by omega) (by omega) c5 c3 c4 c1 c0 c2
    | exact one 2 0 1 2 0 1 (prm _ _ _ (by omega)) (prm _ _ _ (by omega)) (by omega) (by omega) (by omega) (by omega) (by omega) (by omega) c5 c3 c4 c2 c0 c1
    | exact twoK 0 1 2 0 1 2 (prm _ _ _ (by omega)) (prm _ _ _ (by omega)) (by omega) (by omega) (by omega) (by omega) (by omega) (by omega) (by omega) (by omega) (fun k hk => by omega) c3 c4 c5 c0 c1 c2
    | exact twoK 0 1 2 0 2 1 (prm _ _ _ (by omega)) (prm _ _ _ (by omega)) (by omega) (by omega) (by omega) (by omega) (by omega) (by omega) (by omega) (by omega) (fun k hk => by omega) c3 c4 c5 c0 c2 c1
    | exact twoK 0 1 2 1 2 0 (prm _ _ _ (by omega)) (prm _ _ _ (by omega)) (by omega) (by omega) (by omega) (by omega) (by omega) (by omega) (by omega) (by omega) (fun k hk => by omega) c3 c4 c5 c1 c2 c0
    | exact twoK 0 2 1 0 1 2 (prm _ _ _ (by omega)) (prm _ _ _ (by omega)) (by omega) (by omega) (by omega) (by omega) (by omega) (by omega) (by omega) (by omega) (fun k hk => by omega) c3 c5 c4 c0 c1 c2
    | exact twoK 0 2 1 0 2 1 (prm _ _ _ (by omega)) (prm _ _ _ (by omega)) (by omega) (by omega) (by omega) (by omega) (by omega) (by omega) (by omega) (by omega) (fun k hk => by omega) c3 c5 c4 c0 c2 c1
    | exact twoK 0 2 1 1 2 0 (prm _ _ _ (by omega)) (prm _ _ _ (by omega)) (by omega) (by omega) (by omega) (by omega) (by omega) (by omega) (by omega) (by omega) (fun k hk => by omega) c3 c5 c4 c1 c2 c0
    | exact twoK 1 2 0 0 1 2 (prm _ _ _ (by omega)) (prm _ _ _ (by omega)) (by omega) (by omega) (by omega) (by omega) (by omega) (by omega) (by omega) (by omega) (fun k hk => by omega) c4 c5 c3 c0 c1 c2
    | exact twoK 1 2 0 0 2 1 (prm _ _ _ (by omega)) (prm _ _ _ (by omega)) (by omega) (by omega) (by omega) (by omega) (by omega) (by omega) (by omega) (by omega) (fun k hk => by omega) c4 c5 c3 c0 c2 c1
    | exact twoK 1 2 0 1 2 0 (prm _ _ _ (by omega)) (prm _ _ _ (by omega)) (by omega) (by omega) (by omega) (by omega) (by omega) (by omega) (by omega) (by omega) (fun k hk => by omega) c4 c5 c3 c1 c2 c0
    | (exfalso; have e := F.uj 0 (by omega); rw [F.uz 0 (by omega) c3, F.uz 1 (by omega) c4, F.uz 2 (by omega) c5] at e; exact absurd e (by grind))
    | (have q : ∀ i, i < 3 → ¬ (b 0 = i + 3 ∨ b 1 = i + 3 ∨ b 2 = i + 3) := (fun i hi => by rcases lt3 hi with rfl | rfl | rfl <;> first | exact c3 | exact c4 | exact c5); have q' : ∀ i, i < 3 → (b 0 = i ∨ b 1 = i ∨ b 2 = i) := (fun i hi => by rcases lt3 hi with rfl | rfl | rfl <;> first | exact c0 | exact c1 | exact c2); exact ⟨3, _, _, by omega, by omega, ⟨fun p hp => F.bn p hp (q p hp), fun p hp => by show p < p + 1; omega⟩, ⟨fun p hp => F.bm p hp (q' p hp), fun p hp => by show p < p + 1; omega⟩, three_ok F q q'⟩)
end Go.Proofs.Ytoekpbcdgmejcaa.V

/- From a part of the table that tells best shares to shares that make the same sure from both sides. -/
namespace Go.Proofs.Ytoekpbcdgmejcaa
open V (sumN detN rowC colC Kern)

theorem dotc_sum (a : List (List Int)) (x : List Int) (j : Nat) : ∀ n, dotc a x j n = sumN (fun i => gi x i * g2 a i j) n
  | 0 => rfl
  | n + 1 => by rw [dotc, sumN, dotc_sum a x j n]
theorem sm_sum (x : List Int) : ∀ n, sm x n = sumN (gi x) n
  | 0 => rfl
  | n + 1 => by rw [sm, sumN, sm_sum x n]
theorem sumN_congr {f g : Nat → Int} : ∀ {n}, (∀ i, i < n → f i = g i) → sumN f n = sumN g n
  | 0, _ => rfl
  | n + 1, h => by rw [sumN, sumN, sumN_congr (n := n) fun i hi => h i (by omega), h n (by omega)]
theorem sumN_add (f g : Nat → Int) : ∀ n, sumN (fun i => f i + g i) n = sumN f n + sumN g n
  | 0 => rfl
  | n + 1 => by rw [sumN, sumN, sumN, sumN_add f g n]; omega
theorem sumN_mul (f : Nat → Int) (z : Int) : ∀ n, sumN (fun i => z * f i) n = z * sumN f n
  | 0 => by simp [sumN]
  | n + 1 => by rw [sumN, sumN, sumN_mul f z n, Int.mul_add]
theorem sumN_zero : ∀ n, sumN (fun _ => 0) n = 0
  | 0 => rfl
  | n + 1 => by rw [sumN, sumN_zero n]; rfl
theorem sumN_at (v : Int) (w : Nat → Int) (r : Nat) : ∀ {n}, sumN (fun i => (if r = i then v else 0) * w i) n = if r < n then v * w r else 0
  | 0 => by simp [sumN]
  | n + 1 => by
    rw [sumN, sumN_at v w r (n := n)]
    by_cases e : r = n
    · subst e; rw [if_neg (by omega), if_pos rfl, if_pos (by omega)]; omega
    · rw [if_neg e]
      by_cases h : r < n
      · rw [if_pos h, if_pos (by omega)]; simp
      · rw [if_neg h, if_neg (by omega)]; simp
/-- Numbers put to their places, weighed. -/
theorem sumN_put (X : Nat → Int) (r : Nat → Nat) (w : Nat → Int) (n : Nat) : ∀ {k}, (∀ p, p < k → r p < n) → sumN (fun i => sumN (fun p => if r p = i then X p else 0) k * w i) n = sumN (fun p => X p * w (r p)) k
  | 0, _ => by simp [sumN, sumN_zero]
  | k + 1, h => by
    have e : ∀ i, sumN (fun p => if r p = i then X p else 0) (k + 1) * w i = sumN (fun p => if r p = i then X p else 0) k * w i + (if r k = i then X k else 0) * w i := fun i => by rw [sumN, Int.add_mul]
    rw [sumN_congr fun i _ => e i, sumN_add, sumN_put X r w n (k := k) fun p hp => h p (by omega), sumN_at, if_pos (h k (by omega)), sumN]

/-- The table raised above 0, and 0 outside. -/
def up18 (a : List (List Int)) (n m i j : Nat) : Int := if i < n ∧ j < m then g2 a i j + 18 else 0
theorem up18_in {a : List (List Int)} {n m i j : Nat} (hi : i < n) (hj : j < m) : up18 a n m i j = g2 a i j + 18 := if_pos ⟨hi, hj⟩

/-- Shares that are the part's sums of cofactors but for a factor: their sum with a column. -/
theorem spread_dot (a : List (List Int)) (x : List Int) (n m k : Nat) (r : Nat → Nat) (X : Nat → Int) (G z : Int) (hr : ∀ p, p < k → r p < n) (hl : x.length = n)
    (hx : ∀ i, i < n → gi x i * G = z * sumN (fun p => if r p = i then X p else 0) k) :
    tot x * G = z * sumN X k ∧ ∀ j, j < m → dotc a x j n * G = z * sumN (fun p => X p * up18 a n m (r p) j) k - 18 * (z * sumN X k) := by
  have key : ∀ w : Nat → Int, sumN (fun i => gi x i * w i) n * G = z * sumN (fun p => X p * w (r p)) k := fun w => by
    have e : ∀ i, i < n → G * (gi x i * w i) = z * (sumN (fun p => if r p = i then X p else 0) k * w i) := fun i hi => by
      have := hx i hi
      generalize sumN (fun p => if r p = i then X p else 0) k = s at *
      grind
    rw [Int.mul_comm, ← sumN_mul, sumN_congr e, sumN_mul, sumN_put X r w n hr]
  have h1 := key fun _ => 1
  simp only [Int.mul_one] at h1
  have ht : tot x * G = z * sumN X k := by
    unfold tot
    rw [hl, sm_sum]
    exact h1
  refine ⟨ht, fun j hj => ?_⟩
  have h2 := key fun i => g2 a i j
  have h3 : sumN (fun p => X p * up18 a n m (r p) j) k = sumN (fun p => X p * g2 a (r p) j) k + 18 * sumN X k := by
    rw [← sumN_mul, ← sumN_add]
    exact sumN_congr fun p hp => by rw [up18_in (hr p hp) hj, Int.mul_add, Int.mul_comm (X p) 18]
  rw [dotc_sum, h2, h3, Int.mul_add]
  grind
theorem spread_key (x : List Int) (n k : Nat) (r : Nat → Nat) (X w : Nat → Int) (G z : Int) (hr : ∀ p, p < k → r p < n)
    (hx : ∀ i, i < n → gi x i * G = z * sumN (fun p => if r p = i then X p else 0) k) : sumN (fun i => gi x i * w i) n * G = z * sumN (fun p => X p * w (r p)) k := by
  have e : ∀ i, i < n → G * (gi x i * w i) = z * (sumN (fun p => if r p = i then X p else 0) k * w i) := fun i hi => by
    have := hx i hi
    generalize sumN (fun p => if r p = i then X p else 0) k = s at *
    grind
  rw [Int.mul_comm, ← sumN_mul, sumN_congr e, sumN_mul, sumN_put X r w n hr]
theorem spread_dot_neg (a b : List (List Int)) (y : List Int) (n m k : Nat) (c : Nat → Nat) (Y : Nat → Int) (H z : Int) (hc : ∀ q, q < k → c q < m) (hb : ∀ i j, i < n → j < m → g2 b j i = - g2 a i j)
    (hy : ∀ j, j < m → gi y j * H = z * sumN (fun q => if c q = j then Y q else 0) k) :
    ∀ i, i < n → dotc b y i m * H = - (z * sumN (fun q => up18 a n m i (c q) * Y q) k - 18 * (z * sumN Y k)) := by
  intro i hi
  have h2 := spread_key y m k c Y (fun j => g2 b j i) H z hc hy
  have h3 : sumN (fun q => up18 a n m i (c q) * Y q) k = sumN (fun q => (-1) * (Y q * g2 b (c q) i)) k + 18 * sumN Y k := by
    rw [← sumN_mul, ← sumN_add]
    exact sumN_congr fun q hq => by
      rw [up18_in hi (hc q hq), hb i (c q) hi (hc q hq)]
      grind
  rw [sumN_mul] at h3
  rw [dotc_sum, h2, h3]
  grind
theorem le_of_sign {z s D X : Int} (hz : z = 1 ∨ z = -1) (hs : 0 < z * s) (h : s * D ≤ s * X) : z * D ≤ z * X := by
  rcases hz with rfl | rfl
  · have := Int.le_of_mul_le_mul_left h (by omega)
    omega
  · have : (-s) * X ≤ (-s) * D := by rw [Int.neg_mul, Int.neg_mul]; omega
    have := Int.le_of_mul_le_mul_left this (by omega)
    omega

/-- Shares that are the sums of cofactors of a part that tells best ones, without their sign and a factor, are best. -/
theorem kern_best (a b : List (List Int)) (x y : List Int) (n m k : Nat) (r c : Nat → Nat) (hn : 1 ≤ n) (hm : 1 ≤ m) (hk : 1 ≤ k) (K : Kern (up18 a n m) n m k r c) (hr : ∀ p, p < k → r p < n) (hc : ∀ q, q < k → c q < m)
    (hb : ∀ i j, i < n → j < m → g2 b j i = - g2 a i j) (hlx : x.length = n) (hly : y.length = m) (G H z : Int) (hG : 0 < G) (hH : 0 < H) (hz : z = 1 ∨ z = -1)
    (hs : 0 < z * sumN (rowC k fun p q => up18 a n m (r p) (c q)) k)
    (hx : ∀ i, i < n → gi x i * G = z * sumN (fun p => if r p = i then rowC k (fun p q => up18 a n m (r p) (c q)) p else 0) k)
    (hy : ∀ j, j < m → gi y j * H = z * sumN (fun q => if c q = j then colC k (fun p q => up18 a n m (r p) (c q)) q else 0) k) :
    wst a x n m (m - 1) = (- (wst b y m n (n - 1)).1, (wst b y m n (n - 1)).2) := by
  obtain ⟨ht, hd⟩ := spread_dot a x n m k r _ G z hr hlx hx
  have hdn := spread_dot_neg a b y n m k c _ H z hc hb hy
  have hty : tot y * H = z * sumN (rowC k fun p q => up18 a n m (r p) (c q)) k := by
    have := spread_key y m k c _ (fun _ => 1) H z hc hy
    simp only [Int.mul_one] at this
    rw [K.eq] at this
    unfold tot
    rw [hly, sm_sum]
    exact this
  have tx : 0 < tot x := by
    apply Classical.byContradiction; intro h
    have : tot x * G ≤ 0 * G := Int.mul_le_mul_of_nonneg_right (by omega) (by omega)
    omega
  have ty : 0 < tot y := by
    apply Classical.byContradiction; intro h
    have : tot y * H ≤ 0 * H := Int.mul_le_mul_of_nonneg_right (by omega) (by omega)
    omega
  refine best_of a b x y n m hn hm tx ty _ (z * detN k (fun p q => up18 a n m (r p) (c q)) - 18 * (z * sumN (rowC k fun p q => up18 a n m (r p) (c q)) k)) G H hG hH ht hty (fun j hj => ?_) ⟨c 0, hc 0 (by omega), ?_⟩ (fun i hi => ?_) ⟨r 0, hr 0 (by omega), ?_⟩
  · rw [hd j hj]
    have := le_of_sign hz hs (K.xj j hj)
    omega
  · rw [hd _ (hc 0 (by omega)), K.xc 0 (by omega)]
  · rw [hdn i hi, K.eq]
    have := le_of_sign hz hs (K.yi i hi)
    omega
  · rw [hdn _ (hr 0 (by omega)), K.eq, K.yr 0 (by omega)]
end Go.Proofs.Ytoekpbcdgmejcaa

/- What one side makes sure is no more than what the other lets through; so the value is one. -/
namespace Go.Proofs.Ytoekpbcdgmejcaa
open V (sumN)

theorem sumN_swap (f : Nat → Nat → Int) (n m : Nat) : sumN (fun i => sumN (fun j => f i j) m) n = sumN (fun j => sumN (fun i => f i j) n) m := by
  induction n with
  | zero => simp [sumN, sumN_zero]
  | succ n ih => rw [sumN, ih, ← sumN_add]; exact sumN_congr fun j _ => rfl
theorem sumN_le {f g : Nat → Int} : ∀ {n}, (∀ i, i < n → f i ≤ g i) → sumN f n ≤ sumN g n
  | 0, _ => Int.le_refl _
  | n + 1, h => by
    have h1 := sumN_le (f := f) (g := g) (n := n) fun i hi => h i (by omega)
    have h2 := h n (by omega)
    rw [sumN, sumN]; omega

/-- Of a table and of it as the other side has it. -/
structure Duo (a b : List (List Int)) (x y : List Int) (n m : Nat) : Prop where
  n1 : 1 ≤ n
  m1 : 1 ≤ m
  neg : ∀ i j, i < n → j < m → g2 b j i = - g2 a i j
  lx : x.length = n
  ly : y.length = m
  x0 : ∀ i, i < n → 0 ≤ gi x i
  y0 : ∀ j, j < m → 0 ≤ gi y j
  tx : 0 < tot x
  ty : 0 < tot y
theorem Duo.weak {a b x y n m} (d : Duo a b x y n m) : (wst a x n m (m - 1)).1 * (wst b y m n (n - 1)).2 ≤ - (wst b y m n (n - 1)).1 * (wst a x n m (m - 1)).2 := by
  have hn1 := d.n1
  have hm1 := d.m1
  obtain ⟨j, hj, e1, hl⟩ := wst_least a x n m d.tx (m - 1)
  obtain ⟨i, hi, e2, hk⟩ := wst_least b y m n d.ty (n - 1)
  have h1 : colU a x n m j * tot y ≤ sumN (fun l => gi y l * dotc a x l n) m := by
    unfold tot
    rw [d.ly, sm_sum, ← sumN_mul]
    refine sumN_le fun l hl' => ?_
    have := hl l (by omega)
    rw [colU_dotc a x n m l hl'] at this
    rw [Int.mul_comm (gi y l)]
    exact Int.mul_le_mul_of_nonneg_right this (d.y0 l hl')
  have h2 : colU b y m n i * tot x ≤ sumN (fun l => gi x l * dotc b y l m) n := by
    unfold tot
    rw [d.lx, sm_sum, ← sumN_mul]
    refine sumN_le fun l hl' => ?_
    have := hk l (by omega)
    rw [colU_dotc b y m n l hl'] at this
    rw [Int.mul_comm (gi x l)]
    exact Int.mul_le_mul_of_nonneg_right this (d.x0 l hl')
  have h3 : sumN (fun l => gi x l * dotc b y l m) n = - sumN (fun l => gi y l * dotc a x l n) m := by
    have e : ∀ l, l < n → gi x l * dotc b y l m = sumN (fun q => (-1) * (gi y q * (gi x l * g2 a l q))) m := fun l hl' => by
      rw [dotc_sum, ← sumN_mul]
      exact sumN_congr fun q hq => by rw [d.neg l q hl' hq]; grind
    rw [sumN_congr e, sumN_swap]
    have e' : ∀ q, q < m → sumN (fun l => (-1) * (gi y q * (gi x l * g2 a l q))) n = (-1) * (gi y q * dotc a x q n) := fun q _ => by
      rw [sumN_mul, sumN_mul, ← dotc_sum]
    rw [sumN_congr e', sumN_mul]
    omega
  have h4 : ¬ (- colU b y m n i) * tot x < colU a x n m j * tot y := by rw [Int.neg_mul]; omega
  have h5 := mt (fr_lt (u := - colU b y m n i) (v := colU a x n m j) d.ty d.tx).1 h4
  rw [frU_neg, frD_neg] at h5
  rw [e1, e2]
  exact Int.not_lt.1 h5
theorem wst_frac (a : List (List Int)) (x : List Int) (n m : Nat) (tx : 0 < tot x) (k : Nat) : Int.gcd (wst a x n m k).1 (wst a x n m k).2 = 1 ∧ 0 < (wst a x n m k).2 := by
  obtain ⟨j, _, e, _⟩ := wst_least a x n m tx k
  rw [e]
  exact ⟨fr_coprime _ _ tx, frD_pos tx⟩
/-- What is sure from both sides is the most that any shares make sure. -/
theorem Duo.most {a b x y n m} (h : wst a x n m (m - 1) = (- (wst b y m n (n - 1)).1, (wst b y m n (n - 1)).2)) {x2 : List Int} (d2 : Duo a b x2 y n m) :
    (wst a x2 n m (m - 1)).1 * (wst a x n m (m - 1)).2 ≤ (wst a x n m (m - 1)).1 * (wst a x2 n m (m - 1)).2 := by
  have := d2.weak
  rw [h]
  exact this
/-- So it is the same, whatever shares are best. -/
theorem Duo.same {a b x y n m} (d : Duo a b x y n m) (h : wst a x n m (m - 1) = (- (wst b y m n (n - 1)).1, (wst b y m n (n - 1)).2)) {x2 y2 : List Int} (d2 : Duo a b x2 y2 n m)
    (h2 : wst a x2 n m (m - 1) = (- (wst b y2 m n (n - 1)).1, (wst b y2 m n (n - 1)).2)) : wst a x n m (m - 1) = wst a x2 n m (m - 1) := by
  have d12 : Duo a b x2 y n m := ⟨d.n1, d.m1, d.neg, d2.lx, d.ly, d2.x0, d.y0, d2.tx, d.ty⟩
  have d21 : Duo a b x y2 n m := ⟨d.n1, d.m1, d.neg, d.lx, d2.ly, d.x0, d2.y0, d.tx, d2.ty⟩
  have k1 := Duo.most h d12
  have k2 := Duo.most h2 d21
  have f1 := wst_frac a x n m d.tx (m - 1)
  have f2 := wst_frac a x2 n m d2.tx (m - 1)
  have := fr_unique f1.2 f2.2 (by omega) f1.1 f2.1
  exact Prod.ext this.1 this.2
end Go.Proofs.Ytoekpbcdgmejcaa

/- The harness of the exact laws: sizes, copies, comparisons. -/
namespace Go.Proofs.Ytoekpbcdgmejcaa
open Go.RowKit

def szI (left : Int) (n : Nat) : Int := if left - n < 0 then -1 else left - n

def eqI (xs ys : List Int) : Bool := decide (xs = ys)
theorem eqI_len {xs ys : List Int} (h : xs.length ≠ ys.length) : eqI xs ys = false := by
  unfold eqI; exact decide_eq_false fun e => h (by rw [e])
theorem eqI_no {xs ys : List Int} {k : Nat} (h : gi xs k ≠ gi ys k) : eqI xs ys = false := by
  unfold eqI; exact decide_eq_false fun e => h (by rw [e])
theorem eqI_yes {xs ys : List Int} (hl : xs.length = ys.length) (h : ∀ k, k < xs.length → gi xs k = gi ys k) : eqI xs ys = true := by
  unfold eqI
  exact decide_eq_true (gi_ext hl h)

/-- The size of rows, off a bound. -/
def szR : Int → List (List Int) → Int
  | left, [] => left
  | left, x :: xs => if szI left x.length < 0 then -1 else szR (szI left x.length) xs
def szRR (left : Int) (xss : List (List Int)) : Int := if szI left xss.length < 0 then -1 else szR (szI left xss.length) xss
theorem szI_le (left : Int) (n : Nat) (h0 : 0 ≤ left) (h1 : left ≤ 1048576) : -1 ≤ szI left n ∧ szI left n ≤ 1048576 := by unfold szI; split <;> omega
theorem szR_neg {left : Int} {x : List Int} {xs : List (List Int)} (h : szI left x.length < 0) : szR left (x :: xs) = -1 := by rw [szR, if_pos h]
theorem szR_pos {left : Int} {x : List Int} {xs : List (List Int)} (h : ¬ szI left x.length < 0) : szR left (x :: xs) = szR (szI left x.length) xs := by rw [szR, if_neg h]
theorem gr_drop {xss : List (List Int)} {k : Nat} (h : k < xss.length) : xss.drop k = gr xss k :: xss.drop (k + 1) := by
  rw [gr_get h]; exact List.drop_eq_getElem_cons h

def eqRR (xss yss : List (List Int)) : Bool := decide (xss = yss)
theorem eqRR_len {xs ys : List (List Int)} (h : xs.length ≠ ys.length) : eqRR xs ys = false := by
  unfold eqRR; exact decide_eq_false fun e => h (by rw [e])
theorem eqRR_no {xs ys : List (List Int)} {k : Nat} (h : eqI (gr xs k) (gr ys k) = false) : eqRR xs ys = false := by
  unfold eqRR; exact decide_eq_false fun e => by rw [e] at h; simp [eqI] at h
theorem eqRR_yes {xs ys : List (List Int)} (hl : xs.length = ys.length) (h : ∀ k, k < xs.length → eqI (gr xs k) (gr ys k) = true) : eqRR xs ys = true := by
  unfold eqRR
  exact decide_eq_true (gr_ext hl fun k hk => by simpa [eqI] using h k hk)

end Go.Proofs.Ytoekpbcdgmejcaa

/- The harness of the exact laws: copies. -/
namespace Go.Proofs.Ytoekpbcdgmejcaa
open Go.RowKit
theorem Try.info3 : (Try.prog.info? 3).map (fun i => (i.zero, i.size, i.bytes)) = some (some (.int .i64 0), 1, 8) := by kernel_rfl
theorem Try.info26 : (Try.prog.info? 26).map (fun i => (i.zero, i.size, i.bytes)) = some (some (.slice none 0 0), 1, 24) := by kernel_rfl

/-- A row that is filled up to k. -/
def filled (xs : List Int) (k : Nat) : Nat → Value := fun j => if j < k then .int .i64 (gi xs j) else .int .i64 0

theorem filled_set {w : World} {g n k : Nat} {xs : List Int} (h : w.rowIs g 3 n (filled xs k)) : (w.setCell ⟨g, k, none⟩ (.int .i64 (gi xs k))).rowIs g 3 n (filled xs (k + 1)) :=
  (h.set k _).congr fun j _ => by
    unfold filled
    by_cases e : j = k
    · subst e; simp
    · rw [if_neg e]
      by_cases hj : j < k
      · rw [if_pos hj, if_pos (by omega)]
      · rw [if_neg hj, if_neg (by omega)]

def MadeI (w : World) (n : Nat) (xs : List Int) (e : Ending) (w' : World) : Prop :=
  e = .returned (.slice (some ⟨w.heap.size, 0, none⟩) n n) ∧ OwnI w.heap.size (w.heap.size + 1) w' w.heap.size (some ⟨w.heap.size, 0, none⟩) n n xs ∧ Below w.heap.size w w' ∧ w'.heap.size = w.heap.size + 1

/-- The outer row when k copies are made. -/
def tops (B : Nat) (xss : List (List Int)) (k : Nat) : Nat → Value := fun j => if j < k then .slice (some ⟨B + 1 + j, 0, none⟩) (gr xss j).length (gr xss j).length else .slice none 0 0
structure Copied (w wr : World) (n k : Nat) (xss : List (List Int)) : Prop where
  below : Below w.heap.size w wr
  size : wr.heap.size = w.heap.size + 1 + k
  top : wr.rowIs w.heap.size 26 n (tops w.heap.size xss k)
  done : ∀ j, j < k → OwnI w.heap.size wr.heap.size wr (w.heap.size + 1 + j) (some ⟨w.heap.size + 1 + j, 0, none⟩) (gr xss j).length (gr xss j).length (gr xss j)

theorem copied_start (w : World) (n : Nat) (xss : List (List Int)) : Copied w (w.alloc (.cells (madeCells #[.slice none 0 0] n) 26)) n 0 xss :=
  ⟨(Below.refl _ _).alloc (Nat.le_refl _) _, by simp, (World.rowIs_made w _ n 26).congr (fun j _ => by simp [tops]), fun j hj => absurd hj (Nat.not_lt_zero _)⟩

theorem copied_step {w wr w1 : World} {n k : Nat} {xss : List (List Int)} {e : Ending} (h : Copied w wr n k xss) (m : MadeI wr (gr xss k).length (gr xss k) e w1) :
    e = .returned (.slice (some ⟨w.heap.size + 1 + k, 0, none⟩) (gr xss k).length (gr xss k).length) ∧
    Copied w (w1.setCell ⟨w.heap.size, k, none⟩ (.slice (some ⟨w.heap.size + 1 + k, 0, none⟩) (gr xss k).length (gr xss k).length)) n (k + 1) xss := by
  obtain ⟨he, hown, hbel, hsz⟩ := m
  rw [h.size] at he hown hsz
  have hb : Below w.heap.size w w1 := h.below.trans (hbel.mono h.below.size)
  refine ⟨he, ⟨hb.setCell (Nat.le_refl _) _, by simp [hsz]; omega, ?_, fun j hj => ?_⟩⟩
  · refine ((h.top.of_block (hbel.block _ (by rw [h.size]; omega))).set k _).congr fun j _ => ?_
    unfold tops
    by_cases e : j = k
    · subst e; simp
    · rw [if_neg e]
      by_cases hj : j < k
      · rw [if_pos hj, if_pos (by omega)]
      · rw [if_neg hj, if_neg (by omega)]
  · by_cases e : j = k
    · subst e
      exact (hown.mono (by omega) (by simp [World.setCell, hsz])).of_block fun _ => Below.heap_setCell _ _ _ _ (by show w.heap.size + 1 + j ≠ w.heap.size; omega)
    · refine (((h.done j (by omega)).below hbel).mono (Nat.le_refl _) (by have := hbel.size; simpa [World.setCell] using this)).of_block fun _ => Below.heap_setCell _ _ _ _ (by show w.heap.size + 1 + j ≠ w.heap.size; omega)

theorem copied_own {w wr : World} {n : Nat} {xss : List (List Int)} (h : Copied w wr n n xss) (hl : xss.length = n) (hm : n ≤ 5864062014805) :
    OwnR w.heap.size wr.heap.size wr w.heap.size (some ⟨w.heap.size, 0, none⟩) n n xss :=
  ⟨hl, Nat.le_refl _, hm, fun _ => ⟨0, fun k => w.heap.size + 1 + k, fun k => some ⟨w.heap.size + 1 + k, 0, none⟩, fun k => (gr xss k).length, rfl, Nat.le_refl _, h.top.lt,
    fun k hk => ⟨by rw [Nat.zero_add]; exact h.top.frozen k, by rw [Nat.zero_add, h.top.cell hk, tops, if_pos hk], h.done k hk, fun _ => by show w.heap.size + 1 + k ≠ w.heap.size; omega⟩, fun j k hj _ _ _ => by show w.heap.size + 1 + j ≠ w.heap.size + 1 + k; omega⟩⟩

def MadeR (w : World) (n : Nat) (xss : List (List Int)) (e : Ending) (w' : World) : Prop :=
  e = .returned (.slice (some ⟨w.heap.size, 0, none⟩) n n) ∧ OwnR w.heap.size w'.heap.size w' w.heap.size (some ⟨w.heap.size, 0, none⟩) n n xss ∧ Below w.heap.size w w' ∧ w.heap.size < w'.heap.size

end Go.Proofs.Ytoekpbcdgmejcaa

/- Slices that a call makes by append: of ints, and of slices of ints. -/
namespace Go.Proofs.Ytoekpbcdgmejcaa
open Go.RowKit

def iv (x : Int) : Value := .int .i64 x
/-- A slice of ints, made by append, in a block from lo up to less than hi. -/
structure BldI (lo hi : Nat) (w : World) (v : Value) (xs : List Int) : Prop where
  own : w.ownsRow lo 3 1 v xs.length (xs.map iv)
  hi_ : ∀ k, v.ownBlock = some k → k < hi
theorem blk_kept {w w' : World} {base : Nat} {e : TypeId} {size n : Nat} {v : Value} {xs : List Value} (h : w.ownsRow base e size v n xs) (k : ∀ g, v.ownBlock = some g → w'.heap[g]? = w.heap[g]?) : w'.ownsRow base e size v n xs := by
  obtain ⟨h1, h2⟩ := h
  refine ⟨h1, ?_⟩
  rcases h2 with h2 | ⟨g, cap, cur, rfl, hb, hg, r⟩
  · exact .inl h2
  · exact .inr ⟨g, cap, cur, rfl, hb, (k g rfl).trans hg, r⟩
theorem BldI.nil (lo hi : Nat) (w : World) : BldI lo hi w (.slice none 0 0) [] := ⟨World.ownsRow_nil _ _ _ _, fun k h => by simp [Value.ownBlock] at h⟩
theorem BldI.below {lo hi w w' v xs} (h : BldI lo hi w v xs) (k : Below w.heap.size w w') : BldI lo hi w' v xs :=
  ⟨blk_kept h.own fun g hg => k.block g (h.own.lt g hg).2, h.hi_⟩
theorem BldI.mono {lo hi hi' w v xs} (h : BldI lo hi w v xs) (hh : hi ≤ hi') : BldI lo hi' w v xs := ⟨h.own, fun k hk => Nat.lt_of_lt_of_le (h.hi_ k hk) hh⟩
theorem BldI.touch {lo hi lo' hi' w w' v xs} (h : BldI lo hi w v xs) (k : Touch lo' hi' w w') (hd : hi ≤ lo' ∨ hi' ≤ lo) : BldI lo hi w' v xs :=
  ⟨blk_kept h.own fun g hg => k.block g (by have := h.hi_ g hg; have := (h.own.lt g hg).1; omega), h.hi_⟩
theorem getElem_iv {xs : List Int} {k : Nat} (h : k < xs.length) : (xs.map iv)[k]? = some (.int .i64 (gi xs k)) := by
  rw [List.getElem?_map, List.getElem?_eq_getElem h, gi_get h]; rfl
theorem BldI.owns {lo hi w v xs} (h : BldI lo hi w v xs) (hm : xs.length ≤ 17592186044416) (hwf : ∀ x ∈ xs, -9223372036854775808 ≤ x ∧ x ≤ 9223372036854775807) :
    ∃ A n c g, v = .slice A n c ∧ n = xs.length ∧ OwnI lo hi w g A n c xs ∧ ∀ k, v.ownBlock = some k → k = g := by
  have hh := h.hi_
  rcases h.own.2 with ⟨rfl, h0⟩ | ⟨g, cap, cur, rfl, hb, hg, hnc, _, hcs, htake⟩
  · have hx : xs = [] := List.eq_nil_of_length_eq_zero h0
    subst hx
    exact ⟨none, 0, 0, 0, rfl, rfl, OwnI.nil _ _ _ _, fun k hk => by simp [Value.ownBlock] at hk⟩
  · refine ⟨some ⟨g, 0, none⟩, xs.length, cap, g, rfl, rfl, ⟨⟨rfl, hnc, hm, hwf, fun _ => ⟨g, 0, rfl, fun k hk => ?_⟩⟩, fun _ => ⟨0, rfl, hb, hh g rfl, fun k _ => ?_⟩⟩, fun k hk => by simpa [Value.ownBlock] using hk.symm⟩
    · rw [Nat.zero_add, ← getElem_iv hk, ← htake, List.getElem?_take, if_pos (by omega)]
      simp [World.cell?, hg]
    · rw [Nat.zero_add]; simp [World.frozen?, hg]

theorem BldI.make {lo : Nat} {w : World} (hlo : lo ≤ w.heap.size) : BldI lo (w.heap.size + 1) (w.alloc (.cells #[] 3)) (.slice (some ⟨w.heap.size, 0, none⟩) 0 0) [] :=
  ⟨World.ownsRow_made (e := 3) (size := 1) w #[] 0 hlo (Nat.zero_le _) rfl, fun k hk => by simp [Value.ownBlock] at hk; omega⟩

/-- Slices of ints under construction: the outer slice made by append, its cells vs, each row in a block of its own. -/
structure Bld (lo hi : Nat) (w : World) (v : Value) (vs : List Value) (xss : List (List Int)) : Prop where
  own : w.ownsRow lo 26 1 v xss.length vs
  hi_ : ∀ k, v.ownBlock = some k → k < hi
  ex : ∃ (G : Nat → Nat) (R : Nat → Option Addr) (C : Nat → Nat), (∀ k, k < xss.length → vs[k]? = some (.slice (R k) (gr xss k).length (C k)) ∧ OwnI lo hi w (G k) (R k) (gr xss k).length (C k) (gr xss k) ∧ (0 < (gr xss k).length → v.ownBlock ≠ some (G k))) ∧
    ∀ j k, j < k → k < xss.length → 0 < (gr xss j).length → 0 < (gr xss k).length → G j ≠ G k
theorem Bld.nil (lo hi : Nat) (w : World) : Bld lo hi w (.slice none 0 0) [] [] :=
  ⟨World.ownsRow_nil _ _ _ _, fun k h => by simp [Value.ownBlock] at h, fun _ => 0, fun _ => none, fun _ => 0, fun k h => absurd h (by simp), fun _ k _ h => absurd h (by simp)⟩
theorem Bld.make {lo : Nat} {w : World} (hlo : lo ≤ w.heap.size) : Bld lo (w.heap.size + 1) (w.alloc (.cells #[] 26)) (.slice (some ⟨w.heap.size, 0, none⟩) 0 0) [] [] :=
  ⟨World.ownsRow_made (e := 26) (size := 1) w #[] 0 hlo (Nat.zero_le _) rfl, fun k hk => by simp [Value.ownBlock] at hk; omega, fun _ => 0, fun _ => none, fun _ => 0, fun k h => absurd h (by simp), fun _ k _ h => absurd h (by simp)⟩
theorem Bld.mono {lo hi hi' w v vs xss} (h : Bld lo hi w v vs xss) (hh : hi ≤ hi') : Bld lo hi' w v vs xss := by
  obtain ⟨h1, h4, G, R, C, h2, h3⟩ := h
  exact ⟨h1, fun k hk => Nat.lt_of_lt_of_le (h4 k hk) hh, G, R, C, fun k hk => ⟨(h2 k hk).1, (h2 k hk).2.1.mono (Nat.le_refl _) hh, (h2 k hk).2.2⟩, h3⟩
theorem Bld.of_blocks {lo hi w w' v vs xss} (h : Bld lo hi w v vs xss) (e : ∀ g, lo ≤ g → g < hi → g < w.heap.size → w'.heap[g]? = w.heap[g]?) : Bld lo hi w' v vs xss := by
  obtain ⟨h1, h4, G, R, C, h2, h3⟩ := h
  refine ⟨blk_kept h1 fun g hg => e g (h1.lt g hg).1 (h4 g hg) (h1.lt g hg).2, h4, G, R, C, fun k hk => ⟨(h2 k hk).1, (h2 k hk).2.1.of_block fun hp => ?_, (h2 k hk).2.2⟩, h3⟩
  obtain ⟨_, _, a, b, _⟩ := (h2 k hk).2.1.own hp
  exact e _ a b ((h2 k hk).2.1.lt hp)
theorem Bld.below {lo hi w w' v vs xss} (h : Bld lo hi w v vs xss) (k : Below w.heap.size w w') : Bld lo hi w' v vs xss := h.of_blocks fun g _ _ hg => k.block g hg

theorem gr_snoc_lt {xss : List (List Int)} {r : List Int} {k : Nat} (h : k < xss.length) : gr (xss ++ [r]) k = gr xss k := by
  rw [gr_get h, gr_get (by simp; omega), List.getElem_append_left h]
theorem gr_snoc_eq {xss : List (List Int)} {r : List Int} : gr (xss ++ [r]) xss.length = r := by
  rw [gr_get (by simp), List.getElem_append_right (Nat.le_refl _)]; simp

/-- One row more. -/
theorem Bld.push {lo hi : Nat} {w w1 w' : World} {v v' : Value} {vs : List Value} {xss : List (List Int)} {r : List Int} {g : Nat} {A : Option Addr} {c : Nat}
    (h : Bld lo hi w v vs xss) (hk : Below w.heap.size w w1) (hr : OwnI hi w1.heap.size w1 g A r.length c r)
    (hown : w'.ownsRow lo 26 1 v' (xss.length + 1) (vs ++ [.slice A r.length c]))
    (hgrow : w1.grownBy w' v.ownBlock) (hat : v'.ownBlock = v.ownBlock ∨ v'.ownBlock = some w1.heap.size) (hlo : lo ≤ hi) (hhi : hi ≤ w.heap.size) :
    Bld lo w'.heap.size w' v' (vs ++ [.slice A r.length c]) (xss ++ [r]) := by
  obtain ⟨h1, h4, G, R, C, h2, h3⟩ := h
  have hvl : vs.length = xss.length := by have := h1.1; omega
  have hsz := hk.size
  have hsz' := hgrow.size
  have keepI : ∀ {lo hi : Nat} {b : Nat} {B : Option Addr} {n c : Nat} {xs : List Int}, OwnI lo hi w1 b B n c xs → (0 < n → v.ownBlock ≠ some b) → OwnI lo hi w' b B n c xs :=
    fun ho hne => ho.of_block fun hp => hgrow.block _ (ho.lt hp) (fun e => hne hp e.symm)
  have hfar : 0 < r.length → v.ownBlock ≠ some g := fun hp e => by
    have a := h4 g e
    obtain ⟨_, _, b, _⟩ := hr.own hp
    omega
  refine ⟨by rw [List.length_append, List.length_singleton]; exact hown, fun k hk' => ?_, fun k => if k < xss.length then G k else g, fun k => if k < xss.length then R k else A, fun k => if k < xss.length then C k else c, ?_, ?_⟩
  · rcases hat with hat | hat
    · have := h4 k (by rw [← hat]; exact hk'); omega
    · have := (hown.lt k hk').2; omega
  · intro k hk'
    rw [List.length_append, List.length_singleton] at hk'
    by_cases e : k < xss.length
    · simp only [if_pos e, gr_snoc_lt e]
      obtain ⟨q0, a, b⟩ := h2 k e
      refine ⟨by rw [List.getElem?_append_left (by omega)]; exact q0, keepI ((a.below hk).mono (Nat.le_refl _) (by omega)) b, fun hp => ?_⟩
      rcases hat with hat | hat
      · rw [hat]; exact b hp
      · rw [hat]; intro e'; injection e' with e'; obtain ⟨_, _, _, q, _⟩ := a.own hp; omega
    · obtain rfl : k = xss.length := by omega
      simp only [if_neg e, gr_snoc_eq]
      refine ⟨by rw [← hvl, List.getElem?_append_right (Nat.le_refl _)]; simp, keepI (hr.mono hlo hsz') hfar, fun hp => ?_⟩
      rcases hat with hat | hat
      · rw [hat]; exact hfar hp
      · rw [hat]; intro e'; injection e' with e'; obtain ⟨_, _, _, q, _⟩ := hr.own hp; omega
  · intro j k hjk hk' hj0 hk0
    rw [List.length_append, List.length_singleton] at hk'
    have ej : j < xss.length := by omega
    simp only [if_pos ej]
    rw [gr_snoc_lt ej] at hj0
    by_cases e : k < xss.length
    · simp only [if_pos e]
      rw [gr_snoc_lt e] at hk0
      exact h3 j k hjk e hj0 hk0
    · obtain rfl : k = xss.length := by omega
      simp only [if_neg e]
      rw [gr_snoc_eq] at hk0
      obtain ⟨_, _, _, q, _⟩ := (h2 j ej).2.1.own hj0
      obtain ⟨_, _, q', _⟩ := hr.own hk0
      omega

theorem Bld.owns {lo hi w v vs xss} (h : Bld lo hi w v vs xss) (hm : xss.length ≤ 5864062014805) : ∃ A n c g, v = .slice A n c ∧ n = xss.length ∧ OwnR lo hi w g A n c xss := by
  obtain ⟨h1, hh, G, R, C, h2, h3⟩ := h
  rcases h1.2 with ⟨rfl, h0⟩ | ⟨g, cap, cur, rfl, hb, hg, hnc, _, hcs, htake⟩
  · have hx : xss = [] := List.eq_nil_of_length_eq_zero h0
    subst hx
    exact ⟨none, 0, 0, 0, rfl, rfl, OwnR.nil _ _ _ _⟩
  · refine ⟨some ⟨g, 0, none⟩, xss.length, cap, g, rfl, rfl, ⟨rfl, hnc, hm, fun _ => ⟨0, G, R, C, rfl, hb, hh g rfl, fun k hk => ⟨?_, ?_, (h2 k hk).2.1, fun hp e => (h2 k hk).2.2 hp (by rw [e]; rfl)⟩, h3⟩⟩⟩
    · rw [Nat.zero_add]; simp [World.frozen?, hg]
    · rw [Nat.zero_add, ← (h2 k hk).1, ← htake, List.getElem?_take, if_pos (by omega)]
      simp [World.cell?, hg]

theorem pair_own {lo : Nat} {w : World} (x y : Int) (hx : -9223372036854775808 ≤ x ∧ x ≤ 9223372036854775807) (hy : -9223372036854775808 ≤ y ∧ y ≤ 9223372036854775807) (hlo : lo ≤ w.heap.size) :
    OwnI lo (w.heap.size + 1) (w.alloc (.cells #[.int .i64 x, .int .i64 y] 3)) w.heap.size (some ⟨w.heap.size, 0, none⟩) 2 2 [x, y] := by
  have hb := blk_new w 3 #[.int .i64 x, .int .i64 y]
  refine ⟨⟨rfl, Nat.le_refl _, by omega, ?_, fun _ => ⟨_, 0, rfl, fun k hk => ?_⟩⟩, fun _ => ⟨0, rfl, hlo, Nat.lt_succ_self _, fun k _ => blk_frozen hb _⟩⟩
  · intro z hz
    simp only [List.mem_cons, List.not_mem_nil, or_false] at hz
    rcases hz with rfl | rfl
    · exact hx
    · exact hy
  · rw [Nat.zero_add]
    match k, hk with
    | 0, _ => exact blk_cell hb rfl
    | 1, _ => exact blk_cell hb rfl

/-- One pair more. -/
theorem push_pair {lo : Nat} {w w' : World} {v v' : Value} {vs : List Value} {xss : List (List Int)} {x y : Int}
    (h : Bld lo w.heap.size w v vs xss) (hx : -9223372036854775808 ≤ x ∧ x ≤ 9223372036854775807) (hy : -9223372036854775808 ≤ y ∧ y ≤ 9223372036854775807)
    (hown : w'.ownsRow lo 26 1 v' (xss.length + 1) (vs ++ [.slice (some ⟨w.heap.size, 0, none⟩) 2 2]))
    (hgrow : ((w.alloc (.cells #[.int .i64 x, .int .i64 y] 3)).alloc (.cells #[.slice (some ⟨w.heap.size, 0, none⟩) 2 2] 26)).grownBy w' v.ownBlock)
    (hat : v'.ownBlock = v.ownBlock ∨ v'.ownBlock = some (w.heap.size + 1 + 1)) (hlo : lo ≤ w.heap.size) :
    Bld lo w'.heap.size w' v' (vs ++ [.slice (some ⟨w.heap.size, 0, none⟩) 2 2]) (xss ++ [[x, y]]) ∧ Below lo w w' := by
  have hb3 := below_alloc w (.cells #[.int .i64 x, .int .i64 y] 3)
  have hb4 := below_alloc (w.alloc (.cells #[.int .i64 x, .int .i64 y] 3)) (.cells #[.slice (some ⟨w.heap.size, 0, none⟩) 2 2] 26)
  have hb := below_up hb3 hb4
  have ho := (pair_own (lo := w.heap.size) (w := w) x y hx hy (Nat.le_refl _)).below hb4
  refine ⟨h.push (r := [x, y]) hb (ho.mono (Nat.le_refl _) (by simp)) hown hgrow (by simpa using hat) hlo (Nat.le_refl _), ?_⟩
  exact (hb.mono hlo).grown hgrow (by simp; omega) fun k hk => (h.own.lt k hk).1
theorem Bld.form {lo hi w v vs xss} (h : Bld lo hi w v vs xss) : ∃ A c, v = .slice A xss.length c := by
  rcases h.own.2 with ⟨rfl, h0⟩ | ⟨g, cap, cur, rfl, _⟩
  · exact ⟨none, 0, by rw [h0]⟩
  · exact ⟨_, _, rfl⟩
theorem BldI.form {lo hi w v xs} (h : BldI lo hi w v xs) : ∃ A c, v = .slice A xs.length c := by
  rcases h.own.2 with ⟨rfl, h0⟩ | ⟨g, cap, cur, rfl, _⟩
  · exact ⟨none, 0, by rw [h0]⟩
  · exact ⟨_, _, rfl⟩
theorem BldI.of_blocks {lo hi w w' v xs} (h : BldI lo hi w v xs) (e : ∀ g, lo ≤ g → g < hi → g < w.heap.size → w'.heap[g]? = w.heap[g]?) : BldI lo hi w' v xs :=
  ⟨blk_kept h.own fun g hg => e g (h.own.lt g hg).1 (h.hi_ g hg) (h.own.lt g hg).2, h.hi_⟩

end Go.Proofs.Ytoekpbcdgmejcaa

/- Squares in lists: a row without a column, a square without a row and a column; determinants and cofactors of squares with small numbers; transposed squares. Plain. -/
namespace Go.Proofs.Ytoekpbcdgmejcaa
open V (sumN detN rowC colC cofN minorN skip sgn)

theorem gi_snoc_lt {xs : List Int} {x : Int} {k : Nat} (h : k < xs.length) : gi (xs ++ [x]) k = gi xs k := by
  rw [gi_get h, gi_get (by simp; omega), List.getElem_append_left h]
theorem gi_snoc_eq {xs : List Int} {x : Int} : gi (xs ++ [x]) xs.length = x := by
  rw [gi_get (by simp), List.getElem_append_right (Nat.le_refl _)]; simp

/-- The first j numbers of a row, without that of column c. -/
def rowW (xs : List Int) (c : Nat) : Nat → List Int
  | 0 => []
  | j + 1 => if j = c then rowW xs c j else rowW xs c j ++ [gi xs j]
theorem rowW_at {xs : List Int} {c : Nat} : rowW xs c (c + 1) = rowW xs c c := by rw [rowW, if_pos rfl]
theorem rowW_ne {xs : List Int} {c j : Nat} (h : j ≠ c) : rowW xs c (j + 1) = rowW xs c j ++ [gi xs j] := by rw [rowW, if_neg h]
theorem rowW_len (xs : List Int) (c : Nat) : ∀ j, (rowW xs c j).length = if c < j then j - 1 else j
  | 0 => by simp [rowW]
  | j + 1 => by
    have := rowW_len xs c j
    by_cases e : j = c
    · subst e; rw [rowW_at, this, if_neg (by omega), if_pos (by omega)]; omega
    · rw [rowW_ne e, List.length_append, List.length_singleton, this]
      split <;> split <;> omega
theorem gi_rowW (xs : List Int) (c : Nat) : ∀ j p, p < (rowW xs c j).length → gi (rowW xs c j) p = gi xs (skip c p)
  | 0, p, h => by simp [rowW] at h
  | j + 1, p, h => by
    by_cases e : j = c
    · subst e; rw [rowW_at] at h ⊢; exact gi_rowW xs j j p h
    · rw [rowW_ne e] at h ⊢
      have hl := rowW_len xs c j
      by_cases hp : p < (rowW xs c j).length
      · rw [gi_snoc_lt hp]; exact gi_rowW xs c j p hp
      · rw [List.length_append, List.length_singleton] at h
        obtain rfl : p = (rowW xs c j).length := by omega
        rw [gi_snoc_eq]
        congr 1
        unfold skip
        split at hl <;> split <;> omega
theorem rowW_mem (xs : List Int) (c : Nat) {j : Nat} (hj : j ≤ xs.length) {x : Int} (h : x ∈ rowW xs c j) : x ∈ xs := by
  induction j with
  | zero => simp [rowW] at h
  | succ j ih =>
    rw [rowW] at h
    split at h
    · exact ih (by omega) h
    · rcases List.mem_append.1 h with h | h
      · exact ih (by omega) h
      · simp at h; subst h; exact gi_mem (by omega)

/-- The first i rows of a square of n, without row r, each without column c. -/
def minW (a : List (List Int)) (r c n : Nat) : Nat → List (List Int)
  | 0 => []
  | i + 1 => if i = r then minW a r c n i else minW a r c n i ++ [rowW (gr a i) c n]
theorem minW_at {a : List (List Int)} {r c n : Nat} : minW a r c n (r + 1) = minW a r c n r := by rw [minW, if_pos rfl]
theorem minW_ne {a : List (List Int)} {r c n i : Nat} (h : i ≠ r) : minW a r c n (i + 1) = minW a r c n i ++ [rowW (gr a i) c n] := by rw [minW, if_neg h]
theorem minW_len (a : List (List Int)) (r c n : Nat) : ∀ i, (minW a r c n i).length = if r < i then i - 1 else i
  | 0 => by simp [minW]
  | i + 1 => by
    have := minW_len a r c n i
    by_cases e : i = r
    · subst e; rw [minW_at, this, if_neg (by omega), if_pos (by omega)]; omega
    · rw [minW_ne e, List.length_append, List.length_singleton, this]
      split <;> split <;> omega
theorem minW_le (a : List (List Int)) (r c n : Nat) (i : Nat) : (minW a r c n i).length ≤ i := by rw [minW_len]; split <;> omega
theorem rowW_le (xs : List Int) (c : Nat) (j : Nat) : (rowW xs c j).length ≤ j := by rw [rowW_len]; split <;> omega
theorem gr_minW (a : List (List Int)) (r c n : Nat) : ∀ i p, p < (minW a r c n i).length → gr (minW a r c n i) p = rowW (gr a (skip r p)) c n
  | 0, p, h => by simp [minW] at h
  | i + 1, p, h => by
    by_cases e : i = r
    · subst e; rw [minW_at] at h ⊢; exact gr_minW a i c n i p h
    · rw [minW_ne e] at h ⊢
      have hl := minW_len a r c n i
      by_cases hp : p < (minW a r c n i).length
      · rw [gr_snoc_lt hp]; exact gr_minW a r c n i p hp
      · rw [List.length_append, List.length_singleton] at h
        obtain rfl : p = (minW a r c n i).length := by omega
        rw [gr_snoc_eq]
        congr 2
        unfold skip
        split at hl <;> split <;> omega

/-- A square of k rows in a list, whose numbers are f's. -/
structure Sq (k : Nat) (xss : List (List Int)) (f : Nat → Nat → Int) : Prop where
  len : xss.length = k
  row : ∀ p, p < k → (gr xss p).length = k
  eq : ∀ p q, p < k → q < k → g2 xss p q = f p q
theorem skip_lt {k i p : Nat} (h : p < k) : skip i p < k + 1 := by unfold skip; split <;> omega
theorem Sq.minor {k : Nat} {xss : List (List Int)} {f : Nat → Nat → Int} (h : Sq (k + 1) xss f) {r c : Nat} (hr : r ≤ k) (hc : c ≤ k) :
    Sq k (minW xss r c (k + 1) (k + 1)) (minorN f r c) := by
  have hl : (minW xss r c (k + 1) (k + 1)).length = k := by rw [minW_len, if_pos (by omega)]; rfl
  have hrl : ∀ p, p < k → (gr (minW xss r c (k + 1) (k + 1)) p).length = k := fun p hp => by
    rw [gr_minW _ _ _ _ _ _ (by omega), rowW_len, if_pos (by omega)]; rfl
  refine ⟨hl, hrl, fun p q hp hq => ?_⟩
  have h1 := hrl p hp
  unfold g2
  rw [gr_minW _ _ _ _ _ _ (by omega)] at h1 ⊢
  rw [gi_rowW _ _ _ _ (by omega)]
  exact h.eq _ _ (skip_lt hp) (skip_lt hq)

theorem sumN_congr' {f g : Nat → Int} {n : Nat} (h : ∀ i, i < n → f i = g i) : sumN f n = sumN g n := sumN_congr h
theorem detN_congr : ∀ (k : Nat) {f g : Nat → Nat → Int}, (∀ p q, p < k → q < k → f p q = g p q) → detN k f = detN k g
  | 0, _, _, _ => rfl
  | k + 1, f, g, h => by
    rw [detN, detN]
    refine sumN_congr fun j hj => ?_
    rw [h 0 j (by omega) hj, detN_congr k (f := minorN f 0 j) (g := minorN g 0 j) fun p q hp hq => h _ _ (skip_lt hp) (skip_lt hq)]
theorem cofN_congr {k : Nat} {f g : Nat → Nat → Int} (h : ∀ p q, p < k → q < k → f p q = g p q) {i j : Nat} (_ : i < k) : cofN k f i j = cofN k g i j := by
  unfold cofN
  rw [detN_congr (k - 1) (f := minorN f i j) (g := minorN g i j) fun p q hp hq => h _ _ (by have := skip_lt (i := i) hp; omega) (by have := skip_lt (i := j) hq; omega)]
theorem rowC_congr {k : Nat} {f g : Nat → Nat → Int} (h : ∀ p q, p < k → q < k → f p q = g p q) {i : Nat} (hi : i < k) : rowC k f i = rowC k g i :=
  sumN_congr fun _ _ => cofN_congr h hi
theorem colC_congr {k : Nat} {f g : Nat → Nat → Int} (h : ∀ p q, p < k → q < k → f p q = g p q) {j : Nat} : colC k f j = colC k g j :=
  sumN_congr fun _ hi => cofN_congr h hi

/-- Small numbers. -/
def Ab (k : Nat) (f : Nat → Nat → Int) : Prop := ∀ p q, p < k → q < k → -27 ≤ f p q ∧ f p q ≤ 27
theorem Ab.minor {k : Nat} {f : Nat → Nat → Int} (h : Ab (k + 1) f) (r c : Nat) : Ab k (minorN f r c) := fun _ _ hp hq => h _ _ (skip_lt hp) (skip_lt hq)
theorem mulbd {x y A B : Int} (hx : -A ≤ x ∧ x ≤ A) (hy : -B ≤ y ∧ y ≤ B) : -(A * B) ≤ x * y ∧ x * y ≤ A * B := by
  have h : (x * y).natAbs ≤ A.natAbs * B.natAbs := by
    rw [Int.natAbs_mul]; exact Nat.mul_le_mul (by omega) (by omega)
  have e : ((A.natAbs * B.natAbs : Nat) : Int) = A * B := by
    rw [Int.natCast_mul]; rw [show ((A.natAbs : Nat) : Int) = A by omega, show ((B.natAbs : Nat) : Int) = B by omega]
  omega
theorem sgn_bd (i : Nat) : -1 ≤ sgn i ∧ sgn i ≤ 1 := by unfold sgn; split <;> omega
theorem sumN_bd {f : Nat → Int} {B : Int} : ∀ {n : Nat}, (∀ i, i < n → -B ≤ f i ∧ f i ≤ B) → -(B * (n : Int)) ≤ sumN f n ∧ sumN f n ≤ B * (n : Int)
  | 0, _ => by simp [sumN]
  | n + 1, h => by
    have h1 := sumN_bd (f := f) (B := B) (n := n) fun i hi => h i (by omega)
    have h2 := h n (by omega)
    rw [sumN, show ((n + 1 : Nat) : Int) = (n : Int) + 1 by omega, Int.mul_add, Int.mul_one]
    omega
/-- The greatest determinant of a square of k with small numbers. -/
def dB : Nat → Int
  | 0 => 1
  | k + 1 => 27 * dB k * ((k + 1 : Nat) : Int)
theorem term_bd {k : Nat} {f : Nat → Nat → Int} (h : Ab (k + 1) f) {j : Nat} (hj : j < k + 1) {d D : Int} (hd : -D ≤ d ∧ d ≤ D) : -(27 * D) ≤ sgn j * (f 0 j * d) ∧ sgn j * (f 0 j * d) ≤ 27 * D := by
  have h1 := mulbd (h 0 j (by omega) hj) hd
  have h2 := mulbd (sgn_bd j) h1
  omega
theorem det_bd : ∀ (k : Nat) {f : Nat → Nat → Int}, Ab k f → -(dB k) ≤ detN k f ∧ detN k f ≤ dB k
  | 0, _, _ => by simp [detN, dB]
  | k + 1, f, h => by
    rw [detN, dB]
    exact sumN_bd fun j hj => term_bd h hj (det_bd k (h.minor 0 j))
theorem dB_le {k : Nat} (h : k ≤ 3) : dB k ≤ 118098 := by
  have : k = 0 ∨ k = 1 ∨ k = 2 ∨ k = 3 := by omega
  rcases this with rfl | rfl | rfl | rfl <;> simp [dB]
theorem det_small {k : Nat} {f : Nat → Nat → Int} (hk : k ≤ 3) (h : Ab k f) : -118098 ≤ detN k f ∧ detN k f ≤ 118098 := by
  have := det_bd k h; have := dB_le hk; omega
/-- The sum of the first j terms of a determinant. -/
def detS (k : Nat) (f : Nat → Nat → Int) (j : Nat) : Int := sumN (fun j => sgn j * (f 0 j * detN k (minorN f 0 j))) j
theorem detS_all (k : Nat) (f : Nat → Nat → Int) : detS k f (k + 1) = detN (k + 1) f := by rw [detS, detN]
theorem detS_succ (k : Nat) (f : Nat → Nat → Int) (j : Nat) : detS k f (j + 1) = detS k f j + sgn j * (f 0 j * detN k (minorN f 0 j)) := rfl
theorem detS_bd {k : Nat} {f : Nat → Nat → Int} (hk : k + 1 ≤ 3) (h : Ab (k + 1) f) {j : Nat} (hj : j ≤ k + 1) : -10000000 ≤ detS k f j ∧ detS k f j ≤ 10000000 := by
  have h1 := sumN_bd (f := fun j => sgn j * (f 0 j * detN k (minorN f 0 j))) (B := 27 * 118098) (n := j) fun i hi => term_bd h (by omega) (det_small (by omega) (h.minor 0 i))
  unfold detS
  have : (27 * 118098 : Int) * (j : Int) ≤ 27 * 118098 * 3 := by omega
  omega
/-- The sum of the first j cofactors of row i. -/
def cofS (k : Nat) (f : Nat → Nat → Int) (i j : Nat) : Int := sumN (fun j => cofN k f i j) j
theorem cofS_all (k : Nat) (f : Nat → Nat → Int) (i : Nat) : cofS k f i k = rowC k f i := rfl
theorem cofS_succ (k : Nat) (f : Nat → Nat → Int) (i j : Nat) : cofS k f i (j + 1) = cofS k f i j + cofN k f i j := rfl
theorem cof_bd {k : Nat} {f : Nat → Nat → Int} (hk : k ≤ 3) (h : Ab k f) {i j : Nat} (hi : i < k) (_ : j < k) : -118098 ≤ cofN k f i j ∧ cofN k f i j ≤ 118098 := by
  obtain ⟨k, rfl⟩ : ∃ l, k = l + 1 := ⟨k - 1, by omega⟩
  have h1 := det_small (k := k) (by omega) (h.minor i j)
  unfold cofN
  rw [Nat.add_sub_cancel]
  have h2 := mulbd (sgn_bd (i + j)) h1
  omega
theorem cofS_bd {k : Nat} {f : Nat → Nat → Int} (hk : k ≤ 3) (h : Ab k f) {i : Nat} (hi : i < k) {j : Nat} (hj : j ≤ k) : -1000000 ≤ cofS k f i j ∧ cofS k f i j ≤ 1000000 := by
  have h1 := sumN_bd (f := fun j => cofN k f i j) (B := 118098) (n := j) fun l hl => cof_bd hk h hi (by omega)
  unfold cofS
  omega

/-- The square turned. -/
def trN (f : Nat → Nat → Int) : Nat → Nat → Int := fun p q => f q p
theorem det_tr2 (k : Nat) (hk : k ≤ 2) (f : Nat → Nat → Int) : detN k (trN f) = detN k f := by
  have : k = 0 ∨ k = 1 ∨ k = 2 := by omega
  rcases this with rfl | rfl | rfl
  · rfl
  · simp [detN, sumN, trN, sgn]
  · simp [detN, sumN, trN, sgn, minorN, skip]; grind
theorem cof_tr {k : Nat} (hk : k ≤ 3) (f : Nat → Nat → Int) (i j : Nat) : cofN k (trN f) i j = cofN k f j i := by
  unfold cofN
  rw [show minorN (trN f) i j = trN (minorN f j i) from rfl, det_tr2 (k - 1) (by omega), Nat.add_comm]
theorem rowC_tr {k : Nat} (hk : k ≤ 3) (f : Nat → Nat → Int) (i : Nat) : rowC k (trN f) i = colC k f i := sumN_congr fun j _ => cof_tr hk f i j
theorem Ab.tr {k : Nat} {f : Nat → Nat → Int} (h : Ab k f) : Ab k (trN f) := fun p q hp hq => h q p hq hp
end Go.Proofs.Ytoekpbcdgmejcaa

/- Valid tables, by both programs. -/
namespace Go.Proofs.Ytoekpbcdgmejcaa
open Go.RowKit

set_option maxHeartbeats 400000 in
theorem inRange_any (n lo hi : Int) (w : World) : Calls Try.prog 66 #[.int .i64 n, .int .i64 lo, .int .i64 hi] w fun e w' => e = .returned (.bool (pb (InR n lo hi))) ∧ w = w' := by
  by_cases h1 : lo ≤ n
  · by_cases h2 : n ≤ hi
    · have h := Lib.hid (pb_true (p := InR n lo hi) ⟨h1, h2⟩)
      go_enter Try.func66, Try.ntmps66
      go_wp2
      go_ret
      exact ⟨ret_bool (by rw [h.out]), rfl⟩
    · have h := Lib.hid (pb_false (p := InR n lo hi) (fun h => h2 h.2))
      have h2' : decide (n ≤ hi) = false := by simpa using h2
      go_enter Try.func66, Try.ntmps66
      go_wp2
      go_ret
      exact ⟨ret_bool (by rw [h.out]), rfl⟩
  · have h := Lib.hid (pb_false (p := InR n lo hi) (fun h => h1 h.1))
    have h1' : decide (lo ≤ n) = false := by simpa using h1
    go_enter Try.func66, Try.ntmps66
    go_wp2
    go_ret
    exact ⟨ret_bool (by rw [h.out]), rfl⟩

theorem VT_no_row {a : List (List Int)} {i : Nat} (hi : i < a.length) (h : ¬ RowOk a i) : pb (VT a) = false := pb_false fun v => h (v.rows i hi)

set_option maxHeartbeats 1000000 in
theorem validTable_any (A : Option Addr) (n c : Nat) (a : List (List Int)) (w : World) (hx : IntRows w A n c a) :
    Calls Try.prog 89 #[.slice A n c] w fun e w' => e = .returned (.bool (pb (VT a))) ∧ Quiet w w' := by
  obtain ⟨lx, cx, mx, hx⟩ := hx
  have Lx := Lib.hid lx
  clear lx
  go_enter Try.func89, Try.ntmps89
  go_wp2
  go_loopw [3] (fun i wr => ∃ k : Nat, k ≤ n ∧ i = .int .i64 k ∧ Hid (∀ i, i < k → RowOk a i) ∧ Quiet w wr) (fun i _ => n - (intOf i).toNat)
  case atStart => exact ⟨0, Nat.zero_le _, rfl, Lib.hid (fun _ h => absurd h (by omega)), Quiet.refl _⟩
  case round =>
    obtain ⟨k, hk, rfl, HALL, q, rfl⟩ := hrel
    by_cases hlt : k < n
    · obtain ⟨b, o, rfl, hc⟩ := hx (by omega)
      obtain ⟨R, cc, c1, hR⟩ := hc k hlt
      obtain ⟨R0, cc0, c0, hR0⟩ := hc 0 (by omega)
      have hL1 : (gr a k).length ≤ 17592186044416 := hR.max
      have hL0 : (gr a 0).length ≤ 17592186044416 := hR0.max
      have hn0 : 0 < n := by omega
      have HKA := Lib.hid (show k < a.length by rw [Lx.out]; exact hlt)
      clear hx hc
      simp only [Nat.add_zero] at c0
      by_cases hlen : (gr a k).length = (gr a 0).length
      · have hlen' : (((gr a k).length : Int) != ((gr a 0).length : Int)) = false := by simp [hlen]
        have HLEN := Lib.hid hlen
        clear hlen
        go_wp2
        go_quiet (fail)
        go_wp2
        go_loopw [4] (fun j wi => ∃ m : Nat, m ≤ (gr a k).length ∧ j = .int .i64 m ∧ Hid (∀ j, j < m → InR (gi (gr a k) j) (-9) 9) ∧ Quiet w wi) (fun j _ => (gr a k).length - (intOf j).toNat)
        case atStart => exact ⟨0, Nat.zero_le _, rfl, Lib.hid (fun _ h => absurd h (by omega)), Quiet.two _ _ _⟩
        case round =>
          obtain ⟨m, hm, rfl, HIN, q2, rfl⟩ := hrel
          by_cases hml : m < (gr a k).length
          · obtain ⟨b2, o2, rfl, hc2⟩ := hR.at_ (by omega)
            have c2 := hc2 m hml
            clear hc2
            by_cases hin : InR (gi (gr a k) m) (-9) 9
            · have HI := Lib.hid hin
              have hq := fun W => (pb_true hin ▸ inRange_any (gi (gr a k) m) (-9) 9 W)
              clear hin
              go_wp2_with (go_at_call 66; refine (hq _).mono ?_; rintro e w' ⟨rfl, rfl⟩)
              go_roundw
              case rel => exact ⟨m + 1, by omega, by go_num, Lib.hid (fun j hj => by
                by_cases hjk : j < m
                · exact HIN.out j hjk
                · obtain rfl : j = m := by omega
                  exact HI.out), ⟨_, rfl⟩⟩
              case measure => simp [intOf]; omega
            · have HV := Lib.hid (VT_no_row HKA.out (fun h => hin (h.2 m hml)))
              have hq := fun W => (pb_false hin ▸ inRange_any (gi (gr a k) m) (-9) 9 W)
              clear hin
              go_wp2_with (go_at_call 66; refine (hq _).mono ?_; rintro e w' ⟨rfl, rfl⟩)
              go_ret
              exact ⟨ret_bool HV.out.symm, ⟨_, rfl⟩⟩
          · have HK := Lib.hid (show RowOk a k from ⟨HLEN.out, fun j hj => HIN.out j (by omega)⟩)
            go_wp2
            go_roundw
            case rel => exact ⟨k + 1, by omega, by go_num, Lib.hid (fun j hj => by
                by_cases hjk : j < k
                · exact HALL.out j hjk
                · obtain rfl : j = k := by omega
                  exact HK.out), ⟨_, rfl⟩⟩
            case measure => simp [intOf]; omega
      · have HV := Lib.hid (VT_no_row HKA.out (fun h => hlen h.1))
        have hlen' : (((gr a k).length : Int) != ((gr a 0).length : Int)) = true := by simp; omega
        clear hlen
        go_wp2
        go_quiet (fail)
        go_wp2
        go_ret
        exact ⟨ret_bool HV.out.symm, Quiet.two _ _ _⟩
    · obtain rfl : k = n := by omega
      by_cases hk1 : InR k 1 3
      · obtain ⟨b, o, rfl, hc⟩ := hx (by unfold InR at hk1; omega)
        obtain ⟨R0, cc0, c0, hR0⟩ := hc 0 (by unfold InR at hk1; omega)
        have hL0 : (gr a 0).length ≤ 17592186044416 := hR0.max
        have hn0 : 0 < k := by unfold InR at hk1; omega
        simp only [Nat.add_zero] at c0
        have hq := fun W => (pb_true hk1 ▸ inRange_any k 1 3 W)
        have HV : Hid (pb (VT a) = pb (InR (gr a 0).length 1 3)) := Lib.hid (pb_congr ⟨fun v => ⟨by have := v.m1; omega, by have := v.m3; omega⟩, fun v => by
          unfold InR at hk1 v
          exact ⟨fun i hi => HALL.out i (by rw [Lx.out] at hi; exact hi), by rw [Lx.out]; omega, by rw [Lx.out]; omega, by omega, by omega⟩⟩)
        clear hk1 hx hc
        go_wp2_with fail
        refine (hq _).mono ?_
        rintro e w' ⟨rfl, rfl⟩
        go_wp2_with fail
        refine (inRange_any _ _ _ _).mono ?_
        rintro e w' ⟨rfl, rfl⟩
        go_wp2
        go_ret
        exact ⟨ret_bool HV.out.symm, ⟨_, rfl⟩⟩
      · have hq := fun W => (pb_false hk1 ▸ inRange_any k 1 3 W)
        have HV := Lib.hid (pb_false (p := VT a) fun v => hk1 (by have h1 := v.n1; have h3 := v.n3; rw [Lx.out] at h1 h3; exact ⟨by omega, by omega⟩))
        clear hk1
        go_wp2_with (go_at_call 66; refine (hq _).mono ?_; rintro e w' ⟨rfl, rfl⟩)
        go_ret
        exact ⟨ret_bool HV.out.symm, ⟨_, rfl⟩⟩

end Go.Proofs.Ytoekpbcdgmejcaa

/- Sums of numbers; shares: by both programs and the laws. -/
namespace Go.Proofs.Ytoekpbcdgmejcaa
open Go.RowKit

def Fit (x : Int) : Prop := -9223372036854775808 ≤ x ∧ x ≤ 9223372036854775807
/-- Numbers whose sums fit. -/
structure SumOk (xs : List Int) : Prop where
  n : xs.length ≤ 1000
  bd : ∀ j, j < xs.length → -1000000000000 ≤ gi xs j ∧ gi xs j ≤ 1000000000000
theorem SumOk.sm {xs : List Int} (h : SumOk xs) {k : Nat} (hk : k ≤ xs.length) : -1000000000000000 ≤ sm xs k ∧ sm xs k ≤ 1000000000000000 := by
  have h1 := sm_bd (xs := xs) (k := k) (lo := -1000000000000) (hi := 1000000000000) fun j hj => h.bd j (by omega)
  have h2 := h.n
  omega
theorem SumOk.of_small {xs : List Int} {B : Int} (hn : xs.length ≤ 1000) (h : ∀ j, j < xs.length → -B ≤ gi xs j ∧ gi xs j ≤ B) (hB : B ≤ 1000000000000) : SumOk xs :=
  ⟨hn, fun j hj => by have := h j hj; omega⟩
theorem VS.sumOk {xs : List Int} {n : Int} (h : VS xs n) (hn : n ≤ 3) : SumOk xs :=
  ⟨by have := h.1; omega, fun j hj => by have := h.2.1 j hj; unfold InR at this; omega⟩

set_option maxHeartbeats 400000 in
theorem sum_any (A : Option Addr) (n c : Nat) (xs : List Int) (w : World) (hx : Ints w A n c xs) (hs : SumOk xs) :
    Calls Try.prog 82 #[.slice A n c] w fun e w' => e = .returned (.int .i64 (tot xs)) ∧ Quiet w w' := by
  have hl : n ≤ 1000 := by rw [← hx.len]; exact hs.n
  have HX := Lib.hid hx
  have HS := Lib.hid hs
  have HL := Lib.hid hx.len
  clear hx hs
  go_enter Try.func82, Try.ntmps82
  go_wp2
  go_loopw [3, 4] (fun s i wr => ∃ k : Nat, k ≤ n ∧ i = .int .i64 k ∧ s = .int .i64 (sm xs k) ∧ Quiet w wr) (fun _ i _ => n - (intOf i).toNat)
  case atStart => exact ⟨0, Nat.zero_le _, rfl, rfl, Quiet.refl _⟩
  case round =>
    obtain ⟨k, hk, rfl, rfl, q, rfl⟩ := hrel
    by_cases hlt : k < n
    · obtain ⟨b, o, rfl, hc⟩ := HX.out.at_ (by omega)
      have c1 := hc k hlt
      obtain ⟨b1, b2⟩ := HS.out.sm (k := k) (by rw [HL.out]; exact hk)
      obtain ⟨b3, b4⟩ := HS.out.bd k (by rw [HL.out]; exact hlt)
      clear hc
      go_wp2
      go_roundw
      case rel => exact ⟨k + 1, by omega, by go_num, rfl, ⟨_, rfl⟩⟩
      case measure => simp [intOf]; omega
    · obtain rfl : k = n := by omega
      go_wp2
      go_ret
      exact ⟨ret_int (by rw [tot, HL.out]), ⟨_, rfl⟩⟩

set_option maxHeartbeats 400000 in
theorem sumOf_any (A : Option Addr) (n c : Nat) (xs : List Int) (w : World) (hx : Ints w A n c xs) (hs : SumOk xs) :
    Calls Try.prog 95 #[.slice A n c] w fun e w' => e = .returned (.int .i64 (tot xs)) ∧ Quiet w w' := by
  have hl : n ≤ 1000 := by rw [← hx.len]; exact hs.n
  have HX := Lib.hid hx
  have HS := Lib.hid hs
  have HL := Lib.hid hx.len
  clear hx hs
  go_enter Try.func95, Try.ntmps95
  go_wp2
  go_loopw [3, 8] (fun s i wr => ∃ k : Nat, k ≤ n ∧ i = .int .i64 k ∧ s = .int .i64 (sm xs k) ∧ Quiet w wr) (fun _ i _ => n - (intOf i).toNat)
  case atStart => exact ⟨0, Nat.zero_le _, rfl, rfl, Quiet.refl _⟩
  case round =>
    obtain ⟨k, hk, rfl, rfl, q, rfl⟩ := hrel
    by_cases hlt : k < n
    · obtain ⟨b, o, rfl, hc⟩ := HX.out.at_ (by omega)
      have c1 := hc k hlt
      obtain ⟨b1, b2⟩ := HS.out.sm (k := k) (by rw [HL.out]; exact hk)
      obtain ⟨b3, b4⟩ := HS.out.bd k (by rw [HL.out]; exact hlt)
      clear hc
      go_wp2
      go_roundw
      case rel => exact ⟨k + 1, by omega, by go_num, rfl, ⟨_, rfl⟩⟩
      case measure => simp [intOf]; omega
    · obtain rfl : k = n := by omega
      go_wp2
      go_ret
      exact ⟨ret_int (by rw [tot, HL.out]), ⟨_, rfl⟩⟩

theorem VS_no {xs : List Int} {n : Int} {k : Nat} (hk : k < xs.length) (h : ¬ InR (gi xs k) 0 1000) : pb (VS xs n) = false := pb_false fun v => h (v.2.1 k hk)

set_option maxHeartbeats 1000000 in
theorem validShares_any (A : Option Addr) (n c : Nat) (xs : List Int) (m : Int) (w : World) (hx : Ints w A n c xs) (hm : m ≤ 3) :
    Calls Try.prog 74 #[.slice A n c, .int .i64 m] w fun e w' => e = .returned (.bool (pb (VS xs m))) ∧ Quiet w w' := by
  have hl := hx.max
  have HX := Lib.hid hx
  have HL := Lib.hid hx.len
  clear hx
  go_enter Try.func74, Try.ntmps74
  go_wp2
  go_loopw [5] (fun i wr => ∃ k : Nat, k ≤ n ∧ i = .int .i64 k ∧ Hid (∀ j, j < k → InR (gi xs j) 0 1000) ∧ Quiet w wr) (fun i _ => n - (intOf i).toNat)
  case atStart => exact ⟨0, Nat.zero_le _, rfl, Lib.hid (fun _ h => absurd h (by omega)), Quiet.refl _⟩
  case round =>
    obtain ⟨k, hk, rfl, HIN, q, rfl⟩ := hrel
    by_cases hlt : k < n
    · obtain ⟨b, o, rfl, hc⟩ := HX.out.at_ (by omega)
      have c1 := hc k hlt
      clear hc
      by_cases hin : InR (gi xs k) 0 1000
      · have HI := Lib.hid hin
        have hq := fun W => (pb_true hin ▸ inRange_any (gi xs k) 0 1000 W)
        clear hin
        go_wp2_with (go_at_call 66; refine (hq _).mono ?_; rintro e w' ⟨rfl, rfl⟩)
        go_roundw
        case rel => exact ⟨k + 1, by omega, by go_num, Lib.hid (fun j hj => by
          by_cases hjk : j < k
          · exact HIN.out j hjk
          · obtain rfl : j = k := by omega
            exact HI.out), ⟨_, rfl⟩⟩
        case measure => simp [intOf]; omega
      · have HV := Lib.hid (VS_no (n := m) (by rw [HL.out]; exact hlt) hin)
        have hq := fun W => (pb_false hin ▸ inRange_any (gi xs k) 0 1000 W)
        clear hin
        go_wp2_with (go_at_call 66; refine (hq _).mono ?_; rintro e w' ⟨rfl, rfl⟩)
        go_ret
        exact ⟨ret_bool HV.out.symm, ⟨_, rfl⟩⟩
    · obtain rfl : k = n := by omega
      by_cases hm2 : (k : Int) = m
      · have HS := Lib.hid (show SumOk xs from ⟨by rw [HL.out]; omega, fun j hj => by have := HIN.out j (by rw [← HL.out]; exact hj); unfold InR at this; omega⟩)
        have hq := sum_any _ _ _ _ (w.drewN q) (HX.out.keep (Keep.drewN _ _)) HS.out
        have HV : Hid (pb (VS xs m) = decide (0 < tot xs)) := Lib.hid (by
          by_cases h0 : 0 < tot xs
          · rw [pb_true ⟨by rw [HL.out]; exact hm2, fun j hj => HIN.out j (by rw [← HL.out]; exact hj), h0⟩]; simp [h0]
          · rw [pb_false (fun v => h0 v.2.2)]; simp [h0])
        have hm2' : ((k : Int) == m) = true := by simpa using hm2
        clear hm2
        go_wp2_with fail
        refine hq.mono ?_
        rintro e w2 ⟨rfl, q2, rfl⟩
        go_wp2
        go_ret
        exact ⟨ret_bool (by rw [HV.out]), by first | exact ⟨_, rfl⟩ | exact Quiet.two _ _ _⟩
      · have HV := Lib.hid (pb_false (p := VS xs m) (fun v => hm2 (by have := v.1; rw [HL.out] at this; exact this)))
        have hm2' : ((k : Int) == m) = false := by simpa using hm2
        clear hm2
        go_wp2
        go_ret
        exact ⟨ret_bool HV.out.symm, ⟨_, rfl⟩⟩

set_option maxHeartbeats 1000000 in
theorem ValidShares_impl (A : Option Addr) (n c : Nat) (xs : List Int) (m : Int) (w : World) (hx : Ints w A n c xs) :
    Calls Try.prog 61 #[.slice A n c, .int .i64 m] w fun e w' => e = .returned (.bool (pb (VSn xs m))) ∧ Quiet w w' := by
  have hl := hx.max
  have HX := Lib.hid hx
  have HL := Lib.hid hx.len
  clear hx
  by_cases h1 : m < 1
  · have HV := Lib.hid (pb_false (p := VSn xs m) (fun v => by have := v.1; omega))
    go_enter Try.func61, Try.ntmps61
    go_wp2
    go_ret
    exact ⟨ret_bool HV.out.symm, Quiet.refl _⟩
  by_cases h3 : 3 < m
  · have HV := Lib.hid (pb_false (p := VSn xs m) (fun v => by have := v.2.1; omega))
    go_enter Try.func61, Try.ntmps61
    go_wp2
    go_ret
    exact ⟨ret_bool HV.out.symm, Quiet.refl _⟩
  by_cases hm2 : (n : Int) = m
  · have HM := Lib.hid hm2
    have hm2' : ((n : Int) != m) = false := by simpa using hm2
    have hn3 : n ≤ 3 := by omega
    clear hm2
    go_enter Try.func61, Try.ntmps61
    go_wp2
    go_loopw [21] (fun i wr => ∃ k : Nat, k ≤ n ∧ i = .int .i64 k ∧ Hid (∀ j, j < k → InR (gi xs j) 0 1000) ∧ Quiet w wr) (fun i _ => n - (intOf i).toNat)
    case atStart => exact ⟨0, Nat.zero_le _, rfl, Lib.hid (fun _ h => absurd h (by omega)), Quiet.refl _⟩
    case round =>
      obtain ⟨k, hk, rfl, HIN, q, rfl⟩ := hrel
      by_cases hlt : k < n
      · obtain ⟨b, o, rfl, hc⟩ := HX.out.at_ (by omega)
        have c1 := hc k hlt
        clear hc
        by_cases e1 : gi xs k < 0
        · have HV := Lib.hid (pb_false (p := VSn xs m) (fun v => by have := v.2.2.2.1 k (by rw [HL.out]; exact hlt); unfold InR at this; omega))
          go_wp2
          go_ret
          exact ⟨ret_bool HV.out.symm, ⟨_, rfl⟩⟩
        by_cases e2 : 1000 < gi xs k
        · have HV := Lib.hid (pb_false (p := VSn xs m) (fun v => by have := v.2.2.2.1 k (by rw [HL.out]; exact hlt); unfold InR at this; omega))
          go_wp2
          go_ret
          exact ⟨ret_bool HV.out.symm, ⟨_, rfl⟩⟩
        have HI := Lib.hid (show InR (gi xs k) 0 1000 from ⟨by omega, by omega⟩)
        go_wp2
        go_roundw
        case rel => exact ⟨k + 1, by omega, by go_num, Lib.hid (fun j hj => by
          by_cases hjk : j < k
          · exact HIN.out j hjk
          · obtain rfl : j = k := by omega
            exact HI.out), ⟨_, rfl⟩⟩
        case measure => simp [intOf]; omega
      · obtain rfl : k = n := by omega
        have HS := Lib.hid (show SumOk xs from ⟨by rw [HL.out]; omega, fun j hj => by have := HIN.out j (by rw [← HL.out]; exact hj); unfold InR at this; omega⟩)
        have hq := Lib.hid (sumOf_any _ _ _ _ (w.drewN q) (HX.out.keep (Keep.drewN _ _)) HS.out)
        have HV : Hid (pb (VSn xs m) = decide (0 < tot xs)) := Lib.hid (by
          have := HM.out
          by_cases h0 : 0 < tot xs
          · rw [pb_true ⟨by omega, by omega, by rw [HL.out]; exact this, fun j hj => HIN.out j (by rw [← HL.out]; exact hj), h0⟩]; simp [h0]
          · rw [pb_false (fun v => h0 v.2.2.2.2)]; simp [h0])
        go_wp2_with fail
        refine hq.out.mono ?_
        rintro e w2 ⟨rfl, q2, rfl⟩
        go_wp2
        go_ret
        exact ⟨ret_bool (by rw [HV.out]), by first | exact ⟨_, rfl⟩ | exact Quiet.two _ _ _⟩
  · have HV := Lib.hid (pb_false (p := VSn xs m) (fun v => hm2 (by have := v.2.2.1; rw [HL.out] at this; exact this)))
    have hm2' : ((n : Int) != m) = true := by simpa using hm2
    clear hm2
    go_enter Try.func61, Try.ntmps61
    go_wp2
    go_ret
    exact ⟨ret_bool HV.out.symm, Quiet.refl _⟩
theorem ValidShares_impl2 (A : Option Addr) (n c : Nat) (xs : List Int) (m : Int) (w : World) (hx : Ints w A n c xs) (_ : Fit m) :
    Calls Try.prog 61 #[.slice A n c, .int .i64 m] w fun e w' => e = .returned (.bool (pb (VSn xs m))) ∧ Quiet w w' := ValidShares_impl A n c xs m w hx
end Go.Proofs.Ytoekpbcdgmejcaa

/- A list of ints that is written out. -/
namespace Go.Proofs.Ytoekpbcdgmejcaa
open Go.RowKit

theorem Ints.lit (w : World) (xs : List Int) (hl : xs.length ≤ 1000) (hw : ∀ x ∈ xs, -9223372036854775808 ≤ x ∧ x ≤ 9223372036854775807) :
    Ints (w.alloc (.cells (xs.map iv).toArray 3)) (some ⟨w.heap.size, 0, none⟩) xs.length xs.length xs :=
  ⟨rfl, Nat.le_refl _, by omega, hw, fun _ => ⟨_, _, rfl, fun k hk => by
    simp only [World.cell?, Nat.zero_add, heap_alloc_new]
    rw [← getElem_iv hk]
    simp⟩⟩
theorem Ints.two (w : World) (x y : Int) (hx : -9223372036854775808 ≤ x ∧ x ≤ 9223372036854775807 := by omega) (hy : -9223372036854775808 ≤ y ∧ y ≤ 9223372036854775807 := by omega) : Ints (w.alloc (.cells #[iv x, iv y] 3)) (some ⟨w.heap.size, 0, none⟩) 2 2 [x, y] :=
  ⟨rfl, Nat.le_refl _, by omega, fun z hz => by simp at hz; omega, fun _ => ⟨_, _, rfl, fun k hk => by
    have h : k = 0 ∨ k = 1 := by omega
    rcases h with rfl | rfl <;> simp only [World.cell?, Nat.zero_add, heap_alloc_new] <;> rfl⟩⟩

end Go.Proofs.Ytoekpbcdgmejcaa

