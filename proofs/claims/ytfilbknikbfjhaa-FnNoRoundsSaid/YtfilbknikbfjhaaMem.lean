/- Words for memory: slices of ints and slices of these, as lists. -/
import Derived.Test.YtfilbknikbfjhaaRows
import Derived.WalkKit
import Derived.WalkSpells
import Derived.WalkLawsBesides
import Derived.Deep.QuietTactic
import Derived.BigQuiet
import Derived.Lib.Hide
import Derived.Deep.Matrix
import Derived.Deep.AppendLies
import Derived.Deep.Draws
import Derived.Maps.AppendAt
import Derived.Deep.OwnRows
namespace Go.Proofs.Ytfilbknikbfjhaa
open Go.RowKit

/-- The element of a list at a place, 0 behind its end; the row at a place. -/
def gi (xs : List Int) (k : Nat) : Int := xs.getD k 0
def gr (xss : List (List Int)) (k : Nat) : List Int := xss.getD k []
theorem gi_get {xs : List Int} {k : Nat} (h : k < xs.length) : gi xs k = xs[k] := by simp [gi, List.getD, List.getElem?_eq_getElem h]
theorem gr_get {xs : List (List Int)} {k : Nat} (h : k < xs.length) : gr xs k = xs[k] := by simp [gr, List.getD, List.getElem?_eq_getElem h]
theorem gi_mem {xs : List Int} {k : Nat} (h : k < xs.length) : gi xs k ∈ xs := by rw [gi_get h]; exact List.getElem_mem h
theorem gr_mem {xs : List (List Int)} {k : Nat} (h : k < xs.length) : gr xs k ∈ xs := by rw [gr_get h]; exact List.getElem_mem h
theorem gi_ext {xs ys : List Int} (hl : xs.length = ys.length) (h : ∀ k, k < xs.length → gi xs k = gi ys k) : xs = ys :=
  List.ext_getElem hl fun i h1 h2 => by rw [← gi_get h1, ← gi_get h2]; exact h i h1
theorem gr_ext {xs ys : List (List Int)} (hl : xs.length = ys.length) (h : ∀ k, k < xs.length → gr xs k = gr ys k) : xs = ys :=
  List.ext_getElem hl fun i h1 h2 => by rw [← gr_get h1, ← gr_get h2]; exact h i h1

theorem ret_int {k : IntKind} {a b : Int} (h : a = b) : Ending.returned (.int k a) = .returned (.int k b) := by rw [h]
theorem ret_bool {a b : Bool} (h : a = b) : Ending.returned (.bool a) = .returned (.bool b) := by rw [h]

def Quiet (w w' : World) : Prop := ∃ n, w' = w.drewN n
theorem Quiet.refl (w : World) : Quiet w w := ⟨0, rfl⟩
theorem Quiet.trans {a b c : World} (h : Quiet a b) (k : Quiet b c) : Quiet a c := by
  obtain ⟨n, rfl⟩ := h; obtain ⟨m, rfl⟩ := k; exact ⟨n + m, by rw [World.drewN_drewN]⟩

/-- A slice value whose cells read as ints. -/
structure Ints (w : World) (A : Option Addr) (n c : Nat) (xs : List Int) : Prop where
  len : xs.length = n
  cap : n ≤ c
  max : n ≤ 17592186044416
  wf : ∀ x ∈ xs, -9223372036854775808 ≤ x ∧ x ≤ 9223372036854775807
  at_ : 0 < n → ∃ b o, A = some ⟨b, o, none⟩ ∧ ∀ k, k < n → w.cell? ⟨b, o + k, none⟩ = some (.int .i64 (gi xs k))

theorem Quiet.two (w : World) (a b : Nat) : Quiet w ((w.drewN a).drewN b) := ⟨a + b, by rw [World.drewN_drewN]⟩

/-- A quiet callee, met in a quiet region: the draws add up. -/
theorem quiet_fit {P : Program} {f : FuncId} {args : Array Value} {W : World} {v : Value} {C : World → Prop}
    (h : Calls P f args W fun e w' => e = .returned v ∧ Quiet W w') (hC : ∀ m, C (W.drewN m)) : Calls P f args W fun e w' => e = .returned v ∧ C w' :=
  h.mono fun _ _ ⟨he, m, hm⟩ => ⟨he, by rw [hm]; exact hC m⟩
theorem same_fit {P : Program} {f : FuncId} {args : Array Value} {W : World} {v : Value} {C : World → Prop}
    (h : Calls P f args W fun e w' => e = .returned v ∧ W = w') (hC : ∀ m, C (W.drewN m)) : Calls P f args W fun e w' => e = .returned v ∧ C w' :=
  h.mono fun _ _ ⟨he, hm⟩ => ⟨he, by rw [← hm]; exact hC 0⟩
theorem drewN_to1 (w : World) (a b : Nat) : ∃ m, (w.drewN a).drewN b = w.drewN m := ⟨a + b, by rw [World.drewN_drewN]⟩
theorem drewN_to2 (w : World) (a b c : Nat) : ∃ m, (w.drewN (a + b)).drewN c = w.drewN (a + m) := ⟨b + c, by rw [World.drewN_drewN, Nat.add_assoc]⟩

/-- Every cell that was there reads as it did. -/
def Keep (w w' : World) : Prop := ∀ p u, w.cell? p = some u → w'.cell? p = some u
theorem Keep.refl (w : World) : Keep w w := fun _ _ h => h
theorem Keep.trans {a b c : World} (h : Keep a b) (k : Keep b c) : Keep a c := fun p u e => k p u (h p u e)
theorem Keep.drewN (w : World) (n : Nat) : Keep w (w.drewN n) := fun _ _ h => h
theorem Keep.below {w w' : World} (h : Below w.heap.size w w') : Keep w w' := fun p u e => by
  rw [h.cell (World.block_lt_of_cell? w p e)]; exact e
theorem Keep.quiet {w w' : World} (h : Quiet w w') : Keep w w' := by obtain ⟨n, rfl⟩ := h; exact Keep.drewN w n

theorem Ints.keep {w w' : World} {A n c xs} (h : Ints w A n c xs) (k : Keep w w') : Ints w' A n c xs :=
  ⟨h.len, h.cap, h.max, h.wf, fun hn => let ⟨b, o, e, hc⟩ := h.at_ hn; ⟨b, o, e, fun i hi => k _ _ (hc i hi)⟩⟩

structure IntRows (w : World) (A : Option Addr) (n c : Nat) (xss : List (List Int)) : Prop where
  len : xss.length = n
  cap : n ≤ c
  max : n ≤ 5864062014805
  at_ : 0 < n → ∃ b o, A = some ⟨b, o, none⟩ ∧ ∀ k, k < n → ∃ R cc, w.cell? ⟨b, o + k, none⟩ = some (.slice R (gr xss k).length cc) ∧ Ints w R (gr xss k).length cc (gr xss k)

theorem IntRows.keep {w w' : World} {A n c xs} (h : IntRows w A n c xs) (k : Keep w w') : IntRows w' A n c xs :=
  ⟨h.len, h.cap, h.max, fun hn => let ⟨b, o, e, hc⟩ := h.at_ hn; ⟨b, o, e, fun i hi => let ⟨R, cc, h1, h2⟩ := hc i hi; ⟨R, cc, k _ _ h1, h2.keep k⟩⟩⟩


/-- .. and which the call owns: in block b, from number lo up to less than hi, not frozen. -/
structure OwnI (lo hi : Nat) (w : World) (b : Nat) (A : Option Addr) (n c : Nat) (xs : List Int) : Prop where
  ints : Ints w A n c xs
  own : 0 < n → ∃ o, A = some ⟨b, o, none⟩ ∧ lo ≤ b ∧ b < hi ∧ ∀ k, k < n → w.frozen? ⟨b, o + k, none⟩ = false

theorem OwnI.lt {lo hi w b A n c xs} (h : OwnI lo hi w b A n c xs) (hn : 0 < n) : b < w.heap.size := by
  obtain ⟨b', o', e, hc⟩ := h.ints.at_ hn
  obtain ⟨o, e', _⟩ := h.own hn
  rw [e] at e'
  injection e' with e'
  injection e' with e1 _ _
  rw [← e1]
  exact World.block_lt_of_cell? w _ (hc 0 hn)
theorem OwnI.of_block {lo hi w w' b A n c xs} (h : OwnI lo hi w b A n c xs) (e : 0 < n → w'.heap[b]? = w.heap[b]?) : OwnI lo hi w' b A n c xs := by
  refine ⟨⟨h.ints.len, h.ints.cap, h.ints.max, h.ints.wf, fun hn => ?_⟩, fun hn => ?_⟩
  · obtain ⟨b', o', e1, hc⟩ := h.ints.at_ hn
    obtain ⟨o, e2, _⟩ := h.own hn
    rw [e1] at e2
    injection e2 with e2
    injection e2 with e2 _ _
    subst e2
    exact ⟨b', o', e1, fun k hk => by rw [World.cell?_of_block (w := w) (e hn)]; exact hc k hk⟩
  · obtain ⟨o, e2, hB, hB2, hf⟩ := h.own hn
    exact ⟨o, e2, hB, hB2, fun k hk => by rw [World.frozen?_of_block (w := w) (e hn)]; exact hf k hk⟩
theorem OwnI.mono {lo hi lo' hi' w b A n c xs} (h : OwnI lo hi w b A n c xs) (hB : lo' ≤ lo) (hB' : hi ≤ hi') : OwnI lo' hi' w b A n c xs :=
  ⟨h.ints, fun hn => let ⟨o, e, h1, h2, h3⟩ := h.own hn; ⟨o, e, Nat.le_trans hB h1, Nat.lt_of_lt_of_le h2 hB', h3⟩⟩
theorem OwnI.below {lo hi w w' b A n c xs} (h : OwnI lo hi w b A n c xs) (k : Below w.heap.size w w') : OwnI lo hi w' b A n c xs :=
  h.of_block fun hn => k.block _ (h.lt hn)
theorem OwnI.quiet {lo hi w w' b A n c xs} (h : OwnI lo hi w b A n c xs) (k : Quiet w w') : OwnI lo hi w' b A n c xs := by
  obtain ⟨m, rfl⟩ := k; exact h.of_block fun _ => rfl
theorem OwnI.nil (lo hi : Nat) (w : World) (b : Nat) : OwnI lo hi w b none 0 0 [] :=
  ⟨⟨rfl, Nat.le_refl _, by omega, fun _ h => by simp at h, fun h => absurd h (by omega)⟩, fun h => absurd h (by omega)⟩
/-- It returns v, and nothing that was there has turned. -/
def Ret (v : Value) (w : World) (e : Ending) (w' : World) : Prop := e = .returned v ∧ Below w.heap.size w w'

/-- Only blocks from lo up to less than hi have turned. -/
structure Touch (lo hi : Nat) (w w' : World) : Prop where
  os : w'.os = w.os
  tape : w'.tape = w.tape
  output : w'.output = w.output
  size : w'.heap.size = w.heap.size
  block : ∀ k, k < lo ∨ hi ≤ k → w'.heap[k]? = w.heap[k]?
theorem Touch.refl (lo hi : Nat) (w : World) : Touch lo hi w w := ⟨rfl, rfl, rfl, rfl, fun _ _ => rfl⟩
theorem Touch.trans {lo hi : Nat} {a b c : World} (h : Touch lo hi a b) (k : Touch lo hi b c) : Touch lo hi a c :=
  ⟨k.os.trans h.os, k.tape.trans h.tape, k.output.trans h.output, k.size.trans h.size, fun i hi => (k.block i hi).trans (h.block i hi)⟩
theorem Touch.mono {lo hi lo' hi' : Nat} {w w' : World} (h : Touch lo hi w w') (h1 : lo' ≤ lo) (h2 : hi ≤ hi') : Touch lo' hi' w w' :=
  ⟨h.os, h.tape, h.output, h.size, fun k hk => h.block k (by omega)⟩
theorem Touch.set {lo hi : Nat} {a w : World} (h : Touch lo hi a w) {p : Addr} (h1 : lo ≤ p.block) (h2 : p.block < hi) (u : Value) : Touch lo hi a (w.setCell p u) :=
  ⟨h.os, h.tape, h.output, by simpa [World.setCell] using h.size, fun k hk => (Below.heap_setCell _ _ _ _ (by omega)).trans (h.block k hk)⟩
theorem Touch.quiet {lo hi : Nat} {a w w' : World} (h : Touch lo hi a w) (k : Quiet w w') : Touch lo hi a w' := by
  obtain ⟨m, rfl⟩ := k; exact ⟨h.os, h.tape, h.output, h.size, h.block⟩
theorem Touch.below {lo hi B : Nat} {a w w' : World} (h : Below B a w) (k : Touch lo hi w w') (hB : B ≤ lo) : Below B a w' :=
  ⟨k.os.trans h.os, k.tape.trans h.tape, k.output.trans h.output, by rw [k.size]; exact h.size, fun i hi => (k.block i (.inl (by omega))).trans (h.block i hi)⟩
/-- A block that is known whole. -/
def Blk (w : World) (g : Nat) (t : TypeId) (cs : Array Value) : Prop := w.heap[g]? = some (.cells cs t (0, 0))
theorem blk_lt {w g t cs} (h : Blk w g t cs) : g < w.heap.size := (Array.getElem?_eq_some_iff.1 h).1
theorem blk_cell {w g t cs} (h : Blk w g t cs) {i : Nat} {v : Value} (hv : cs[i]? = some v) : w.cell? ⟨g, i, none⟩ = some v := by
  unfold Blk at h; simp [World.cell?, h, hv]
theorem blk_frozen {w g t cs} (h : Blk w g t cs) (i : Nat) : w.frozen? ⟨g, i, none⟩ = false := by
  unfold Blk at h; simp [World.frozen?, h]
theorem blk_new (w : World) (t : TypeId) (cs : Array Value) : Blk (w.alloc (.cells cs t)) w.heap.size t cs := heap_alloc_new w _
theorem blk_old {w g t cs} (h : Blk w g t cs) (o : Obj) : Blk (w.alloc o) g t cs := (Below.heap_alloc w o g (blk_lt h)).trans h
theorem blk_below {w w' g t cs} (h : Blk w g t cs) (k : Below w.heap.size w w') : Blk w' g t cs := (k.block g (blk_lt h)).trans h
theorem blk_touch {w w' g t cs lo hi} (h : Blk w g t cs) (k : Touch lo hi w w') (hd : g < lo ∨ hi ≤ g) : Blk w' g t cs := (k.block g hd).trans h
theorem blk_set {w g t cs} (h : Blk w g t cs) (i : Nat) (u : Value) : Blk (w.setCell ⟨g, i, none⟩ u) g t (cs.setIfInBounds i u) := by
  unfold Blk at h ⊢
  simp [World.setCell, Array.getElem?_modify, h]
theorem blk_other {w g t cs} (h : Blk w g t cs) {p : Addr} (hp : g ≠ p.block) (u : Value) : Blk (w.setCell p u) g t cs := (Below.heap_setCell w p u g hp).trans h
theorem blk_quiet {w w' g t cs} (h : Blk w g t cs) (k : Quiet w w') : Blk w' g t cs := by obtain ⟨m, rfl⟩ := k; exact h

theorem Quiet.below {B : Nat} {w w' : World} (h : Quiet w w') : Below B w w' := by
  obtain ⟨n, rfl⟩ := h; exact ⟨rfl, rfl, rfl, Nat.le_refl _, fun _ _ => rfl⟩
theorem below_drewN {B : Nat} {a w : World} (h : Below B a w) (n : Nat) : Below B a (w.drewN n) := ⟨h.os, h.tape, h.output, h.size, h.block⟩
theorem below_alloc (w : World) (o : Obj) : Below w.heap.size w (w.alloc o) := (Below.refl _ _).alloc (Nat.le_refl _) o
theorem below_up {w w1 w2 : World} (h : Below w.heap.size w w1) (k : Below w1.heap.size w1 w2) : Below w.heap.size w w2 := h.trans (k.mono h.size)
theorem below_quiet {w w1 w2 : World} (h : Below w.heap.size w w1) (k : Quiet w1 w2) : Below w.heap.size w w2 := by obtain ⟨m, rfl⟩ := k; exact below_drewN h m

theorem OwnI.of_rowIs {lo hi w g n} {xs : List Int} (hl : xs.length = n) (hm : n ≤ 17592186044416) (hw : ∀ x ∈ xs, -9223372036854775808 ≤ x ∧ x ≤ 9223372036854775807)
    (hB : lo ≤ g) (hB' : g < hi) {f : Nat → Value} (h : w.rowIs g 3 n f) (hf : ∀ k, k < n → f k = .int .i64 (gi xs k)) : OwnI lo hi w g (some ⟨g, 0, none⟩) n n xs :=
  ⟨⟨hl, Nat.le_refl _, hm, hw, fun _ => ⟨g, 0, rfl, fun k hk => by rw [Nat.zero_add, h.cell hk, hf k hk]⟩⟩, fun _ => ⟨0, rfl, hB, hB', fun k _ => by rw [Nat.zero_add]; exact h.frozen k⟩⟩

/-- Rows of their own, each in a block of its own. -/
structure OwnR (lo hi : Nat) (w : World) (b : Nat) (A : Option Addr) (n c : Nat) (xss : List (List Int)) : Prop where
  len : xss.length = n
  cap : n ≤ c
  max : n ≤ 5864062014805
  at_ : 0 < n → ∃ (o : Nat) (G : Nat → Nat) (R : Nat → Option Addr) (C : Nat → Nat), A = some ⟨b, o, none⟩ ∧ lo ≤ b ∧ b < hi ∧ (∀ k, k < n → w.frozen? ⟨b, o + k, none⟩ = false ∧
      w.cell? ⟨b, o + k, none⟩ = some (.slice (R k) (gr xss k).length (C k)) ∧ OwnI lo hi w (G k) (R k) (gr xss k).length (C k) (gr xss k) ∧ (0 < (gr xss k).length → G k ≠ b)) ∧
      ∀ j k, j < k → k < n → 0 < (gr xss j).length → 0 < (gr xss k).length → G j ≠ G k

theorem OwnR.rows {lo hi w b A n c xss} (h : OwnR lo hi w b A n c xss) : IntRows w A n c xss :=
  ⟨h.len, h.cap, h.max, fun hn => by
    obtain ⟨o, G, R, C, e, _, _, hr, _⟩ := h.at_ hn
    exact ⟨b, o, e, fun k hk => ⟨R k, C k, (hr k hk).2.1, (hr k hk).2.2.1.ints⟩⟩⟩
theorem OwnR.lt {lo hi w b A n c xss} (h : OwnR lo hi w b A n c xss) (hn : 0 < n) : b < w.heap.size := by
  obtain ⟨o, G, R, C, e, _, _, hr, _⟩ := h.at_ hn
  exact World.block_lt_of_cell? w _ (hr 0 hn).2.1
theorem OwnR.mono {lo hi lo' hi' w b A n c xss} (h : OwnR lo hi w b A n c xss) (hB : lo' ≤ lo) (hB' : hi ≤ hi') : OwnR lo' hi' w b A n c xss :=
  ⟨h.len, h.cap, h.max, fun hn => by
    obtain ⟨o, G, R, C, e, h1, h2, hr, hd⟩ := h.at_ hn
    exact ⟨o, G, R, C, e, Nat.le_trans hB h1, Nat.lt_of_lt_of_le h2 hB', fun k hk => ⟨(hr k hk).1, (hr k hk).2.1, (hr k hk).2.2.1.mono hB hB', (hr k hk).2.2.2⟩, hd⟩⟩
theorem OwnR.of_blocks {lo hi w w' b A n c xss} (h : OwnR lo hi w b A n c xss) (e : ∀ g, lo ≤ g → g < hi → g < w.heap.size → w'.heap[g]? = w.heap[g]?) : OwnR lo hi w' b A n c xss :=
  ⟨h.len, h.cap, h.max, fun hn => by
    have hbl := h.lt hn
    obtain ⟨o, G, R, C, ea, h1, h2, hr, hd⟩ := h.at_ hn
    have eb := e b h1 h2 hbl
    refine ⟨o, G, R, C, ea, h1, h2, fun k hk => ⟨?_, ?_, (hr k hk).2.2.1.of_block fun hp => ?_, (hr k hk).2.2.2⟩, hd⟩
    · rw [World.frozen?_of_block (w := w) eb]; exact (hr k hk).1
    · rw [World.cell?_of_block (w := w) eb]; exact (hr k hk).2.1
    · obtain ⟨_, _, hB, hB2, _⟩ := (hr k hk).2.2.1.own hp
      exact e _ hB hB2 ((hr k hk).2.2.1.lt hp)⟩
theorem OwnR.below {lo hi w w' b A n c xss} (h : OwnR lo hi w b A n c xss) (k : Below w.heap.size w w') : OwnR lo hi w' b A n c xss := h.of_blocks fun g _ _ hg => k.block g hg
theorem OwnR.quiet {lo hi w w' b A n c xss} (h : OwnR lo hi w b A n c xss) (k : Quiet w w') : OwnR lo hi w' b A n c xss := by
  obtain ⟨m, rfl⟩ := k; exact h.of_blocks fun _ _ _ _ => rfl
theorem OwnR.nil (lo hi : Nat) (w : World) (b : Nat) : OwnR lo hi w b none 0 0 [] := ⟨rfl, Nat.le_refl _, by omega, fun h => absurd h (by omega)⟩

/-- What lies elsewhere stays. -/
theorem OwnI.touch {lo hi lo' hi' w w' b A n c xs} (h : OwnI lo hi w b A n c xs) (k : Touch lo' hi' w w') (hd : hi ≤ lo' ∨ hi' ≤ lo) : OwnI lo hi w' b A n c xs :=
  h.of_block fun hn => k.block _ (by obtain ⟨_, _, h1, h2, _⟩ := h.own hn; omega)
theorem OwnR.touch {lo hi lo' hi' w w' b A n c xss} (h : OwnR lo hi w b A n c xss) (k : Touch lo' hi' w w') (hd : hi ≤ lo' ∨ hi' ≤ lo) : OwnR lo hi w' b A n c xss :=
  h.of_blocks fun g h1 h2 _ => k.block g (by omega)
/-- What lies below a number stays. -/
theorem Ints.touch {lo hi w w' A n c xs} (h : Ints w A n c xs) (k : Touch lo hi w w') {B : Nat} (hB : B ≤ lo) (hb : ∀ b o, 0 < n → A = some ⟨b, o, none⟩ → b < B) : Ints w' A n c xs :=
  ⟨h.len, h.cap, h.max, h.wf, fun hn => let ⟨b, o, e, hc⟩ := h.at_ hn; ⟨b, o, e, fun i hi => by rw [World.cell?_of_block (w := w) (k.block b (.inl (by have := hb b o hn e; omega)))]; exact hc i hi⟩⟩

end Go.Proofs.Ytfilbknikbfjhaa
