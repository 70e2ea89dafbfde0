/- Texts merged: Mem A1 A2 R1 R2 Own A3. -/
import Derived.Test.YtjkmgpiiamffgaaRows
import Derived.WalkKit
import Derived.WalkSpells
import Derived.WalkLawsBesides
import Derived.Deep.QuietTactic
import Derived.BigQuiet
import Derived.Lib.Hide
import Derived.Deep.Matrix
import Derived.Deep.AppendLies
import Derived.Deep.Draws
import Derived.Maps.AppendAt
import Derived.Deep.OwnRows
/- Words for memory: slices of ints and slices of these, as lists. -/
namespace Go.Proofs.Ytjkmgpiiamffgaa
open Go.RowKit

/-- The element of a list at a place, 0 behind its end; the row at a place. -/
def gi (xs : List Int) (k : Nat) : Int := xs.getD k 0
def gr (xss : List (List Int)) (k : Nat) : List Int := xss.getD k []
theorem gi_get {xs : List Int} {k : Nat} (h : k < xs.length) : gi xs k = xs[k] := by simp [gi, List.getD, List.getElem?_eq_getElem h]
theorem gr_get {xs : List (List Int)} {k : Nat} (h : k < xs.length) : gr xs k = xs[k] := by simp [gr, List.getD, List.getElem?_eq_getElem h]
theorem gi_mem {xs : List Int} {k : Nat} (h : k < xs.length) : gi xs k ∈ xs := by rw [gi_get h]; exact List.getElem_mem h
theorem gr_mem {xs : List (List Int)} {k : Nat} (h : k < xs.length) : gr xs k ∈ xs := by rw [gr_get h]; exact List.getElem_mem h
theorem gi_ext {xs ys : List Int} (hl : xs.length = ys.length) (h : ∀ k, k < xs.length → gi xs k = gi ys k) : xs = ys :=
  List.ext_getElem hl fun i h1 h2 => by rw [← gi_get h1, ← gi_get h2]; exact h i h1
theorem gr_ext {xs ys : List (List Int)} (hl : xs.length = ys.length) (h : ∀ k, k < xs.length → gr xs k = gr ys k) : xs = ys :=
  List.ext_getElem hl fun i h1 h2 => by rw [← gr_get h1, ← gr_get h2]; exact h i h1

theorem ret_int {k : IntKind} {a b : Int} (h : a = b) : Ending.returned (.int k a) = .returned (.int k b) := by rw [h]
theorem ret_bool {a b : Bool} (h : a = b) : Ending.returned (.bool a) = .returned (.bool b) := by rw [h]

def Quiet (w w' : World) : Prop := ∃ n, w' = w.drewN n
theorem Quiet.refl (w : World) : Quiet w w := ⟨0, rfl⟩
theorem Quiet.trans {a b c : World} (h : Quiet a b) (k : Quiet b c) : Quiet a c := by
  obtain ⟨n, rfl⟩ := h; obtain ⟨m, rfl⟩ := k; exact ⟨n + m, by rw [World.drewN_drewN]⟩

/-- A slice value whose cells read as ints. -/
structure Ints (w : World) (A : Option Addr) (n c : Nat) (xs : List Int) : Prop where
  len : xs.length = n
  cap : n ≤ c
  max : n ≤ 17592186044416
  wf : ∀ x ∈ xs, -9223372036854775808 ≤ x ∧ x ≤ 9223372036854775807
  at_ : 0 < n → ∃ b o, A = some ⟨b, o, none⟩ ∧ ∀ k, k < n → w.cell? ⟨b, o + k, none⟩ = some (.int .i64 (gi xs k))

theorem Quiet.two (w : World) (a b : Nat) : Quiet w ((w.drewN a).drewN b) := ⟨a + b, by rw [World.drewN_drewN]⟩

/-- A quiet callee, met in a quiet region: the draws add up. -/
theorem quiet_fit {P : Program} {f : FuncId} {args : Array Value} {W : World} {v : Value} {C : World → Prop}
    (h : Calls P f args W fun e w' => e = .returned v ∧ Quiet W w') (hC : ∀ m, C (W.drewN m)) : Calls P f args W fun e w' => e = .returned v ∧ C w' :=
  h.mono fun _ _ ⟨he, m, hm⟩ => ⟨he, by rw [hm]; exact hC m⟩
theorem same_fit {P : Program} {f : FuncId} {args : Array Value} {W : World} {v : Value} {C : World → Prop}
    (h : Calls P f args W fun e w' => e = .returned v ∧ W = w') (hC : ∀ m, C (W.drewN m)) : Calls P f args W fun e w' => e = .returned v ∧ C w' :=
  h.mono fun _ _ ⟨he, hm⟩ => ⟨he, by rw [← hm]; exact hC 0⟩
theorem drewN_to1 (w : World) (a b : Nat) : ∃ m, (w.drewN a).drewN b = w.drewN m := ⟨a + b, by rw [World.drewN_drewN]⟩
theorem drewN_to2 (w : World) (a b c : Nat) : ∃ m, (w.drewN (a + b)).drewN c = w.drewN (a + m) := ⟨b + c, by rw [World.drewN_drewN, Nat.add_assoc]⟩

/-- Every cell that was there reads as it did. -/
def Keep (w w' : World) : Prop := ∀ p u, w.cell? p = some u → w'.cell? p = some u
theorem Keep.refl (w : World) : Keep w w := fun _ _ h => h
theorem Keep.trans {a b c : World} (h : Keep a b) (k : Keep b c) : Keep a c := fun p u e => k p u (h p u e)
theorem Keep.drewN (w : World) (n : Nat) : Keep w (w.drewN n) := fun _ _ h => h
theorem Keep.below {w w' : World} (h : Below w.heap.size w w') : Keep w w' := fun p u e => by
  rw [h.cell (World.block_lt_of_cell? w p e)]; exact e
theorem Keep.quiet {w w' : World} (h : Quiet w w') : Keep w w' := by obtain ⟨n, rfl⟩ := h; exact Keep.drewN w n

theorem Ints.keep {w w' : World} {A n c xs} (h : Ints w A n c xs) (k : Keep w w') : Ints w' A n c xs :=
  ⟨h.len, h.cap, h.max, h.wf, fun hn => let ⟨b, o, e, hc⟩ := h.at_ hn; ⟨b, o, e, fun i hi => k _ _ (hc i hi)⟩⟩

structure IntRows (w : World) (A : Option Addr) (n c : Nat) (xss : List (List Int)) : Prop where
  len : xss.length = n
  cap : n ≤ c
  max : n ≤ 5864062014805
  at_ : 0 < n → ∃ b o, A = some ⟨b, o, none⟩ ∧ ∀ k, k < n → ∃ R cc, w.cell? ⟨b, o + k, none⟩ = some (.slice R (gr xss k).length cc) ∧ Ints w R (gr xss k).length cc (gr xss k)

theorem IntRows.keep {w w' : World} {A n c xs} (h : IntRows w A n c xs) (k : Keep w w') : IntRows w' A n c xs :=
  ⟨h.len, h.cap, h.max, fun hn => let ⟨b, o, e, hc⟩ := h.at_ hn; ⟨b, o, e, fun i hi => let ⟨R, cc, h1, h2⟩ := hc i hi; ⟨R, cc, k _ _ h1, h2.keep k⟩⟩⟩


/-- .. and which the call owns: in block b, from number lo up to less than hi, not frozen. -/
structure OwnI (lo hi : Nat) (w : World) (b : Nat) (A : Option Addr) (n c : Nat) (xs : List Int) : Prop where
  ints : Ints w A n c xs
  own : 0 < n → ∃ o, A = some ⟨b, o, none⟩ ∧ lo ≤ b ∧ b < hi ∧ ∀ k, k < n → w.frozen? ⟨b, o + k, none⟩ = false

theorem OwnI.lt {lo hi w b A n c xs} (h : OwnI lo hi w b A n c xs) (hn : 0 < n) : b < w.heap.size := by
  obtain ⟨b', o', e, hc⟩ := h.ints.at_ hn
  obtain ⟨o, e', _⟩ := h.own hn
  rw [e] at e'
  injection e' with e'
  injection e' with e1 _ _
  rw [← e1]
  exact World.block_lt_of_cell? w _ (hc 0 hn)
theorem OwnI.of_block {lo hi w w' b A n c xs} (h : OwnI lo hi w b A n c xs) (e : 0 < n → w'.heap[b]? = w.heap[b]?) : OwnI lo hi w' b A n c xs := by
  refine ⟨⟨h.ints.len, h.ints.cap, h.ints.max, h.ints.wf, fun hn => ?_⟩, fun hn => ?_⟩
  · obtain ⟨b', o', e1, hc⟩ := h.ints.at_ hn
    obtain ⟨o, e2, _⟩ := h.own hn
    rw [e1] at e2
    injection e2 with e2
    injection e2 with e2 _ _
    subst e2
    exact ⟨b', o', e1, fun k hk => by rw [World.cell?_of_block (w := w) (e hn)]; exact hc k hk⟩
  · obtain ⟨o, e2, hB, hB2, hf⟩ := h.own hn
    exact ⟨o, e2, hB, hB2, fun k hk => by rw [World.frozen?_of_block (w := w) (e hn)]; exact hf k hk⟩
theorem OwnI.mono {lo hi lo' hi' w b A n c xs} (h : OwnI lo hi w b A n c xs) (hB : lo' ≤ lo) (hB' : hi ≤ hi') : OwnI lo' hi' w b A n c xs :=
  ⟨h.ints, fun hn => let ⟨o, e, h1, h2, h3⟩ := h.own hn; ⟨o, e, Nat.le_trans hB h1, Nat.lt_of_lt_of_le h2 hB', h3⟩⟩
theorem OwnI.below {lo hi w w' b A n c xs} (h : OwnI lo hi w b A n c xs) (k : Below w.heap.size w w') : OwnI lo hi w' b A n c xs :=
  h.of_block fun hn => k.block _ (h.lt hn)
theorem OwnI.quiet {lo hi w w' b A n c xs} (h : OwnI lo hi w b A n c xs) (k : Quiet w w') : OwnI lo hi w' b A n c xs := by
  obtain ⟨m, rfl⟩ := k; exact h.of_block fun _ => rfl
theorem OwnI.nil (lo hi : Nat) (w : World) (b : Nat) : OwnI lo hi w b none 0 0 [] :=
  ⟨⟨rfl, Nat.le_refl _, by omega, fun _ h => by simp at h, fun h => absurd h (by omega)⟩, fun h => absurd h (by omega)⟩
/-- It returns v, and nothing that was there has turned. -/
def Ret (v : Value) (w : World) (e : Ending) (w' : World) : Prop := e = .returned v ∧ Below w.heap.size w w'

/-- Only blocks from lo up to less than hi have turned. -/
structure Touch (lo hi : Nat) (w w' : World) : Prop where
  os : w'.os = w.os
  tape : w'.tape = w.tape
  output : w'.output = w.output
  size : w'.heap.size = w.heap.size
  block : ∀ k, k < lo ∨ hi ≤ k → w'.heap[k]? = w.heap[k]?
theorem Touch.refl (lo hi : Nat) (w : World) : Touch lo hi w w := ⟨rfl, rfl, rfl, rfl, fun _ _ => rfl⟩
theorem Touch.trans {lo hi : Nat} {a b c : World} (h : Touch lo hi a b) (k : Touch lo hi b c) : Touch lo hi a c :=
  ⟨k.os.trans h.os, k.tape.trans h.tape, k.output.trans h.output, k.size.trans h.size, fun i hi => (k.block i hi).trans (h.block i hi)⟩
theorem Touch.mono {lo hi lo' hi' : Nat} {w w' : World} (h : Touch lo hi w w') (h1 : lo' ≤ lo) (h2 : hi ≤ hi') : Touch lo' hi' w w' :=
  ⟨h.os, h.tape, h.output, h.size, fun k hk => h.block k (by omega)⟩
theorem Touch.set {lo hi : Nat} {a w : World} (h : Touch lo hi a w) {p : Addr} (h1 : lo ≤ p.block) (h2 : p.block < hi) (u : Value) : Touch lo hi a (w.setCell p u) :=
  ⟨h.os, h.tape, h.output, by simpa [World.setCell] using h.size, fun k hk => (Below.heap_setCell _ _ _ _ (by omega)).trans (h.block k hk)⟩
theorem Touch.quiet {lo hi : Nat} {a w w' : World} (h : Touch lo hi a w) (k : Quiet w w') : Touch lo hi a w' := by
  obtain ⟨m, rfl⟩ := k; exact ⟨h.os, h.tape, h.output, h.size, h.block⟩
theorem Touch.below {lo hi B : Nat} {a w w' : World} (h : Below B a w) (k : Touch lo hi w w') (hB : B ≤ lo) : Below B a w' :=
  ⟨k.os.trans h.os, k.tape.trans h.tape, k.output.trans h.output, by rw [k.size]; exact h.size, fun i hi => (k.block i (.inl (by omega))).trans (h.block i hi)⟩
/-- A block that is known whole. -/
def Blk (w : World) (g : Nat) (t : TypeId) (cs : Array Value) : Prop := w.heap[g]? = some (.cells cs t (0, 0))
theorem blk_lt {w g t cs} (h : Blk w g t cs) : g < w.heap.size := (Array.getElem?_eq_some_iff.1 h).1
theorem blk_cell {w g t cs} (h : Blk w g t cs) {i : Nat} {v : Value} (hv : cs[i]? = some v) : w.cell? ⟨g, i, none⟩ = some v := by
  unfold Blk at h; simp [World.cell?, h, hv]
theorem blk_frozen {w g t cs} (h : Blk w g t cs) (i : Nat) : w.frozen? ⟨g, i, none⟩ = false := by
  unfold Blk at h; simp [World.frozen?, h]
theorem blk_new (w : World) (t : TypeId) (cs : Array Value) : Blk (w.alloc (.cells cs t)) w.heap.size t cs := heap_alloc_new w _
theorem blk_old {w g t cs} (h : Blk w g t cs) (o : Obj) : Blk (w.alloc o) g t cs := (Below.heap_alloc w o g (blk_lt h)).trans h
theorem blk_below {w w' g t cs} (h : Blk w g t cs) (k : Below w.heap.size w w') : Blk w' g t cs := (k.block g (blk_lt h)).trans h
theorem blk_touch {w w' g t cs lo hi} (h : Blk w g t cs) (k : Touch lo hi w w') (hd : g < lo ∨ hi ≤ g) : Blk w' g t cs := (k.block g hd).trans h
theorem blk_set {w g t cs} (h : Blk w g t cs) (i : Nat) (u : Value) : Blk (w.setCell ⟨g, i, none⟩ u) g t (cs.setIfInBounds i u) := by
  unfold Blk at h ⊢
  simp [World.setCell, Array.getElem?_modify, h]
theorem blk_other {w g t cs} (h : Blk w g t cs) {p : Addr} (hp : g ≠ p.block) (u : Value) : Blk (w.setCell p u) g t cs := (Below.heap_setCell w p u g hp).trans h
theorem blk_quiet {w w' g t cs} (h : Blk w g t cs) (k : Quiet w w') : Blk w' g t cs := by obtain ⟨m, rfl⟩ := k; exact h

theorem Quiet.below {B : Nat} {w w' : World} (h : Quiet w w') : Below B w w' := by
  obtain ⟨n, rfl⟩ := h; exact ⟨rfl, rfl, rfl, Nat.le_refl _, fun _ _ => rfl⟩
theorem below_drewN {B : Nat} {a w : World} (h : Below B a w) (n : Nat) : Below B a (w.drewN n) := ⟨h.os, h.tape, h.output, h.size, h.block⟩
theorem below_alloc (w : World) (o : Obj) : Below w.heap.size w (w.alloc o) := (Below.refl _ _).alloc (Nat.le_refl _) o
theorem below_up {w w1 w2 : World} (h : Below w.heap.size w w1) (k : Below w1.heap.size w1 w2) : Below w.heap.size w w2 := h.trans (k.mono h.size)
theorem below_quiet {w w1 w2 : World} (h : Below w.heap.size w w1) (k : Quiet w1 w2) : Below w.heap.size w w2 := by obtain ⟨m, rfl⟩ := k; exact below_drewN h m

theorem OwnI.of_rowIs {lo hi w g n} {xs : List Int} (hl : xs.length = n) (hm : n ≤ 17592186044416) (hw : ∀ x ∈ xs, -9223372036854775808 ≤ x ∧ x ≤ 9223372036854775807)
    (hB : lo ≤ g) (hB' : g < hi) {f : Nat → Value} (h : w.rowIs g 3 n f) (hf : ∀ k, k < n → f k = .int .i64 (gi xs k)) : OwnI lo hi w g (some ⟨g, 0, none⟩) n n xs :=
  ⟨⟨hl, Nat.le_refl _, hm, hw, fun _ => ⟨g, 0, rfl, fun k hk => by rw [Nat.zero_add, h.cell hk, hf k hk]⟩⟩, fun _ => ⟨0, rfl, hB, hB', fun k _ => by rw [Nat.zero_add]; exact h.frozen k⟩⟩

/-- Rows of their own, each in a block of its own. -/
structure OwnR (lo hi : Nat) (w : World) (b : Nat) (A : Option Addr) (n c : Nat) (xss : List (List Int)) : Prop where
  len : xss.length = n
  cap : n ≤ c
  max : n ≤ 5864062014805
  at_ : 0 < n → ∃ (o : Nat) (G : Nat → Nat) (R : Nat → Option Addr) (C : Nat → Nat), A = some ⟨b, o, none⟩ ∧ lo ≤ b ∧ b < hi ∧ (∀ k, k < n → w.frozen? ⟨b, o + k, none⟩ = false ∧
      w.cell? ⟨b, o + k, none⟩ = some (.slice (R k) (gr xss k).length (C k)) ∧ OwnI lo hi w (G k) (R k) (gr xss k).length (C k) (gr xss k) ∧ (0 < (gr xss k).length → G k ≠ b)) ∧
      ∀ j k, j < k → k < n → 0 < (gr xss j).length → 0 < (gr xss k).length → G j ≠ G k

theorem OwnR.rows {lo hi w b A n c xss} (h : OwnR lo hi w b A n c xss) : IntRows w A n c xss :=
  ⟨h.len, h.cap, h.max, fun hn => by
    obtain ⟨o, G, R, C, e, _, _, hr, _⟩ := h.at_ hn
    exact ⟨b, o, e, fun k hk => ⟨R k, C k, (hr k hk).2.1, (hr k hk).2.2.1.ints⟩⟩⟩
theorem OwnR.lt {lo hi w b A n c xss} (h : OwnR lo hi w b A n c xss) (hn : 0 < n) : b < w.heap.size := by
  obtain ⟨o, G, R, C, e, _, _, hr, _⟩ := h.at_ hn
  exact World.block_lt_of_cell? w _ (hr 0 hn).2.1
theorem OwnR.mono {lo hi lo' hi' w b A n c xss} (h : OwnR lo hi w b A n c xss) (hB : lo' ≤ lo) (hB' : hi ≤ hi') : OwnR lo' hi' w b A n c xss :=
  ⟨h.len, h.cap, h.max, fun hn => by
    obtain ⟨o, G, R, C, e, h1, h2, hr, hd⟩ := h.at_ hn
    exact ⟨o, G, R, C, e, Nat.le_trans hB h1, Nat.lt_of_lt_of_le h2 hB', fun k hk => ⟨(hr k hk).1, (hr k hk).2.1, (hr k hk).2.2.1.mono hB hB', (hr k hk).2.2.2⟩, hd⟩⟩
theorem OwnR.of_blocks {lo hi w w' b A n c xss} (h : OwnR lo hi w b A n c xss) (e : ∀ g, lo ≤ g → g < hi → g < w.heap.size → w'.heap[g]? = w.heap[g]?) : OwnR lo hi w' b A n c xss :=
  ⟨h.len, h.cap, h.max, fun hn => by
    have hbl := h.lt hn
    obtain ⟨o, G, R, C, ea, h1, h2, hr, hd⟩ := h.at_ hn
    have eb := e b h1 h2 hbl
    refine ⟨o, G, R, C, ea, h1, h2, fun k hk => ⟨?_, ?_, (hr k hk).2.2.1.of_block fun hp => ?_, (hr k hk).2.2.2⟩, hd⟩
    · rw [World.frozen?_of_block (w := w) eb]; exact (hr k hk).1
    · rw [World.cell?_of_block (w := w) eb]; exact (hr k hk).2.1
    · obtain ⟨_, _, hB, hB2, _⟩ := (hr k hk).2.2.1.own hp
      exact e _ hB hB2 ((hr k hk).2.2.1.lt hp)⟩
theorem OwnR.below {lo hi w w' b A n c xss} (h : OwnR lo hi w b A n c xss) (k : Below w.heap.size w w') : OwnR lo hi w' b A n c xss := h.of_blocks fun g _ _ hg => k.block g hg
theorem OwnR.quiet {lo hi w w' b A n c xss} (h : OwnR lo hi w b A n c xss) (k : Quiet w w') : OwnR lo hi w' b A n c xss := by
  obtain ⟨m, rfl⟩ := k; exact h.of_blocks fun _ _ _ _ => rfl
theorem OwnR.nil (lo hi : Nat) (w : World) (b : Nat) : OwnR lo hi w b none 0 0 [] := ⟨rfl, Nat.le_refl _, by omega, fun h => absurd h (by omega)⟩

/-- What lies elsewhere stays. -/
theorem OwnI.touch {lo hi lo' hi' w w' b A n c xs} (h : OwnI lo hi w b A n c xs) (k : Touch lo' hi' w w') (hd : hi ≤ lo' ∨ hi' ≤ lo) : OwnI lo hi w' b A n c xs :=
  h.of_block fun hn => k.block _ (by obtain ⟨_, _, h1, h2, _⟩ := h.own hn; omega)
theorem OwnR.touch {lo hi lo' hi' w w' b A n c xss} (h : OwnR lo hi w b A n c xss) (k : Touch lo' hi' w w') (hd : hi ≤ lo' ∨ hi' ≤ lo) : OwnR lo hi w' b A n c xss :=
  h.of_blocks fun g h1 h2 _ => k.block g (by omega)
/-- What lies below a number stays. -/
theorem Ints.touch {lo hi w w' A n c xs} (h : Ints w A n c xs) (k : Touch lo hi w w') {B : Nat} (hB : B ≤ lo) (hb : ∀ b o, 0 < n → A = some ⟨b, o, none⟩ → b < B) : Ints w' A n c xs :=
  ⟨h.len, h.cap, h.max, h.wf, fun hn => let ⟨b, o, e, hc⟩ := h.at_ hn; ⟨b, o, e, fun i hi => by rw [World.cell?_of_block (w := w) (k.block b (.inl (by have := hb b o hn e; omega)))]; exact hc i hi⟩⟩

end Go.Proofs.Ytjkmgpiiamffgaa

/- The harness of the exact laws: sizes, copies, comparisons. -/
namespace Go.Proofs.Ytjkmgpiiamffgaa
open Go.RowKit

def szI (left : Int) (n : Nat) : Int := if left - n < 0 then -1 else left - n

set_option maxHeartbeats 400000 in
theorem szIntS_any (A : Option Addr) (n c : Nat) (left : Int) (w : World) (hn : n ≤ 17592186044416) (h0 : 0 ≤ left) (h1 : left ≤ 1048576) :
    Calls Try.prog 79 #[.slice A n c, .int .i64 left] w fun e w' => e = .returned (.int .i64 (szI left n)) ∧ w = w' := by
  by_cases h : left - n < 0
  · go_enter Try.func79, Try.ntmps79
    go_wp2
    go_ret
    exact ⟨ret_int (by rw [szI, if_pos h]), rfl⟩
  · go_enter Try.func79, Try.ntmps79
    go_wp2
    go_ret
    exact ⟨ret_int (by rw [szI, if_neg (by omega)]), rfl⟩

def eqI (xs ys : List Int) : Bool := decide (xs = ys)
theorem eqI_len {xs ys : List Int} (h : xs.length ≠ ys.length) : eqI xs ys = false := by
  unfold eqI; exact decide_eq_false fun e => h (by rw [e])
theorem eqI_no {xs ys : List Int} {k : Nat} (h : gi xs k ≠ gi ys k) : eqI xs ys = false := by
  unfold eqI; exact decide_eq_false fun e => h (by rw [e])
theorem eqI_yes {xs ys : List Int} (hl : xs.length = ys.length) (h : ∀ k, k < xs.length → gi xs k = gi ys k) : eqI xs ys = true := by
  unfold eqI
  exact decide_eq_true (gi_ext hl h)

set_option maxHeartbeats 400000 in
theorem eqIntS_any (A B : Option Addr) (n c m d : Nat) (xs ys : List Int) (w : World) (hx : Ints w A n c xs) (hy : Ints w B m d ys) :
    Calls Try.prog 36 #[.slice A n c, .slice B m d] w fun e w' => e = .returned (.bool (eqI xs ys)) ∧ Quiet w w' := by
  obtain ⟨lx, cx, mx, _, hx⟩ := hx
  obtain ⟨ly, cy, my, _, hy⟩ := hy
  have Lx := Lib.hid lx
  have Ly := Lib.hid ly
  clear lx ly
  by_cases hnm : n = m
  · subst hnm
    go_enter Try.func36, Try.ntmps36
    go_wp2
    go_loopw [5] (fun i wr => ∃ k : Nat, k ≤ n ∧ i = .int .i64 k ∧ (∀ j, j < k → gi xs j = gi ys j) ∧ Quiet w wr) (fun i _ => n - (intOf i).toNat)
    case atStart => exact ⟨0, Nat.zero_le _, rfl, fun _ h => absurd h (by omega), Quiet.refl _⟩
    case round =>
      obtain ⟨k, hk, rfl, hall, q, rfl⟩ := hrel
      have HALL := Lib.hid hall
      clear hall
      by_cases hlt : k < n
      · obtain ⟨b, o, rfl, hcx⟩ := hx (by omega)
        obtain ⟨b2, o2, rfl, hcy⟩ := hy (by omega)
        have c1 := hcx k hlt
        have c2 := hcy k hlt
        clear hx hy hcx hcy
        by_cases he : gi xs k = gi ys k
        · have he' : (gi xs k != gi ys k) = false := by simp [he]
          have HE := Lib.hid he
          clear he
          go_wp2
          go_quiet (fail)
          go_wp2
          go_roundw
          case rel => exact ⟨k + 1, by omega, by go_num, fun j hj => by
            by_cases hjk : j < k
            · exact HALL.out j hjk
            · obtain rfl : j = k := by omega
              exact HE.out, ⟨_, rfl⟩⟩
          case measure => simp [intOf]; omega
        · have he' : (gi xs k != gi ys k) = true := by simpa using he
          go_wp2
          go_quiet (fail)
          go_wp2
          go_ret
          exact ⟨ret_bool (eqI_no he).symm, Quiet.two _ _ _⟩
      · obtain rfl : k = n := by omega
        go_wp2
        go_ret
        exact ⟨ret_bool (eqI_yes (by rw [Lx.out, Ly.out]) fun j hj => HALL.out j (by rw [Lx.out] at hj; exact hj)).symm, ⟨_, rfl⟩⟩
  · go_enter Try.func36, Try.ntmps36
    go_wp2
    go_ret
    exact ⟨ret_bool (eqI_len (by rw [Lx.out, Ly.out]; exact hnm)).symm, Quiet.refl _⟩

/-- The size of rows, off a bound. -/
def szR : Int → List (List Int) → Int
  | left, [] => left
  | left, x :: xs => if szI left x.length < 0 then -1 else szR (szI left x.length) xs
def szRR (left : Int) (xss : List (List Int)) : Int := if szI left xss.length < 0 then -1 else szR (szI left xss.length) xss
theorem szI_le (left : Int) (n : Nat) (h0 : 0 ≤ left) (h1 : left ≤ 1048576) : -1 ≤ szI left n ∧ szI left n ≤ 1048576 := by unfold szI; split <;> omega
theorem szR_neg {left : Int} {x : List Int} {xs : List (List Int)} (h : szI left x.length < 0) : szR left (x :: xs) = -1 := by rw [szR, if_pos h]
theorem szR_pos {left : Int} {x : List Int} {xs : List (List Int)} (h : ¬ szI left x.length < 0) : szR left (x :: xs) = szR (szI left x.length) xs := by rw [szR, if_neg h]
theorem gr_drop {xss : List (List Int)} {k : Nat} (h : k < xss.length) : xss.drop k = gr xss k :: xss.drop (k + 1) := by
  rw [gr_get h]; exact List.drop_eq_getElem_cons h

set_option maxHeartbeats 400000 in
theorem szIntSS_any (A : Option Addr) (n c : Nat) (xss : List (List Int)) (left : Int) (w : World) (hx : IntRows w A n c xss) (h0 : 0 ≤ left) (h1 : left ≤ 1048576) :
    Calls Try.prog 33 #[.slice A n c, .int .i64 left] w fun e w' => e = .returned (.int .i64 (szRR left xss)) ∧ Quiet w w' := by
  obtain ⟨lx, cx, mx, hx⟩ := hx
  have Lx := Lib.hid lx
  clear lx
  by_cases h : left - n < 0
  · go_enter Try.func33, Try.ntmps33
    go_wp2
    go_ret
    exact ⟨ret_int (by rw [szRR, Lx.out, szI, if_pos h]; rfl), Quiet.refl _⟩
  · go_enter Try.func33, Try.ntmps33
    go_wp2
    go_loopw [1, 5] (fun l i wr => ∃ (k : Nat) (z : Int), k ≤ n ∧ i = .int .i64 k ∧ l = .int .i64 z ∧ 0 ≤ z ∧ z ≤ 1048576 ∧ Hid (szRR left xss = szR z (xss.drop k)) ∧ Quiet w wr) (fun _ i _ => n - (intOf i).toNat)
    case atStart => exact ⟨0, left - n, Nat.zero_le _, rfl, rfl, by omega, by omega, Lib.hid (by rw [szRR, Lx.out, szI, if_neg (by omega), if_neg (by omega)]; rfl), Quiet.refl _⟩
    case round =>
      obtain ⟨k, z, hk, rfl, rfl, hz0, hz1, HS, q, rfl⟩ := hrel
      by_cases hlt : k < n
      · obtain ⟨b, o, rfl, hcx⟩ := hx (by omega)
        obtain ⟨R, cc, c1, hR⟩ := hcx k hlt
        clear hx hcx
        have hRl : (gr xss k).length ≤ 17592186044416 := hR.max
        have hsz := szI_le z (gr xss k).length hz0 hz1
        have HD := Lib.hid (gr_drop (xss := xss) (k := k) (by rw [Lx.out]; exact hlt))
        by_cases hn : szI z (gr xss k).length < 0
        · go_wp2_with (go_at_call 79; refine (szIntS_any _ _ _ _ _ hRl hz0 hz1).mono ?_; rintro e w' ⟨rfl, rfl⟩)
          go_ret
          exact ⟨ret_int (by rw [HS.out, HD.out, szR_neg hn]), ⟨_, rfl⟩⟩
        · go_wp2_with (go_at_call 79; refine (szIntS_any _ _ _ _ _ hRl hz0 hz1).mono ?_; rintro e w' ⟨rfl, rfl⟩)
          go_roundw
          case rel => exact ⟨k + 1, _, by omega, by go_num, rfl, by omega, hsz.2, Lib.hid (by rw [HS.out, HD.out, szR_pos (by omega)]), ⟨_, rfl⟩⟩
          case measure => simp [intOf]; omega
      · obtain rfl : k = n := by omega
        go_wp2
        go_ret
        exact ⟨ret_int (by rw [HS.out, List.drop_of_length_le (by rw [Lx.out]; exact Nat.le_refl _)]; rfl), ⟨_, rfl⟩⟩

def eqRR (xss yss : List (List Int)) : Bool := decide (xss = yss)
theorem eqRR_len {xs ys : List (List Int)} (h : xs.length ≠ ys.length) : eqRR xs ys = false := by
  unfold eqRR; exact decide_eq_false fun e => h (by rw [e])
theorem eqRR_no {xs ys : List (List Int)} {k : Nat} (h : eqI (gr xs k) (gr ys k) = false) : eqRR xs ys = false := by
  unfold eqRR; exact decide_eq_false fun e => by rw [e] at h; simp [eqI] at h
theorem eqRR_yes {xs ys : List (List Int)} (hl : xs.length = ys.length) (h : ∀ k, k < xs.length → eqI (gr xs k) (gr ys k) = true) : eqRR xs ys = true := by
  unfold eqRR
  exact decide_eq_true (gr_ext hl fun k hk => by simpa [eqI] using h k hk)

set_option maxHeartbeats 400000 in
theorem eqIntSS_any (A B : Option Addr) (n c m d : Nat) (xs ys : List (List Int)) (w : World) (hx : IntRows w A n c xs) (hy : IntRows w B m d ys) :
    Calls Try.prog 37 #[.slice A n c, .slice B m d] w fun e w' => e = .returned (.bool (eqRR xs ys)) ∧ Quiet w w' := by
  obtain ⟨lx, cx, mx, hx⟩ := hx
  obtain ⟨ly, cy, my, hy⟩ := hy
  have Lx := Lib.hid lx
  have Ly := Lib.hid ly
  clear lx ly
  by_cases hnm : n = m
  · subst hnm
    go_enter Try.func37, Try.ntmps37
    go_wp2
    go_loopw [5] (fun i wr => ∃ k : Nat, k ≤ n ∧ i = .int .i64 k ∧ Hid (∀ j, j < k → eqI (gr xs j) (gr ys j) = true) ∧ Quiet w wr) (fun i _ => n - (intOf i).toNat)
    case atStart => exact ⟨0, Nat.zero_le _, rfl, Lib.hid (fun _ h => absurd h (by omega)), Quiet.refl _⟩
    case round =>
      obtain ⟨k, hk, rfl, HALL, q, rfl⟩ := hrel
      by_cases hlt : k < n
      · obtain ⟨b, o, rfl, hcx⟩ := hx (by omega)
        obtain ⟨b2, o2, rfl, hcy⟩ := hy (by omega)
        obtain ⟨R, cc, c1, hR⟩ := hcx k hlt
        obtain ⟨R2, cc2, c2, hR2⟩ := hcy k hlt
        clear hx hy hcx hcy
        cases he : eqI (gr xs k) (gr ys k) with
        | true =>
          have HE := Lib.hid he
          have hq := fun W (hW : Quiet w W) => (he ▸ eqIntS_any _ _ _ _ _ _ _ _ W (hR.keep (Keep.quiet hW)) (hR2.keep (Keep.quiet hW)))
          clear he
          go_wp2
          go_quiet ((go_at_call 36; exact quiet_fit (hq _ (by first | exact ⟨_, rfl⟩ | exact Quiet.two _ _ _)) (fun m => by first | exact drewN_to1 _ _ _ | exact drewN_to2 _ _ _ _)))
          go_wp2
          go_roundw
          case rel => exact ⟨k + 1, by omega, by go_num, Lib.hid (fun j hj => by
            by_cases hjk : j < k
            · exact HALL.out j hjk
            · obtain rfl : j = k := by omega
              exact HE.out), ⟨_, rfl⟩⟩
          case measure => simp [intOf]; omega
        | false =>
          have HE := Lib.hid he
          have hq := fun W (hW : Quiet w W) => (he ▸ eqIntS_any _ _ _ _ _ _ _ _ W (hR.keep (Keep.quiet hW)) (hR2.keep (Keep.quiet hW)))
          clear he
          go_wp2
          go_quiet ((go_at_call 36; exact quiet_fit (hq _ (by first | exact ⟨_, rfl⟩ | exact Quiet.two _ _ _)) (fun m => by first | exact drewN_to1 _ _ _ | exact drewN_to2 _ _ _ _)))
          go_wp2
          go_ret
          exact ⟨ret_bool (eqRR_no HE.out).symm, Quiet.two _ _ _⟩
      · obtain rfl : k = n := by omega
        go_wp2
        go_ret
        exact ⟨ret_bool (eqRR_yes (by rw [Lx.out, Ly.out]) fun j hj => HALL.out j (by rw [Lx.out] at hj; exact hj)).symm, ⟨_, rfl⟩⟩
  · go_enter Try.func37, Try.ntmps37
    go_wp2
    go_ret
    exact ⟨ret_bool (eqRR_len (by rw [Lx.out, Ly.out]; exact hnm)).symm, Quiet.refl _⟩
end Go.Proofs.Ytjkmgpiiamffgaa

/- The harness of the exact laws: copies. -/
namespace Go.Proofs.Ytjkmgpiiamffgaa
open Go.RowKit
theorem Try.info3 : (Try.prog.info? 3).map (fun i => (i.zero, i.size, i.bytes)) = some (some (.int .i64 0), 1, 8) := by kernel_rfl
theorem Try.info30 : (Try.prog.info? 30).map (fun i => (i.zero, i.size, i.bytes)) = some (some (.slice none 0 0), 1, 24) := by kernel_rfl

/-- A row that is filled up to k. -/
def filled (xs : List Int) (k : Nat) : Nat → Value := fun j => if j < k then .int .i64 (gi xs j) else .int .i64 0

theorem filled_set {w : World} {g n k : Nat} {xs : List Int} (h : w.rowIs g 3 n (filled xs k)) : (w.setCell ⟨g, k, none⟩ (.int .i64 (gi xs k))).rowIs g 3 n (filled xs (k + 1)) :=
  (h.set k _).congr fun j _ => by
    unfold filled
    by_cases e : j = k
    · subst e; simp
    · rw [if_neg e]
      by_cases hj : j < k
      · rw [if_pos hj, if_pos (by omega)]
      · rw [if_neg hj, if_neg (by omega)]

def MadeI (w : World) (n : Nat) (xs : List Int) (e : Ending) (w' : World) : Prop :=
  e = .returned (.slice (some ⟨w.heap.size, 0, none⟩) n n) ∧ OwnI w.heap.size (w.heap.size + 1) w' w.heap.size (some ⟨w.heap.size, 0, none⟩) n n xs ∧ Below w.heap.size w w' ∧ w'.heap.size = w.heap.size + 1

set_option maxHeartbeats 400000 in
theorem toIntS_any (A : Option Addr) (n c : Nat) (xs : List Int) (w : World) (hx : Ints w A n c xs) :
    Calls Try.prog 35 #[.slice A n c] w (MadeI w n xs) := by
  have HX := Lib.hid hx
  obtain ⟨_, cx, mx, _, hx⟩ := hx
  have hmk := run_make_row' (P := Try.prog) 30 3 (.int .i64 0) 8 Try.underlying30 Try.info3 rfl .i64 .i64 n (by omega) (by omega)
  go_enter Try.func35, Try.ntmps35
  go_wp2
  clear hmk
  go_loopw [4] (fun i wr => ∃ k : Nat, k ≤ n ∧ i = .int .i64 k ∧ wr.rowIs w.heap.size 3 n (filled xs k) ∧ Below w.heap.size w wr ∧ Hid (wr.heap.size = w.heap.size + 1)) (fun i _ => n - (intOf i).toNat)
  case atStart => exact ⟨0, Nat.zero_le _, rfl, (World.rowIs_made w _ n 3).congr (fun j _ => by simp [filled]), (Below.refl _ _).alloc (Nat.le_refl _) _, Lib.hid (by simp)⟩
  case round =>
    obtain ⟨k, hk, rfl, hrow, hbel, hsz⟩ := hrel
    by_cases hlt : k < n
    · obtain ⟨b, o, rfl, hc⟩ := hx (by omega)
      have c1 := hc k hlt
      have c2 := hbel.cell (p := ⟨b, o + k, none⟩) (World.block_lt_of_cell? _ _ c1)
      rw [c1] at c2
      have c3 := hrow.cell hlt
      simp only [filled, if_neg (Nat.lt_irrefl k)] at c3
      have c4 := hrow.frozen k
      clear hx hc c1
      go_wp2
      go_roundw
      case rel => exact ⟨k + 1, by omega, by go_num, filled_set hrow, hbel.setCell (Nat.le_refl _) _, Lib.hid (by simpa using hsz.out)⟩
      case measure => simp [intOf]; omega
    · obtain rfl : k = n := by omega
      go_wp2
      go_ret
      exact ⟨rfl, OwnI.of_rowIs HX.out.len mx HX.out.wf (Nat.le_refl _) (Nat.lt_succ_self _) hrow (fun j hj => by simp [filled, hj]), hbel, hsz.out⟩

/-- The outer row when k copies are made. -/
def tops (B : Nat) (xss : List (List Int)) (k : Nat) : Nat → Value := fun j => if j < k then .slice (some ⟨B + 1 + j, 0, none⟩) (gr xss j).length (gr xss j).length else .slice none 0 0
structure Copied (w wr : World) (n k : Nat) (xss : List (List Int)) : Prop where
  below : Below w.heap.size w wr
  size : wr.heap.size = w.heap.size + 1 + k
  top : wr.rowIs w.heap.size 30 n (tops w.heap.size xss k)
  done : ∀ j, j < k → OwnI w.heap.size wr.heap.size wr (w.heap.size + 1 + j) (some ⟨w.heap.size + 1 + j, 0, none⟩) (gr xss j).length (gr xss j).length (gr xss j)

theorem copied_start (w : World) (n : Nat) (xss : List (List Int)) : Copied w (w.alloc (.cells (madeCells #[.slice none 0 0] n) 30)) n 0 xss :=
  ⟨(Below.refl _ _).alloc (Nat.le_refl _) _, by simp, (World.rowIs_made w _ n 30).congr (fun j _ => by simp [tops]), fun j hj => absurd hj (Nat.not_lt_zero _)⟩

theorem copied_step {w wr w1 : World} {n k : Nat} {xss : List (List Int)} {e : Ending} (h : Copied w wr n k xss) (m : MadeI wr (gr xss k).length (gr xss k) e w1) :
    e = .returned (.slice (some ⟨w.heap.size + 1 + k, 0, none⟩) (gr xss k).length (gr xss k).length) ∧
    Copied w (w1.setCell ⟨w.heap.size, k, none⟩ (.slice (some ⟨w.heap.size + 1 + k, 0, none⟩) (gr xss k).length (gr xss k).length)) n (k + 1) xss := by
  obtain ⟨he, hown, hbel, hsz⟩ := m
  rw [h.size] at he hown hsz
  have hb : Below w.heap.size w w1 := h.below.trans (hbel.mono h.below.size)
  refine ⟨he, ⟨hb.setCell (Nat.le_refl _) _, by simp [hsz]; omega, ?_, fun j hj => ?_⟩⟩
  · refine ((h.top.of_block (hbel.block _ (by rw [h.size]; omega))).set k _).congr fun j _ => ?_
    unfold tops
    by_cases e : j = k
    · subst e; simp
    · rw [if_neg e]
      by_cases hj : j < k
      · rw [if_pos hj, if_pos (by omega)]
      · rw [if_neg hj, if_neg (by omega)]
  · by_cases e : j = k
    · subst e
      exact (hown.mono (by omega) (by simp [World.setCell, hsz])).of_block fun _ => Below.heap_setCell _ _ _ _ (by show w.heap.size + 1 + j ≠ w.heap.size; omega)
    · refine (((h.done j (by omega)).below hbel).mono (Nat.le_refl _) (by have := hbel.size; simpa [World.setCell] using this)).of_block fun _ => Below.heap_setCell _ _ _ _ (by show w.heap.size + 1 + j ≠ w.heap.size; omega)

theorem copied_own {w wr : World} {n : Nat} {xss : List (List Int)} (h : Copied w wr n n xss) (hl : xss.length = n) (hm : n ≤ 5864062014805) :
    OwnR w.heap.size wr.heap.size wr w.heap.size (some ⟨w.heap.size, 0, none⟩) n n xss :=
  ⟨hl, Nat.le_refl _, hm, fun _ => ⟨0, fun k => w.heap.size + 1 + k, fun k => some ⟨w.heap.size + 1 + k, 0, none⟩, fun k => (gr xss k).length, rfl, Nat.le_refl _, h.top.lt,
    fun k hk => ⟨by rw [Nat.zero_add]; exact h.top.frozen k, by rw [Nat.zero_add, h.top.cell hk, tops, if_pos hk], h.done k hk, fun _ => by show w.heap.size + 1 + k ≠ w.heap.size; omega⟩, fun j k hj _ _ _ => by show w.heap.size + 1 + j ≠ w.heap.size + 1 + k; omega⟩⟩

def MadeR (w : World) (n : Nat) (xss : List (List Int)) (e : Ending) (w' : World) : Prop :=
  e = .returned (.slice (some ⟨w.heap.size, 0, none⟩) n n) ∧ OwnR w.heap.size w'.heap.size w' w.heap.size (some ⟨w.heap.size, 0, none⟩) n n xss ∧ Below w.heap.size w w' ∧ w.heap.size < w'.heap.size

set_option maxHeartbeats 400000 in
theorem toIntSS_any (A : Option Addr) (n c : Nat) (xss : List (List Int)) (w : World) (hx : IntRows w A n c xss) :
    Calls Try.prog 34 #[.slice A n c] w (MadeR w n xss) := by
  have HX := Lib.hid hx
  obtain ⟨_, cx, mx, hx⟩ := hx
  have hmk := run_make_row' (P := Try.prog) 23 30 (.slice none 0 0) 24 Try.underlying23 Try.info30 rfl .i64 .i64 n (by omega) (by omega)
  go_enter Try.func34, Try.ntmps34
  go_wp2
  clear hmk
  go_loopw [4] (fun i wr => ∃ k : Nat, k ≤ n ∧ i = .int .i64 k ∧ Copied w wr n k xss) (fun i _ => n - (intOf i).toNat)
  case atStart => exact ⟨0, Nat.zero_le _, rfl, copied_start w n xss⟩
  case round =>
    obtain ⟨k, hk, rfl, HC⟩ := hrel
    by_cases hlt : k < n
    · obtain ⟨b, o, rfl, hc⟩ := hx (by omega)
      obtain ⟨R, cc, c1, hR⟩ := hc k hlt
      have hkeep := HC.below.cell (p := ⟨b, o + k, none⟩) (World.block_lt_of_cell? _ _ c1)
      rw [c1] at hkeep
      have hR2 := hR.keep (Keep.below HC.below)
      have c3 := HC.top.cell hlt
      simp only [tops, if_neg (Nat.lt_irrefl k)] at c3
      have c4 := HC.top.frozen k
      have hbl := HC.top.lt
      clear hx hc c1 hR
      go_wp2_with fail
      refine (toIntS_any _ _ _ _ _ hR2).mono ?_
      intro e w1 hm
      obtain ⟨he, hcop⟩ := copied_step HC hm
      obtain ⟨_, _, hb1, _⟩ := hm
      have c5 := hb1.cell (p := ⟨w.heap.size, k, none⟩) hbl
      rw [c3] at c5
      have c6 := hb1.frozen (p := ⟨w.heap.size, k, none⟩) hbl
      rw [c4] at c6
      subst he
      clear c3 c4 hR2 hkeep HC hb1
      go_wp2
      go_roundw
      case rel => exact ⟨k + 1, by omega, by go_num, hcop⟩
      case measure => simp [intOf]; omega
    · obtain rfl : k = n := by omega
      go_wp2
      go_ret
      exact ⟨rfl, copied_own HC HX.out.len mx, HC.below, HC.top.lt⟩
end Go.Proofs.Ytjkmgpiiamffgaa

/- The reader that draws numbers out of a code. -/
namespace Go.Proofs.Ytjkmgpiiamffgaa
open Go.RowKit

/-- A slice of bytes. -/
structure Bytes (w : World) (A : Option Addr) (n c : Nat) : Prop where
  cap : n ≤ c
  max : n ≤ 140737488355328
  at_ : 0 < n → ∃ b o, A = some ⟨b, o, none⟩ ∧ ∀ k, k < n → ∃ v : Int, 0 ≤ v ∧ v ≤ 255 ∧ w.cell? ⟨b, o + k, none⟩ = some (.int .u8 v)
theorem Bytes.keep {w w' A n c} (h : Bytes w A n c) (k : Keep w w') : Bytes w' A n c :=
  ⟨h.cap, h.max, fun hn => let ⟨b, o, e, hc⟩ := h.at_ hn; ⟨b, o, e, fun i hi => let ⟨v, h0, h1, h2⟩ := hc i hi; ⟨v, h0, h1, k _ _ h2⟩⟩⟩

/-- A reader in block g, at position p, over bytes that lie below its block. -/
structure Rdr (w0 w : World) (g : Nat) (A : Option Addr) (n c p : Nat) : Prop where
  box : Blk w g 91 #[.slice A n c, .int .i64 p]
  bytes : Bytes w0 A n c
  below : Below w0.heap.size w0 w
  lt : w0.heap.size ≤ g
  small : n ≤ 2000
theorem Rdr.at_ {w0 w g A n c p} (h : Rdr w0 w g A n c p) : Bytes w A n c := h.bytes.keep (Keep.below h.below)

def Picked (w0 : World) (g : Nat) (A : Option Addr) (l c p : Nat) (n : Int) (w : World) (e : Ending) (w' : World) : Prop :=
  ∃ m : Int, e = .returned (.int .i64 m) ∧ (1 ≤ n → 0 ≤ m ∧ m < n) ∧ (n < 1 → m = 0) ∧ Rdr w0 w' g A l c (p + 1) ∧ ∃ q, w' = (w.setCell ⟨g, 1, none⟩ (.int .i64 (p + 1 : Nat))).drewN q

/-- The world behind the step of the reader. -/
theorem Rdr.step {w0 w g A n c p} (h : Rdr w0 w g A n c p) : Rdr w0 (w.setCell ⟨g, 1, none⟩ (.int .i64 (p + 1 : Nat))) g A n c (p + 1) :=
  ⟨blk_set h.box 1 _, h.bytes, h.below.setCell h.lt _, h.lt, h.small⟩
theorem Rdr.quiet {w0 w w' g A n c p} (h : Rdr w0 w g A n c p) (k : Quiet w w') : Rdr w0 w' g A n c p :=
  ⟨blk_quiet h.box k, h.bytes, below_quiet h.below k, h.lt, h.small⟩
theorem cast_succ (p : Nat) : ((p + 1 : Nat) : Int) = (p : Int) + 1 := by omega

set_option maxRecDepth 100000 in
set_option maxHeartbeats 1000000 in
theorem pick_zero (w0 w : World) (g : Nat) (A : Option Addr) (l c p : Nat) (n : Int) (h : Rdr w0 w g A l c p) (hp : p < 1000000000) (hz : n < 1) :
    Calls Try.prog 67 #[.pointer (some ⟨g, 0, none⟩), .int .i64 n] w (Picked w0 g A l c p n w) := by
  have k0 := blk_cell h.box (i := 0) (v := .slice A l c) rfl
  have k1 := blk_cell h.box (i := 1) (v := .int .i64 p) rfl
  have f1 := blk_frozen h.box 1
  have hs := h.small
  have HS := Lib.hid h.step
  go_enter Try.func67, Try.ntmps67
  go_wp2
  go_ret
  exact ⟨0, rfl, fun h => absurd h (by omega), fun _ => rfl, HS.out, 0, by rw [cast_succ]; rfl⟩

set_option maxRecDepth 100000 in
set_option maxHeartbeats 1000000 in
theorem pick_none (w0 w : World) (g : Nat) (A : Option Addr) (c p : Nat) (n : Int) (h : Rdr w0 w g A 0 c p) (hp : p < 1000000000) (hz : 1 ≤ n) :
    Calls Try.prog 67 #[.pointer (some ⟨g, 0, none⟩), .int .i64 n] w (Picked w0 g A 0 c p n w) := by
  have k0 := blk_cell h.box (i := 0) (v := .slice A 0 c) rfl
  have k1 := blk_cell h.box (i := 1) (v := .int .i64 p) rfl
  have f1 := blk_frozen h.box 1
  have HS := Lib.hid h.step
  have j0 := blk_cell h.step.box (i := 0) (v := .slice A 0 c) rfl
  have j1 := blk_cell h.step.box (i := 1) (v := .int .i64 (p + 1 : Nat)) rfl
  rw [cast_succ] at j0 j1
  go_enter Try.func67, Try.ntmps67
  go_wp2
  go_ret
  exact ⟨0, rfl, fun _ => ⟨Int.le_refl _, by omega⟩, fun h => absurd h (by omega), HS.out, 0, by rw [cast_succ]; rfl⟩

set_option maxRecDepth 100000 in
set_option maxHeartbeats 1000000 in
theorem pick_in (w0 w : World) (g : Nat) (A : Option Addr) (l c p : Nat) (n : Int) (h : Rdr w0 w g A l c p) (hp : p < l) (hz : 1 ≤ n) :
    Calls Try.prog 67 #[.pointer (some ⟨g, 0, none⟩), .int .i64 n] w (Picked w0 g A l c p n w) := by
  have k0 := blk_cell h.box (i := 0) (v := .slice A l c) rfl
  have k1 := blk_cell h.box (i := 1) (v := .int .i64 p) rfl
  have f1 := blk_frozen h.box 1
  have HS := Lib.hid h.step
  have j0 := blk_cell h.step.box (i := 0) (v := .slice A l c) rfl
  have j1 := blk_cell h.step.box (i := 1) (v := .int .i64 (p + 1 : Nat)) rfl
  have hs := h.small
  obtain ⟨b, o, rfl, hc⟩ := h.step.at_.at_ (by omega)
  obtain ⟨v, v0, v1, cb⟩ := hc p hp
  rw [cast_succ] at j0 j1 cb
  have hl0 : ((l : Int) == 0) = false := by simp; omega
  clear hc
  go_enter Try.func67, Try.ntmps67
  go_wp2
  go_ret
  exact ⟨v % n, rfl, fun _ => ⟨Int.emod_nonneg _ (by omega), Int.emod_lt_of_pos _ (by omega)⟩, fun h => absurd h (by omega), HS.out, 0, by rw [cast_succ]; rfl⟩

end Go.Proofs.Ytjkmgpiiamffgaa

/- The reader behind its bytes. -/
namespace Go.Proofs.Ytjkmgpiiamffgaa
open Go.RowKit

theorem xor_pos {a b : Int} (ha : 0 ≤ a) (hb : 0 ≤ b) (ha1 : a ≤ 1000000000000) (hb1 : b ≤ 1000000000000) : ∃ x : Int, 0 ≤ x ∧ x ≤ 2305843009213693952 ∧ bits .xor .i64 a b = x := by
  obtain ⟨m, rfl⟩ := Int.eq_ofNat_of_zero_le ha
  obtain ⟨k, rfl⟩ := Int.eq_ofNat_of_zero_le hb
  have e : ∀ q : Nat, q ≤ 1000000000000 → (BitVec.ofInt 64 (q : Int)).toNat = q := fun q hq => by
    rw [BitVec.ofInt_natCast, BitVec.toNat_ofNat]
    exact Nat.mod_eq_of_lt (by omega)
  have hx : m ^^^ k < 2 ^ 60 := Nat.xor_lt_two_pow (by omega) (by omega)
  refine ⟨((m ^^^ k : Nat) : Int), by omega, by omega, ?_⟩
  show IntKind.i64.wrap ((BitVec.ofInt 64 (m : Int) ^^^ BitVec.ofInt 64 (k : Int)).toNat : Int) = _
  rw [BitVec.toNat_xor, e m (by omega), e k (by omega), IntKind.wrap_i64]
  omega

set_option maxRecDepth 100000 in
set_option maxHeartbeats 2000000 in
theorem pick_out (w0 w : World) (g : Nat) (A : Option Addr) (l c p : Nat) (n : Int) (h : Rdr w0 w g A l c p) (hp : p < 1000000000) (hl : 0 < l) (hpl : l ≤ p) (hz : 1 ≤ n) :
    Calls Try.prog 67 #[.pointer (some ⟨g, 0, none⟩), .int .i64 n] w (Picked w0 g A l c p n w) := by
  have k0 := blk_cell h.box (i := 0) (v := .slice A l c) rfl
  have k1 := blk_cell h.box (i := 1) (v := .int .i64 p) rfl
  have f1 := blk_frozen h.box 1
  have HS := Lib.hid h.step
  have j0 := blk_cell h.step.box (i := 0) (v := .slice A l c) rfl
  have j1 := blk_cell h.step.box (i := 1) (v := .int .i64 (p + 1 : Nat)) rfl
  have hs := h.small
  obtain ⟨b, o, rfl, hc⟩ := h.step.at_.at_ (by omega)
  obtain ⟨v, v0, v1, cb⟩ := hc (p % l) (Nat.mod_lt _ hl)
  obtain ⟨u, u0, u1, cu⟩ := hc ((p * 7 + 3) % l) (Nat.mod_lt _ hl)
  rw [cast_succ] at j0 j1 cb cu
  have hl0 : ((l : Int) == 0) = false := by simp; omega
  have m1 : (p : Int) % l < l := Int.emod_lt_of_pos _ (by omega)
  have m2 : 0 ≤ (p : Int) % l := Int.emod_nonneg _ (by omega)
  have m3 : ((p : Int) * 7 + 3) % l < l := Int.emod_lt_of_pos _ (by omega)
  have m4 : 0 ≤ ((p : Int) * 7 + 3) % l := Int.emod_nonneg _ (by omega)
  have m5 : 0 ≤ (p : Int) / l := Int.ediv_nonneg (by omega) (by omega)
  have m6 : (p : Int) / l ≤ p := Int.ediv_le_self _ (by omega)
  clear hc
  go_enter Try.func67, Try.ntmps67
  go_wp2
  generalize hW : (w.setCell ⟨g, 1, none⟩ (.int .i64 ((p : Int) + 1))) = W1 at *
  have HW := Lib.hid hW
  clear hW
  have hn1 : decide (n < 1) = false := by simp; omega
  go_quiet (fail)
  generalize hX : v * 131 + u * 1117 + (p : Int) * 29 + (p : Int) / l * 53 = X
  have X0 : 0 ≤ X := by omega
  have X1 : X ≤ 1000000000000 := by omega
  clear hX m1 m2 m3 m4 m5 m6 cb cu v0 v1 u0 u1
  obtain ⟨x, x0, x1, xe⟩ := xor_pos X0 (show 0 ≤ X / 64 by omega) X1 (show X / 64 ≤ 1000000000000 by omega)
  have y0 : 0 ≤ x % n := Int.emod_nonneg _ (by omega)
  have y1 : x % n < n := Int.emod_lt_of_pos _ (by omega)
  go_wp2
  go_ret
  exact ⟨x % n, rfl, fun _ => ⟨y0, y1⟩, fun h => absurd h (by omega), HS.out.quiet ⟨nq, by rw [cast_succ, HW.out]⟩, nq, by rw [cast_succ, HW.out]⟩

/-- Whatever the bytes and the number. -/
theorem pick_any (w0 w : World) (g : Nat) (A : Option Addr) (l c p : Nat) (n : Int) (h : Rdr w0 w g A l c p) (hp : p < 1000000000) :
    Calls Try.prog 67 #[.pointer (some ⟨g, 0, none⟩), .int .i64 n] w (Picked w0 g A l c p n w) := by
  by_cases hz : n < 1
  · exact pick_zero w0 w g A l c p n h hp hz
  · rcases Nat.eq_zero_or_pos l with rfl | hl
    · exact pick_none w0 w g A c p n h hp (by omega)
    · by_cases hpl : p < l
      · exact pick_in w0 w g A l c p n h hpl (by omega)
      · exact pick_out w0 w g A l c p n h hp hl (by omega) (by omega)

end Go.Proofs.Ytjkmgpiiamffgaa

/- Slices that a call makes by append: of ints, and of slices of ints. -/
namespace Go.Proofs.Ytjkmgpiiamffgaa
open Go.RowKit

def iv (x : Int) : Value := .int .i64 x
/-- A slice of ints, made by append, in a block from lo up to less than hi. -/
structure BldI (lo hi : Nat) (w : World) (v : Value) (xs : List Int) : Prop where
  own : w.ownsRow lo 3 1 v xs.length (xs.map iv)
  hi_ : ∀ k, v.ownBlock = some k → k < hi
theorem blk_kept {w w' : World} {base : Nat} {e : TypeId} {size n : Nat} {v : Value} {xs : List Value} (h : w.ownsRow base e size v n xs) (k : ∀ g, v.ownBlock = some g → w'.heap[g]? = w.heap[g]?) : w'.ownsRow base e size v n xs := by
  obtain ⟨h1, h2⟩ := h
  refine ⟨h1, ?_⟩
  rcases h2 with h2 | ⟨g, cap, cur, rfl, hb, hg, r⟩
  · exact .inl h2
  · exact .inr ⟨g, cap, cur, rfl, hb, (k g rfl).trans hg, r⟩
theorem BldI.nil (lo hi : Nat) (w : World) : BldI lo hi w (.slice none 0 0) [] := ⟨World.ownsRow_nil _ _ _ _, fun k h => by simp [Value.ownBlock] at h⟩
theorem BldI.below {lo hi w w' v xs} (h : BldI lo hi w v xs) (k : Below w.heap.size w w') : BldI lo hi w' v xs :=
  ⟨blk_kept h.own fun g hg => k.block g (h.own.lt g hg).2, h.hi_⟩
theorem BldI.mono {lo hi hi' w v xs} (h : BldI lo hi w v xs) (hh : hi ≤ hi') : BldI lo hi' w v xs := ⟨h.own, fun k hk => Nat.lt_of_lt_of_le (h.hi_ k hk) hh⟩
theorem BldI.touch {lo hi lo' hi' w w' v xs} (h : BldI lo hi w v xs) (k : Touch lo' hi' w w') (hd : hi ≤ lo' ∨ hi' ≤ lo) : BldI lo hi w' v xs :=
  ⟨blk_kept h.own fun g hg => k.block g (by have := h.hi_ g hg; have := (h.own.lt g hg).1; omega), h.hi_⟩
theorem getElem_iv {xs : List Int} {k : Nat} (h : k < xs.length) : (xs.map iv)[k]? = some (.int .i64 (gi xs k)) := by
  rw [List.getElem?_map, List.getElem?_eq_getElem h, gi_get h]; rfl
theorem BldI.owns {lo hi w v xs} (h : BldI lo hi w v xs) (hm : xs.length ≤ 17592186044416) (hwf : ∀ x ∈ xs, -9223372036854775808 ≤ x ∧ x ≤ 9223372036854775807) :
    ∃ A n c g, v = .slice A n c ∧ n = xs.length ∧ OwnI lo hi w g A n c xs ∧ ∀ k, v.ownBlock = some k → k = g := by
  have hh := h.hi_
  rcases h.own.2 with ⟨rfl, h0⟩ | ⟨g, cap, cur, rfl, hb, hg, hnc, _, hcs, htake⟩
  · have hx : xs = [] := List.eq_nil_of_length_eq_zero h0
    subst hx
    exact ⟨none, 0, 0, 0, rfl, rfl, OwnI.nil _ _ _ _, fun k hk => by simp [Value.ownBlock] at hk⟩
  · refine ⟨some ⟨g, 0, none⟩, xs.length, cap, g, rfl, rfl, ⟨⟨rfl, hnc, hm, hwf, fun _ => ⟨g, 0, rfl, fun k hk => ?_⟩⟩, fun _ => ⟨0, rfl, hb, hh g rfl, fun k _ => ?_⟩⟩, fun k hk => by simpa [Value.ownBlock] using hk.symm⟩
    · rw [Nat.zero_add, ← getElem_iv hk, ← htake, List.getElem?_take, if_pos (by omega)]
      simp [World.cell?, hg]
    · rw [Nat.zero_add]; simp [World.frozen?, hg]

theorem BldI.make {lo : Nat} {w : World} (hlo : lo ≤ w.heap.size) : BldI lo (w.heap.size + 1) (w.alloc (.cells #[] 3)) (.slice (some ⟨w.heap.size, 0, none⟩) 0 0) [] :=
  ⟨World.ownsRow_made (e := 3) (size := 1) w #[] 0 hlo (Nat.zero_le _) rfl, fun k hk => by simp [Value.ownBlock] at hk; omega⟩

/-- Slices of ints under construction: the outer slice made by append, its cells vs, each row in a block of its own. -/
structure Bld (lo hi : Nat) (w : World) (v : Value) (vs : List Value) (xss : List (List Int)) : Prop where
  own : w.ownsRow lo 30 1 v xss.length vs
  hi_ : ∀ k, v.ownBlock = some k → k < hi
  ex : ∃ (G : Nat → Nat) (R : Nat → Option Addr) (C : Nat → Nat), (∀ k, k < xss.length → vs[k]? = some (.slice (R k) (gr xss k).length (C k)) ∧ OwnI lo hi w (G k) (R k) (gr xss k).length (C k) (gr xss k) ∧ (0 < (gr xss k).length → v.ownBlock ≠ some (G k))) ∧
    ∀ j k, j < k → k < xss.length → 0 < (gr xss j).length → 0 < (gr xss k).length → G j ≠ G k
theorem Bld.nil (lo hi : Nat) (w : World) : Bld lo hi w (.slice none 0 0) [] [] :=
  ⟨World.ownsRow_nil _ _ _ _, fun k h => by simp [Value.ownBlock] at h, fun _ => 0, fun _ => none, fun _ => 0, fun k h => absurd h (by simp), fun _ k _ h => absurd h (by simp)⟩
theorem Bld.make {lo : Nat} {w : World} (hlo : lo ≤ w.heap.size) : Bld lo (w.heap.size + 1) (w.alloc (.cells #[] 30)) (.slice (some ⟨w.heap.size, 0, none⟩) 0 0) [] [] :=
  ⟨World.ownsRow_made (e := 30) (size := 1) w #[] 0 hlo (Nat.zero_le _) rfl, fun k hk => by simp [Value.ownBlock] at hk; omega, fun _ => 0, fun _ => none, fun _ => 0, fun k h => absurd h (by simp), fun _ k _ h => absurd h (by simp)⟩
theorem Bld.mono {lo hi hi' w v vs xss} (h : Bld lo hi w v vs xss) (hh : hi ≤ hi') : Bld lo hi' w v vs xss := by
  obtain ⟨h1, h4, G, R, C, h2, h3⟩ := h
  exact ⟨h1, fun k hk => Nat.lt_of_lt_of_le (h4 k hk) hh, G, R, C, fun k hk => ⟨(h2 k hk).1, (h2 k hk).2.1.mono (Nat.le_refl _) hh, (h2 k hk).2.2⟩, h3⟩
theorem Bld.of_blocks {lo hi w w' v vs xss} (h : Bld lo hi w v vs xss) (e : ∀ g, lo ≤ g → g < hi → g < w.heap.size → w'.heap[g]? = w.heap[g]?) : Bld lo hi w' v vs xss := by
  obtain ⟨h1, h4, G, R, C, h2, h3⟩ := h
  refine ⟨blk_kept h1 fun g hg => e g (h1.lt g hg).1 (h4 g hg) (h1.lt g hg).2, h4, G, R, C, fun k hk => ⟨(h2 k hk).1, (h2 k hk).2.1.of_block fun hp => ?_, (h2 k hk).2.2⟩, h3⟩
  obtain ⟨_, _, a, b, _⟩ := (h2 k hk).2.1.own hp
  exact e _ a b ((h2 k hk).2.1.lt hp)
theorem Bld.below {lo hi w w' v vs xss} (h : Bld lo hi w v vs xss) (k : Below w.heap.size w w') : Bld lo hi w' v vs xss := h.of_blocks fun g _ _ hg => k.block g hg

theorem gr_snoc_lt {xss : List (List Int)} {r : List Int} {k : Nat} (h : k < xss.length) : gr (xss ++ [r]) k = gr xss k := by
  rw [gr_get h, gr_get (by simp; omega), List.getElem_append_left h]
theorem gr_snoc_eq {xss : List (List Int)} {r : List Int} : gr (xss ++ [r]) xss.length = r := by
  rw [gr_get (by simp), List.getElem_append_right (Nat.le_refl _)]; simp

/-- One row more. -/
theorem Bld.push {lo hi : Nat} {w w1 w' : World} {v v' : Value} {vs : List Value} {xss : List (List Int)} {r : List Int} {g : Nat} {A : Option Addr} {c : Nat}
    (h : Bld lo hi w v vs xss) (hk : Below w.heap.size w w1) (hr : OwnI hi w1.heap.size w1 g A r.length c r)
    (hown : w'.ownsRow lo 30 1 v' (xss.length + 1) (vs ++ [.slice A r.length c]))
    (hgrow : w1.grownBy w' v.ownBlock) (hat : v'.ownBlock = v.ownBlock ∨ v'.ownBlock = some w1.heap.size) (hlo : lo ≤ hi) (hhi : hi ≤ w.heap.size) :
    Bld lo w'.heap.size w' v' (vs ++ [.slice A r.length c]) (xss ++ [r]) := by
  obtain ⟨h1, h4, G, R, C, h2, h3⟩ := h
  have hvl : vs.length = xss.length := by have := h1.1; omega
  have hsz := hk.size
  have hsz' := hgrow.size
  have keepI : ∀ {lo hi : Nat} {b : Nat} {B : Option Addr} {n c : Nat} {xs : List Int}, OwnI lo hi w1 b B n c xs → (0 < n → v.ownBlock ≠ some b) → OwnI lo hi w' b B n c xs :=
    fun ho hne => ho.of_block fun hp => hgrow.block _ (ho.lt hp) (fun e => hne hp e.symm)
  have hfar : 0 < r.length → v.ownBlock ≠ some g := fun hp e => by
    have a := h4 g e
    obtain ⟨_, _, b, _⟩ := hr.own hp
    omega
  refine ⟨by rw [List.length_append, List.length_singleton]; exact hown, fun k hk' => ?_, fun k => if k < xss.length then G k else g, fun k => if k < xss.length then R k else A, fun k => if k < xss.length then C k else c, ?_, ?_⟩
  · rcases hat with hat | hat
    · have := h4 k (by rw [← hat]; exact hk'); omega
    · have := (hown.lt k hk').2; omega
  · intro k hk'
    rw [List.length_append, List.length_singleton] at hk'
    by_cases e : k < xss.length
    · simp only [if_pos e, gr_snoc_lt e]
      obtain ⟨q0, a, b⟩ := h2 k e
      refine ⟨by rw [List.getElem?_append_left (by omega)]; exact q0, keepI ((a.below hk).mono (Nat.le_refl _) (by omega)) b, fun hp => ?_⟩
      rcases hat with hat | hat
      · rw [hat]; exact b hp
      · rw [hat]; intro e'; injection e' with e'; obtain ⟨_, _, _, q, _⟩ := a.own hp; omega
    · obtain rfl : k = xss.length := by omega
      simp only [if_neg e, gr_snoc_eq]
      refine ⟨by rw [← hvl, List.getElem?_append_right (Nat.le_refl _)]; simp, keepI (hr.mono hlo hsz') hfar, fun hp => ?_⟩
      rcases hat with hat | hat
      · rw [hat]; exact hfar hp
      · rw [hat]; intro e'; injection e' with e'; obtain ⟨_, _, _, q, _⟩ := hr.own hp; omega
  · intro j k hjk hk' hj0 hk0
    rw [List.length_append, List.length_singleton] at hk'
    have ej : j < xss.length := by omega
    simp only [if_pos ej]
    rw [gr_snoc_lt ej] at hj0
    by_cases e : k < xss.length
    · simp only [if_pos e]
      rw [gr_snoc_lt e] at hk0
      exact h3 j k hjk e hj0 hk0
    · obtain rfl : k = xss.length := by omega
      simp only [if_neg e]
      rw [gr_snoc_eq] at hk0
      obtain ⟨_, _, _, q, _⟩ := (h2 j ej).2.1.own hj0
      obtain ⟨_, _, q', _⟩ := hr.own hk0
      omega

theorem Bld.owns {lo hi w v vs xss} (h : Bld lo hi w v vs xss) (hm : xss.length ≤ 5864062014805) : ∃ A n c g, v = .slice A n c ∧ n = xss.length ∧ OwnR lo hi w g A n c xss := by
  obtain ⟨h1, hh, G, R, C, h2, h3⟩ := h
  rcases h1.2 with ⟨rfl, h0⟩ | ⟨g, cap, cur, rfl, hb, hg, hnc, _, hcs, htake⟩
  · have hx : xss = [] := List.eq_nil_of_length_eq_zero h0
    subst hx
    exact ⟨none, 0, 0, 0, rfl, rfl, OwnR.nil _ _ _ _⟩
  · refine ⟨some ⟨g, 0, none⟩, xss.length, cap, g, rfl, rfl, ⟨rfl, hnc, hm, fun _ => ⟨0, G, R, C, rfl, hb, hh g rfl, fun k hk => ⟨?_, ?_, (h2 k hk).2.1, fun hp e => (h2 k hk).2.2 hp (by rw [e]; rfl)⟩, h3⟩⟩⟩
    · rw [Nat.zero_add]; simp [World.frozen?, hg]
    · rw [Nat.zero_add, ← (h2 k hk).1, ← htake, List.getElem?_take, if_pos (by omega)]
      simp [World.cell?, hg]

theorem pair_own {lo : Nat} {w : World} (x y : Int) (hx : -9223372036854775808 ≤ x ∧ x ≤ 9223372036854775807) (hy : -9223372036854775808 ≤ y ∧ y ≤ 9223372036854775807) (hlo : lo ≤ w.heap.size) :
    OwnI lo (w.heap.size + 1) (w.alloc (.cells #[.int .i64 x, .int .i64 y] 3)) w.heap.size (some ⟨w.heap.size, 0, none⟩) 2 2 [x, y] := by
  have hb := blk_new w 3 #[.int .i64 x, .int .i64 y]
  refine ⟨⟨rfl, Nat.le_refl _, by omega, ?_, fun _ => ⟨_, 0, rfl, fun k hk => ?_⟩⟩, fun _ => ⟨0, rfl, hlo, Nat.lt_succ_self _, fun k _ => blk_frozen hb _⟩⟩
  · intro z hz
    simp only [List.mem_cons, List.not_mem_nil, or_false] at hz
    rcases hz with rfl | rfl
    · exact hx
    · exact hy
  · rw [Nat.zero_add]
    match k, hk with
    | 0, _ => exact blk_cell hb rfl
    | 1, _ => exact blk_cell hb rfl

/-- One pair more. -/
theorem push_pair {lo : Nat} {w w' : World} {v v' : Value} {vs : List Value} {xss : List (List Int)} {x y : Int}
    (h : Bld lo w.heap.size w v vs xss) (hx : -9223372036854775808 ≤ x ∧ x ≤ 9223372036854775807) (hy : -9223372036854775808 ≤ y ∧ y ≤ 9223372036854775807)
    (hown : w'.ownsRow lo 30 1 v' (xss.length + 1) (vs ++ [.slice (some ⟨w.heap.size, 0, none⟩) 2 2]))
    (hgrow : ((w.alloc (.cells #[.int .i64 x, .int .i64 y] 3)).alloc (.cells #[.slice (some ⟨w.heap.size, 0, none⟩) 2 2] 30)).grownBy w' v.ownBlock)
    (hat : v'.ownBlock = v.ownBlock ∨ v'.ownBlock = some (w.heap.size + 1 + 1)) (hlo : lo ≤ w.heap.size) :
    Bld lo w'.heap.size w' v' (vs ++ [.slice (some ⟨w.heap.size, 0, none⟩) 2 2]) (xss ++ [[x, y]]) ∧ Below lo w w' := by
  have hb3 := below_alloc w (.cells #[.int .i64 x, .int .i64 y] 3)
  have hb4 := below_alloc (w.alloc (.cells #[.int .i64 x, .int .i64 y] 3)) (.cells #[.slice (some ⟨w.heap.size, 0, none⟩) 2 2] 30)
  have hb := below_up hb3 hb4
  have ho := (pair_own (lo := w.heap.size) (w := w) x y hx hy (Nat.le_refl _)).below hb4
  refine ⟨h.push (r := [x, y]) hb (ho.mono (Nat.le_refl _) (by simp)) hown hgrow (by simpa using hat) hlo (Nat.le_refl _), ?_⟩
  exact (hb.mono hlo).grown hgrow (by simp; omega) fun k hk => (h.own.lt k hk).1
theorem Bld.form {lo hi w v vs xss} (h : Bld lo hi w v vs xss) : ∃ A c, v = .slice A xss.length c := by
  rcases h.own.2 with ⟨rfl, h0⟩ | ⟨g, cap, cur, rfl, _⟩
  · exact ⟨none, 0, by rw [h0]⟩
  · exact ⟨_, _, rfl⟩
theorem BldI.form {lo hi w v xs} (h : BldI lo hi w v xs) : ∃ A c, v = .slice A xs.length c := by
  rcases h.own.2 with ⟨rfl, h0⟩ | ⟨g, cap, cur, rfl, _⟩
  · exact ⟨none, 0, by rw [h0]⟩
  · exact ⟨_, _, rfl⟩
theorem BldI.of_blocks {lo hi w w' v xs} (h : BldI lo hi w v xs) (e : ∀ g, lo ≤ g → g < hi → g < w.heap.size → w'.heap[g]? = w.heap[g]?) : BldI lo hi w' v xs :=
  ⟨blk_kept h.own fun g hg => e g (h.own.lt g hg).1 (h.hi_ g hg) (h.own.lt g hg).2, h.hi_⟩

end Go.Proofs.Ytjkmgpiiamffgaa

/- The harness of the exact laws: games. -/
namespace Go.Proofs.Ytjkmgpiiamffgaa
open Go.RowKit

theorem szR_le (left : Int) (xs : List (List Int)) (h0 : 0 ≤ left) (h1 : left ≤ 1048576) : -1 ≤ szR left xs ∧ szR left xs ≤ 1048576 := by
  induction xs generalizing left with
  | nil => simp only [szR]; omega
  | cons x xs ih =>
    have := szI_le left x.length h0 h1
    rw [szR]
    split
    · omega
    · exact ih _ (by omega) (by omega)
theorem szRR_le (left : Int) (xs : List (List Int)) (h0 : 0 ≤ left) (h1 : left ≤ 1048576) : -1 ≤ szRR left xs ∧ szRR left xs ≤ 1048576 := by
  have := szI_le left xs.length h0 h1
  rw [szRR]
  split
  · omega
  · exact szR_le _ _ (by omega) (by omega)

def szG (left : Int) (xs ys : List (List Int)) : Int := if szRR left xs < 0 then -1 else if szRR (szRR left xs) ys < 0 then -1 else szRR (szRR left xs) ys
theorem szG_no1 {left : Int} {xs ys : List (List Int)} (h : szRR left xs < 0) : szG left xs ys = -1 := by rw [szG, if_pos h]
theorem szG_eq {left : Int} {xs ys : List (List Int)} (h : ¬ szRR left xs < 0) (h1 : -1 ≤ szRR (szRR left xs) ys) : szG left xs ys = szRR (szRR left xs) ys := by
  rw [szG, if_neg h]; split <;> omega
theorem szG_no2 {left : Int} {xs ys : List (List Int)} (h : ¬ szRR left xs < 0) (h1 : szRR (szRR left xs) ys < 0) : szG left xs ys = -1 := by
  rw [szG, if_neg h, if_pos h1]

set_option maxHeartbeats 400000 in
theorem szGame_any (A B : Option Addr) (n c m d : Nat) (xs ys : List (List Int)) (left : Int) (w : World) (hx : IntRows w A n c xs) (hy : IntRows w B m d ys) (h0 : 0 ≤ left) (h1 : left ≤ 1048576) :
    Calls Try.prog 47 #[.agg #[.slice A n c, .slice B m d], .int .i64 left] w fun e w' => e = .returned (.int .i64 (szG left xs ys)) ∧ Below w.heap.size w w' := by
  have HX := Lib.hid hx
  have HY := Lib.hid hy
  clear hx hy
  have hb := szRR_le left xs h0 h1
  by_cases hs : szRR left xs < 0
  · have HS := Lib.hid (szG_no1 (ys := ys) hs)
    go_enter Try.func47, Try.ntmps47
    go_wp2_with fail
    refine (szIntSS_any _ _ _ _ _ _ (HX.out.keep (Keep.below (below_alloc _ _))) h0 h1).mono ?_
    rintro e w1 ⟨rfl, q, rfl⟩
    go_wp2
    go_ret
    exact ⟨ret_int HS.out.symm, below_drewN (below_alloc _ _) _⟩
  · have hb2 := szRR_le (szRR left xs) ys (by omega) hb.2
    by_cases hs2 : szRR (szRR left xs) ys < 0
    · have HS := Lib.hid (szG_no2 hs hs2)
      go_enter Try.func47, Try.ntmps47
      go_wp2_with fail
      refine (szIntSS_any _ _ _ _ _ _ (HX.out.keep (Keep.below (below_alloc _ _))) h0 h1).mono ?_
      rintro e w1 ⟨rfl, q, rfl⟩
      go_wp2_with fail
      refine (szIntSS_any _ _ _ _ _ _ (HY.out.keep (Keep.below (below_drewN (below_alloc _ _) _))) (by omega) hb.2).mono ?_
      rintro e w1 ⟨rfl, q2, rfl⟩
      go_wp2
      go_ret
      exact ⟨ret_int HS.out.symm, by first | exact below_drewN (below_alloc _ _) _ | exact below_drewN (below_drewN (below_alloc _ _) _) _⟩
    · have HS := Lib.hid (szG_eq hs (ys := ys) (by omega))
      go_enter Try.func47, Try.ntmps47
      go_wp2_with fail
      refine (szIntSS_any _ _ _ _ _ _ (HX.out.keep (Keep.below (below_alloc _ _))) h0 h1).mono ?_
      rintro e w1 ⟨rfl, q, rfl⟩
      go_wp2_with fail
      refine (szIntSS_any _ _ _ _ _ _ (HY.out.keep (Keep.below (below_drewN (below_alloc _ _) _))) (by omega) hb.2).mono ?_
      rintro e w1 ⟨rfl, q2, rfl⟩
      go_wp2
      go_ret
      exact ⟨ret_int HS.out.symm, by first | exact below_drewN (below_alloc _ _) _ | exact below_drewN (below_drewN (below_alloc _ _) _) _⟩

def MadeG (w : World) (n m : Nat) (xs ys : List (List Int)) (e : Ending) (w' : World) : Prop :=
  ∃ g1 g2 mid, e = .returned (.agg #[.slice (some ⟨g1, 0, none⟩) n n, .slice (some ⟨g2, 0, none⟩) m m]) ∧ OwnR w.heap.size mid w' g1 (some ⟨g1, 0, none⟩) n n xs ∧ OwnR mid w'.heap.size w' g2 (some ⟨g2, 0, none⟩) m m ys ∧
    Below w.heap.size w w' ∧ w.heap.size ≤ mid ∧ mid ≤ w'.heap.size

set_option maxHeartbeats 400000 in
theorem toGame_any (A B : Option Addr) (n c m d : Nat) (xs ys : List (List Int)) (w : World) (hx : IntRows w A n c xs) (hy : IntRows w B m d ys) :
    Calls Try.prog 48 #[.agg #[.slice A n c, .slice B m d]] w (MadeG w n m xs ys) := by
  have HX := Lib.hid hx
  have HY := Lib.hid hy
  clear hx hy
  go_enter Try.func48, Try.ntmps48
  go_wp2_with fail
  have b0 := blk_old (blk_old (blk_new w 59 #[.slice A n c, .slice B m d]) (.cells #[.slice none 0 0, .slice none 0 0] 54)) (.cells #[.slice none 0 0, .slice none 0 0] 54)
  have b1 := blk_old (blk_new (w.alloc (.cells #[.slice A n c, .slice B m d] 59)) 54 #[.slice none 0 0, .slice none 0 0]) (.cells #[.slice none 0 0, .slice none 0 0] 54)
  have b2 := blk_new ((w.alloc (.cells #[.slice A n c, .slice B m d] 59)).alloc (.cells #[.slice none 0 0, .slice none 0 0] 54)) 54 #[.slice none 0 0, .slice none 0 0]
  have hb0 := below_up (below_up (below_alloc w (.cells #[.slice A n c, .slice B m d] 59)) (below_alloc _ (.cells #[.slice none 0 0, .slice none 0 0] 54))) (below_alloc _ (.cells #[.slice none 0 0, .slice none 0 0] 54))
  simp only [World.size_alloc] at b0 b1 b2
  generalize (((w.alloc (.cells #[.slice A n c, .slice B m d] 59)).alloc (.cells #[.slice none 0 0, .slice none 0 0] 54)).alloc (.cells #[.slice none 0 0, .slice none 0 0] 54)) = W1 at *
  refine (toIntSS_any _ _ _ _ _ (HX.out.keep (Keep.below hb0))).mono ?_
  rintro e w1 ⟨rfl, hown, hb, -⟩
  have HO := Lib.hid hown
  have HB1 := Lib.hid (below_up hb0 hb)
  have hz0 := blk_lt b2
  have b0 := blk_below b0 hb
  have b1 := blk_below b1 hb
  have b2 := blk_below b2 hb
  have hz : w.heap.size + 1 + 1 < W1.heap.size := hz0
  clear hown hb hb0
  generalize W1.heap.size = g1 at *
  have c1 := blk_cell b0 (i := 1) rfl
  have c2 := blk_cell b2 (i := 0) rfl
  have f2 := blk_frozen b2 0
  go_wp2_with fail
  clear c1 c2 f2
  have B2 := (blk_set b2 0 (.slice (some ⟨g1, 0, none⟩) n n))
  have b1 := (blk_other b1 (p := ⟨w.heap.size + 1 + 1, 0, none⟩) (by simp) (.slice (some ⟨g1, 0, none⟩) n n))
  have HB2 := HB1.out.setCell (p := ⟨w.heap.size + 1 + 1, 0, none⟩) (by simp; omega) (.slice (some ⟨g1, 0, none⟩) n n)
  have HO2 := Lib.hid (HO.out.of_blocks (w' := w1.setCell ⟨w.heap.size + 1 + 1, 0, none⟩ (.slice (some ⟨g1, 0, none⟩) n n)) fun g h1 _ _ => Below.heap_setCell _ _ _ _ (by show g ≠ w.heap.size + 1 + 1; omega))
  have hz3 : w.heap.size < w1.heap.size := by have := blk_lt b2; omega
  have hw1 : w1.heap.size = (w1.setCell ⟨w.heap.size + 1 + 1, 0, none⟩ (.slice (some ⟨g1, 0, none⟩) n n)).heap.size := by simp
  have HO := Lib.hid (HO2.out.mono (Nat.le_refl _) (Nat.le_of_eq hw1))
  clear HO2 HB1 b0 b2 hw1
  generalize w1.setCell ⟨w.heap.size + 1 + 1, 0, none⟩ (.slice (some ⟨g1, 0, none⟩) n n) = W2 at *
  refine (toIntSS_any _ _ _ _ _ (HY.out.keep (Keep.below HB2))).mono ?_
  rintro e w2 ⟨rfl, hown2, hb, -⟩
  have HP := Lib.hid hown2
  have HO2 := Lib.hid (HO.out.below hb)
  have hz5 := hb.size
  have HB3 := Lib.hid (below_up HB2 hb)
  have b1 := blk_below b1 hb
  have b2 := blk_below B2 hb
  have hz4 : w.heap.size + 1 + 1 < W2.heap.size := blk_lt B2
  clear hb hown2 HB2 B2 HO
  generalize W2.heap.size = g2 at *
  have c2 := blk_cell b2 (i := 0) rfl
  have c3 := blk_cell b2 (i := 1) rfl
  have f2 := blk_frozen b2 1
  have c4 := blk_cell b1 (i := 0) rfl
  have c5 := blk_cell b1 (i := 1) rfl
  have f4 := blk_frozen b1 0
  have f5 := blk_frozen b1 1

  go_wp2
  clear c2 c3 f2 c4 c5 f4 f5
  have hT := (((Touch.refl w.heap.size (w.heap.size + 1 + 1 + 1) w2).set (p := ⟨w.heap.size + 1 + 1, 1, none⟩) (by show w.heap.size ≤ w.heap.size + 1 + 1; omega) (by show w.heap.size + 1 + 1 < _; omega) (.slice (some ⟨g2, 0, none⟩) m m)).set
    (p := ⟨w.heap.size + 1, 0, none⟩) (by show w.heap.size ≤ w.heap.size + 1; omega) (by show w.heap.size + 1 < _; omega) (.slice (some ⟨g1, 0, none⟩) n n)).set
    (p := ⟨w.heap.size + 1, 1, none⟩) (by show w.heap.size ≤ w.heap.size + 1; omega) (by show w.heap.size + 1 < _; omega) (.slice (some ⟨g2, 0, none⟩) m m)
  have b1c := blk_set (blk_set (blk_other b1 (p := ⟨w.heap.size + 1 + 1, 1, none⟩) (by simp) (.slice (some ⟨g2, 0, none⟩) m m)) 0 (.slice (some ⟨g1, 0, none⟩) n n)) 1 (.slice (some ⟨g2, 0, none⟩) m m)
  generalize ((w2.setCell ⟨w.heap.size + 1 + 1, 1, none⟩ (.slice (some ⟨g2, 0, none⟩) m m)).setCell ⟨w.heap.size + 1, 0, none⟩ (.slice (some ⟨g1, 0, none⟩) n n)).setCell ⟨w.heap.size + 1, 1, none⟩ (.slice (some ⟨g2, 0, none⟩) m m) = W3 at *
  have k0 : W3.cell? ⟨w.heap.size + 1, 0, none⟩ = some (.slice (some ⟨g1, 0, none⟩) n n) := blk_cell b1c rfl
  have k1 : W3.cell? ⟨w.heap.size + 1, 1, none⟩ = some (.slice (some ⟨g2, 0, none⟩) m m) := blk_cell b1c rfl
  refine bodyPost_ret (v := .agg #[.slice (some ⟨g1, 0, none⟩) n n, .slice (some ⟨g2, 0, none⟩) m m]) (by simp [results, Try.results48, go_sem, k0, k1]) rfl ?_
  have hsz := hT.size
  exact ⟨g1, g2, g2, rfl, (HO2.out.touch hT (.inr (by omega))).mono (by omega) (Nat.le_refl _), (HP.out.touch hT (.inr (by omega))).mono (Nat.le_refl _) (Nat.le_of_eq hT.size.symm), Touch.below HB3.out hT (Nat.le_refl _), by omega, by omega⟩

def eqG (xs ys zs us : List (List Int)) : Bool := eqRR xs zs && eqRR ys us

set_option maxHeartbeats 400000 in
theorem eqGame_any (A B C D : Option Addr) (n c m d n' c' m' d' : Nat) (xs ys zs us : List (List Int)) (w : World) (hx : IntRows w A n c xs) (hy : IntRows w B m d ys) (hz : IntRows w C n' c' zs) (hu : IntRows w D m' d' us) :
    Calls Try.prog 49 #[.agg #[.slice A n c, .slice B m d], .agg #[.slice C n' c', .slice D m' d']] w fun e w' => e = .returned (.bool (eqG xs ys zs us)) ∧ Below w.heap.size w w' := by
  have HX := Lib.hid hx
  have HY := Lib.hid hy
  have HZ := Lib.hid hz
  have HU := Lib.hid hu
  clear hx hy hz hu
  cases h1 : eqRR xs zs with
  | false =>
    have HE := Lib.hid (show eqG xs ys zs us = false by simp [eqG, h1])
    go_enter Try.func49, Try.ntmps49
    go_wp2_with fail
    have hb0 := below_up (below_alloc w (.cells #[.slice A n c, .slice B m d] 54)) (below_alloc _ (.cells #[.slice C n' c', .slice D m' d'] 54))
    refine ((h1 ▸ eqIntSS_any _ _ _ _ _ _ _ _ _ (HX.out.keep (Keep.below hb0)) (HZ.out.keep (Keep.below hb0)))).mono ?_
    rintro e w1 ⟨rfl, hq⟩
    have HB := Lib.hid (below_quiet hb0 hq)
    clear hq hb0 h1
    go_wp2
    go_ret
    exact ⟨ret_bool HE.out.symm, HB.out⟩
  | true =>
    have HE := Lib.hid (show eqG xs ys zs us = eqRR ys us by simp [eqG, h1])
    go_enter Try.func49, Try.ntmps49
    go_wp2_with fail
    have hb0 := below_up (below_alloc w (.cells #[.slice A n c, .slice B m d] 54)) (below_alloc _ (.cells #[.slice C n' c', .slice D m' d'] 54))
    have b0 := blk_old (blk_new w 54 #[.slice A n c, .slice B m d]) (.cells #[.slice C n' c', .slice D m' d'] 54)
    have b1 := blk_new (w.alloc (.cells #[.slice A n c, .slice B m d] 54)) 54 #[.slice C n' c', .slice D m' d']
    simp only [World.size_alloc] at b1
    generalize (w.alloc (.cells #[.slice A n c, .slice B m d] 54)).alloc (.cells #[.slice C n' c', .slice D m' d'] 54) = W1 at *
    refine ((h1 ▸ eqIntSS_any _ _ _ _ _ _ _ _ _ (HX.out.keep (Keep.below hb0)) (HZ.out.keep (Keep.below hb0)))).mono ?_
    rintro e w1 ⟨rfl, hq⟩
    have hb1 := below_quiet hb0 hq
    have c0 := blk_cell (blk_quiet b0 hq) (i := 1) rfl
    have c1 := blk_cell (blk_quiet b1 hq) (i := 1) rfl
    have HB := Lib.hid hb1
    clear hq hb0 h1 b0 b1 hb1
    go_wp2_with fail
    cases h2 : eqRR ys us with
    | false =>
      refine ((h2 ▸ eqIntSS_any _ _ _ _ _ _ _ _ _ (HY.out.keep (Keep.below HB.out)) (HU.out.keep (Keep.below HB.out)))).mono ?_
      rintro e w2 ⟨rfl, hq⟩
      rw [h2] at HE
      have HB2 := Lib.hid (below_quiet HB.out hq)
      clear hq h2
      go_wp2
      go_ret
      exact ⟨ret_bool HE.out.symm, HB2.out⟩
    | true =>
      refine ((h2 ▸ eqIntSS_any _ _ _ _ _ _ _ _ _ (HY.out.keep (Keep.below HB.out)) (HU.out.keep (Keep.below HB.out)))).mono ?_
      rintro e w2 ⟨rfl, hq⟩
      rw [h2] at HE
      have HB2 := Lib.hid (below_quiet HB.out hq)
      clear hq h2
      go_wp2
      go_ret
      exact ⟨ret_bool HE.out.symm, HB2.out⟩
theorem eqG_refl (xs ys : List (List Int)) : eqG xs ys xs ys = true := by simp [eqG, eqRR]
end Go.Proofs.Ytjkmgpiiamffgaa

