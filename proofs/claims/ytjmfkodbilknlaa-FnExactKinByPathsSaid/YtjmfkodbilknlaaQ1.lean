/- Texts merged: Mem A1 A2 A3. -/
import Derived.Test.YtjmfkodbilknlaaRows
import Derived.WalkKit
import Derived.WalkSpells
import Derived.WalkLawsBesides
import Derived.Deep.QuietTactic
import Derived.BigQuiet
import Derived.Lib.Hide
import Derived.Deep.Matrix
import Derived.Deep.AppendLies
import Derived.Deep.Draws
import Derived.Maps.AppendAt
import Derived.Deep.OwnRows
/- Words for memory: slices of ints and slices of these, as lists. -/
namespace Go.Proofs.Ytjmfkodbilknlaa
open Go.RowKit

/-- The element of a list at a place, 0 behind its end; the row at a place. -/
def gi (xs : List Int) (k : Nat) : Int := xs.getD k 0
def gr (xss : List (List Int)) (k : Nat) : List Int := xss.getD k []
theorem gi_get {xs : List Int} {k : Nat} (h : k < xs.length) : gi xs k = xs[k] := by simp [gi, List.getD, List.getElem?_eq_getElem h]
theorem gr_get {xs : List (List Int)} {k : Nat} (h : k < xs.length) : gr xs k = xs[k] := by simp [gr, List.getD, List.getElem?_eq_getElem h]
theorem gi_mem {xs : List Int} {k : Nat} (h : k < xs.length) : gi xs k ∈ xs := by rw [gi_get h]; exact List.getElem_mem h
theorem gr_mem {xs : List (List Int)} {k : Nat} (h : k < xs.length) : gr xs k ∈ xs := by rw [gr_get h]; exact List.getElem_mem h
theorem gi_ext {xs ys : List Int} (hl : xs.length = ys.length) (h : ∀ k, k < xs.length → gi xs k = gi ys k) : xs = ys :=
  List.ext_getElem hl fun i h1 h2 => by rw [← gi_get h1, ← gi_get h2]; exact h i h1
theorem gr_ext {xs ys : List (List Int)} (hl : xs.length = ys.length) (h : ∀ k, k < xs.length → gr xs k = gr ys k) : xs = ys :=
  List.ext_getElem hl fun i h1 h2 => by rw [← gr_get h1, ← gr_get h2]; exact h i h1

theorem ret_int {k : IntKind} {a b : Int} (h : a = b) : Ending.returned (.int k a) = .returned (.int k b) := by rw [h]
theorem ret_bool {a b : Bool} (h : a = b) : Ending.returned (.bool a) = .returned (.bool b) := by rw [h]

def Quiet (w w' : World) : Prop := ∃ n, w' = w.drewN n
theorem Quiet.refl (w : World) : Quiet w w := ⟨0, rfl⟩
theorem Quiet.trans {a b c : World} (h : Quiet a b) (k : Quiet b c) : Quiet a c := by
  obtain ⟨n, rfl⟩ := h; obtain ⟨m, rfl⟩ := k; exact ⟨n + m, by rw [World.drewN_drewN]⟩

/-- A slice value whose cells read as ints. -/
structure Ints (w : World) (A : Option Addr) (n c : Nat) (xs : List Int) : Prop where
  len : xs.length = n
  cap : n ≤ c
  max : n ≤ 17592186044416
  wf : ∀ x ∈ xs, -9223372036854775808 ≤ x ∧ x ≤ 9223372036854775807
  at_ : 0 < n → ∃ b o, A = some ⟨b, o, none⟩ ∧ ∀ k, k < n → w.cell? ⟨b, o + k, none⟩ = some (.int .i64 (gi xs k))

theorem Quiet.two (w : World) (a b : Nat) : Quiet w ((w.drewN a).drewN b) := ⟨a + b, by rw [World.drewN_drewN]⟩

/-- A quiet callee, met in a quiet region: the draws add up. -/
theorem quiet_fit {P : Program} {f : FuncId} {args : Array Value} {W : World} {v : Value} {C : World → Prop}
    (h : Calls P f args W fun e w' => e = .returned v ∧ Quiet W w') (hC : ∀ m, C (W.drewN m)) : Calls P f args W fun e w' => e = .returned v ∧ C w' :=
  h.mono fun _ _ ⟨he, m, hm⟩ => ⟨he, by rw [hm]; exact hC m⟩
theorem same_fit {P : Program} {f : FuncId} {args : Array Value} {W : World} {v : Value} {C : World → Prop}
    (h : Calls P f args W fun e w' => e = .returned v ∧ W = w') (hC : ∀ m, C (W.drewN m)) : Calls P f args W fun e w' => e = .returned v ∧ C w' :=
  h.mono fun _ _ ⟨he, hm⟩ => ⟨he, by rw [← hm]; exact hC 0⟩
theorem drewN_to1 (w : World) (a b : Nat) : ∃ m, (w.drewN a).drewN b = w.drewN m := ⟨a + b, by rw [World.drewN_drewN]⟩
theorem drewN_to2 (w : World) (a b c : Nat) : ∃ m, (w.drewN (a + b)).drewN c = w.drewN (a + m) := ⟨b + c, by rw [World.drewN_drewN, Nat.add_assoc]⟩

/-- Every cell that was there reads as it did. -/
def Keep (w w' : World) : Prop := ∀ p u, w.cell? p = some u → w'.cell? p = some u
theorem Keep.refl (w : World) : Keep w w := fun _ _ h => h
theorem Keep.trans {a b c : World} (h : Keep a b) (k : Keep b c) : Keep a c := fun p u e => k p u (h p u e)
theorem Keep.drewN (w : World) (n : Nat) : Keep w (w.drewN n) := fun _ _ h => h
theorem Keep.below {w w' : World} (h : Below w.heap.size w w') : Keep w w' := fun p u e => by
  rw [h.cell (World.block_lt_of_cell? w p e)]; exact e
theorem Keep.quiet {w w' : World} (h : Quiet w w') : Keep w w' := by obtain ⟨n, rfl⟩ := h; exact Keep.drewN w n

theorem Ints.keep {w w' : World} {A n c xs} (h : Ints w A n c xs) (k : Keep w w') : Ints w' A n c xs :=
  ⟨h.len, h.cap, h.max, h.wf, fun hn => let ⟨b, o, e, hc⟩ := h.at_ hn; ⟨b, o, e, fun i hi => k _ _ (hc i hi)⟩⟩

structure IntRows (w : World) (A : Option Addr) (n c : Nat) (xss : List (List Int)) : Prop where
  len : xss.length = n
  cap : n ≤ c
  max : n ≤ 5864062014805
  at_ : 0 < n → ∃ b o, A = some ⟨b, o, none⟩ ∧ ∀ k, k < n → ∃ R cc, w.cell? ⟨b, o + k, none⟩ = some (.slice R (gr xss k).length cc) ∧ Ints w R (gr xss k).length cc (gr xss k)

theorem IntRows.keep {w w' : World} {A n c xs} (h : IntRows w A n c xs) (k : Keep w w') : IntRows w' A n c xs :=
  ⟨h.len, h.cap, h.max, fun hn => let ⟨b, o, e, hc⟩ := h.at_ hn; ⟨b, o, e, fun i hi => let ⟨R, cc, h1, h2⟩ := hc i hi; ⟨R, cc, k _ _ h1, h2.keep k⟩⟩⟩


/-- .. and which the call owns: in block b, from number lo up to less than hi, not frozen. -/
structure OwnI (lo hi : Nat) (w : World) (b : Nat) (A : Option Addr) (n c : Nat) (xs : List Int) : Prop where
  ints : Ints w A n c xs
  own : 0 < n → ∃ o, A = some ⟨b, o, none⟩ ∧ lo ≤ b ∧ b < hi ∧ ∀ k, k < n → w.frozen? ⟨b, o + k, none⟩ = false

theorem OwnI.lt {lo hi w b A n c xs} (h : OwnI lo hi w b A n c xs) (hn : 0 < n) : b < w.heap.size := by
  obtain ⟨b', o', e, hc⟩ := h.ints.at_ hn
  obtain ⟨o, e', _⟩ := h.own hn
  rw [e] at e'
  injection e' with e'
  injection e' with e1 _ _
  rw [← e1]
  exact World.block_lt_of_cell? w _ (hc 0 hn)
theorem OwnI.of_block {lo hi w w' b A n c xs} (h : OwnI lo hi w b A n c xs) (e : 0 < n → w'.heap[b]? = w.heap[b]?) : OwnI lo hi w' b A n c xs := by
  refine ⟨⟨h.ints.len, h.ints.cap, h.ints.max, h.ints.wf, fun hn => ?_⟩, fun hn => ?_⟩
  · obtain ⟨b', o', e1, hc⟩ := h.ints.at_ hn
    obtain ⟨o, e2, _⟩ := h.own hn
    rw [e1] at e2
    injection e2 with e2
    injection e2 with e2 _ _
    subst e2
    exact ⟨b', o', e1, fun k hk => by rw [World.cell?_of_block (w := w) (e hn)]; exact hc k hk⟩
  · obtain ⟨o, e2, hB, hB2, hf⟩ := h.own hn
    exact ⟨o, e2, hB, hB2, fun k hk => by rw [World.frozen?_of_block (w := w) (e hn)]; exact hf k hk⟩
theorem OwnI.mono {lo hi lo' hi' w b A n c xs} (h : OwnI lo hi w b A n c xs) (hB : lo' ≤ lo) (hB' : hi ≤ hi') : OwnI lo' hi' w b A n c xs :=
  ⟨h.ints, fun hn => let ⟨o, e, h1, h2, h3⟩ := h.own hn; ⟨o, e, Nat.le_trans hB h1, Nat.lt_of_lt_of_le h2 hB', h3⟩⟩
theorem OwnI.below {lo hi w w' b A n c xs} (h : OwnI lo hi w b A n c xs) (k : Below w.heap.size w w') : OwnI lo hi w' b A n c xs :=
  h.of_block fun hn => k.block _ (h.lt hn)
theorem OwnI.quiet {lo hi w w' b A n c xs} (h : OwnI lo hi w b A n c xs) (k : Quiet w w') : OwnI lo hi w' b A n c xs := by
  obtain ⟨m, rfl⟩ := k; exact h.of_block fun _ => rfl
theorem OwnI.nil (lo hi : Nat) (w : World) (b : Nat) : OwnI lo hi w b none 0 0 [] :=
  ⟨⟨rfl, Nat.le_refl _, by omega, fun _ h => by simp at h, fun h => absurd h (by omega)⟩, fun h => absurd h (by omega)⟩
/-- It returns v, and nothing that was there has turned. -/
def Ret (v : Value) (w : World) (e : Ending) (w' : World) : Prop := e = .returned v ∧ Below w.heap.size w w'

/-- Only blocks from lo up to less than hi have turned. -/
structure Touch (lo hi : Nat) (w w' : World) : Prop where
  os : w'.os = w.os
  tape : w'.tape = w.tape
  output : w'.output = w.output
  size : w'.heap.size = w.heap.size
  block : ∀ k, k < lo ∨ hi ≤ k → w'.heap[k]? = w.heap[k]?
theorem Touch.refl (lo hi : Nat) (w : World) : Touch lo hi w w := ⟨rfl, rfl, rfl, rfl, fun _ _ => rfl⟩
theorem Touch.trans {lo hi : Nat} {a b c : World} (h : Touch lo hi a b) (k : Touch lo hi b c) : Touch lo hi a c :=
  ⟨k.os.trans h.os, k.tape.trans h.tape, k.output.trans h.output, k.size.trans h.size, fun i hi => (k.block i hi).trans (h.block i hi)⟩
theorem Touch.mono {lo hi lo' hi' : Nat} {w w' : World} (h : Touch lo hi w w') (h1 : lo' ≤ lo) (h2 : hi ≤ hi') : Touch lo' hi' w w' :=
  ⟨h.os, h.tape, h.output, h.size, fun k hk => h.block k (by omega)⟩
theorem Touch.set {lo hi : Nat} {a w : World} (h : Touch lo hi a w) {p : Addr} (h1 : lo ≤ p.block) (h2 : p.block < hi) (u : Value) : Touch lo hi a (w.setCell p u) :=
  ⟨h.os, h.tape, h.output, by simpa [World.setCell] using h.size, fun k hk => (Below.heap_setCell _ _ _ _ (by omega)).trans (h.block k hk)⟩
theorem Touch.quiet {lo hi : Nat} {a w w' : World} (h : Touch lo hi a w) (k : Quiet w w') : Touch lo hi a w' := by
  obtain ⟨m, rfl⟩ := k; exact ⟨h.os, h.tape, h.output, h.size, h.block⟩
theorem Touch.below {lo hi B : Nat} {a w w' : World} (h : Below B a w) (k : Touch lo hi w w') (hB : B ≤ lo) : Below B a w' :=
  ⟨k.os.trans h.os, k.tape.trans h.tape, k.output.trans h.output, by rw [k.size]; exact h.size, fun i hi => (k.block i (.inl (by omega))).trans (h.block i hi)⟩
/-- A block that is known whole. -/
def Blk (w : World) (g : Nat) (t : TypeId) (cs : Array Value) : Prop := w.heap[g]? = some (.cells cs t (0, 0))
theorem blk_lt {w g t cs} (h : Blk w g t cs) : g < w.heap.size := (Array.getElem?_eq_some_iff.1 h).1
theorem blk_cell {w g t cs} (h : Blk w g t cs) {i : Nat} {v : Value} (hv : cs[i]? = some v) : w.cell? ⟨g, i, none⟩ = some v := by
  unfold Blk at h; simp [World.cell?, h, hv]
theorem blk_frozen {w g t cs} (h : Blk w g t cs) (i : Nat) : w.frozen? ⟨g, i, none⟩ = false := by
  unfold Blk at h; simp [World.frozen?, h]
theorem blk_new (w : World) (t : TypeId) (cs : Array Value) : Blk (w.alloc (.cells cs t)) w.heap.size t cs := heap_alloc_new w _
theorem blk_old {w g t cs} (h : Blk w g t cs) (o : Obj) : Blk (w.alloc o) g t cs := (Below.heap_alloc w o g (blk_lt h)).trans h
theorem blk_below {w w' g t cs} (h : Blk w g t cs) (k : Below w.heap.size w w') : Blk w' g t cs := (k.block g (blk_lt h)).trans h
theorem blk_touch {w w' g t cs lo hi} (h : Blk w g t cs) (k : Touch lo hi w w') (hd : g < lo ∨ hi ≤ g) : Blk w' g t cs := (k.block g hd).trans h
theorem blk_set {w g t cs} (h : Blk w g t cs) (i : Nat) (u : Value) : Blk (w.setCell ⟨g, i, none⟩ u) g t (cs.setIfInBounds i u) := by
  unfold Blk at h ⊢
  simp [World.setCell, Array.getElem?_modify, h]
theorem blk_other {w g t cs} (h : Blk w g t cs) {p : Addr} (hp : g ≠ p.block) (u : Value) : Blk (w.setCell p u) g t cs := (Below.heap_setCell w p u g hp).trans h
theorem blk_quiet {w w' g t cs} (h : Blk w g t cs) (k : Quiet w w') : Blk w' g t cs := by obtain ⟨m, rfl⟩ := k; exact h

theorem Quiet.below {B : Nat} {w w' : World} (h : Quiet w w') : Below B w w' := by
  obtain ⟨n, rfl⟩ := h; exact ⟨rfl, rfl, rfl, Nat.le_refl _, fun _ _ => rfl⟩
theorem below_drewN {B : Nat} {a w : World} (h : Below B a w) (n : Nat) : Below B a (w.drewN n) := ⟨h.os, h.tape, h.output, h.size, h.block⟩
theorem below_alloc (w : World) (o : Obj) : Below w.heap.size w (w.alloc o) := (Below.refl _ _).alloc (Nat.le_refl _) o
theorem below_up {w w1 w2 : World} (h : Below w.heap.size w w1) (k : Below w1.heap.size w1 w2) : Below w.heap.size w w2 := h.trans (k.mono h.size)
theorem below_quiet {w w1 w2 : World} (h : Below w.heap.size w w1) (k : Quiet w1 w2) : Below w.heap.size w w2 := by obtain ⟨m, rfl⟩ := k; exact below_drewN h m

theorem OwnI.of_rowIs {lo hi w g n} {xs : List Int} (hl : xs.length = n) (hm : n ≤ 17592186044416) (hw : ∀ x ∈ xs, -9223372036854775808 ≤ x ∧ x ≤ 9223372036854775807)
    (hB : lo ≤ g) (hB' : g < hi) {f : Nat → Value} (h : w.rowIs g 3 n f) (hf : ∀ k, k < n → f k = .int .i64 (gi xs k)) : OwnI lo hi w g (some ⟨g, 0, none⟩) n n xs :=
  ⟨⟨hl, Nat.le_refl _, hm, hw, fun _ => ⟨g, 0, rfl, fun k hk => by rw [Nat.zero_add, h.cell hk, hf k hk]⟩⟩, fun _ => ⟨0, rfl, hB, hB', fun k _ => by rw [Nat.zero_add]; exact h.frozen k⟩⟩

/-- Rows of their own, each in a block of its own. -/
structure OwnR (lo hi : Nat) (w : World) (b : Nat) (A : Option Addr) (n c : Nat) (xss : List (List Int)) : Prop where
  len : xss.length = n
  cap : n ≤ c
  max : n ≤ 5864062014805
  at_ : 0 < n → ∃ (o : Nat) (G : Nat → Nat) (R : Nat → Option Addr) (C : Nat → Nat), A = some ⟨b, o, none⟩ ∧ lo ≤ b ∧ b < hi ∧ (∀ k, k < n → w.frozen? ⟨b, o + k, none⟩ = false ∧
      w.cell? ⟨b, o + k, none⟩ = some (.slice (R k) (gr xss k).length (C k)) ∧ OwnI lo hi w (G k) (R k) (gr xss k).length (C k) (gr xss k) ∧ (0 < (gr xss k).length → G k ≠ b)) ∧
      ∀ j k, j < k → k < n → 0 < (gr xss j).length → 0 < (gr xss k).length → G j ≠ G k

theorem OwnR.rows {lo hi w b A n c xss} (h : OwnR lo hi w b A n c xss) : IntRows w A n c xss :=
  ⟨h.len, h.cap, h.max, fun hn => by
    obtain ⟨o, G, R, C, e, _, _, hr, _⟩ := h.at_ hn
    exact ⟨b, o, e, fun k hk => ⟨R k, C k, (hr k hk).2.1, (hr k hk).2.2.1.ints⟩⟩⟩
theorem OwnR.lt {lo hi w b A n c xss} (h : OwnR lo hi w b A n c xss) (hn : 0 < n) : b < w.heap.size := by
  obtain ⟨o, G, R, C, e, _, _, hr, _⟩ := h.at_ hn
  exact World.block_lt_of_cell? w _ (hr 0 hn).2.1
theorem OwnR.mono {lo hi lo' hi' w b A n c xss} (h : OwnR lo hi w b A n c xss) (hB : lo' ≤ lo) (hB' : hi ≤ hi') : OwnR lo' hi' w b A n c xss :=
  ⟨h.len, h.cap, h.max, fun hn => by
    obtain ⟨o, G, R, C, e, h1, h2, hr, hd⟩ := h.at_ hn
    exact ⟨o, G, R, C, e, Nat.le_trans hB h1, Nat.lt_of_lt_of_le h2 hB', fun k hk => ⟨(hr k hk).1, (hr k hk).2.1, (hr k hk).2.2.1.mono hB hB', (hr k hk).2.2.2⟩, hd⟩⟩
theorem OwnR.of_blocks {lo hi w w' b A n c xss} (h : OwnR lo hi w b A n c xss) (e : ∀ g, lo ≤ g → g < hi → g < w.heap.size → w'.heap[g]? = w.heap[g]?) : OwnR lo hi w' b A n c xss :=
  ⟨h.len, h.cap, h.max, fun hn => by
    have hbl := h.lt hn
    obtain ⟨o, G, R, C, ea, h1, h2, hr, hd⟩ := h.at_ hn
    have eb := e b h1 h2 hbl
    refine ⟨o, G, R, C, ea, h1, h2, fun k hk => ⟨?_, ?_, (hr k hk).2.2.1.of_block fun hp => ?_, (hr k hk).2.2.2⟩, hd⟩
    · rw [World.frozen?_of_block (w := w) eb]; exact (hr k hk).1
    · rw [World.cell?_of_block (w := w) eb]; exact (hr k hk).2.1
    · obtain ⟨_, _, hB, hB2, _⟩ := (hr k hk).2.2.1.own hp
      exact e _ hB hB2 ((hr k hk).2.2.1.lt hp)⟩
theorem OwnR.below {lo hi w w' b A n c xss} (h : OwnR lo hi w b A n c xss) (k : Below w.heap.size w w') : OwnR lo hi w' b A n c xss := h.of_blocks fun g _ _ hg => k.block g hg
theorem OwnR.quiet {lo hi w w' b A n c xss} (h : OwnR lo hi w b A n c xss) (k : Quiet w w') : OwnR lo hi w' b A n c xss := by
  obtain ⟨m, rfl⟩ := k; exact h.of_blocks fun _ _ _ _ => rfl
theorem OwnR.nil (lo hi : Nat) (w : World) (b : Nat) : OwnR lo hi w b none 0 0 [] := ⟨rfl, Nat.le_refl _, by omega, fun h => absurd h (by omega)⟩

/-- What lies elsewhere stays. -/
theorem OwnI.touch {lo hi lo' hi' w w' b A n c xs} (h : OwnI lo hi w b A n c xs) (k : Touch lo' hi' w w') (hd : hi ≤ lo' ∨ hi' ≤ lo) : OwnI lo hi w' b A n c xs :=
  h.of_block fun hn => k.block _ (by obtain ⟨_, _, h1, h2, _⟩ := h.own hn; omega)
theorem OwnR.touch {lo hi lo' hi' w w' b A n c xss} (h : OwnR lo hi w b A n c xss) (k : Touch lo' hi' w w') (hd : hi ≤ lo' ∨ hi' ≤ lo) : OwnR lo hi w' b A n c xss :=
  h.of_blocks fun g h1 h2 _ => k.block g (by omega)
/-- What lies below a number stays. -/
theorem Ints.touch {lo hi w w' A n c xs} (h : Ints w A n c xs) (k : Touch lo hi w w') {B : Nat} (hB : B ≤ lo) (hb : ∀ b o, 0 < n → A = some ⟨b, o, none⟩ → b < B) : Ints w' A n c xs :=
  ⟨h.len, h.cap, h.max, h.wf, fun hn => let ⟨b, o, e, hc⟩ := h.at_ hn; ⟨b, o, e, fun i hi => by rw [World.cell?_of_block (w := w) (k.block b (.inl (by have := hb b o hn e; omega)))]; exact hc i hi⟩⟩

end Go.Proofs.Ytjmfkodbilknlaa

/- The harness of the exact laws: sizes, copies, comparisons. -/
namespace Go.Proofs.Ytjmfkodbilknlaa
open Go.RowKit

def szI (left : Int) (n : Nat) : Int := if left - n < 0 then -1 else left - n

set_option maxHeartbeats 400000 in
theorem szIntS_any (A : Option Addr) (n c : Nat) (left : Int) (w : World) (hn : n ≤ 17592186044416) (h0 : 0 ≤ left) (h1 : left ≤ 1048576) :
    Calls Try.prog 31 #[.slice A n c, .int .i64 left] w fun e w' => e = .returned (.int .i64 (szI left n)) ∧ w = w' := by
  by_cases h : left - n < 0
  · go_enter Try.func31, Try.ntmps31
    go_wp2
    go_ret
    exact ⟨ret_int (by rw [szI, if_pos h]), rfl⟩
  · go_enter Try.func31, Try.ntmps31
    go_wp2
    go_ret
    exact ⟨ret_int (by rw [szI, if_neg (by omega)]), rfl⟩

def eqI (xs ys : List Int) : Bool := decide (xs = ys)
theorem eqI_len {xs ys : List Int} (h : xs.length ≠ ys.length) : eqI xs ys = false := by
  unfold eqI; exact decide_eq_false fun e => h (by rw [e])
theorem eqI_no {xs ys : List Int} {k : Nat} (h : gi xs k ≠ gi ys k) : eqI xs ys = false := by
  unfold eqI; exact decide_eq_false fun e => h (by rw [e])
theorem eqI_yes {xs ys : List Int} (hl : xs.length = ys.length) (h : ∀ k, k < xs.length → gi xs k = gi ys k) : eqI xs ys = true := by
  unfold eqI
  exact decide_eq_true (gi_ext hl h)

set_option maxHeartbeats 400000 in
theorem eqIntS_any (A B : Option Addr) (n c m d : Nat) (xs ys : List Int) (w : World) (hx : Ints w A n c xs) (hy : Ints w B m d ys) :
    Calls Try.prog 49 #[.slice A n c, .slice B m d] w fun e w' => e = .returned (.bool (eqI xs ys)) ∧ Quiet w w' := by
  obtain ⟨lx, cx, mx, _, hx⟩ := hx
  obtain ⟨ly, cy, my, _, hy⟩ := hy
  have Lx := Lib.hid lx
  have Ly := Lib.hid ly
  clear lx ly
  by_cases hnm : n = m
  · subst hnm
    go_enter Try.func49, Try.ntmps49
    go_wp2
    go_loopw [5] (fun i wr => ∃ k : Nat, k ≤ n ∧ i = .int .i64 k ∧ (∀ j, j < k → gi xs j = gi ys j) ∧ Quiet w wr) (fun i _ => n - (intOf i).toNat)
    case atStart => exact ⟨0, Nat.zero_le _, rfl, fun _ h => absurd h (by omega), Quiet.refl _⟩
    case round =>
      obtain ⟨k, hk, rfl, hall, q, rfl⟩ := hrel
      have HALL := Lib.hid hall
      clear hall
      by_cases hlt : k < n
      · obtain ⟨b, o, rfl, hcx⟩ := hx (by omega)
        obtain ⟨b2, o2, rfl, hcy⟩ := hy (by omega)
        have c1 := hcx k hlt
        have c2 := hcy k hlt
        clear hx hy hcx hcy
        by_cases he : gi xs k = gi ys k
        · have he' : (gi xs k != gi ys k) = false := by simp [he]
          have HE := Lib.hid he
          clear he
          go_wp2
          go_quiet (fail)
          go_wp2
          go_roundw
          case rel => exact ⟨k + 1, by omega, by go_num, fun j hj => by
            by_cases hjk : j < k
            · exact HALL.out j hjk
            · obtain rfl : j = k := by omega
              exact HE.out, ⟨_, rfl⟩⟩
          case measure => simp [intOf]; omega
        · have he' : (gi xs k != gi ys k) = true := by simpa using he
          go_wp2
          go_quiet (fail)
          go_wp2
          go_ret
          exact ⟨ret_bool (eqI_no he).symm, Quiet.two _ _ _⟩
      · obtain rfl : k = n := by omega
        go_wp2
        go_ret
        exact ⟨ret_bool (eqI_yes (by rw [Lx.out, Ly.out]) fun j hj => HALL.out j (by rw [Lx.out] at hj; exact hj)).symm, ⟨_, rfl⟩⟩
  · go_enter Try.func49, Try.ntmps49
    go_wp2
    go_ret
    exact ⟨ret_bool (eqI_len (by rw [Lx.out, Ly.out]; exact hnm)).symm, Quiet.refl _⟩

/-- The size of rows, off a bound. -/
def szR : Int → List (List Int) → Int
  | left, [] => left
  | left, x :: xs => if szI left x.length < 0 then -1 else szR (szI left x.length) xs
def szRR (left : Int) (xss : List (List Int)) : Int := if szI left xss.length < 0 then -1 else szR (szI left xss.length) xss
theorem szI_le (left : Int) (n : Nat) (h0 : 0 ≤ left) (h1 : left ≤ 1048576) : -1 ≤ szI left n ∧ szI left n ≤ 1048576 := by unfold szI; split <;> omega
theorem szR_neg {left : Int} {x : List Int} {xs : List (List Int)} (h : szI left x.length < 0) : szR left (x :: xs) = -1 := by rw [szR, if_pos h]
theorem szR_pos {left : Int} {x : List Int} {xs : List (List Int)} (h : ¬ szI left x.length < 0) : szR left (x :: xs) = szR (szI left x.length) xs := by rw [szR, if_neg h]
theorem gr_drop {xss : List (List Int)} {k : Nat} (h : k < xss.length) : xss.drop k = gr xss k :: xss.drop (k + 1) := by
  rw [gr_get h]; exact List.drop_eq_getElem_cons h

set_option maxHeartbeats 400000 in
theorem szIntSS_any (A : Option Addr) (n c : Nat) (xss : List (List Int)) (left : Int) (w : World) (hx : IntRows w A n c xss) (h0 : 0 ≤ left) (h1 : left ≤ 1048576) :
    Calls Try.prog 8 #[.slice A n c, .int .i64 left] w fun e w' => e = .returned (.int .i64 (szRR left xss)) ∧ Quiet w w' := by
  obtain ⟨lx, cx, mx, hx⟩ := hx
  have Lx := Lib.hid lx
  clear lx
  by_cases h : left - n < 0
  · go_enter Try.func8, Try.ntmps8
    go_wp2
    go_ret
    exact ⟨ret_int (by rw [szRR, Lx.out, szI, if_pos h]; rfl), Quiet.refl _⟩
  · go_enter Try.func8, Try.ntmps8
    go_wp2
    go_loopw [1, 5] (fun l i wr => ∃ (k : Nat) (z : Int), k ≤ n ∧ i = .int .i64 k ∧ l = .int .i64 z ∧ 0 ≤ z ∧ z ≤ 1048576 ∧ Hid (szRR left xss = szR z (xss.drop k)) ∧ Quiet w wr) (fun _ i _ => n - (intOf i).toNat)
    case atStart => exact ⟨0, left - n, Nat.zero_le _, rfl, rfl, by omega, by omega, Lib.hid (by rw [szRR, Lx.out, szI, if_neg (by omega), if_neg (by omega)]; rfl), Quiet.refl _⟩
    case round =>
      obtain ⟨k, z, hk, rfl, rfl, hz0, hz1, HS, q, rfl⟩ := hrel
      by_cases hlt : k < n
      · obtain ⟨b, o, rfl, hcx⟩ := hx (by omega)
        obtain ⟨R, cc, c1, hR⟩ := hcx k hlt
        clear hx hcx
        have hRl : (gr xss k).length ≤ 17592186044416 := hR.max
        have hsz := szI_le z (gr xss k).length hz0 hz1
        have HD := Lib.hid (gr_drop (xss := xss) (k := k) (by rw [Lx.out]; exact hlt))
        by_cases hn : szI z (gr xss k).length < 0
        · go_wp2_with (go_at_call 31; refine (szIntS_any _ _ _ _ _ hRl hz0 hz1).mono ?_; rintro e w' ⟨rfl, rfl⟩)
          go_ret
          exact ⟨ret_int (by rw [HS.out, HD.out, szR_neg hn]), ⟨_, rfl⟩⟩
        · go_wp2_with (go_at_call 31; refine (szIntS_any _ _ _ _ _ hRl hz0 hz1).mono ?_; rintro e w' ⟨rfl, rfl⟩)
          go_roundw
          case rel => exact ⟨k + 1, _, by omega, by go_num, rfl, by omega, hsz.2, Lib.hid (by rw [HS.out, HD.out, szR_pos (by omega)]), ⟨_, rfl⟩⟩
          case measure => simp [intOf]; omega
      · obtain rfl : k = n := by omega
        go_wp2
        go_ret
        exact ⟨ret_int (by rw [HS.out, List.drop_of_length_le (by rw [Lx.out]; exact Nat.le_refl _)]; rfl), ⟨_, rfl⟩⟩

def eqRR (xss yss : List (List Int)) : Bool := decide (xss = yss)
theorem eqRR_len {xs ys : List (List Int)} (h : xs.length ≠ ys.length) : eqRR xs ys = false := by
  unfold eqRR; exact decide_eq_false fun e => h (by rw [e])
theorem eqRR_no {xs ys : List (List Int)} {k : Nat} (h : eqI (gr xs k) (gr ys k) = false) : eqRR xs ys = false := by
  unfold eqRR; exact decide_eq_false fun e => by rw [e] at h; simp [eqI] at h
theorem eqRR_yes {xs ys : List (List Int)} (hl : xs.length = ys.length) (h : ∀ k, k < xs.length → eqI (gr xs k) (gr ys k) = true) : eqRR xs ys = true := by
  unfold eqRR
  exact decide_eq_true (gr_ext hl fun k hk => by simpa [eqI] using h k hk)

set_option maxHeartbeats 400000 in
theorem eqIntSS_any (A B : Option Addr) (n c m d : Nat) (xs ys : List (List Int)) (w : World) (hx : IntRows w A n c xs) (hy : IntRows w B m d ys) :
    Calls Try.prog 13 #[.slice A n c, .slice B m d] w fun e w' => e = .returned (.bool (eqRR xs ys)) ∧ Quiet w w' := by
  obtain ⟨lx, cx, mx, hx⟩ := hx
  obtain ⟨ly, cy, my, hy⟩ := hy
  have Lx := Lib.hid lx
  have Ly := Lib.hid ly
  clear lx ly
  by_cases hnm : n = m
  · subst hnm
    go_enter Try.func13, Try.ntmps13
    go_wp2
    go_loopw [5] (fun i wr => ∃ k : Nat, k ≤ n ∧ i = .int .i64 k ∧ Hid (∀ j, j < k → eqI (gr xs j) (gr ys j) = true) ∧ Quiet w wr) (fun i _ => n - (intOf i).toNat)
    case atStart => exact ⟨0, Nat.zero_le _, rfl, Lib.hid (fun _ h => absurd h (by omega)), Quiet.refl _⟩
    case round =>
      obtain ⟨k, hk, rfl, HALL, q, rfl⟩ := hrel
      by_cases hlt : k < n
      · obtain ⟨b, o, rfl, hcx⟩ := hx (by omega)
        obtain ⟨b2, o2, rfl, hcy⟩ := hy (by omega)
        obtain ⟨R, cc, c1, hR⟩ := hcx k hlt
        obtain ⟨R2, cc2, c2, hR2⟩ := hcy k hlt
        clear hx hy hcx hcy
        cases he : eqI (gr xs k) (gr ys k) with
        | true =>
          have HE := Lib.hid he
          have hq := fun W (hW : Quiet w W) => (he ▸ eqIntS_any _ _ _ _ _ _ _ _ W (hR.keep (Keep.quiet hW)) (hR2.keep (Keep.quiet hW)))
          clear he
          go_wp2
          go_quiet ((go_at_call 49; exact quiet_fit (hq _ (by first | exact ⟨_, rfl⟩ | exact Quiet.two _ _ _)) (fun m => by first | exact drewN_to1 _ _ _ | exact drewN_to2 _ _ _ _)))
          go_wp2
          go_roundw
          case rel => exact ⟨k + 1, by omega, by go_num, Lib.hid (fun j hj => by
            by_cases hjk : j < k
            · exact HALL.out j hjk
            · obtain rfl : j = k := by omega
              exact HE.out), ⟨_, rfl⟩⟩
          case measure => simp [intOf]; omega
        | false =>
          have HE := Lib.hid he
          have hq := fun W (hW : Quiet w W) => (he ▸ eqIntS_any _ _ _ _ _ _ _ _ W (hR.keep (Keep.quiet hW)) (hR2.keep (Keep.quiet hW)))
          clear he
          go_wp2
          go_quiet ((go_at_call 49; exact quiet_fit (hq _ (by first | exact ⟨_, rfl⟩ | exact Quiet.two _ _ _)) (fun m => by first | exact drewN_to1 _ _ _ | exact drewN_to2 _ _ _ _)))
          go_wp2
          go_ret
          exact ⟨ret_bool (eqRR_no HE.out).symm, Quiet.two _ _ _⟩
      · obtain rfl : k = n := by omega
        go_wp2
        go_ret
        exact ⟨ret_bool (eqRR_yes (by rw [Lx.out, Ly.out]) fun j hj => HALL.out j (by rw [Lx.out] at hj; exact hj)).symm, ⟨_, rfl⟩⟩
  · go_enter Try.func13, Try.ntmps13
    go_wp2
    go_ret
    exact ⟨ret_bool (eqRR_len (by rw [Lx.out, Ly.out]; exact hnm)).symm, Quiet.refl _⟩
end Go.Proofs.Ytjmfkodbilknlaa

/- The harness of the exact laws: copies. -/
namespace Go.Proofs.Ytjmfkodbilknlaa
open Go.RowKit
theorem Try.info3 : (Try.prog.info? 3).map (fun i => (i.zero, i.size, i.bytes)) = some (some (.int .i64 0), 1, 8) := by kernel_rfl
theorem Try.info36 : (Try.prog.info? 36).map (fun i => (i.zero, i.size, i.bytes)) = some (some (.slice none 0 0), 1, 24) := by kernel_rfl

/-- A row that is filled up to k. -/
def filled (xs : List Int) (k : Nat) : Nat → Value := fun j => if j < k then .int .i64 (gi xs j) else .int .i64 0

theorem filled_set {w : World} {g n k : Nat} {xs : List Int} (h : w.rowIs g 3 n (filled xs k)) : (w.setCell ⟨g, k, none⟩ (.int .i64 (gi xs k))).rowIs g 3 n (filled xs (k + 1)) :=
  (h.set k _).congr fun j _ => by
    unfold filled
    by_cases e : j = k
    · subst e; simp
    · rw [if_neg e]
      by_cases hj : j < k
      · rw [if_pos hj, if_pos (by omega)]
      · rw [if_neg hj, if_neg (by omega)]

def MadeI (w : World) (n : Nat) (xs : List Int) (e : Ending) (w' : World) : Prop :=
  e = .returned (.slice (some ⟨w.heap.size, 0, none⟩) n n) ∧ OwnI w.heap.size (w.heap.size + 1) w' w.heap.size (some ⟨w.heap.size, 0, none⟩) n n xs ∧ Below w.heap.size w w' ∧ w'.heap.size = w.heap.size + 1

set_option maxHeartbeats 400000 in
theorem toIntS_any (A : Option Addr) (n c : Nat) (xs : List Int) (w : World) (hx : Ints w A n c xs) :
    Calls Try.prog 41 #[.slice A n c] w (MadeI w n xs) := by
  have HX := Lib.hid hx
  obtain ⟨_, cx, mx, _, hx⟩ := hx
  have hmk := run_make_row' (P := Try.prog) 36 3 (.int .i64 0) 8 Try.underlying36 Try.info3 rfl .i64 .i64 n (by omega) (by omega)
  go_enter Try.func41, Try.ntmps41
  go_wp2
  clear hmk
  go_loopw [4] (fun i wr => ∃ k : Nat, k ≤ n ∧ i = .int .i64 k ∧ wr.rowIs w.heap.size 3 n (filled xs k) ∧ Below w.heap.size w wr ∧ Hid (wr.heap.size = w.heap.size + 1)) (fun i _ => n - (intOf i).toNat)
  case atStart => exact ⟨0, Nat.zero_le _, rfl, (World.rowIs_made w _ n 3).congr (fun j _ => by simp [filled]), (Below.refl _ _).alloc (Nat.le_refl _) _, Lib.hid (by simp)⟩
  case round =>
    obtain ⟨k, hk, rfl, hrow, hbel, hsz⟩ := hrel
    by_cases hlt : k < n
    · obtain ⟨b, o, rfl, hc⟩ := hx (by omega)
      have c1 := hc k hlt
      have c2 := hbel.cell (p := ⟨b, o + k, none⟩) (World.block_lt_of_cell? _ _ c1)
      rw [c1] at c2
      have c3 := hrow.cell hlt
      simp only [filled, if_neg (Nat.lt_irrefl k)] at c3
      have c4 := hrow.frozen k
      clear hx hc c1
      go_wp2
      go_roundw
      case rel => exact ⟨k + 1, by omega, by go_num, filled_set hrow, hbel.setCell (Nat.le_refl _) _, Lib.hid (by simpa using hsz.out)⟩
      case measure => simp [intOf]; omega
    · obtain rfl : k = n := by omega
      go_wp2
      go_ret
      exact ⟨rfl, OwnI.of_rowIs HX.out.len mx HX.out.wf (Nat.le_refl _) (Nat.lt_succ_self _) hrow (fun j hj => by simp [filled, hj]), hbel, hsz.out⟩

/-- The outer row when k copies are made. -/
def tops (B : Nat) (xss : List (List Int)) (k : Nat) : Nat → Value := fun j => if j < k then .slice (some ⟨B + 1 + j, 0, none⟩) (gr xss j).length (gr xss j).length else .slice none 0 0
structure Copied (w wr : World) (n k : Nat) (xss : List (List Int)) : Prop where
  below : Below w.heap.size w wr
  size : wr.heap.size = w.heap.size + 1 + k
  top : wr.rowIs w.heap.size 36 n (tops w.heap.size xss k)
  done : ∀ j, j < k → OwnI w.heap.size wr.heap.size wr (w.heap.size + 1 + j) (some ⟨w.heap.size + 1 + j, 0, none⟩) (gr xss j).length (gr xss j).length (gr xss j)

theorem copied_start (w : World) (n : Nat) (xss : List (List Int)) : Copied w (w.alloc (.cells (madeCells #[.slice none 0 0] n) 36)) n 0 xss :=
  ⟨(Below.refl _ _).alloc (Nat.le_refl _) _, by simp, (World.rowIs_made w _ n 36).congr (fun j _ => by simp [tops]), fun j hj => absurd hj (Nat.not_lt_zero _)⟩

theorem copied_step {w wr w1 : World} {n k : Nat} {xss : List (List Int)} {e : Ending} (h : Copied w wr n k xss) (m : MadeI wr (gr xss k).length (gr xss k) e w1) :
    e = .returned (.slice (some ⟨w.heap.size + 1 + k, 0, none⟩) (gr xss k).length (gr xss k).length) ∧
    Copied w (w1.setCell ⟨w.heap.size, k, none⟩ (.slice (some ⟨w.heap.size + 1 + k, 0, none⟩) (gr xss k).length (gr xss k).length)) n (k + 1) xss := by
  obtain ⟨he, hown, hbel, hsz⟩ := m
  rw [h.size] at he hown hsz
  have hb : Below w.heap.size w w1 := h.below.trans (hbel.mono h.below.size)
  refine ⟨he, ⟨hb.setCell (Nat.le_refl _) _, by simp [hsz]; omega, ?_, fun j hj => ?_⟩⟩
  · refine ((h.top.of_block (hbel.block _ (by rw [h.size]; omega))).set k _).congr fun j _ => ?_
    unfold tops
    by_cases e : j = k
    · subst e; simp
    · rw [if_neg e]
      by_cases hj : j < k
      · rw [if_pos hj, if_pos (by omega)]
      · rw [if_neg hj, if_neg (by omega)]
  · by_cases e : j = k
    · subst e
      exact (hown.mono (by omega) (by simp [World.setCell, hsz])).of_block fun _ => Below.heap_setCell _ _ _ _ (by show w.heap.size + 1 + j ≠ w.heap.size; omega)
    · refine (((h.done j (by omega)).below hbel).mono (Nat.le_refl _) (by have := hbel.size; simpa [World.setCell] using this)).of_block fun _ => Below.heap_setCell _ _ _ _ (by show w.heap.size + 1 + j ≠ w.heap.size; omega)

theorem copied_own {w wr : World} {n : Nat} {xss : List (List Int)} (h : Copied w wr n n xss) (hl : xss.length = n) (hm : n ≤ 5864062014805) :
    OwnR w.heap.size wr.heap.size wr w.heap.size (some ⟨w.heap.size, 0, none⟩) n n xss :=
  ⟨hl, Nat.le_refl _, hm, fun _ => ⟨0, fun k => w.heap.size + 1 + k, fun k => some ⟨w.heap.size + 1 + k, 0, none⟩, fun k => (gr xss k).length, rfl, Nat.le_refl _, h.top.lt,
    fun k hk => ⟨by rw [Nat.zero_add]; exact h.top.frozen k, by rw [Nat.zero_add, h.top.cell hk, tops, if_pos hk], h.done k hk, fun _ => by show w.heap.size + 1 + k ≠ w.heap.size; omega⟩, fun j k hj _ _ _ => by show w.heap.size + 1 + j ≠ w.heap.size + 1 + k; omega⟩⟩

def MadeR (w : World) (n : Nat) (xss : List (List Int)) (e : Ending) (w' : World) : Prop :=
  e = .returned (.slice (some ⟨w.heap.size, 0, none⟩) n n) ∧ OwnR w.heap.size w'.heap.size w' w.heap.size (some ⟨w.heap.size, 0, none⟩) n n xss ∧ Below w.heap.size w w' ∧ w.heap.size < w'.heap.size

set_option maxHeartbeats 400000 in
theorem toIntSS_any (A : Option Addr) (n c : Nat) (xss : List (List Int)) (w : World) (hx : IntRows w A n c xss) :
    Calls Try.prog 10 #[.slice A n c] w (MadeR w n xss) := by
  have HX := Lib.hid hx
  obtain ⟨_, cx, mx, hx⟩ := hx
  have hmk := run_make_row' (P := Try.prog) 22 36 (.slice none 0 0) 24 Try.underlying22 Try.info36 rfl .i64 .i64 n (by omega) (by omega)
  go_enter Try.func10, Try.ntmps10
  go_wp2
  clear hmk
  go_loopw [4] (fun i wr => ∃ k : Nat, k ≤ n ∧ i = .int .i64 k ∧ Copied w wr n k xss) (fun i _ => n - (intOf i).toNat)
  case atStart => exact ⟨0, Nat.zero_le _, rfl, copied_start w n xss⟩
  case round =>
    obtain ⟨k, hk, rfl, HC⟩ := hrel
    by_cases hlt : k < n
    · obtain ⟨b, o, rfl, hc⟩ := hx (by omega)
      obtain ⟨R, cc, c1, hR⟩ := hc k hlt
      have hkeep := HC.below.cell (p := ⟨b, o + k, none⟩) (World.block_lt_of_cell? _ _ c1)
      rw [c1] at hkeep
      have hR2 := hR.keep (Keep.below HC.below)
      have c3 := HC.top.cell hlt
      simp only [tops, if_neg (Nat.lt_irrefl k)] at c3
      have c4 := HC.top.frozen k
      have hbl := HC.top.lt
      clear hx hc c1 hR
      go_wp2_with fail
      refine (toIntS_any _ _ _ _ _ hR2).mono ?_
      intro e w1 hm
      obtain ⟨he, hcop⟩ := copied_step HC hm
      obtain ⟨_, _, hb1, _⟩ := hm
      have c5 := hb1.cell (p := ⟨w.heap.size, k, none⟩) hbl
      rw [c3] at c5
      have c6 := hb1.frozen (p := ⟨w.heap.size, k, none⟩) hbl
      rw [c4] at c6
      subst he
      clear c3 c4 hR2 hkeep HC hb1
      go_wp2
      go_roundw
      case rel => exact ⟨k + 1, by omega, by go_num, hcop⟩
      case measure => simp [intOf]; omega
    · obtain rfl : k = n := by omega
      go_wp2
      go_ret
      exact ⟨rfl, copied_own HC HX.out.len mx, HC.below, HC.top.lt⟩
end Go.Proofs.Ytjmfkodbilknlaa

/- The harness of the exact laws: games. -/
namespace Go.Proofs.Ytjmfkodbilknlaa
open Go.RowKit

theorem szR_le (left : Int) (xs : List (List Int)) (h0 : 0 ≤ left) (h1 : left ≤ 1048576) : -1 ≤ szR left xs ∧ szR left xs ≤ 1048576 := by
  induction xs generalizing left with
  | nil => simp only [szR]; omega
  | cons x xs ih =>
    have := szI_le left x.length h0 h1
    rw [szR]
    split
    · omega
    · exact ih _ (by omega) (by omega)
theorem szRR_le (left : Int) (xs : List (List Int)) (h0 : 0 ≤ left) (h1 : left ≤ 1048576) : -1 ≤ szRR left xs ∧ szRR left xs ≤ 1048576 := by
  have := szI_le left xs.length h0 h1
  rw [szRR]
  split
  · omega
  · exact szR_le _ _ (by omega) (by omega)

def szG (left : Int) (xs ys : List (List Int)) : Int := if szRR left xs < 0 then -1 else if szRR (szRR left xs) ys < 0 then -1 else szRR (szRR left xs) ys
theorem szG_no1 {left : Int} {xs ys : List (List Int)} (h : szRR left xs < 0) : szG left xs ys = -1 := by rw [szG, if_pos h]
theorem szG_eq {left : Int} {xs ys : List (List Int)} (h : ¬ szRR left xs < 0) (h1 : -1 ≤ szRR (szRR left xs) ys) : szG left xs ys = szRR (szRR left xs) ys := by
  rw [szG, if_neg h]; split <;> omega
theorem szG_no2 {left : Int} {xs ys : List (List Int)} (h : ¬ szRR left xs < 0) (h1 : szRR (szRR left xs) ys < 0) : szG left xs ys = -1 := by
  rw [szG, if_neg h, if_pos h1]

set_option maxHeartbeats 400000 in
theorem szGame_any (A B : Option Addr) (n c m d : Nat) (xs ys : List (List Int)) (left : Int) (w : World) (hx : IntRows w A n c xs) (hy : IntRows w B m d ys) (h0 : 0 ≤ left) (h1 : left ≤ 1048576) :
    Calls Try.prog 22 #[.agg #[.slice A n c, .slice B m d], .int .i64 left] w fun e w' => e = .returned (.int .i64 (szG left xs ys)) ∧ Below w.heap.size w w' := by
  have HX := Lib.hid hx
  have HY := Lib.hid hy
  clear hx hy
  have hb := szRR_le left xs h0 h1
  by_cases hs : szRR left xs < 0
  · have HS := Lib.hid (szG_no1 (ys := ys) hs)
    go_enter Try.func22, Try.ntmps22
    go_wp2_with fail
    refine (szIntSS_any _ _ _ _ _ _ (HX.out.keep (Keep.below (below_alloc _ _))) h0 h1).mono ?_
    rintro e w1 ⟨rfl, q, rfl⟩
    go_wp2
    go_ret
    exact ⟨ret_int HS.out.symm, below_drewN (below_alloc _ _) _⟩
  · have hb2 := szRR_le (szRR left xs) ys (by omega) hb.2
    by_cases hs2 : szRR (szRR left xs) ys < 0
    · have HS := Lib.hid (szG_no2 hs hs2)
      go_enter Try.func22, Try.ntmps22
      go_wp2_with fail
      refine (szIntSS_any _ _ _ _ _ _ (HX.out.keep (Keep.below (below_alloc _ _))) h0 h1).mono ?_
      rintro e w1 ⟨rfl, q, rfl⟩
      go_wp2_with fail
      refine (szIntSS_any _ _ _ _ _ _ (HY.out.keep (Keep.below (below_drewN (below_alloc _ _) _))) (by omega) hb.2).mono ?_
      rintro e w1 ⟨rfl, q2, rfl⟩
      go_wp2
      go_ret
      exact ⟨ret_int HS.out.symm, by first | exact below_drewN (below_alloc _ _) _ | exact below_drewN (below_drewN (below_alloc _ _) _) _⟩
    · have HS := Lib.hid (szG_eq hs (ys := ys) (by omega))
      go_enter Try.func22, Try.ntmps22
      go_wp2_with fail
      refine (szIntSS_any _ _ _ _ _ _ (HX.out.keep (Keep.below (below_alloc _ _))) h0 h1).mono ?_
      rintro e w1 ⟨rfl, q, rfl⟩
      go_wp2_with fail
      refine (szIntSS_any _ _ _ _ _ _ (HY.out.keep (Keep.below (below_drewN (below_alloc _ _) _))) (by omega) hb.2).mono ?_
      rintro e w1 ⟨rfl, q2, rfl⟩
      go_wp2
      go_ret
      exact ⟨ret_int HS.out.symm, by first | exact below_drewN (below_alloc _ _) _ | exact below_drewN (below_drewN (below_alloc _ _) _) _⟩

def MadeG (w : World) (n m : Nat) (xs ys : List (List Int)) (e : Ending) (w' : World) : Prop :=
  ∃ g1 g2 mid, e = .returned (.agg #[.slice (some ⟨g1, 0, none⟩) n n, .slice (some ⟨g2, 0, none⟩) m m]) ∧ OwnR w.heap.size mid w' g1 (some ⟨g1, 0, none⟩) n n xs ∧ OwnR mid w'.heap.size w' g2 (some ⟨g2, 0, none⟩) m m ys ∧
    Below w.heap.size w w' ∧ w.heap.size ≤ mid ∧ mid ≤ w'.heap.size

set_option maxHeartbeats 400000 in
theorem toGame_any (A B : Option Addr) (n c m d : Nat) (xs ys : List (List Int)) (w : World) (hx : IntRows w A n c xs) (hy : IntRows w B m d ys) :
    Calls Try.prog 24 #[.agg #[.slice A n c, .slice B m d]] w (MadeG w n m xs ys) := by
  have HX := Lib.hid hx
  have HY := Lib.hid hy
  clear hx hy
  go_enter Try.func24, Try.ntmps24
  go_wp2_with fail
  have b0 := blk_old (blk_old (blk_new w 40 #[.slice A n c, .slice B m d]) (.cells #[.slice none 0 0, .slice none 0 0] 43)) (.cells #[.slice none 0 0, .slice none 0 0] 43)
  have b1 := blk_old (blk_new (w.alloc (.cells #[.slice A n c, .slice B m d] 40)) 43 #[.slice none 0 0, .slice none 0 0]) (.cells #[.slice none 0 0, .slice none 0 0] 43)
  have b2 := blk_new ((w.alloc (.cells #[.slice A n c, .slice B m d] 40)).alloc (.cells #[.slice none 0 0, .slice none 0 0] 43)) 43 #[.slice none 0 0, .slice none 0 0]
  have hb0 := below_up (below_up (below_alloc w (.cells #[.slice A n c, .slice B m d] 40)) (below_alloc _ (.cells #[.slice none 0 0, .slice none 0 0] 43))) (below_alloc _ (.cells #[.slice none 0 0, .slice none 0 0] 43))
  simp only [World.size_alloc] at b0 b1 b2
  generalize (((w.alloc (.cells #[.slice A n c, .slice B m d] 40)).alloc (.cells #[.slice none 0 0, .slice none 0 0] 43)).alloc (.cells #[.slice none 0 0, .slice none 0 0] 43)) = W1 at *
  refine (toIntSS_any _ _ _ _ _ (HX.out.keep (Keep.below hb0))).mono ?_
  rintro e w1 ⟨rfl, hown, hb, -⟩
  have HO := Lib.hid hown
  have HB1 := Lib.hid (below_up hb0 hb)
  have hz0 := blk_lt b2
  have b0 := blk_below b0 hb
  have b1 := blk_below b1 hb
  have b2 := blk_below b2 hb
  have hz : w.heap.size + 1 + 1 < W1.heap.size := hz0
  clear hown hb hb0
  generalize W1.heap.size = g1 at *
  have c1 := blk_cell b0 (i := 1) rfl
  have c2 := blk_cell b2 (i := 0) rfl
  have f2 := blk_frozen b2 0
  go_wp2_with fail
  clear c1 c2 f2
  have B2 := (blk_set b2 0 (.slice (some ⟨g1, 0, none⟩) n n))
  have b1 := (blk_other b1 (p := ⟨w.heap.size + 1 + 1, 0, none⟩) (by simp) (.slice (some ⟨g1, 0, none⟩) n n))
  have HB2 := HB1.out.setCell (p := ⟨w.heap.size + 1 + 1, 0, none⟩) (by simp; omega) (.slice (some ⟨g1, 0, none⟩) n n)
  have HO2 := Lib.hid (HO.out.of_blocks (w' := w1.setCell ⟨w.heap.size + 1 + 1, 0, none⟩ (.slice (some ⟨g1, 0, none⟩) n n)) fun g h1 _ _ => Below.heap_setCell _ _ _ _ (by show g ≠ w.heap.size + 1 + 1; omega))
  have hz3 : w.heap.size < w1.heap.size := by have := blk_lt b2; omega
  have hw1 : w1.heap.size = (w1.setCell ⟨w.heap.size + 1 + 1, 0, none⟩ (.slice (some ⟨g1, 0, none⟩) n n)).heap.size := by simp
  have HO := Lib.hid (HO2.out.mono (Nat.le_refl _) (Nat.le_of_eq hw1))
  clear HO2 HB1 b0 b2 hw1
  generalize w1.setCell ⟨w.heap.size + 1 + 1, 0, none⟩ (.slice (some ⟨g1, 0, none⟩) n n) = W2 at *
  refine (toIntSS_any _ _ _ _ _ (HY.out.keep (Keep.below HB2))).mono ?_
  rintro e w2 ⟨rfl, hown2, hb, -⟩
  have HP := Lib.hid hown2
  have HO2 := Lib.hid (HO.out.below hb)
  have hz5 := hb.size
  have HB3 := Lib.hid (below_up HB2 hb)
  have b1 := blk_below b1 hb
  have b2 := blk_below B2 hb
  have hz4 : w.heap.size + 1 + 1 < W2.heap.size := blk_lt B2
  clear hb hown2 HB2 B2 HO
  generalize W2.heap.size = g2 at *
  have c2 := blk_cell b2 (i := 0) rfl
  have c3 := blk_cell b2 (i := 1) rfl
  have f2 := blk_frozen b2 1
  have c4 := blk_cell b1 (i := 0) rfl
  have c5 := blk_cell b1 (i := 1) rfl
  have f4 := blk_frozen b1 0
  have f5 := blk_frozen b1 1

  go_wp2
  clear c2 c3 f2 c4 c5 f4 f5
  have hT := (((Touch.refl w.heap.size (w.heap.size + 1 + 1 + 1) w2).set (p := ⟨w.heap.size + 1 + 1, 1, none⟩) (by show w.heap.size ≤ w.heap.size + 1 + 1; omega) (by show w.heap.size + 1 + 1 < _; omega) (.slice (some ⟨g2, 0, none⟩) m m)).set
    (p := ⟨w.heap.size + 1, 0, none⟩) (by show w.heap.size ≤ w.heap.size + 1; omega) (by show w.heap.size + 1 < _; omega) (.slice (some ⟨g1, 0, none⟩) n n)).set
    (p := ⟨w.heap.size + 1, 1, none⟩) (by show w.heap.size ≤ w.heap.size + 1; omega) (by show w.heap.size + 1 < _; omega) (.slice (some ⟨g2, 0, none⟩) m m)
  have b1c := blk_set (blk_set (blk_other b1 (p := ⟨w.heap.size + 1 + 1, 1, none⟩) (by simp) (.slice (some ⟨g2, 0, none⟩) m m)) 0 (.slice (some ⟨g1, 0, none⟩) n n)) 1 (.slice (some ⟨g2, 0, none⟩) m m)
  generalize ((w2.setCell ⟨w.heap.size + 1 + 1, 1, none⟩ (.slice (some ⟨g2, 0, none⟩) m m)).setCell ⟨w.heap.size + 1, 0, none⟩ (.slice (some ⟨g1, 0, none⟩) n n)).setCell ⟨w.heap.size + 1, 1, none⟩ (.slice (some ⟨g2, 0, none⟩) m m) = W3 at *
  have k0 : W3.cell? ⟨w.heap.size + 1, 0, none⟩ = some (.slice (some ⟨g1, 0, none⟩) n n) := blk_cell b1c rfl
  have k1 : W3.cell? ⟨w.heap.size + 1, 1, none⟩ = some (.slice (some ⟨g2, 0, none⟩) m m) := blk_cell b1c rfl
  refine bodyPost_ret (v := .agg #[.slice (some ⟨g1, 0, none⟩) n n, .slice (some ⟨g2, 0, none⟩) m m]) (by simp [results, Try.results24, go_sem, k0, k1]) rfl ?_
  have hsz := hT.size
  exact ⟨g1, g2, g2, rfl, (HO2.out.touch hT (.inr (by omega))).mono (by omega) (Nat.le_refl _), (HP.out.touch hT (.inr (by omega))).mono (Nat.le_refl _) (Nat.le_of_eq hT.size.symm), Touch.below HB3.out hT (Nat.le_refl _), by omega, by omega⟩

def eqG (xs ys zs us : List (List Int)) : Bool := eqRR xs zs && eqRR ys us

set_option maxHeartbeats 400000 in
theorem eqGame_any (A B C D : Option Addr) (n c m d n' c' m' d' : Nat) (xs ys zs us : List (List Int)) (w : World) (hx : IntRows w A n c xs) (hy : IntRows w B m d ys) (hz : IntRows w C n' c' zs) (hu : IntRows w D m' d' us) :
    Calls Try.prog 26 #[.agg #[.slice A n c, .slice B m d], .agg #[.slice C n' c', .slice D m' d']] w fun e w' => e = .returned (.bool (eqG xs ys zs us)) ∧ Below w.heap.size w w' := by
  have HX := Lib.hid hx
  have HY := Lib.hid hy
  have HZ := Lib.hid hz
  have HU := Lib.hid hu
  clear hx hy hz hu
  cases h1 : eqRR xs zs with
  | false =>
    have HE := Lib.hid (show eqG xs ys zs us = false by simp [eqG, h1])
    go_enter Try.func26, Try.ntmps26
    go_wp2_with fail
    have hb0 := below_up (below_alloc w (.cells #[.slice A n c, .slice B m d] 43)) (below_alloc _ (.cells #[.slice C n' c', .slice D m' d'] 43))
    refine ((h1 ▸ eqIntSS_any _ _ _ _ _ _ _ _ _ (HX.out.keep (Keep.below hb0)) (HZ.out.keep (Keep.below hb0)))).mono ?_
    rintro e w1 ⟨rfl, hq⟩
    have HB := Lib.hid (below_quiet hb0 hq)
    clear hq hb0 h1
    go_wp2
    go_ret
    exact ⟨ret_bool HE.out.symm, HB.out⟩
  | true =>
    have HE := Lib.hid (show eqG xs ys zs us = eqRR ys us by simp [eqG, h1])
    go_enter Try.func26, Try.ntmps26
    go_wp2_with fail
    have hb0 := below_up (below_alloc w (.cells #[.slice A n c, .slice B m d] 43)) (below_alloc _ (.cells #[.slice C n' c', .slice D m' d'] 43))
    have b0 := blk_old (blk_new w 43 #[.slice A n c, .slice B m d]) (.cells #[.slice C n' c', .slice D m' d'] 43)
    have b1 := blk_new (w.alloc (.cells #[.slice A n c, .slice B m d] 43)) 43 #[.slice C n' c', .slice D m' d']
    simp only [World.size_alloc] at b1
    generalize (w.alloc (.cells #[.slice A n c, .slice B m d] 43)).alloc (.cells #[.slice C n' c', .slice D m' d'] 43) = W1 at *
    refine ((h1 ▸ eqIntSS_any _ _ _ _ _ _ _ _ _ (HX.out.keep (Keep.below hb0)) (HZ.out.keep (Keep.below hb0)))).mono ?_
    rintro e w1 ⟨rfl, hq⟩
    have hb1 := below_quiet hb0 hq
    have c0 := blk_cell (blk_quiet b0 hq) (i := 1) rfl
    have c1 := blk_cell (blk_quiet b1 hq) (i := 1) rfl
    have HB := Lib.hid hb1
    clear hq hb0 h1 b0 b1 hb1
    go_wp2_with fail
    cases h2 : eqRR ys us with
    | false =>
      refine ((h2 ▸ eqIntSS_any _ _ _ _ _ _ _ _ _ (HY.out.keep (Keep.below HB.out)) (HU.out.keep (Keep.below HB.out)))).mono ?_
      rintro e w2 ⟨rfl, hq⟩
      rw [h2] at HE
      have HB2 := Lib.hid (below_quiet HB.out hq)
      clear hq h2
      go_wp2
      go_ret
      exact ⟨ret_bool HE.out.symm, HB2.out⟩
    | true =>
      refine ((h2 ▸ eqIntSS_any _ _ _ _ _ _ _ _ _ (HY.out.keep (Keep.below HB.out)) (HU.out.keep (Keep.below HB.out)))).mono ?_
      rintro e w2 ⟨rfl, hq⟩
      rw [h2] at HE
      have HB2 := Lib.hid (below_quiet HB.out hq)
      clear hq h2
      go_wp2
      go_ret
      exact ⟨ret_bool HE.out.symm, HB2.out⟩
theorem eqG_refl (xs ys : List (List Int)) : eqG xs ys xs ys = true := by simp [eqG, eqRR]
end Go.Proofs.Ytjmfkodbilknlaa

