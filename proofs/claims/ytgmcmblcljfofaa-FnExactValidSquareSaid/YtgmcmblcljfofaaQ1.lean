/- Texts merged: Mem A1 Math1 B1 IP B2 Z1 A2. -/
import Derived.Test.YtgmcmblcljfofaaRows
import Derived.WalkKit
import Derived.WalkSpells
import Derived.WalkLawsBesides
import Derived.Deep.QuietTactic
import Derived.BigQuiet
import Derived.Lib.Hide
import Derived.Deep.Matrix
import Derived.Deep.AppendLies
import Derived.Deep.Draws
import Derived.Maps.AppendAt
import Derived.Deep.OwnRows
/- Words for memory: slices of ints and slices of these, as lists. -/
namespace Go.Proofs.Ytgmcmblcljfofaa
open Go.RowKit

/-- The element of a list at a place, 0 behind its end; the row at a place. -/
def gi (xs : List Int) (k : Nat) : Int := xs.getD k 0
def gr (xss : List (List Int)) (k : Nat) : List Int := xss.getD k []
theorem gi_get {xs : List Int} {k : Nat} (h : k < xs.length) : gi xs k = xs[k] := by simp [gi, List.getD, List.getElem?_eq_getElem h]
theorem gr_get {xs : List (List Int)} {k : Nat} (h : k < xs.length) : gr xs k = xs[k] := by simp [gr, List.getD, List.getElem?_eq_getElem h]
theorem gi_mem {xs : List Int} {k : Nat} (h : k < xs.length) : gi xs k ∈ xs := by rw [gi_get h]; exact List.getElem_mem h
theorem gr_mem {xs : List (List Int)} {k : Nat} (h : k < xs.length) : gr xs k ∈ xs := by rw [gr_get h]; exact List.getElem_mem h
theorem gi_ext {xs ys : List Int} (hl : xs.length = ys.length) (h : ∀ k, k < xs.length → gi xs k = gi ys k) : xs = ys :=
  List.ext_getElem hl fun i h1 h2 => by rw [← gi_get h1, ← gi_get h2]; exact h i h1
theorem gr_ext {xs ys : List (List Int)} (hl : xs.length = ys.length) (h : ∀ k, k < xs.length → gr xs k = gr ys k) : xs = ys :=
  List.ext_getElem hl fun i h1 h2 => by rw [← gr_get h1, ← gr_get h2]; exact h i h1

theorem ret_int {k : IntKind} {a b : Int} (h : a = b) : Ending.returned (.int k a) = .returned (.int k b) := by rw [h]
theorem ret_bool {a b : Bool} (h : a = b) : Ending.returned (.bool a) = .returned (.bool b) := by rw [h]

def Quiet (w w' : World) : Prop := ∃ n, w' = w.drewN n
theorem Quiet.refl (w : World) : Quiet w w := ⟨0, rfl⟩
theorem Quiet.trans {a b c : World} (h : Quiet a b) (k : Quiet b c) : Quiet a c := by
  obtain ⟨n, rfl⟩ := h; obtain ⟨m, rfl⟩ := k; exact ⟨n + m, by rw [World.drewN_drewN]⟩

/-- A slice value whose cells read as ints. -/
structure Ints (w : World) (A : Option Addr) (n c : Nat) (xs : List Int) : Prop where
  len : xs.length = n
  cap : n ≤ c
  max : n ≤ 17592186044416
  wf : ∀ x ∈ xs, -9223372036854775808 ≤ x ∧ x ≤ 9223372036854775807
  at_ : 0 < n → ∃ b o, A = some ⟨b, o, none⟩ ∧ ∀ k, k < n → w.cell? ⟨b, o + k, none⟩ = some (.int .i64 (gi xs k))

theorem Quiet.two (w : World) (a b : Nat) : Quiet w ((w.drewN a).drewN b) := ⟨a + b, by rw [World.drewN_drewN]⟩

/-- A quiet callee, met in a quiet region: the draws add up. -/
theorem quiet_fit {P : Program} {f : FuncId} {args : Array Value} {W : World} {v : Value} {C : World → Prop}
    (h : Calls P f args W fun e w' => e = .returned v ∧ Quiet W w') (hC : ∀ m, C (W.drewN m)) : Calls P f args W fun e w' => e = .returned v ∧ C w' :=
  h.mono fun _ _ ⟨he, m, hm⟩ => ⟨he, by rw [hm]; exact hC m⟩
theorem same_fit {P : Program} {f : FuncId} {args : Array Value} {W : World} {v : Value} {C : World → Prop}
    (h : Calls P f args W fun e w' => e = .returned v ∧ W = w') (hC : ∀ m, C (W.drewN m)) : Calls P f args W fun e w' => e = .returned v ∧ C w' :=
  h.mono fun _ _ ⟨he, hm⟩ => ⟨he, by rw [← hm]; exact hC 0⟩
theorem drewN_to1 (w : World) (a b : Nat) : ∃ m, (w.drewN a).drewN b = w.drewN m := ⟨a + b, by rw [World.drewN_drewN]⟩
theorem drewN_to2 (w : World) (a b c : Nat) : ∃ m, (w.drewN (a + b)).drewN c = w.drewN (a + m) := ⟨b + c, by rw [World.drewN_drewN, Nat.add_assoc]⟩

/-- Every cell that was there reads as it did. -/
def Keep (w w' : World) : Prop := ∀ p u, w.cell? p = some u → w'.cell? p = some u
theorem Keep.refl (w : World) : Keep w w := fun _ _ h => h
theorem Keep.trans {a b c : World} (h : Keep a b) (k : Keep b c) : Keep a c := fun p u e => k p u (h p u e)
theorem Keep.drewN (w : World) (n : Nat) : Keep w (w.drewN n) := fun _ _ h => h
theorem Keep.below {w w' : World} (h : Below w.heap.size w w') : Keep w w' := fun p u e => by
  rw [h.cell (World.block_lt_of_cell? w p e)]; exact e
theorem Keep.quiet {w w' : World} (h : Quiet w w') : Keep w w' := by obtain ⟨n, rfl⟩ := h; exact Keep.drewN w n

theorem Ints.keep {w w' : World} {A n c xs} (h : Ints w A n c xs) (k : Keep w w') : Ints w' A n c xs :=
  ⟨h.len, h.cap, h.max, h.wf, fun hn => let ⟨b, o, e, hc⟩ := h.at_ hn; ⟨b, o, e, fun i hi => k _ _ (hc i hi)⟩⟩

structure IntRows (w : World) (A : Option Addr) (n c : Nat) (xss : List (List Int)) : Prop where
  len : xss.length = n
  cap : n ≤ c
  max : n ≤ 5864062014805
  at_ : 0 < n → ∃ b o, A = some ⟨b, o, none⟩ ∧ ∀ k, k < n → ∃ R cc, w.cell? ⟨b, o + k, none⟩ = some (.slice R (gr xss k).length cc) ∧ Ints w R (gr xss k).length cc (gr xss k)

theorem IntRows.keep {w w' : World} {A n c xs} (h : IntRows w A n c xs) (k : Keep w w') : IntRows w' A n c xs :=
  ⟨h.len, h.cap, h.max, fun hn => let ⟨b, o, e, hc⟩ := h.at_ hn; ⟨b, o, e, fun i hi => let ⟨R, cc, h1, h2⟩ := hc i hi; ⟨R, cc, k _ _ h1, h2.keep k⟩⟩⟩


/-- .. and which the call owns: in block b, from number lo up to less than hi, not frozen. -/
structure OwnI (lo hi : Nat) (w : World) (b : Nat) (A : Option Addr) (n c : Nat) (xs : List Int) : Prop where
  ints : Ints w A n c xs
  own : 0 < n → ∃ o, A = some ⟨b, o, none⟩ ∧ lo ≤ b ∧ b < hi ∧ ∀ k, k < n → w.frozen? ⟨b, o + k, none⟩ = false

theorem OwnI.lt {lo hi w b A n c xs} (h : OwnI lo hi w b A n c xs) (hn : 0 < n) : b < w.heap.size := by
  obtain ⟨b', o', e, hc⟩ := h.ints.at_ hn
  obtain ⟨o, e', _⟩ := h.own hn
  rw [e] at e'
  injection e' with e'
  injection e' with e1 _ _
  rw [← e1]
  exact World.block_lt_of_cell? w _ (hc 0 hn)
theorem OwnI.of_block {lo hi w w' b A n c xs} (h : OwnI lo hi w b A n c xs) (e : 0 < n → w'.heap[b]? = w.heap[b]?) : OwnI lo hi w' b A n c xs := by
  refine ⟨⟨h.ints.len, h.ints.cap, h.ints.max, h.ints.wf, fun hn => ?_⟩, fun hn => ?_⟩
  · obtain ⟨b', o', e1, hc⟩ := h.ints.at_ hn
    obtain ⟨o, e2, _⟩ := h.own hn
    rw [e1] at e2
    injection e2 with e2
    injection e2 with e2 _ _
    subst e2
    exact ⟨b', o', e1, fun k hk => by rw [World.cell?_of_block (w := w) (e hn)]; exact hc k hk⟩
  · obtain ⟨o, e2, hB, hB2, hf⟩ := h.own hn
    exact ⟨o, e2, hB, hB2, fun k hk => by rw [World.frozen?_of_block (w := w) (e hn)]; exact hf k hk⟩
theorem OwnI.mono {lo hi lo' hi' w b A n c xs} (h : OwnI lo hi w b A n c xs) (hB : lo' ≤ lo) (hB' : hi ≤ hi') : OwnI lo' hi' w b A n c xs :=
  ⟨h.ints, fun hn => let ⟨o, e, h1, h2, h3⟩ := h.own hn; ⟨o, e, Nat.le_trans hB h1, Nat.lt_of_lt_of_le h2 hB', h3⟩⟩
theorem OwnI.below {lo hi w w' b A n c xs} (h : OwnI lo hi w b A n c xs) (k : Below w.heap.size w w') : OwnI lo hi w' b A n c xs :=
  h.of_block fun hn => k.block _ (h.lt hn)
theorem OwnI.quiet {lo hi w w' b A n c xs} (h : OwnI lo hi w b A n c xs) (k : Quiet w w') : OwnI lo hi w' b A n c xs := by
  obtain ⟨m, rfl⟩ := k; exact h.of_block fun _ => rfl
theorem OwnI.nil (lo hi : Nat) (w : World) (b : Nat) : OwnI lo hi w b none 0 0 [] :=
  ⟨⟨rfl, Nat.le_refl _, by omega, fun _ h => by simp at h, fun h => absurd h (by omega)⟩, fun h => absurd h (by omega)⟩
/-- It returns v, and nothing that was there has turned. -/
def Ret (v : Value) (w : World) (e : Ending) (w' : World) : Prop := e = .returned v ∧ Below w.heap.size w w'

/-- Only blocks from lo up to less than hi have turned. -/
structure Touch (lo hi : Nat) (w w' : World) : Prop where
  os : w'.os = w.os
  tape : w'.tape = w.tape
  output : w'.output = w.output
  size : w'.heap.size = w.heap.size
  block : ∀ k, k < lo ∨ hi ≤ k → w'.heap[k]? = w.heap[k]?
theorem Touch.refl (lo hi : Nat) (w : World) : Touch lo hi w w := ⟨rfl, rfl, rfl, rfl, fun _ _ => rfl⟩
theorem Touch.trans {lo hi : Nat} {a b c : World} (h : Touch lo hi a b) (k : Touch lo hi b c) : Touch lo hi a c :=
  ⟨k.os.trans h.os, k.tape.trans h.tape, k.output.trans h.output, k.size.trans h.size, fun i hi => (k.block i hi).trans (h.block i hi)⟩
theorem Touch.mono {lo hi lo' hi' : Nat} {w w' : World} (h : Touch lo hi w w') (h1 : lo' ≤ lo) (h2 : hi ≤ hi') : Touch lo' hi' w w' :=
  ⟨h.os, h.tape, h.output, h.size, fun k hk => h.block k (by omega)⟩
theorem Touch.set {lo hi : Nat} {a w : World} (h : Touch lo hi a w) {p : Addr} (h1 : lo ≤ p.block) (h2 : p.block < hi) (u : Value) : Touch lo hi a (w.setCell p u) :=
  ⟨h.os, h.tape, h.output, by simpa [World.setCell] using h.size, fun k hk => (Below.heap_setCell _ _ _ _ (by omega)).trans (h.block k hk)⟩
theorem Touch.quiet {lo hi : Nat} {a w w' : World} (h : Touch lo hi a w) (k : Quiet w w') : Touch lo hi a w' := by
  obtain ⟨m, rfl⟩ := k; exact ⟨h.os, h.tape, h.output, h.size, h.block⟩
theorem Touch.below {lo hi B : Nat} {a w w' : World} (h : Below B a w) (k : Touch lo hi w w') (hB : B ≤ lo) : Below B a w' :=
  ⟨k.os.trans h.os, k.tape.trans h.tape, k.output.trans h.output, by rw [k.size]; exact h.size, fun i hi => (k.block i (.inl (by omega))).trans (h.block i hi)⟩
/-- A block that is known whole. -/
def Blk (w : World) (g : Nat) (t : TypeId) (cs : Array Value) : Prop := w.heap[g]? = some (.cells cs t (0, 0))
theorem blk_lt {w g t cs} (h : Blk w g t cs) : g < w.heap.size := (Array.getElem?_eq_some_iff.1 h).1
theorem blk_cell {w g t cs} (h : Blk w g t cs) {i : Nat} {v : Value} (hv : cs[i]? = some v) : w.cell? ⟨g, i, none⟩ = some v := by
  unfold Blk at h; simp [World.cell?, h, hv]
theorem blk_frozen {w g t cs} (h : Blk w g t cs) (i : Nat) : w.frozen? ⟨g, i, none⟩ = false := by
  unfold Blk at h; simp [World.frozen?, h]
theorem blk_new (w : World) (t : TypeId) (cs : Array Value) : Blk (w.alloc (.cells cs t)) w.heap.size t cs := heap_alloc_new w _
theorem blk_old {w g t cs} (h : Blk w g t cs) (o : Obj) : Blk (w.alloc o) g t cs := (Below.heap_alloc w o g (blk_lt h)).trans h
theorem blk_below {w w' g t cs} (h : Blk w g t cs) (k : Below w.heap.size w w') : Blk w' g t cs := (k.block g (blk_lt h)).trans h
theorem blk_touch {w w' g t cs lo hi} (h : Blk w g t cs) (k : Touch lo hi w w') (hd : g < lo ∨ hi ≤ g) : Blk w' g t cs := (k.block g hd).trans h
theorem blk_set {w g t cs} (h : Blk w g t cs) (i : Nat) (u : Value) : Blk (w.setCell ⟨g, i, none⟩ u) g t (cs.setIfInBounds i u) := by
  unfold Blk at h ⊢
  simp [World.setCell, Array.getElem?_modify, h]
theorem blk_other {w g t cs} (h : Blk w g t cs) {p : Addr} (hp : g ≠ p.block) (u : Value) : Blk (w.setCell p u) g t cs := (Below.heap_setCell w p u g hp).trans h
theorem blk_quiet {w w' g t cs} (h : Blk w g t cs) (k : Quiet w w') : Blk w' g t cs := by obtain ⟨m, rfl⟩ := k; exact h

theorem Quiet.below {B : Nat} {w w' : World} (h : Quiet w w') : Below B w w' := by
  obtain ⟨n, rfl⟩ := h; exact ⟨rfl, rfl, rfl, Nat.le_refl _, fun _ _ => rfl⟩
theorem below_drewN {B : Nat} {a w : World} (h : Below B a w) (n : Nat) : Below B a (w.drewN n) := ⟨h.os, h.tape, h.output, h.size, h.block⟩
theorem below_alloc (w : World) (o : Obj) : Below w.heap.size w (w.alloc o) := (Below.refl _ _).alloc (Nat.le_refl _) o
theorem below_up {w w1 w2 : World} (h : Below w.heap.size w w1) (k : Below w1.heap.size w1 w2) : Below w.heap.size w w2 := h.trans (k.mono h.size)
theorem below_quiet {w w1 w2 : World} (h : Below w.heap.size w w1) (k : Quiet w1 w2) : Below w.heap.size w w2 := by obtain ⟨m, rfl⟩ := k; exact below_drewN h m

theorem OwnI.of_rowIs {lo hi w g n} {xs : List Int} (hl : xs.length = n) (hm : n ≤ 17592186044416) (hw : ∀ x ∈ xs, -9223372036854775808 ≤ x ∧ x ≤ 9223372036854775807)
    (hB : lo ≤ g) (hB' : g < hi) {f : Nat → Value} (h : w.rowIs g 3 n f) (hf : ∀ k, k < n → f k = .int .i64 (gi xs k)) : OwnI lo hi w g (some ⟨g, 0, none⟩) n n xs :=
  ⟨⟨hl, Nat.le_refl _, hm, hw, fun _ => ⟨g, 0, rfl, fun k hk => by rw [Nat.zero_add, h.cell hk, hf k hk]⟩⟩, fun _ => ⟨0, rfl, hB, hB', fun k _ => by rw [Nat.zero_add]; exact h.frozen k⟩⟩

/-- Rows of their own, each in a block of its own. -/
structure OwnR (lo hi : Nat) (w : World) (b : Nat) (A : Option Addr) (n c : Nat) (xss : List (List Int)) : Prop where
  len : xss.length = n
  cap : n ≤ c
  max : n ≤ 5864062014805
  at_ : 0 < n → ∃ (o : Nat) (G : Nat → Nat) (R : Nat → Option Addr) (C : Nat → Nat), A = some ⟨b, o, none⟩ ∧ lo ≤ b ∧ b < hi ∧ (∀ k, k < n → w.frozen? ⟨b, o + k, none⟩ = false ∧
      w.cell? ⟨b, o + k, none⟩ = some (.slice (R k) (gr xss k).length (C k)) ∧ OwnI lo hi w (G k) (R k) (gr xss k).length (C k) (gr xss k) ∧ (0 < (gr xss k).length → G k ≠ b)) ∧
      ∀ j k, j < k → k < n → 0 < (gr xss j).length → 0 < (gr xss k).length → G j ≠ G k

theorem OwnR.rows {lo hi w b A n c xss} (h : OwnR lo hi w b A n c xss) : IntRows w A n c xss :=
  ⟨h.len, h.cap, h.max, fun hn => by
    obtain ⟨o, G, R, C, e, _, _, hr, _⟩ := h.at_ hn
    exact ⟨b, o, e, fun k hk => ⟨R k, C k, (hr k hk).2.1, (hr k hk).2.2.1.ints⟩⟩⟩
theorem OwnR.lt {lo hi w b A n c xss} (h : OwnR lo hi w b A n c xss) (hn : 0 < n) : b < w.heap.size := by
  obtain ⟨o, G, R, C, e, _, _, hr, _⟩ := h.at_ hn
  exact World.block_lt_of_cell? w _ (hr 0 hn).2.1
theorem OwnR.mono {lo hi lo' hi' w b A n c xss} (h : OwnR lo hi w b A n c xss) (hB : lo' ≤ lo) (hB' : hi ≤ hi') : OwnR lo' hi' w b A n c xss :=
  ⟨h.len, h.cap, h.max, fun hn => by
    obtain ⟨o, G, R, C, e, h1, h2, hr, hd⟩ := h.at_ hn
    exact ⟨o, G, R, C, e, Nat.le_trans hB h1, Nat.lt_of_lt_of_le h2 hB', fun k hk => ⟨(hr k hk).1, (hr k hk).2.1, (hr k hk).2.2.1.mono hB hB', (hr k hk).2.2.2⟩, hd⟩⟩
theorem OwnR.of_blocks {lo hi w w' b A n c xss} (h : OwnR lo hi w b A n c xss) (e : ∀ g, lo ≤ g → g < hi → g < w.heap.size → w'.heap[g]? = w.heap[g]?) : OwnR lo hi w' b A n c xss :=
  ⟨h.len, h.cap, h.max, fun hn => by
    have hbl := h.lt hn
    obtain ⟨o, G, R, C, ea, h1, h2, hr, hd⟩ := h.at_ hn
    have eb := e b h1 h2 hbl
    refine ⟨o, G, R, C, ea, h1, h2, fun k hk => ⟨?_, ?_, (hr k hk).2.2.1.of_block fun hp => ?_, (hr k hk).2.2.2⟩, hd⟩
    · rw [World.frozen?_of_block (w := w) eb]; exact (hr k hk).1
    · rw [World.cell?_of_block (w := w) eb]; exact (hr k hk).2.1
    · obtain ⟨_, _, hB, hB2, _⟩ := (hr k hk).2.2.1.own hp
      exact e _ hB hB2 ((hr k hk).2.2.1.lt hp)⟩
theorem OwnR.below {lo hi w w' b A n c xss} (h : OwnR lo hi w b A n c xss) (k : Below w.heap.size w w') : OwnR lo hi w' b A n c xss := h.of_blocks fun g _ _ hg => k.block g hg
theorem OwnR.quiet {lo hi w w' b A n c xss} (h : OwnR lo hi w b A n c xss) (k : Quiet w w') : OwnR lo hi w' b A n c xss := by
  obtain ⟨m, rfl⟩ := k; exact h.of_blocks fun _ _ _ _ => rfl
theorem OwnR.nil (lo hi : Nat) (w : World) (b : Nat) : OwnR lo hi w b none 0 0 [] := ⟨rfl, Nat.le_refl _, by omega, fun h => absurd h (by omega)⟩

/-- What lies elsewhere stays. -/
theorem OwnI.touch {lo hi lo' hi' w w' b A n c xs} (h : OwnI lo hi w b A n c xs) (k : Touch lo' hi' w w') (hd : hi ≤ lo' ∨ hi' ≤ lo) : OwnI lo hi w' b A n c xs :=
  h.of_block fun hn => k.block _ (by obtain ⟨_, _, h1, h2, _⟩ := h.own hn; omega)
theorem OwnR.touch {lo hi lo' hi' w w' b A n c xss} (h : OwnR lo hi w b A n c xss) (k : Touch lo' hi' w w') (hd : hi ≤ lo' ∨ hi' ≤ lo) : OwnR lo hi w' b A n c xss :=
  h.of_blocks fun g h1 h2 _ => k.block g (by omega)
/-- What lies below a number stays. -/
theorem Ints.touch {lo hi w w' A n c xs} (h : Ints w A n c xs) (k : Touch lo hi w w') {B : Nat} (hB : B ≤ lo) (hb : ∀ b o, 0 < n → A = some ⟨b, o, none⟩ → b < B) : Ints w' A n c xs :=
  ⟨h.len, h.cap, h.max, h.wf, fun hn => let ⟨b, o, e, hc⟩ := h.at_ hn; ⟨b, o, e, fun i hi => by rw [World.cell?_of_block (w := w) (k.block b (.inl (by have := hb b o hn e; omega)))]; exact hc i hi⟩⟩

end Go.Proofs.Ytgmcmblcljfofaa

/- The harness of the exact laws: sizes, copies, comparisons. -/
namespace Go.Proofs.Ytgmcmblcljfofaa
open Go.RowKit

def szI (left : Int) (n : Nat) : Int := if left - n < 0 then -1 else left - n

set_option maxHeartbeats 400000 in
theorem szIntS_any (A : Option Addr) (n c : Nat) (left : Int) (w : World) (hn : n ≤ 17592186044416) (h0 : 0 ≤ left) (h1 : left ≤ 1048576) :
    Calls Try.prog 46 #[.slice A n c, .int .i64 left] w fun e w' => e = .returned (.int .i64 (szI left n)) ∧ w = w' := by
  by_cases h : left - n < 0
  · go_enter Try.func46, Try.ntmps46
    go_wp2
    go_ret
    exact ⟨ret_int (by rw [szI, if_pos h]), rfl⟩
  · go_enter Try.func46, Try.ntmps46
    go_wp2
    go_ret
    exact ⟨ret_int (by rw [szI, if_neg (by omega)]), rfl⟩

def eqI (xs ys : List Int) : Bool := decide (xs = ys)
theorem eqI_len {xs ys : List Int} (h : xs.length ≠ ys.length) : eqI xs ys = false := by
  unfold eqI; exact decide_eq_false fun e => h (by rw [e])
theorem eqI_no {xs ys : List Int} {k : Nat} (h : gi xs k ≠ gi ys k) : eqI xs ys = false := by
  unfold eqI; exact decide_eq_false fun e => h (by rw [e])
theorem eqI_yes {xs ys : List Int} (hl : xs.length = ys.length) (h : ∀ k, k < xs.length → gi xs k = gi ys k) : eqI xs ys = true := by
  unfold eqI
  exact decide_eq_true (gi_ext hl h)

set_option maxHeartbeats 400000 in
theorem eqIntS_any (A B : Option Addr) (n c m d : Nat) (xs ys : List Int) (w : World) (hx : Ints w A n c xs) (hy : Ints w B m d ys) :
    Calls Try.prog 20 #[.slice A n c, .slice B m d] w fun e w' => e = .returned (.bool (eqI xs ys)) ∧ Quiet w w' := by
  obtain ⟨lx, cx, mx, _, hx⟩ := hx
  obtain ⟨ly, cy, my, _, hy⟩ := hy
  have Lx := Lib.hid lx
  have Ly := Lib.hid ly
  clear lx ly
  by_cases hnm : n = m
  · subst hnm
    go_enter Try.func20, Try.ntmps20
    go_wp2
    go_loopw [5] (fun i wr => ∃ k : Nat, k ≤ n ∧ i = .int .i64 k ∧ (∀ j, j < k → gi xs j = gi ys j) ∧ Quiet w wr) (fun i _ => n - (intOf i).toNat)
    case atStart => exact ⟨0, Nat.zero_le _, rfl, fun _ h => absurd h (by omega), Quiet.refl _⟩
    case round =>
      obtain ⟨k, hk, rfl, hall, q, rfl⟩ := hrel
      have HALL := Lib.hid hall
      clear hall
      by_cases hlt : k < n
      · obtain ⟨b, o, rfl, hcx⟩ := hx (by omega)
        obtain ⟨b2, o2, rfl, hcy⟩ := hy (by omega)
        have c1 := hcx k hlt
        have c2 := hcy k hlt
        clear hx hy hcx hcy
        by_cases he : gi xs k = gi ys k
        · have he' : (gi xs k != gi ys k) = false := by simp [he]
          have HE := Lib.hid he
          clear he
          go_wp2
          go_quiet (fail)
          go_wp2
          go_roundw
          case rel => exact ⟨k + 1, by omega, by go_num, fun j hj => by
            by_cases hjk : j < k
            · exact HALL.out j hjk
            · obtain rfl : j = k := by omega
              exact HE.out, ⟨_, rfl⟩⟩
          case measure => simp [intOf]; omega
        · have he' : (gi xs k != gi ys k) = true := by simpa using he
          go_wp2
          go_quiet (fail)
          go_wp2
          go_ret
          exact ⟨ret_bool (eqI_no he).symm, Quiet.two _ _ _⟩
      · obtain rfl : k = n := by omega
        go_wp2
        go_ret
        exact ⟨ret_bool (eqI_yes (by rw [Lx.out, Ly.out]) fun j hj => HALL.out j (by rw [Lx.out] at hj; exact hj)).symm, ⟨_, rfl⟩⟩
  · go_enter Try.func20, Try.ntmps20
    go_wp2
    go_ret
    exact ⟨ret_bool (eqI_len (by rw [Lx.out, Ly.out]; exact hnm)).symm, Quiet.refl _⟩

/-- The size of rows, off a bound. -/
def szR : Int → List (List Int) → Int
  | left, [] => left
  | left, x :: xs => if szI left x.length < 0 then -1 else szR (szI left x.length) xs
def szRR (left : Int) (xss : List (List Int)) : Int := if szI left xss.length < 0 then -1 else szR (szI left xss.length) xss
theorem szI_le (left : Int) (n : Nat) (h0 : 0 ≤ left) (h1 : left ≤ 1048576) : -1 ≤ szI left n ∧ szI left n ≤ 1048576 := by unfold szI; split <;> omega
theorem szR_neg {left : Int} {x : List Int} {xs : List (List Int)} (h : szI left x.length < 0) : szR left (x :: xs) = -1 := by rw [szR, if_pos h]
theorem szR_pos {left : Int} {x : List Int} {xs : List (List Int)} (h : ¬ szI left x.length < 0) : szR left (x :: xs) = szR (szI left x.length) xs := by rw [szR, if_neg h]
theorem gr_drop {xss : List (List Int)} {k : Nat} (h : k < xss.length) : xss.drop k = gr xss k :: xss.drop (k + 1) := by
  rw [gr_get h]; exact List.drop_eq_getElem_cons h

set_option maxHeartbeats 400000 in
theorem szIntSS_any (A : Option Addr) (n c : Nat) (xss : List (List Int)) (left : Int) (w : World) (hx : IntRows w A n c xss) (h0 : 0 ≤ left) (h1 : left ≤ 1048576) :
    Calls Try.prog 13 #[.slice A n c, .int .i64 left] w fun e w' => e = .returned (.int .i64 (szRR left xss)) ∧ Quiet w w' := by
  obtain ⟨lx, cx, mx, hx⟩ := hx
  have Lx := Lib.hid lx
  clear lx
  by_cases h : left - n < 0
  · go_enter Try.func13, Try.ntmps13
    go_wp2
    go_ret
    exact ⟨ret_int (by rw [szRR, Lx.out, szI, if_pos h]; rfl), Quiet.refl _⟩
  · go_enter Try.func13, Try.ntmps13
    go_wp2
    go_loopw [1, 5] (fun l i wr => ∃ (k : Nat) (z : Int), k ≤ n ∧ i = .int .i64 k ∧ l = .int .i64 z ∧ 0 ≤ z ∧ z ≤ 1048576 ∧ Hid (szRR left xss = szR z (xss.drop k)) ∧ Quiet w wr) (fun _ i _ => n - (intOf i).toNat)
    case atStart => exact ⟨0, left - n, Nat.zero_le _, rfl, rfl, by omega, by omega, Lib.hid (by rw [szRR, Lx.out, szI, if_neg (by omega), if_neg (by omega)]; rfl), Quiet.refl _⟩
    case round =>
      obtain ⟨k, z, hk, rfl, rfl, hz0, hz1, HS, q, rfl⟩ := hrel
      by_cases hlt : k < n
      · obtain ⟨b, o, rfl, hcx⟩ := hx (by omega)
        obtain ⟨R, cc, c1, hR⟩ := hcx k hlt
        clear hx hcx
        have hRl : (gr xss k).length ≤ 17592186044416 := hR.max
        have hsz := szI_le z (gr xss k).length hz0 hz1
        have HD := Lib.hid (gr_drop (xss := xss) (k := k) (by rw [Lx.out]; exact hlt))
        by_cases hn : szI z (gr xss k).length < 0
        · go_wp2_with (go_at_call 46; refine (szIntS_any _ _ _ _ _ hRl hz0 hz1).mono ?_; rintro e w' ⟨rfl, rfl⟩)
          go_ret
          exact ⟨ret_int (by rw [HS.out, HD.out, szR_neg hn]), ⟨_, rfl⟩⟩
        · go_wp2_with (go_at_call 46; refine (szIntS_any _ _ _ _ _ hRl hz0 hz1).mono ?_; rintro e w' ⟨rfl, rfl⟩)
          go_roundw
          case rel => exact ⟨k + 1, _, by omega, by go_num, rfl, by omega, hsz.2, Lib.hid (by rw [HS.out, HD.out, szR_pos (by omega)]), ⟨_, rfl⟩⟩
          case measure => simp [intOf]; omega
      · obtain rfl : k = n := by omega
        go_wp2
        go_ret
        exact ⟨ret_int (by rw [HS.out, List.drop_of_length_le (by rw [Lx.out]; exact Nat.le_refl _)]; rfl), ⟨_, rfl⟩⟩

def eqRR (xss yss : List (List Int)) : Bool := decide (xss = yss)
theorem eqRR_len {xs ys : List (List Int)} (h : xs.length ≠ ys.length) : eqRR xs ys = false := by
  unfold eqRR; exact decide_eq_false fun e => h (by rw [e])
theorem eqRR_no {xs ys : List (List Int)} {k : Nat} (h : eqI (gr xs k) (gr ys k) = false) : eqRR xs ys = false := by
  unfold eqRR; exact decide_eq_false fun e => by rw [e] at h; simp [eqI] at h
theorem eqRR_yes {xs ys : List (List Int)} (hl : xs.length = ys.length) (h : ∀ k, k < xs.length → eqI (gr xs k) (gr ys k) = true) : eqRR xs ys = true := by
  unfold eqRR
  exact decide_eq_true (gr_ext hl fun k hk => by simpa [eqI] using h k hk)

set_option maxHeartbeats 400000 in
theorem eqIntSS_any (A B : Option Addr) (n c m d : Nat) (xs ys : List (List Int)) (w : World) (hx : IntRows w A n c xs) (hy : IntRows w B m d ys) :
    Calls Try.prog 17 #[.slice A n c, .slice B m d] w fun e w' => e = .returned (.bool (eqRR xs ys)) ∧ Quiet w w' := by
  obtain ⟨lx, cx, mx, hx⟩ := hx
  obtain ⟨ly, cy, my, hy⟩ := hy
  have Lx := Lib.hid lx
  have Ly := Lib.hid ly
  clear lx ly
  by_cases hnm : n = m
  · subst hnm
    go_enter Try.func17, Try.ntmps17
    go_wp2
    go_loopw [5] (fun i wr => ∃ k : Nat, k ≤ n ∧ i = .int .i64 k ∧ Hid (∀ j, j < k → eqI (gr xs j) (gr ys j) = true) ∧ Quiet w wr) (fun i _ => n - (intOf i).toNat)
    case atStart => exact ⟨0, Nat.zero_le _, rfl, Lib.hid (fun _ h => absurd h (by omega)), Quiet.refl _⟩
    case round =>
      obtain ⟨k, hk, rfl, HALL, q, rfl⟩ := hrel
      by_cases hlt : k < n
      · obtain ⟨b, o, rfl, hcx⟩ := hx (by omega)
        obtain ⟨b2, o2, rfl, hcy⟩ := hy (by omega)
        obtain ⟨R, cc, c1, hR⟩ := hcx k hlt
        obtain ⟨R2, cc2, c2, hR2⟩ := hcy k hlt
        clear hx hy hcx hcy
        cases he : eqI (gr xs k) (gr ys k) with
        | true =>
          have HE := Lib.hid he
          have hq := fun W (hW : Quiet w W) => (he ▸ eqIntS_any _ _ _ _ _ _ _ _ W (hR.keep (Keep.quiet hW)) (hR2.keep (Keep.quiet hW)))
          clear he
          go_wp2
          go_quiet ((go_at_call 20; exact quiet_fit (hq _ (by first | exact ⟨_, rfl⟩ | exact Quiet.two _ _ _)) (fun m => by first | exact drewN_to1 _ _ _ | exact drewN_to2 _ _ _ _)))
          go_wp2
          go_roundw
          case rel => exact ⟨k + 1, by omega, by go_num, Lib.hid (fun j hj => by
            by_cases hjk : j < k
            · exact HALL.out j hjk
            · obtain rfl : j = k := by omega
              exact HE.out), ⟨_, rfl⟩⟩
          case measure => simp [intOf]; omega
        | false =>
          have HE := Lib.hid he
          have hq := fun W (hW : Quiet w W) => (he ▸ eqIntS_any _ _ _ _ _ _ _ _ W (hR.keep (Keep.quiet hW)) (hR2.keep (Keep.quiet hW)))
          clear he
          go_wp2
          go_quiet ((go_at_call 20; exact quiet_fit (hq _ (by first | exact ⟨_, rfl⟩ | exact Quiet.two _ _ _)) (fun m => by first | exact drewN_to1 _ _ _ | exact drewN_to2 _ _ _ _)))
          go_wp2
          go_ret
          exact ⟨ret_bool (eqRR_no HE.out).symm, Quiet.two _ _ _⟩
      · obtain rfl : k = n := by omega
        go_wp2
        go_ret
        exact ⟨ret_bool (eqRR_yes (by rw [Lx.out, Ly.out]) fun j hj => HALL.out j (by rw [Lx.out] at hj; exact hj)).symm, ⟨_, rfl⟩⟩
  · go_enter Try.func17, Try.ntmps17
    go_wp2
    go_ret
    exact ⟨ret_bool (eqRR_len (by rw [Lx.out, Ly.out]; exact hnm)).symm, Quiet.refl _⟩
end Go.Proofs.Ytgmcmblcljfofaa

/- Chapter 1 as plain functions on lists. -/
namespace Go.Proofs.Ytgmcmblcljfofaa

noncomputable def pb (p : Prop) : Bool := @decide p (Classical.propDecidable p)
theorem pb_true {p : Prop} (h : p) : pb p = true := by unfold pb; exact @decide_eq_true p (Classical.propDecidable p) h
theorem pb_false {p : Prop} (h : ¬ p) : pb p = false := by unfold pb; exact @decide_eq_false p (Classical.propDecidable p) h
theorem pb_iff {p : Prop} : pb p = true ↔ p := ⟨fun h => by unfold pb at h; exact @of_decide_eq_true p (Classical.propDecidable p) h, pb_true⟩
theorem pb_congr {p q : Prop} (h : p ↔ q) : pb p = pb q := by rw [propext h]

def InR (n lo hi : Int) : Prop := lo ≤ n ∧ n ≤ hi
def RowOk (a : List (List Int)) (i : Nat) : Prop := (gr a i).length = (gr a 0).length ∧ ∀ j, j < (gr a i).length → InR (gi (gr a i) j) (-9) 9
/-- A table: one to three rows of as many numbers, one to three, from -9 to 9. -/
structure VT (a : List (List Int)) : Prop where
  rows : ∀ i, i < a.length → RowOk a i
  n1 : 1 ≤ a.length
  n3 : a.length ≤ 3
  m1 : 1 ≤ (gr a 0).length
  m3 : (gr a 0).length ≤ 3

def RowV (r : List Int) : Prop := 1 ≤ r.length ∧ r.length ≤ 3 ∧ ∀ j, j < r.length → InR (gi r j) (-9) 9
theorem RowV_no {r : List Int} {j : Nat} (hj : j < r.length) (h : ¬ InR (gi r j) (-9) 9) : pb (RowV r) = false := pb_false fun v => h (v.2.2 j hj)
theorem VT_rowV {a : List (List Int)} (v : VT a) {i : Nat} (hi : i < a.length) : RowV (gr a i) := by
  have h := v.rows i hi
  have h1 := v.m1
  have h3 := v.m3
  exact ⟨by rw [h.1]; exact h1, by rw [h.1]; exact h3, h.2⟩
theorem VT_of {a : List (List Int)} (h1 : 1 ≤ a.length) (h3 : a.length ≤ 3) (h : ∀ i, i < a.length → (gr a i).length = (gr a 0).length ∧ RowV (gr a i)) : VT a :=
  ⟨fun i hi => ⟨(h i hi).1, (h i hi).2.2.2⟩, h1, h3, (h 0 (by omega)).2.1, (h 0 (by omega)).2.2.1⟩

structure VG (a b : List (List Int)) : Prop where
  ta : VT a
  tb : VT b
  n : a.length = b.length
  m : (gr a 0).length = (gr b 0).length

def g2 (a : List (List Int)) (i j : Nat) : Int := gi (gr a i) j
theorem VT.bd {a : List (List Int)} (v : VT a) {i j : Nat} (hi : i < a.length) (hj : j < (gr a 0).length) : -9 ≤ g2 a i j ∧ g2 a i j ≤ 9 := by
  have h := v.rows i hi
  exact h.2 j (by rw [h.1]; exact hj)

/-- The changes round four places. -/
def rnd (a b : List (List Int)) (i k j l : Nat) : Int := g2 a k j - g2 a i j + (g2 b k l - g2 b k j) + (g2 a i l - g2 a k l) + (g2 b i j - g2 b i l)
structure NR (a b : List (List Int)) : Prop where
  vg : VG a b
  no : ∀ i k j l, i < a.length → k < a.length → j < (gr a 0).length → l < (gr a 0).length → rnd a b i k j l = 0
theorem NR_half {a b : List (List Int)} (v : VG a b) (h : ∀ i k j l, i < a.length → k < i → j < (gr a 0).length → l < j → rnd a b i k j l = 0) : NR a b := by
  refine ⟨v, fun i k j l hi hk hj hl => ?_⟩
  have s1 : rnd a b i k j l = - rnd a b k i j l := by unfold rnd; omega
  have s2 : rnd a b i k j l = - rnd a b i k l j := by unfold rnd; omega
  have s3 : rnd a b i k j l = rnd a b k i l j := by unfold rnd; omega
  rcases Nat.lt_trichotomy k i with h1 | h1 | h1 <;> rcases Nat.lt_trichotomy l j with h2 | h2 | h2
  · exact h i k j l hi h1 hj h2
  · subst h2; unfold rnd; omega
  · rw [s2, h i k l j hi h1 hl h2]; rfl
  · subst h1; unfold rnd; omega
  · subst h1; unfold rnd; omega
  · subst h1; unfold rnd; omega
  · rw [s1, h k i j l hk h1 hj h2]; rfl
  · subst h2; unfold rnd; omega
  · rw [s3, h k i l j hk h1 hl h2]

/-- The least of the first k + 1 numbers; of a row. -/
def mn (xs : List Int) : Nat → Int
  | 0 => gi xs 0
  | k + 1 => min (mn xs k) (gi xs (k + 1))
def lst (xs : List Int) : Int := mn xs (xs.length - 1)
theorem mn_bd {xs : List Int} {lo hi : Int} : ∀ {k : Nat}, (∀ j, j ≤ k → lo ≤ gi xs j ∧ gi xs j ≤ hi) → lo ≤ mn xs k ∧ mn xs k ≤ hi
  | 0, h => h 0 (Nat.le_refl _)
  | k + 1, h => by
    have h1 := mn_bd (k := k) fun j hj => h j (by omega)
    have h2 := h (k + 1) (Nat.le_refl _)
    simp only [mn]
    omega
/-- The first row with the greatest least number, of the first k rows. -/
def bst (a : List (List Int)) : Nat → Nat
  | 0 => 0
  | k + 1 => if lst (gr a (bst a k)) < lst (gr a k) then k else bst a k
theorem bst_one (a : List (List Int)) : bst a 1 = 0 := by simp [bst]
theorem bst_lt (a : List (List Int)) : ∀ {k : Nat}, 0 < k → bst a k < k
  | 0, h => absurd h (by omega)
  | k + 1, _ => by
    rw [bst]
    split
    · omega
    · rcases Nat.eq_zero_or_pos k with h | h
      · subst h; simp [bst]
      · have := bst_lt a h; omega
theorem bst_up {a : List (List Int)} {k : Nat} (h : lst (gr a (bst a k)) < lst (gr a k)) : bst a (k + 1) = k := by rw [bst, if_pos h]
theorem bst_same {a : List (List Int)} {k : Nat} (h : ¬ lst (gr a (bst a k)) < lst (gr a k)) : bst a (k + 1) = bst a k := by rw [bst, if_neg h]

/-- Neither player has more by another act. -/
def RestAt (a b : List (List Int)) (n m i j : Nat) : Prop := (∀ k, k < n → g2 a k j ≤ g2 a i j) ∧ ∀ k, k < m → g2 b i k ≤ g2 b i j
noncomputable def rowRests (a b : List (List Int)) (n m i : Nat) : Nat → List (List Int)
  | 0 => []
  | j + 1 => rowRests a b n m i j ++ (if pb (RestAt a b n m i j) = true then [[(i : Int), (j : Int)]] else [])
noncomputable def allRests (a b : List (List Int)) (n m : Nat) : Nat → List (List Int)
  | 0 => []
  | i + 1 => allRests a b n m i ++ rowRests a b n m i m
noncomputable def pureR (a b : List (List Int)) : List (List Int) := if pb (VG a b) = true then allRests a b a.length (gr a 0).length a.length else []
theorem rowRests_yes {a b : List (List Int)} {n m i j : Nat} (h : RestAt a b n m i j) : rowRests a b n m i (j + 1) = rowRests a b n m i j ++ [[(i : Int), (j : Int)]] := by rw [rowRests, if_pos (pb_true h)]
theorem rowRests_no {a b : List (List Int)} {n m i j : Nat} (h : ¬ RestAt a b n m i j) : rowRests a b n m i (j + 1) = rowRests a b n m i j := by rw [rowRests, if_neg (by rw [pb_false h]; decide), List.append_nil]
theorem rowRests_len (a b : List (List Int)) (n m i : Nat) : ∀ j, (rowRests a b n m i j).length ≤ j
  | 0 => by simp [rowRests]
  | j + 1 => by
    have := rowRests_len a b n m i j
    rw [rowRests, List.length_append]
    split <;> simp <;> omega
theorem allRests_len (a b : List (List Int)) (n m : Nat) (hm : m ≤ 3) : ∀ i, (allRests a b n m i).length ≤ 3 * i
  | 0 => by simp [allRests]
  | i + 1 => by
    have h1 := allRests_len a b n m hm i
    have h2 := rowRests_len a b n m i m
    rw [allRests, List.length_append]
    omega

end Go.Proofs.Ytgmcmblcljfofaa

/- Valid tables, by both programs. -/
namespace Go.Proofs.Ytgmcmblcljfofaa
open Go.RowKit

set_option maxHeartbeats 400000 in
theorem inRange_any (n lo hi : Int) (w : World) : Calls Try.prog 51 #[.int .i64 n, .int .i64 lo, .int .i64 hi] w fun e w' => e = .returned (.bool (pb (InR n lo hi))) ∧ w = w' := by
  by_cases h1 : lo ≤ n
  · by_cases h2 : n ≤ hi
    · have h := Lib.hid (pb_true (p := InR n lo hi) ⟨h1, h2⟩)
      go_enter Try.func51, Try.ntmps51
      go_wp2
      go_ret
      exact ⟨ret_bool (by rw [h.out]), rfl⟩
    · have h := Lib.hid (pb_false (p := InR n lo hi) (fun h => h2 h.2))
      have h2' : decide (n ≤ hi) = false := by simpa using h2
      go_enter Try.func51, Try.ntmps51
      go_wp2
      go_ret
      exact ⟨ret_bool (by rw [h.out]), rfl⟩
  · have h := Lib.hid (pb_false (p := InR n lo hi) (fun h => h1 h.1))
    have h1' : decide (lo ≤ n) = false := by simpa using h1
    go_enter Try.func51, Try.ntmps51
    go_wp2
    go_ret
    exact ⟨ret_bool (by rw [h.out]), rfl⟩

theorem VT_no_row {a : List (List Int)} {i : Nat} (hi : i < a.length) (h : ¬ RowOk a i) : pb (VT a) = false := pb_false fun v => h (v.rows i hi)

set_option maxHeartbeats 1000000 in
theorem validTable_any (A : Option Addr) (n c : Nat) (a : List (List Int)) (w : World) (hx : IntRows w A n c a) :
    Calls Try.prog 82 #[.slice A n c] w fun e w' => e = .returned (.bool (pb (VT a))) ∧ Quiet w w' := by
  obtain ⟨lx, cx, mx, hx⟩ := hx
  have Lx := Lib.hid lx
  clear lx
  go_enter Try.func82, Try.ntmps82
  go_wp2
  go_loopw [3] (fun i wr => ∃ k : Nat, k ≤ n ∧ i = .int .i64 k ∧ Hid (∀ i, i < k → RowOk a i) ∧ Quiet w wr) (fun i _ => n - (intOf i).toNat)
  case atStart => exact ⟨0, Nat.zero_le _, rfl, Lib.hid (fun _ h => absurd h (by omega)), Quiet.refl _⟩
  case round =>
    obtain ⟨k, hk, rfl, HALL, q, rfl⟩ := hrel
    by_cases hlt : k < n
    · obtain ⟨b, o, rfl, hc⟩ := hx (by omega)
      obtain ⟨R, cc, c1, hR⟩ := hc k hlt
      obtain ⟨R0, cc0, c0, hR0⟩ := hc 0 (by omega)
      have hL1 : (gr a k).length ≤ 17592186044416 := hR.max
      have hL0 : (gr a 0).length ≤ 17592186044416 := hR0.max
      have hn0 : 0 < n := by omega
      have HKA := Lib.hid (show k < a.length by rw [Lx.out]; exact hlt)
      clear hx hc
      simp only [Nat.add_zero] at c0
      by_cases hlen : (gr a k).length = (gr a 0).length
      · have hlen' : (((gr a k).length : Int) != ((gr a 0).length : Int)) = false := by simp [hlen]
        have HLEN := Lib.hid hlen
        clear hlen
        go_wp2
        go_quiet (fail)
        go_wp2
        go_loopw [4] (fun j wi => ∃ m : Nat, m ≤ (gr a k).length ∧ j = .int .i64 m ∧ Hid (∀ j, j < m → InR (gi (gr a k) j) (-9) 9) ∧ Quiet w wi) (fun j _ => (gr a k).length - (intOf j).toNat)
        case atStart => exact ⟨0, Nat.zero_le _, rfl, Lib.hid (fun _ h => absurd h (by omega)), Quiet.two _ _ _⟩
        case round =>
          obtain ⟨m, hm, rfl, HIN, q2, rfl⟩ := hrel
          by_cases hml : m < (gr a k).length
          · obtain ⟨b2, o2, rfl, hc2⟩ := hR.at_ (by omega)
            have c2 := hc2 m hml
            clear hc2
            by_cases hin : InR (gi (gr a k) m) (-9) 9
            · have HI := Lib.hid hin
              have hq := fun W => (pb_true hin ▸ inRange_any (gi (gr a k) m) (-9) 9 W)
              clear hin
              go_wp2_with (go_at_call 51; refine (hq _).mono ?_; rintro e w' ⟨rfl, rfl⟩)
              go_roundw
              case rel => exact ⟨m + 1, by omega, by go_num, Lib.hid (fun j hj => by
                by_cases hjk : j < m
                · exact HIN.out j hjk
                · obtain rfl : j = m := by omega
                  exact HI.out), ⟨_, rfl⟩⟩
              case measure => simp [intOf]; omega
            · have HV := Lib.hid (VT_no_row HKA.out (fun h => hin (h.2 m hml)))
              have hq := fun W => (pb_false hin ▸ inRange_any (gi (gr a k) m) (-9) 9 W)
              clear hin
              go_wp2_with (go_at_call 51; refine (hq _).mono ?_; rintro e w' ⟨rfl, rfl⟩)
              go_ret
              exact ⟨ret_bool HV.out.symm, ⟨_, rfl⟩⟩
          · have HK := Lib.hid (show RowOk a k from ⟨HLEN.out, fun j hj => HIN.out j (by omega)⟩)
            go_wp2
            go_roundw
            case rel => exact ⟨k + 1, by omega, by go_num, Lib.hid (fun j hj => by
                by_cases hjk : j < k
                · exact HALL.out j hjk
                · obtain rfl : j = k := by omega
                  exact HK.out), ⟨_, rfl⟩⟩
            case measure => simp [intOf]; omega
      · have HV := Lib.hid (VT_no_row HKA.out (fun h => hlen h.1))
        have hlen' : (((gr a k).length : Int) != ((gr a 0).length : Int)) = true := by simp; omega
        clear hlen
        go_wp2
        go_quiet (fail)
        go_wp2
        go_ret
        exact ⟨ret_bool HV.out.symm, Quiet.two _ _ _⟩
    · obtain rfl : k = n := by omega
      by_cases hk1 : InR k 1 3
      · obtain ⟨b, o, rfl, hc⟩ := hx (by unfold InR at hk1; omega)
        obtain ⟨R0, cc0, c0, hR0⟩ := hc 0 (by unfold InR at hk1; omega)
        have hL0 : (gr a 0).length ≤ 17592186044416 := hR0.max
        have hn0 : 0 < k := by unfold InR at hk1; omega
        simp only [Nat.add_zero] at c0
        have hq := fun W => (pb_true hk1 ▸ inRange_any k 1 3 W)
        have HV : Hid (pb (VT a) = pb (InR (gr a 0).length 1 3)) := Lib.hid (pb_congr ⟨fun v => ⟨by have := v.m1; omega, by have := v.m3; omega⟩, fun v => by
          unfold InR at hk1 v
          exact ⟨fun i hi => HALL.out i (by rw [Lx.out] at hi; exact hi), by rw [Lx.out]; omega, by rw [Lx.out]; omega, by omega, by omega⟩⟩)
        clear hk1 hx hc
        go_wp2_with fail
        refine (hq _).mono ?_
        rintro e w' ⟨rfl, rfl⟩
        go_wp2_with fail
        refine (inRange_any _ _ _ _).mono ?_
        rintro e w' ⟨rfl, rfl⟩
        go_wp2
        go_ret
        exact ⟨ret_bool HV.out.symm, ⟨_, rfl⟩⟩
      · have hq := fun W => (pb_false hk1 ▸ inRange_any k 1 3 W)
        have HV := Lib.hid (pb_false (p := VT a) fun v => hk1 (by have h1 := v.n1; have h3 := v.n3; rw [Lx.out] at h1 h3; exact ⟨by omega, by omega⟩))
        clear hk1
        go_wp2_with (go_at_call 51; refine (hq _).mono ?_; rintro e w' ⟨rfl, rfl⟩)
        go_ret
        exact ⟨ret_bool HV.out.symm, ⟨_, rfl⟩⟩

end Go.Proofs.Ytgmcmblcljfofaa

/- Numbers of a table, by the program. -/
namespace Go.Proofs.Ytgmcmblcljfofaa
open Go.RowKit

theorem isPay_any (x : Int) (w : World) : Calls Try.prog 98 #[.int .i64 x] w fun e w' => e = .returned (.bool (pb (InR x (-9) 9))) ∧ w = w' := by
  by_cases h1 : -9 ≤ x
  · by_cases h2 : x ≤ 9
    · have h := Lib.hid (pb_true (p := InR x (-9) 9) ⟨h1, h2⟩)
      go_enter Try.func98, Try.ntmps98
      go_wp2
      go_ret
      exact ⟨ret_bool (by rw [h.out]), rfl⟩
    · have h := Lib.hid (pb_false (p := InR x (-9) 9) (fun h => h2 h.2))
      have h2' : decide (x ≤ 9) = false := by simpa using h2
      go_enter Try.func98, Try.ntmps98
      go_wp2
      go_ret
      exact ⟨ret_bool (by rw [h.out]), rfl⟩
  · have h := Lib.hid (pb_false (p := InR x (-9) 9) (fun h => h1 h.1))
    have h1' : decide (-9 ≤ x) = false := by simpa using h1
    go_enter Try.func98, Try.ntmps98
    go_wp2
    go_ret
    exact ⟨ret_bool (by rw [h.out]), rfl⟩
end Go.Proofs.Ytgmcmblcljfofaa

/- Valid tables by the program. -/
namespace Go.Proofs.Ytgmcmblcljfofaa
open Go.RowKit

set_option maxHeartbeats 400000 in
theorem validRow_any (A : Option Addr) (n c : Nat) (r : List Int) (w : World) (hx : Ints w A n c r) :
    Calls Try.prog 83 #[.slice A n c] w fun e w' => e = .returned (.bool (pb (RowV r))) ∧ Quiet w w' := by
  obtain ⟨lx, cx, mx, _, hx⟩ := hx
  have Lx := Lib.hid lx
  clear lx
  by_cases h1 : n < 1
  · have HV := Lib.hid (pb_false (p := RowV r) fun v => by have := v.1; rw [Lx.out] at this; omega)
    go_enter Try.func83, Try.ntmps83
    go_wp2
    go_ret
    exact ⟨ret_bool HV.out.symm, Quiet.refl _⟩
  by_cases h3 : 3 < n
  · have HV := Lib.hid (pb_false (p := RowV r) fun v => by have := v.2.1; rw [Lx.out] at this; omega)
    go_enter Try.func83, Try.ntmps83
    go_wp2
    go_ret
    exact ⟨ret_bool HV.out.symm, Quiet.refl _⟩
  obtain ⟨b, o, rfl, hc⟩ := hx (by omega)
  go_enter Try.func83, Try.ntmps83
  go_wp2
  go_loopw [15] (fun i wr => ∃ k : Nat, k ≤ n ∧ i = .int .i64 k ∧ Hid (∀ j, j < k → InR (gi r j) (-9) 9) ∧ Quiet w wr) (fun i _ => n - (intOf i).toNat)
  case atStart => exact ⟨0, Nat.zero_le _, rfl, Lib.hid (fun _ h => absurd h (by omega)), Quiet.refl _⟩
  case round =>
    obtain ⟨k, hk, rfl, HALL, q, rfl⟩ := hrel
    by_cases hlt : k < n
    · have c1 := hc k hlt
      clear hc
      have HK := Lib.hid (show k < r.length by rw [Lx.out]; exact hlt)
      by_cases hin : InR (gi r k) (-9) 9
      · have HI := Lib.hid hin
        have HP := Lib.hid (fun (W : World) => (pb_true hin) ▸ isPay_any (gi r k) W)
        clear hin
        go_wp2_with (go_at_call 98; refine (HP.out _).mono ?_; rintro e w' ⟨rfl, rfl⟩)
        go_roundw
        case rel => exact ⟨k + 1, by omega, by go_num, Lib.hid (fun j hj => by
          by_cases hjk : j < k
          · exact HALL.out j hjk
          · obtain rfl : j = k := by omega
            exact HI.out), by first | exact ⟨_, rfl⟩ | exact Quiet.two _ _ _⟩
        case measure => simp [intOf]; omega
      · have HV := Lib.hid (RowV_no HK.out hin)
        have HP := Lib.hid (fun (W : World) => (pb_false hin) ▸ isPay_any (gi r k) W)
        clear hin
        go_wp2_with (go_at_call 98; refine (HP.out _).mono ?_; rintro e w' ⟨rfl, rfl⟩)
        go_ret
        exact ⟨ret_bool HV.out.symm, by first | exact ⟨_, rfl⟩ | exact Quiet.two _ _ _⟩
    · obtain rfl : k = n := by omega
      go_wp2
      go_ret
      exact ⟨ret_bool (pb_true ⟨by rw [Lx.out]; omega, by rw [Lx.out]; omega, fun j hj => HALL.out j (by rw [Lx.out] at hj; exact hj)⟩).symm, ⟨_, rfl⟩⟩

set_option maxHeartbeats 1000000 in
theorem ValidTable_impl (A : Option Addr) (n c : Nat) (a : List (List Int)) (w : World) (hx : IntRows w A n c a) :
    Calls Try.prog 48 #[.slice A n c] w fun e w' => e = .returned (.bool (pb (VT a))) ∧ Quiet w w' := by
  obtain ⟨lx, cx, mx, hx⟩ := hx
  have Lx := Lib.hid lx
  clear lx
  by_cases h1 : n < 1
  · have HV := Lib.hid (pb_false (p := VT a) fun v => by have := v.n1; rw [Lx.out] at this; omega)
    go_enter Try.func48, Try.ntmps48
    go_wp2
    go_ret
    exact ⟨ret_bool HV.out.symm, Quiet.refl _⟩
  by_cases h3 : 3 < n
  · have HV := Lib.hid (pb_false (p := VT a) fun v => by have := v.n3; rw [Lx.out] at this; omega)
    go_enter Try.func48, Try.ntmps48
    go_wp2
    go_ret
    exact ⟨ret_bool HV.out.symm, Quiet.refl _⟩
  obtain ⟨b, o, rfl, hc⟩ := hx (by omega)
  obtain ⟨R0, cc0, c0, hR0⟩ := hc 0 (by omega)
  have hL0 : (gr a 0).length ≤ 17592186044416 := hR0.max
  simp only [Nat.add_zero] at c0
  go_enter Try.func48, Try.ntmps48
  go_wp2
  go_loopw [15] (fun i wr => ∃ k : Nat, k ≤ n ∧ i = .int .i64 k ∧ Hid (∀ i, i < k → (gr a i).length = (gr a 0).length ∧ RowV (gr a i)) ∧ Quiet w wr) (fun i _ => n - (intOf i).toNat)
  case atStart => exact ⟨0, Nat.zero_le _, rfl, Lib.hid (fun _ h => absurd h (by omega)), Quiet.refl _⟩
  case round =>
    obtain ⟨k, hk, rfl, HALL, q, rfl⟩ := hrel
    by_cases hlt : k < n
    · obtain ⟨R, cc, c1, hR⟩ := hc k hlt
      have hL1 : (gr a k).length ≤ 17592186044416 := hR.max
      have hn0 : 0 < n := by omega
      clear hc
      have HK := Lib.hid (show k < a.length by rw [Lx.out]; exact hlt)
      by_cases hlen : (gr a k).length = (gr a 0).length
      · have hlen' : (((gr a k).length : Int) != ((gr a 0).length : Int)) = false := by simp [hlen]
        have HLEN := Lib.hid hlen
        clear hlen
        by_cases hv : RowV (gr a k)
        · have HI := Lib.hid hv
          have hq := fun W (hW : Quiet w W) => (pb_true hv ▸ validRow_any _ _ _ _ W (hR.keep (Keep.quiet hW)))
          clear hv
          go_wp2_with fail
          refine (hq _ ⟨_, rfl⟩).mono ?_
          rintro e w' ⟨rfl, q2, rfl⟩
          go_wp2
          go_roundw
          case rel => exact ⟨k + 1, by omega, by go_num, Lib.hid (fun j hj => by
            by_cases hjk : j < k
            · exact HALL.out j hjk
            · obtain rfl : j = k := by omega
              exact ⟨HLEN.out, HI.out⟩), ⟨_, rfl⟩⟩
          case measure => simp [intOf]; omega
        · have HV := Lib.hid (pb_false (p := VT a) fun v => hv (VT_rowV v HK.out))
          have hq := fun W (hW : Quiet w W) => (pb_false hv ▸ validRow_any _ _ _ _ W (hR.keep (Keep.quiet hW)))
          clear hv
          go_wp2_with fail
          refine (hq _ ⟨_, rfl⟩).mono ?_
          rintro e w' ⟨rfl, q2, rfl⟩
          go_wp2
          go_ret
          exact ⟨ret_bool HV.out.symm, by first | exact ⟨_, rfl⟩ | exact Quiet.two _ _ _⟩
      · have HV := Lib.hid (pb_false (p := VT a) fun v => hlen (v.rows k HK.out).1)
        have hlen' : (((gr a k).length : Int) != ((gr a 0).length : Int)) = true := by simp; omega
        clear hlen
        go_wp2
        go_ret
        exact ⟨ret_bool HV.out.symm, ⟨_, rfl⟩⟩
    · obtain rfl : k = n := by omega
      go_wp2
      go_ret
      exact ⟨ret_bool (pb_true (VT_of (by rw [Lx.out]; omega) (by rw [Lx.out]; omega) fun j hj => HALL.out j (by rw [Lx.out] at hj; exact hj))).symm, ⟨_, rfl⟩⟩
end Go.Proofs.Ytgmcmblcljfofaa

/- Squares, by both programs. -/
namespace Go.Proofs.Ytgmcmblcljfofaa
open Go.RowKit

/-- A valid table with as many rows as columns. -/
def VQ (a : List (List Int)) : Prop := VT a ∧ a.length = (gr a 0).length

set_option maxHeartbeats 400000 in
theorem validSquare_any (A : Option Addr) (n c : Nat) (a : List (List Int)) (w : World) (hx : IntRows w A n c a) :
    Calls Try.prog 47 #[.slice A n c] w fun e w' => e = .returned (.bool (pb (VQ a))) ∧ Quiet w w' := by
  have hl := hx.len
  by_cases hv : VT a
  · have h1 := hv.n1
    obtain ⟨b, o, rfl, hc⟩ := hx.at_ (by omega)
    obtain ⟨R, cc, h0, -⟩ := hc 0 (by omega)
    simp only [Nat.add_zero] at h0
    have H0 := Lib.hid h0
    have HC := Lib.hid (pb_true hv ▸ validTable_any _ n c a w hx)
    have hn : 0 < n := by omega
    by_cases hs : a.length = (gr a 0).length
    · rw [pb_true (p := VQ a) ⟨hv, hs⟩]
      have hm : (gr a 0).length = n := by omega
      rw [hm] at H0
      clear hm hs hc h0 hv hx h1 hl
      go_enter Try.func47, Try.ntmps47
      go_wp2_with fail
      refine HC.out.mono ?_
      rintro e w1 ⟨rfl, hq⟩
      have h0 := Keep.quiet hq _ _ H0.out
      go_wp2
      go_ret
      exact ⟨rfl, hq⟩
    · rw [pb_false (p := VQ a) (fun h => hs h.2)]
      have hm : ¬ n = (gr a 0).length := by omega
      clear hs hc h0 hv hx h1 hl
      generalize (gr a 0).length = m at *
      have hz : ((n : Int) == (m : Int)) = false := by rw [beq_eq_false_iff_ne]; omega
      go_enter Try.func47, Try.ntmps47
      go_wp2_with fail
      refine HC.out.mono ?_
      rintro e w1 ⟨rfl, hq⟩
      have h0 := Keep.quiet hq _ _ H0.out
      go_wp2
      go_ret
      exact ⟨rfl, hq⟩
  · rw [pb_false (p := VQ a) (fun h => hv h.1)]
    have HC := Lib.hid (pb_false hv ▸ validTable_any A n c a w hx)
    clear hv hx hl
    go_enter Try.func47, Try.ntmps47
    go_wp2_with fail
    refine HC.out.mono ?_
    rintro e w1 ⟨rfl, hq⟩
    go_wp2
    go_ret
    exact ⟨rfl, hq⟩

theorem ValidSquare_spec (A : Option Addr) (n c : Nat) (a : List (List Int)) (w : World) (hx : IntRows w A n c a) :
    Calls Try.prog 14 #[.slice A n c] w fun e w' => e = .returned (.bool (pb (VQ a))) ∧ Quiet w w' := by
  go_enter Try.func14, Try.ntmps14
  go_wp2_with fail
  refine (validSquare_any A n c a w hx).mono ?_
  rintro e w1 ⟨rfl, hq⟩
  go_wp2
  go_ret
  exact ⟨rfl, hq⟩

set_option maxHeartbeats 400000 in
theorem ValidSquare_impl (A : Option Addr) (n c : Nat) (a : List (List Int)) (w : World) (hx : IntRows w A n c a) :
    Calls Try.prog 16 #[.slice A n c] w fun e w' => e = .returned (.bool (pb (VQ a))) ∧ Quiet w w' := by
  have hl := hx.len
  by_cases hv : VT a
  · have h1 := hv.n1
    obtain ⟨b, o, rfl, hc⟩ := hx.at_ (by omega)
    obtain ⟨R, cc, h0, -⟩ := hc 0 (by omega)
    simp only [Nat.add_zero] at h0
    have H0 := Lib.hid h0
    have HC := Lib.hid (pb_true hv ▸ ValidTable_impl _ n c a w hx)
    have hn : 0 < n := by omega
    by_cases hs : a.length = (gr a 0).length
    · rw [pb_true (p := VQ a) ⟨hv, hs⟩]
      have hm : (gr a 0).length = n := by omega
      rw [hm] at H0
      clear hm hs hc h0 hv hx h1 hl
      go_enter Try.func16, Try.ntmps16
      go_wp2_with fail
      refine HC.out.mono ?_
      rintro e w1 ⟨rfl, hq⟩
      have h0 := Keep.quiet hq _ _ H0.out
      go_wp2
      go_ret
      exact ⟨rfl, hq⟩
    · rw [pb_false (p := VQ a) (fun h => hs h.2)]
      have hm : ¬ n = (gr a 0).length := by omega
      clear hs hc h0 hv hx h1 hl
      generalize (gr a 0).length = m at *
      have hz : ((n : Int) == (m : Int)) = false := by rw [beq_eq_false_iff_ne]; omega
      go_enter Try.func16, Try.ntmps16
      go_wp2_with fail
      refine HC.out.mono ?_
      rintro e w1 ⟨rfl, hq⟩
      have h0 := Keep.quiet hq _ _ H0.out
      go_wp2
      go_ret
      exact ⟨rfl, hq⟩
  · rw [pb_false (p := VQ a) (fun h => hv h.1)]
    have HC := Lib.hid (pb_false hv ▸ ValidTable_impl A n c a w hx)
    clear hv hx hl
    go_enter Try.func16, Try.ntmps16
    go_wp2_with fail
    refine HC.out.mono ?_
    rintro e w1 ⟨rfl, hq⟩
    go_wp2
    go_ret
    exact ⟨rfl, hq⟩
end Go.Proofs.Ytgmcmblcljfofaa

/- The harness of the exact laws: copies. -/
namespace Go.Proofs.Ytgmcmblcljfofaa
open Go.RowKit
theorem Try.info3 : (Try.prog.info? 3).map (fun i => (i.zero, i.size, i.bytes)) = some (some (.int .i64 0), 1, 8) := by kernel_rfl
theorem Try.info27 : (Try.prog.info? 27).map (fun i => (i.zero, i.size, i.bytes)) = some (some (.slice none 0 0), 1, 24) := by kernel_rfl

/-- A row that is filled up to k. -/
def filled (xs : List Int) (k : Nat) : Nat → Value := fun j => if j < k then .int .i64 (gi xs j) else .int .i64 0

theorem filled_set {w : World} {g n k : Nat} {xs : List Int} (h : w.rowIs g 3 n (filled xs k)) : (w.setCell ⟨g, k, none⟩ (.int .i64 (gi xs k))).rowIs g 3 n (filled xs (k + 1)) :=
  (h.set k _).congr fun j _ => by
    unfold filled
    by_cases e : j = k
    · subst e; simp
    · rw [if_neg e]
      by_cases hj : j < k
      · rw [if_pos hj, if_pos (by omega)]
      · rw [if_neg hj, if_neg (by omega)]

def MadeI (w : World) (n : Nat) (xs : List Int) (e : Ending) (w' : World) : Prop :=
  e = .returned (.slice (some ⟨w.heap.size, 0, none⟩) n n) ∧ OwnI w.heap.size (w.heap.size + 1) w' w.heap.size (some ⟨w.heap.size, 0, none⟩) n n xs ∧ Below w.heap.size w w' ∧ w'.heap.size = w.heap.size + 1

set_option maxHeartbeats 400000 in
theorem toIntS_any (A : Option Addr) (n c : Nat) (xs : List Int) (w : World) (hx : Ints w A n c xs) :
    Calls Try.prog 28 #[.slice A n c] w (MadeI w n xs) := by
  have HX := Lib.hid hx
  obtain ⟨_, cx, mx, _, hx⟩ := hx
  have hmk := run_make_row' (P := Try.prog) 27 3 (.int .i64 0) 8 Try.underlying27 Try.info3 rfl .i64 .i64 n (by omega) (by omega)
  go_enter Try.func28, Try.ntmps28
  go_wp2
  clear hmk
  go_loopw [4] (fun i wr => ∃ k : Nat, k ≤ n ∧ i = .int .i64 k ∧ wr.rowIs w.heap.size 3 n (filled xs k) ∧ Below w.heap.size w wr ∧ Hid (wr.heap.size = w.heap.size + 1)) (fun i _ => n - (intOf i).toNat)
  case atStart => exact ⟨0, Nat.zero_le _, rfl, (World.rowIs_made w _ n 3).congr (fun j _ => by simp [filled]), (Below.refl _ _).alloc (Nat.le_refl _) _, Lib.hid (by simp)⟩
  case round =>
    obtain ⟨k, hk, rfl, hrow, hbel, hsz⟩ := hrel
    by_cases hlt : k < n
    · obtain ⟨b, o, rfl, hc⟩ := hx (by omega)
      have c1 := hc k hlt
      have c2 := hbel.cell (p := ⟨b, o + k, none⟩) (World.block_lt_of_cell? _ _ c1)
      rw [c1] at c2
      have c3 := hrow.cell hlt
      simp only [filled, if_neg (Nat.lt_irrefl k)] at c3
      have c4 := hrow.frozen k
      clear hx hc c1
      go_wp2
      go_roundw
      case rel => exact ⟨k + 1, by omega, by go_num, filled_set hrow, hbel.setCell (Nat.le_refl _) _, Lib.hid (by simpa using hsz.out)⟩
      case measure => simp [intOf]; omega
    · obtain rfl : k = n := by omega
      go_wp2
      go_ret
      exact ⟨rfl, OwnI.of_rowIs HX.out.len mx HX.out.wf (Nat.le_refl _) (Nat.lt_succ_self _) hrow (fun j hj => by simp [filled, hj]), hbel, hsz.out⟩

/-- The outer row when k copies are made. -/
def tops (B : Nat) (xss : List (List Int)) (k : Nat) : Nat → Value := fun j => if j < k then .slice (some ⟨B + 1 + j, 0, none⟩) (gr xss j).length (gr xss j).length else .slice none 0 0
structure Copied (w wr : World) (n k : Nat) (xss : List (List Int)) : Prop where
  below : Below w.heap.size w wr
  size : wr.heap.size = w.heap.size + 1 + k
  top : wr.rowIs w.heap.size 27 n (tops w.heap.size xss k)
  done : ∀ j, j < k → OwnI w.heap.size wr.heap.size wr (w.heap.size + 1 + j) (some ⟨w.heap.size + 1 + j, 0, none⟩) (gr xss j).length (gr xss j).length (gr xss j)

theorem copied_start (w : World) (n : Nat) (xss : List (List Int)) : Copied w (w.alloc (.cells (madeCells #[.slice none 0 0] n) 27)) n 0 xss :=
  ⟨(Below.refl _ _).alloc (Nat.le_refl _) _, by simp, (World.rowIs_made w _ n 27).congr (fun j _ => by simp [tops]), fun j hj => absurd hj (Nat.not_lt_zero _)⟩

theorem copied_step {w wr w1 : World} {n k : Nat} {xss : List (List Int)} {e : Ending} (h : Copied w wr n k xss) (m : MadeI wr (gr xss k).length (gr xss k) e w1) :
    e = .returned (.slice (some ⟨w.heap.size + 1 + k, 0, none⟩) (gr xss k).length (gr xss k).length) ∧
    Copied w (w1.setCell ⟨w.heap.size, k, none⟩ (.slice (some ⟨w.heap.size + 1 + k, 0, none⟩) (gr xss k).length (gr xss k).length)) n (k + 1) xss := by
  obtain ⟨he, hown, hbel, hsz⟩ := m
  rw [h.size] at he hown hsz
  have hb : Below w.heap.size w w1 := h.below.trans (hbel.mono h.below.size)
  refine ⟨he, ⟨hb.setCell (Nat.le_refl _) _, by simp [hsz]; omega, ?_, fun j hj => ?_⟩⟩
  · refine ((h.top.of_block (hbel.block _ (by rw [h.size]; omega))).set k _).congr fun j _ => ?_
    unfold tops
    by_cases e : j = k
    · subst e; simp
    · rw [if_neg e]
      by_cases hj : j < k
      · rw [if_pos hj, if_pos (by omega)]
      · rw [if_neg hj, if_neg (by omega)]
  · by_cases e : j = k
    · subst e
      exact (hown.mono (by omega) (by simp [World.setCell, hsz])).of_block fun _ => Below.heap_setCell _ _ _ _ (by show w.heap.size + 1 + j ≠ w.heap.size; omega)
    · refine (((h.done j (by omega)).below hbel).mono (Nat.le_refl _) (by have := hbel.size; simpa [World.setCell] using this)).of_block fun _ => Below.heap_setCell _ _ _ _ (by show w.heap.size + 1 + j ≠ w.heap.size; omega)

theorem copied_own {w wr : World} {n : Nat} {xss : List (List Int)} (h : Copied w wr n n xss) (hl : xss.length = n) (hm : n ≤ 5864062014805) :
    OwnR w.heap.size wr.heap.size wr w.heap.size (some ⟨w.heap.size, 0, none⟩) n n xss :=
  ⟨hl, Nat.le_refl _, hm, fun _ => ⟨0, fun k => w.heap.size + 1 + k, fun k => some ⟨w.heap.size + 1 + k, 0, none⟩, fun k => (gr xss k).length, rfl, Nat.le_refl _, h.top.lt,
    fun k hk => ⟨by rw [Nat.zero_add]; exact h.top.frozen k, by rw [Nat.zero_add, h.top.cell hk, tops, if_pos hk], h.done k hk, fun _ => by show w.heap.size + 1 + k ≠ w.heap.size; omega⟩, fun j k hj _ _ _ => by show w.heap.size + 1 + j ≠ w.heap.size + 1 + k; omega⟩⟩

def MadeR (w : World) (n : Nat) (xss : List (List Int)) (e : Ending) (w' : World) : Prop :=
  e = .returned (.slice (some ⟨w.heap.size, 0, none⟩) n n) ∧ OwnR w.heap.size w'.heap.size w' w.heap.size (some ⟨w.heap.size, 0, none⟩) n n xss ∧ Below w.heap.size w w' ∧ w.heap.size < w'.heap.size

set_option maxHeartbeats 400000 in
theorem toIntSS_any (A : Option Addr) (n c : Nat) (xss : List (List Int)) (w : World) (hx : IntRows w A n c xss) :
    Calls Try.prog 15 #[.slice A n c] w (MadeR w n xss) := by
  have HX := Lib.hid hx
  obtain ⟨_, cx, mx, hx⟩ := hx
  have hmk := run_make_row' (P := Try.prog) 22 27 (.slice none 0 0) 24 Try.underlying22 Try.info27 rfl .i64 .i64 n (by omega) (by omega)
  go_enter Try.func15, Try.ntmps15
  go_wp2
  clear hmk
  go_loopw [4] (fun i wr => ∃ k : Nat, k ≤ n ∧ i = .int .i64 k ∧ Copied w wr n k xss) (fun i _ => n - (intOf i).toNat)
  case atStart => exact ⟨0, Nat.zero_le _, rfl, copied_start w n xss⟩
  case round =>
    obtain ⟨k, hk, rfl, HC⟩ := hrel
    by_cases hlt : k < n
    · obtain ⟨b, o, rfl, hc⟩ := hx (by omega)
      obtain ⟨R, cc, c1, hR⟩ := hc k hlt
      have hkeep := HC.below.cell (p := ⟨b, o + k, none⟩) (World.block_lt_of_cell? _ _ c1)
      rw [c1] at hkeep
      have hR2 := hR.keep (Keep.below HC.below)
      have c3 := HC.top.cell hlt
      simp only [tops, if_neg (Nat.lt_irrefl k)] at c3
      have c4 := HC.top.frozen k
      have hbl := HC.top.lt
      clear hx hc c1 hR
      go_wp2_with fail
      refine (toIntS_any _ _ _ _ _ hR2).mono ?_
      intro e w1 hm
      obtain ⟨he, hcop⟩ := copied_step HC hm
      obtain ⟨_, _, hb1, _⟩ := hm
      have c5 := hb1.cell (p := ⟨w.heap.size, k, none⟩) hbl
      rw [c3] at c5
      have c6 := hb1.frozen (p := ⟨w.heap.size, k, none⟩) hbl
      rw [c4] at c6
      subst he
      clear c3 c4 hR2 hkeep HC hb1
      go_wp2
      go_roundw
      case rel => exact ⟨k + 1, by omega, by go_num, hcop⟩
      case measure => simp [intOf]; omega
    · obtain rfl : k = n := by omega
      go_wp2
      go_ret
      exact ⟨rfl, copied_own HC HX.out.len mx, HC.below, HC.top.lt⟩
end Go.Proofs.Ytgmcmblcljfofaa

