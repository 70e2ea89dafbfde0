/- Texts merged: KQ2 KQ3. -/
import Derived.Test.YtjmfkodbilknlaaQ12
import Derived.RangeFuncNested
import Derived.RangeFuncBound
import Derived.RangeFuncCalls
import Derived.RangeFuncLeaves
/- A loop over a function that hands rows on which lie in memory: what the function promises, and the loop around it. -/
namespace Go.Proofs.Ytjmfkodbilknlaa
open Go.RowKit

/-- Whatever lay in memory lies there still, but for the blocks of Z. -/
structure Kept (Z : Nat → Prop) (w w' : World) : Prop where
  os : w'.os = w.os
  tape : w'.tape = w.tape
  output : w'.output = w.output
  size : w.heap.size ≤ w'.heap.size
  block : ∀ k, k < w.heap.size → ¬ Z k → w'.heap[k]? = w.heap[k]?
theorem Kept.refl (Z : Nat → Prop) (w : World) : Kept Z w w := ⟨rfl, rfl, rfl, Nat.le_refl _, fun _ _ _ => rfl⟩
theorem Kept.trans {Z : Nat → Prop} {a b c : World} (h : Kept Z a b) (k : Kept Z b c) : Kept Z a c :=
  ⟨k.os.trans h.os, k.tape.trans h.tape, k.output.trans h.output, Nat.le_trans h.size k.size, fun i hi hz => (k.block i (Nat.lt_of_lt_of_le hi h.size) hz).trans (h.block i hi hz)⟩
theorem Kept.mono {Z Z' : Nat → Prop} {a b : World} (h : Kept Z a b) (hz : ∀ k, k < a.heap.size → Z k → Z' k) : Kept Z' a b := ⟨h.os, h.tape, h.output, h.size, fun k hk hn => h.block k hk fun e => hn (hz k hk e)⟩
theorem Kept.up (Z : Nat → Prop) {a b : World} (h : Below a.heap.size a b) : Kept Z a b := ⟨h.os, h.tape, h.output, h.size, fun k hk _ => h.block k hk⟩
theorem Kept.put (Z : Nat → Prop) (w : World) (l : Nat) (o : Obj) (hl : Z l) : Kept Z w (w.putObj l o) := ⟨rfl, rfl, rfl, by simp, fun k _ hz => World.putObj_heap_other (fun e => hz (e ▸ hl))⟩
theorem Kept.at {Z : Nat → Prop} {a b : World} (h : Kept Z a b) {k : Nat} {o : Obj} (hk : a.heap[k]? = some o) (hz : ¬ Z k) : b.heap[k]? = some o := (h.block k (Array.getElem?_eq_some_iff.1 hk).1 hz).trans hk
theorem cell_lt {W : World} {p : Addr} {u : Value} (hc : W.cell? p = some u) : p.block < W.heap.size := by
  rcases Nat.lt_or_ge p.block W.heap.size with h' | h'
  · exact h'
  · unfold World.cell? at hc; rw [Array.getElem?_eq_none h'] at hc; cases hc
theorem Kept.cell {Z : Nat → Prop} {a b : World} (h : Kept Z a b) {p : Addr} {u : Value} (hz : ¬ Z p.block) (hc : a.cell? p = some u) : b.cell? p = some u := by
  have hlt : p.block < a.heap.size := by
    rcases Nat.lt_or_ge p.block a.heap.size with h' | h'
    · exact h'
    · unfold World.cell? at hc; rw [Array.getElem?_eq_none h'] at hc; cases hc
  unfold World.cell? at *
  rw [h.block _ hlt hz]; exact hc
theorem Kept.below {Z : Nat → Prop} {w a b : World} (h : Below w.heap.size w a) (k : Kept Z a b) (hz : ∀ i, Z i → w.heap.size ≤ i) : Below w.heap.size w b :=
  ⟨k.os.trans h.os, k.tape.trans h.tape, k.output.trans h.output, Nat.le_trans h.size k.size, fun i hi => (k.block i (Nat.lt_of_lt_of_le hi h.size) (fun e => absurd (hz i e) (by omega))).trans (h.block i hi)⟩

/-- A function hands on what is worth xs, in their order; each x that is handed on is as Px says; who takes them keeps all but Z; what they know abides whatever is done to blocks that are new. -/
def Hands (P : Program) (gf : Nat) (lb : Array Value) {β γ : Type} (encs : β → Array Value) (val : β → γ) (Px : β → World → Prop) (Z : Nat → Prop) (xs : List γ) (W : World) : Prop :=
  ∀ (l : Nat) (J : List γ → World → Prop) (n : Nat), (∀ s A B, J s A → Kept (fun k => W.heap.size ≤ k) A B → J s B) →
    (∀ pre x m A, J pre A → Px x A → pre ++ [val x] <+: xs → YieldAt Fence.wide m P l (encs x) A fun e B => e = .returned (.bool true) ∧ J (pre ++ [val x]) B ∧ Kept Z A B) → J [] W →
    CallsIn Fence.wide n P gf (#[.func (.yield l) #[] #[]] ++ lb) W fun e B => (∃ v, e = .returned v) ∧ J xs B ∧ Kept Z W B

section
variable {β γ : Type} {P : Program} {g : Operand} {ps : Array Tmp} {assign body : Code} {Q : Exit → Act → World → Prop} {a : Act} {w : World} {gf : Nat} {lb : Array Value}
  {encs : β → Array Value} {val : β → γ} {Px : β → World → Prop} {Z : Nat → Prop} {xs : List γ}
/-- One round: the record is l; it is ready before and behind. -/
theorem round_over {l : Nat} {rc : LoopState → Option Code → Loop} {fn : FuncId} (hrc : ∀ s p, (rc s p).state = s ∧ (rc s p).pending = p ∧ (rc s p).fn = fn ∧ (rc s p).params = ps ∧ (rc s p).tmps = a.tmps ∧ (rc s p).assign = assign ∧ (rc s p).body = body)
    (hset : ∀ s p s' p', { rc s p with state := s', pending := p' } = rc s' p') (hset1 : ∀ s p s', { rc s p with state := s' } = rc s' p) (hps : ∀ x, (encs x).size = ps.size) (hZ : ¬ Z l) (I : List γ → World → Prop) (hI : ∀ s A B, I s A → Kept (fun k => k = l) A B → I s B) (m : Nat) (pre : List γ) (x : β) (W : World)
    (_ : I pre W) (hl : W.heap[l]? = some (.loop (rc .ready none)))
    (hround : assign.wpIn (Fence.wide.inRound l) m P (Exit.then (fun a₁ W1 => Below W.heap.size W W1 ∧ ∀ W2, Kept (fun k => k = l) W1 W2 → (∃ r, W2.heap[l]? = some (.loop r)) →
      body.wpIn (Fence.wide.inRound l) m P (fun e _ W3 => e = .normal ∧ Kept Z W2 W3 ∧ I (pre ++ [val x]) W3) a₁ W2) (fun _ _ _ => False)) { tmps := (ps.zip (encs x)).foldl (fun t (p, v) => t.setIfInBounds p v) a.tmps, defers := [] } W) :
    YieldAt Fence.wide m P l (encs x) W fun e B => e = .returned (.bool true) ∧ (I (pre ++ [val x]) B ∧ B.heap[l]? = some (.loop (rc .ready none))) ∧ Kept (fun k => Z k ∨ k = l) W B := by
  have hy := run_yield (P := P) (args := encs x) hl (by rw [(hrc _ _).2.2.2.1]; exact hps x)
  obtain ⟨_, _, e3, e4, e5, e6, e7⟩ := hrc .ready none
  rw [e3, e4, e5, e6, e7] at hy
  refine ⟨fn, _, assign, body, hy, roundIn_of_wpIn trivial (wpIn_mono hround ?_)⟩
  intro e a1 W1 h
  cases e with
  | normal =>
    obtain ⟨hb, h⟩ := h
    have hl1 : W1.heap[l]? = some (.loop (rc .ready none)) := (hb.block l (Array.getElem?_eq_some_iff.1 hl).1).trans hl
    have hbg := run_beginRound (P := P) hl1 (hrc _ _).1
    rw [hset1] at hbg
    have hl2 : (W1.putObj l (.loop (rc .busy none))).heap[l]? = some (.loop (rc .busy none)) := World.putObj_heap_same (Array.getElem?_eq_some_iff.1 hl1).1
    have hk2 := Kept.put (fun k => k = l) W1 l (.loop (rc .busy none)) rfl
    refine ⟨_, hbg, wpIn_mono (h _ hk2 ⟨_, hl2⟩) ?_⟩
    rintro e a3 W3 ⟨rfl, hk3, hi3⟩
    have hl3 := hk3.at hl2 hZ
    have her := run_endRound (P := P) none hl3
    have hre : ({ rc .busy none with state := if (none : Option Code).isNone then .ready else .done, pending := none } : Loop) = rc .ready none := hset _ _ _ _
    rw [hre] at her
    have hk4 := Kept.put (fun k => k = l) W3 l (.loop (rc .ready none)) rfl
    refine ⟨_, _, her, rfl, ⟨hI _ _ _ hi3 hk4, World.putObj_heap_same (Array.getElem?_eq_some_iff.1 hl3).1⟩, ?_⟩
    exact ((Kept.up _ hb).trans (hk2.mono fun _ _ h => .inr h)).trans ((hk3.mono fun _ _ h => .inl h).trans (hk4.mono fun _ _ h => .inr h))
  | ret => exact h.elim
  | exit id => exact h.elim
  | goto t => exact h.elim
  | panic ch => exact h.elim
  | outgrown => exact h.elim

/-- The loop that stands in no other one. -/
theorem over_outer (n : Nat) (hg : a.eval g = .func (.func gf) #[] lb) (eg : ∀ args w, (callFunc gf args).run P w = .ok (.enter gf args) w) (hps : ∀ x, (encs x).size = ps.size) (hZ : ∀ k, Z k → k < w.heap.size)
    (hseq : ∀ W, Below w.heap.size w W → w.heap.size + 1 < W.heap.size → Hands P gf lb encs val Px (fun k => Z k ∨ k = w.heap.size + 1) xs W)
    (I : List γ → World → Prop) (hI : ∀ s A B, I s A → Kept (fun k => w.heap.size ≤ k) A B → I s B) (h0 : I [] w)
    (hround : ∀ m pre x W, I pre W → Px x W → pre ++ [val x] <+: xs → w.heap.size + 1 < W.heap.size → assign.wpIn (Fence.wide.inRound (w.heap.size + 1)) m P (Exit.then (fun a₁ W1 => Below W.heap.size W W1 ∧ ∀ W2, Kept (fun k => k = w.heap.size + 1) W1 W2 → (∃ r, W2.heap[w.heap.size + 1]? = some (.loop r)) →
      body.wpIn (Fence.wide.inRound (w.heap.size + 1)) m P (fun e _ W3 => e = .normal ∧ Kept Z W2 W3 ∧ I (pre ++ [val x]) W3) a₁ W2) (fun _ _ _ => False)) { tmps := (ps.zip (encs x)).foldl (fun t (p, v) => t.setIfInBounds p v) a.tmps, defers := [] } W)
    (hdone : ∀ W, I xs W → W.heap[w.heap.size]? = some (.deferred (some [])) → Q .normal { a with defers := { target := .collected w.heap.size, args := #[] } :: a.defers } W) :
    (Code.rangeFunc g ps assign body).wpIn Fence.wide n P Q a w := by
  refine wpIn_rangeFunc ?_
  intro fn hfn
  obtain ⟨rc, hrc⟩ : ∃ rc : LoopState → Option Code → Loop, rc = fun st pe => { state := st, pending := pe, fn, tmps := a.tmps, params := ps, assign, body, defers := w.heap.size } := ⟨_, rfl⟩
  obtain ⟨W1, hW1⟩ : ∃ W1, (w.alloc (.deferred (some []))).alloc (.loop (rc .ready none)) = W1 := ⟨_, rfl⟩
  have hL1 : W1.heap[w.heap.size + 1]? = some (.loop (rc .ready none)) := by
    rw [← hW1]; have := World.alloc_heap_new (w.alloc (.deferred (some []))) (.loop (rc .ready none)); rwa [World.size_alloc] at this
  have hD1 : W1.heap[w.heap.size]? = some (.deferred (some [])) := by
    rw [← hW1]; exact (Below.heap_alloc _ _ _ (by simp)).trans (World.alloc_heap_new w _)
  have hb1 : Below w.heap.size w W1 := by
    rw [← hW1]; exact ((Below.refl _ w).alloc (Nat.le_refl _) _).alloc (by simp) _
  refine ⟨w.heap.size + 1, [{ target := .collected w.heap.size, args := #[] }], W1, { target := .fn (.func gf) lb, args := #[.func (.yield (w.heap.size + 1)) #[] #[]] }, W1, gf,
    #[.func (.yield (w.heap.size + 1)) #[] #[]] ++ lb, W1, ?_, ?_, fun _ _ => trivial, ?_, fun h => by simp [Fence.wide] at h, ?_⟩
  · rw [← hW1, hrc]; exact run_enterLoop_outer _ _ _ _ _
  · simp only [resolve, hg]
    simp [go_sem]
  · simp [invoke, go_sem, eg]
  · refine (hseq W1 hb1 (Array.getElem?_eq_some_iff.1 hL1).1 (w.heap.size + 1) (fun pre W => (I pre W ∧ W.heap[w.heap.size + 1]? = some (.loop (rc .ready none))) ∧ W.heap[w.heap.size]? = some (.deferred (some []))) (n - 1) ?_ ?_ ⟨⟨hI _ _ _ h0 (Kept.up _ hb1), hL1⟩, hD1⟩).mono ?_
    · rintro s A B ⟨⟨h1, h2⟩, h3⟩ hk
      have hs1 := hb1.size
      have hlt : w.heap.size + 1 < W1.heap.size := (Array.getElem?_eq_some_iff.1 hL1).1
      exact ⟨⟨hI _ _ _ h1 (hk.mono fun k _ h => by omega), hk.at h2 (by omega)⟩, hk.at h3 (by omega)⟩
    · rintro pre x m A ⟨⟨h1, h2⟩, h3⟩ hx hpx
      refine YieldAt.mono (round_over (fn := fn) (a := a) (I := I) (rc := rc) (assign := assign) (body := body) (val := val) (fun s p => by rw [hrc]; exact ⟨rfl, rfl, rfl, rfl, rfl, rfl, rfl⟩) (fun s p s' p' => by rw [hrc]) (fun s p s' => by rw [hrc]) hps (fun h => absurd (hZ _ h) (by omega)) (fun s A B h k => hI s A B h (k.mono fun k _ e => by omega)) m pre x A h1 h2
        (hround m pre x A h1 hx hpx (Array.getElem?_eq_some_iff.1 h2).1)) ?_
      rintro e B ⟨rfl, h, hk⟩
      refine ⟨rfl, ⟨h, hk.at h3 (fun e => ?_)⟩, hk⟩
      rcases e with e | e
      · exact absurd (hZ _ e) (by omega)
      · omega
    · rintro e B ⟨⟨v, rfl⟩, ⟨⟨h1, h2⟩, h3⟩, _⟩
      have hel := run_endLoop (P := P) h2 (by rw [hrc]; simp)
      have hpn : (rc .ready none).pending = none := by rw [hrc]
      rw [hpn] at hel
      exact ⟨none, _, hel, hdone _ (hI _ _ _ h1 (Kept.put _ _ _ _ (Nat.le_succ _))) ((World.putObj_heap_other (by omega)).trans h3)⟩

/-- The loop in a round of another one. -/
theorem over_inner (n : Nat) {l₀ : Nat} {r₀ : Loop} (hl₀ : w.heap[l₀]? = some (.loop r₀)) (hg : a.eval g = .func (.func gf) #[] lb) (eg : ∀ args w, (callFunc gf args).run P w = .ok (.enter gf args) w) (hps : ∀ x, (encs x).size = ps.size) (hZ : ∀ k, Z k → k < w.heap.size)
    (hseq : ∀ W, Below w.heap.size w W → w.heap.size < W.heap.size → Hands P gf lb encs val Px (fun k => Z k ∨ k = w.heap.size) xs W)
    (I : List γ → World → Prop) (hI : ∀ s A B, I s A → Kept (fun k => w.heap.size ≤ k) A B → I s B) (h0 : I [] w)
    (hround : ∀ m pre x W, I pre W → Px x W → pre ++ [val x] <+: xs → w.heap.size < W.heap.size → assign.wpIn (Fence.wide.inRound w.heap.size) m P (Exit.then (fun a₁ W1 => Below W.heap.size W W1 ∧ ∀ W2, Kept (fun k => k = w.heap.size) W1 W2 → (∃ r, W2.heap[w.heap.size]? = some (.loop r)) →
      body.wpIn (Fence.wide.inRound w.heap.size) m P (fun e _ W3 => e = .normal ∧ Kept Z W2 W3 ∧ I (pre ++ [val x]) W3) a₁ W2) (fun _ _ _ => False)) { tmps := (ps.zip (encs x)).foldl (fun t (p, v) => t.setIfInBounds p v) a.tmps, defers := [] } W)
    (hdone : ∀ W, I xs W → Kept Z w W → Q .normal a W) :
    (Code.rangeFunc g ps assign body).wpIn (Fence.wide.inRound l₀) n P Q a w := by
  refine wpIn_rangeFunc ?_
  intro fn hfn
  obtain ⟨rc, hrc⟩ : ∃ rc : LoopState → Option Code → Loop, rc = fun st pe => { state := st, pending := pe, fn, tmps := a.tmps, params := ps, assign, body, defers := r₀.defers } := ⟨_, rfl⟩
  obtain ⟨W1, hW1⟩ : ∃ W1, w.alloc (.loop (rc .ready none)) = W1 := ⟨_, rfl⟩
  have hL1 : W1.heap[w.heap.size]? = some (.loop (rc .ready none)) := by rw [← hW1]; exact World.alloc_heap_new w _
  have hb1 : Below w.heap.size w W1 := by rw [← hW1]; exact (Below.refl _ w).alloc (Nat.le_refl _) _
  refine ⟨w.heap.size, [], W1, { target := .fn (.func gf) lb, args := #[.func (.yield w.heap.size) #[] #[]] }, W1, gf,
    #[.func (.yield w.heap.size) #[] #[]] ++ lb, W1, ?_, ?_, fun _ _ => trivial, ?_, fun h => by simp [Fence.wide] at h, ?_⟩
  · rw [← hW1, hrc]; exact run_enterLoop_inner hl₀ _ _ _ _ _
  · simp only [resolve, hg]
    simp [go_sem]
  · simp [invoke, go_sem, eg]
  · refine (CallsIn.inRound l₀ (hseq W1 hb1 (Array.getElem?_eq_some_iff.1 hL1).1 w.heap.size (fun pre W => I pre W ∧ W.heap[w.heap.size]? = some (.loop (rc .ready none))) (n - 1) ?_ ?_ ⟨hI _ _ _ h0 (Kept.up _ hb1), hL1⟩)).mono ?_
    · rintro s A B ⟨h1, h2⟩ hk
      have hs1 := hb1.size
      have hlt : w.heap.size < W1.heap.size := (Array.getElem?_eq_some_iff.1 hL1).1
      exact ⟨hI _ _ _ h1 (hk.mono fun k _ h => by omega), hk.at h2 (by omega)⟩
    · rintro pre x m A ⟨h1, h2⟩ hx hpx
      exact round_over (fn := fn) (a := a) (I := I) (rc := rc) (assign := assign) (body := body) (val := val) (fun s p => by rw [hrc]; exact ⟨rfl, rfl, rfl, rfl, rfl, rfl, rfl⟩) (fun s p s' p' => by rw [hrc]) (fun s p s' => by rw [hrc]) hps (fun h => absurd (hZ _ h) (by omega)) (fun s A B h k => hI s A B h (k.mono fun k _ e => by omega)) m pre x A h1 h2
        (hround m pre x A h1 hx hpx (Array.getElem?_eq_some_iff.1 h2).1)
    · rintro e B ⟨⟨v, rfl⟩, ⟨h1, h2⟩, hk⟩
      have hel := run_endLoop (P := P) h2 (by rw [hrc]; simp)
      have hpn : (rc .ready none).pending = none := by rw [hrc]
      rw [hpn] at hel
      refine ⟨none, _, hel, hdone _ (hI _ _ _ h1 (Kept.put _ _ _ _ (Nat.le_refl _))) ?_⟩
      exact ((Kept.up _ hb1).trans (hk.trans (Kept.put (fun k => Z k ∨ k = w.heap.size) B w.heap.size _ (.inr rfl)))).mono (fun k hk h => h.elim id (fun e => absurd hk (by omega)))
end
end Go.Proofs.Ytjmfkodbilknlaa

/- Two rows of people meet at their ends. -/
namespace Go.Proofs.Ytjmfkodbilknlaa
open Go.RowKit

theorem last_getD {r : List Nat} {k : Nat} (hr : r.length = k + 1) : r.getLast? = some (r.getD k 0) := by
  rw [List.getLast?_eq_getElem?, hr, Nat.add_sub_cancel, List.getElem?_eq_getElem (by omega)]
  simp [List.getD, List.getElem?_eq_getElem (show k < r.length by omega)]
theorem meet_no {r s : List Nat} {k l : Nat} (hr : r.length = k + 1) (hs : s.length = l + 1) (h : r.getD k 0 ≠ s.getD l 0) : meetB r s = false := by
  unfold meetB
  rw [last_getD hr, last_getD hs, Bool.and_eq_false_iff]
  refine .inl ?_
  rw [beq_eq_false_iff_ne]
  exact fun e => h (Option.some.inj e)
theorem drop_getD {r : List Nat} {k : Nat} (hr : r.length = k + 1) (x : Nat) : x ∈ r.dropLast ↔ ∃ i, i < k ∧ r.getD i 0 = x := by
  rw [List.mem_iff_getElem]
  constructor
  · rintro ⟨i, hi, e⟩
    rw [List.length_dropLast, hr] at hi
    refine ⟨i, by omega, ?_⟩
    rw [List.getElem_dropLast] at e
    rw [← e]; simp [List.getD, List.getElem?_eq_getElem (show i < r.length by omega)]
  · rintro ⟨i, hi, e⟩
    refine ⟨i, by rw [List.length_dropLast, hr]; omega, ?_⟩
    rw [List.getElem_dropLast, ← e]
    simp [List.getD, List.getElem?_eq_getElem (show i < r.length by omega)]
theorem meet_in {r s : List Nat} {k i : Nat} (hr : r.length = k + 1) (hi : i < k) (h : r.getD i 0 ∈ s) : meetB r s = false := by
  unfold meetB
  rw [Bool.and_eq_false_iff]
  refine .inr ?_
  rw [List.all_eq_false]
  exact ⟨_, (drop_getD hr _).2 ⟨i, hi, rfl⟩, by simpa using h⟩
theorem meet_yes {r s : List Nat} {k l : Nat} (hr : r.length = k + 1) (hs : s.length = l + 1) (h : r.getD k 0 = s.getD l 0) (h2 : ∀ i, i < k → r.getD i 0 ∉ s) : meetB r s = true := by
  unfold meetB
  rw [last_getD hr, last_getD hs, h, Bool.and_eq_true]
  refine ⟨by simp, ?_⟩
  rw [List.all_eq_true]
  intro x hx
  obtain ⟨i, hi, rfl⟩ := (drop_getD hr x).1 hx
  simpa using h2 i hi
set_option maxRecDepth 100000 in
set_option maxHeartbeats 4000000 in
theorem meetAtEnds_any (f : List (List Int)) (A B : Option Addr) (n c m d : Nat) (r s : List Nat) (w : World) (hp : Pers f w A n c r) (hq : Pers f w B m d s) (hn : 0 < n) (hm : 0 < m) :
    Calls Try.prog 72 #[.slice A n c, .slice B m d] w (Ret (.bool (meetB r s)) w) := by
  obtain ⟨k, hk⟩ : ∃ k, k + 1 = n := ⟨n - 1, by omega⟩
  obtain ⟨l, hl⟩ : ∃ l, l + 1 = m := ⟨m - 1, by omega⟩
  have HRL := Lib.hid (show r.length = k + 1 by have := hp.len; omega)
  have HSL := Lib.hid (show s.length = l + 1 by have := hq.len; omega)
  have hkn : k < n := by omega
  have hlm : l < m := by omega
  have hnc := hp.cap
  have hmc := hq.cap
  have hn1 := hp.max
  have hm1 := hq.max
  have w1 : IntKind.i64.wrap ((n : Int) - 1) = (k : Int) := by rw [wrap_in64 (by omega)]; omega
  have w2 : IntKind.i64.wrap ((m : Int) - 1) = (l : Int) := by rw [wrap_in64 (by omega)]; omega
  have HP := Lib.hid hp
  have HQ := Lib.hid hq
  obtain ⟨b, o, hA, hc⟩ := hp.at_ hn
  obtain ⟨b2, o2, hB, hc2⟩ := hq.at_ hm
  subst hA
  subst hB
  have HCR := Lib.hid hc
  have HCO := Lib.hid (fun v W (h : Pers f W (some ⟨b2, o2, none⟩) m d s) => containsQ_any f (some ⟨b2, o2, none⟩) m d s v W h)
  obtain ⟨c1, c2, c3⟩ := hc k hkn
  obtain ⟨d1, d2, d3⟩ := hc2 l hlm
  have HK := Lib.hid hk
  have HL := Lib.hid hl
  clear hc hc2 hk hl hp hq
  generalize hu : r.getD k 0 = u at *
  generalize hv : s.getD l 0 = v at *
  have HU := Lib.hid hu
  have HV := Lib.hid hv
  clear hu hv
  go_enter Try.func72, Try.ntmps72
  by_cases he : u = v
  · have HE := Lib.hid he
    subst he
    go_wp2
    go_quiet (fail)
    go_wp2
    have HB : Hid (∀ m, Below w.heap.size w (w.drewN m)) := Lib.hid (fun m => below_drewN (Below.refl _ w) m)
    clear c1 c2 c3 d1 d2 d3
    go_loopw [26] (fun i wr => ∃ j : Nat, j ≤ k ∧ i = .int .i64 j ∧ Hid (∀ i, i < j → r.getD i 0 ∉ s) ∧ Hid (Below w.heap.size w wr)) (fun i _ => n - (intOf i).toNat)
    case atStart => exact ⟨0, Nat.zero_le _, rfl, Lib.hid (fun _ h => absurd h (by omega)), Lib.hid (HB.out _)⟩
    case round =>
      clear HB
      obtain ⟨j, hj, rfl, HJ, HB⟩ := hrel
      by_cases hlt : j < k
      · obtain ⟨c1, c2, c3⟩ := HCR.out j (by omega)
        have c1 := Keep.below HB.out _ _ c1
        have c2 := Keep.below HB.out _ _ c2
        have c3 := Keep.below HB.out _ _ c3
        generalize hx : r.getD j 0 = x at *
        have HX := Lib.hid hx
        clear hx
        have HPV : Hid (peV f x = .agg #[.int .i64 x, .int .i64 (g2 f x 0), .int .i64 (g2 f x 1)]) := Lib.hid rfl
        have HC := Lib.hid (fun W (h : Below w.heap.size w W) => HPV.out ▸ HCO.out x W (HQ.out.keep (Keep.below h)))
        clear HPV
        have bx := blk_new wr 65 #[.int .i64 x, .int .i64 (g2 f x 0), .int .i64 (g2 f x 1)]
        have e1 := blk_cell bx (i := 0) rfl
        have e2 := blk_cell bx (i := 1) rfl
        have e3 := blk_cell bx (i := 2) rfl
        have HB1 := Lib.hid (below_up HB.out (below_alloc wr (.cells #[.int .i64 x, .int .i64 (g2 f x 0), .int .i64 (g2 f x 1)] 65)))
        clear bx
        by_cases hin : x ∈ s
        · have HIN := Lib.hid (meet_in HRL.out hlt (by rw [HX.out]; exact hin))
          have HD : Hid (decide (x ∈ s) = true) := Lib.hid (by simpa using hin)
          rw [HD.out] at HC
          clear hin HD
          go_wp2_with fail
          refine (HC.out _ HB1.out).mono ?_
          rintro e w3 ⟨rfl, hb⟩
          have HB2 := Lib.hid (below_up HB1.out hb)
          clear hb c1 c2 c3 e1 e2 e3
          go_wp2
          go_ret
          exact ⟨by rw [HIN.out]; rfl, HB2.out⟩
        · have HNI := Lib.hid hin
          have HD : Hid (decide (x ∈ s) = false) := Lib.hid (by simpa using hin)
          rw [HD.out] at HC
          clear hin HD
          go_wp2_with fail
          refine (HC.out _ HB1.out).mono ?_
          rintro e w3 ⟨rfl, hb⟩
          have HB2 := Lib.hid (below_up HB1.out hb)
          clear hb c1 c2 c3 e1 e2 e3
          go_wp2
          go_roundw
          case rel => exact ⟨j + 1, by omega, by go_num, Lib.hid (fun i hi => by
            by_cases hij : i < j
            · exact HJ.out i hij
            · obtain rfl : i = j := by omega
              rw [HX.out]; exact HNI.out), HB2⟩
          case measure => simp [intOf]; omega
      · obtain rfl : j = k := by omega
        have HY := Lib.hid (meet_yes HRL.out HSL.out (by rw [HU.out, HV.out]) HJ.out)
        go_wp2
        go_ret
        exact ⟨by rw [HY.out]; rfl, HB.out⟩
  · have HN := Lib.hid (meet_no HRL.out HSL.out (by rw [HU.out, HV.out]; exact he))
    have hne1 : ((v : Int) == (u : Int)) = false := by rw [beq_eq_false_iff_ne]; omega
    have hne2 : ((u : Int) == (v : Int)) = false := by rw [beq_eq_false_iff_ne]; omega
    go_wp2
    go_quiet (fail)
    go_wp2
    go_ret
    exact ⟨by rw [HN.out]; rfl, Quiet.below ⟨_, rfl⟩⟩
end Go.Proofs.Ytjmfkodbilknlaa

