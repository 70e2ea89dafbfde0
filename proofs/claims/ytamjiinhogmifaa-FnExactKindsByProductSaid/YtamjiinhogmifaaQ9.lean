/- Texts merged: K8 K9 K10 F1 K11 Y8 J2 J4 Math41 Math20 Z4 V8 V9 Z5 A6. -/
import Derived.Test.YtamjiinhogmifaaQ8
import Derived.Laws.CopyOwn
/- The next shares, by both programs. -/
namespace Go.Proofs.Ytamjiinhogmifaa
open Go.RowKit

/-- A list that a call owns, in block g from its beginning on. -/
structure NX (w : World) (n g : Nat) (L : List Int) (W : World) : Prop where
  own : OwnI w.heap.size W.heap.size W g (some ⟨g, 0, none⟩) n n L
  up : Below w.heap.size w W
  lo : w.heap.size ≤ g
theorem NX.next {w n g L W W'} (h : NX w n g L W) (k : Below W.heap.size W W') : NX w n g L W' := ⟨(h.own.below k).mono (Nat.le_refl _) k.size, below_up h.up k, h.lo⟩
theorem NX.cell {w n g L W} (h : NX w n g L W) {i : Nat} (hi : i < n) : W.cell? ⟨g, i, none⟩ = some (.int .i64 (gi L i)) := by
  obtain ⟨b, o, e, hc⟩ := h.own.ints.at_ (by omega)
  injection e with e
  injection e with e1 e2
  subst e1
  subst e2
  have := hc i hi
  rw [Nat.zero_add] at this
  exact this
theorem NX.frozen {w n g L W} (h : NX w n g L W) {i : Nat} (hi : i < n) : W.frozen? ⟨g, i, none⟩ = false := by
  obtain ⟨o, e, _, _, hf⟩ := h.own.own (by omega)
  injection e with e
  injection e with _ e2
  subst e2
  have := hf i hi
  rw [Nat.zero_add] at this
  exact this
theorem NX.set {w n g L W} (h : NX w n g L W) {i : Nat} (hi : i < n) {v : Int} (hv : -9223372036854775808 ≤ v ∧ v ≤ 9223372036854775807) : NX w n g (L.set i v) (W.setCell ⟨g, i, none⟩ (.int .i64 v)) := by
  have h1 := h.own.set hi hv
  rw [Nat.zero_add] at h1
  exact ⟨h1.mono (Nat.le_refl _) (by simp [World.setCell]), h.up.setCell (p := ⟨g, i, none⟩) h.lo _, h.lo⟩
/-- Numbers of which the first k have turned. -/
def mixT (f h : Nat → Int) (n k : Nat) : List Int := (List.range n).map fun i => if i < k then f i else h i
theorem mixT_len (f h : Nat → Int) (n k : Nat) : (mixT f h n k).length = n := by simp [mixT]
theorem gi_mixT {f h : Nat → Int} {n k i : Nat} (hi : i < n) : gi (mixT f h n k) i = if i < k then f i else h i := by
  rw [gi_get (by rw [mixT_len]; exact hi)]; simp [mixT]
theorem mixT_set {f h : Nat → Int} {n k : Nat} : (mixT f h n k).set k (f k) = mixT f h n (k + 1) := gi_ext (by rw [List.length_set, mixT_len, mixT_len]) fun i hi => by
  rw [List.length_set, mixT_len] at hi
  rw [gi_mixT hi]
  by_cases e : i = k
  · subst e; rw [gi_set_eq (by rw [mixT_len]; exact hi), if_pos (by omega)]
  · rw [gi_set_ne (by rw [mixT_len]; exact hi) e, gi_mixT hi]
    by_cases h2 : i < k
    · rw [if_pos h2, if_pos (by omega)]
    · rw [if_neg h2, if_neg (by omega)]
theorem mixT_zero (f h : Nat → Int) (n : Nat) : mixT f h n 0 = (List.range n).map h := gi_ext (by rw [mixT_len]; simp) fun i hi => by
  rw [mixT_len] at hi
  rw [gi_mixT hi, if_neg (by omega), gi_get (by simpa using hi)]; simp
theorem mixT_all (f h : Nat → Int) (n : Nat) : mixT f h n n = (List.range n).map f := gi_ext (by rw [mixT_len]; simp) fun i hi => by
  rw [mixT_len] at hi
  rw [gi_mixT hi, if_pos hi, gi_get (by simpa using hi)]; simp
theorem list_range (x : List Int) : (List.range x.length).map (gi x) = x := gi_ext (by simp) fun i hi => by
  have hi' : i < x.length := by simpa using hi
  rw [gi_get hi]; simp
theorem gi_range {f : Nat → Int} {n i : Nat} (h : i < n) : gi ((List.range n).map f) i = f i := by rw [gi_get (by simpa using h)]; simp

/-- What the next shares are to each other. -/
def nxV (a : List (List Int)) (x : List Int) (n i : Nat) : Int := gi x i * dotr a x i n
def nxL (a : List (List Int)) (x : List Int) (n k : Nat) : List Int := (List.range k).map (nxV a x n)
theorem nxL_succ (a : List (List Int)) (x : List Int) (n k : Nat) : nxL a x n (k + 1) = nxL a x n k ++ [nxV a x n k] := by simp [nxL, List.range_succ]
theorem nxL_len (a : List (List Int)) (x : List Int) (n k : Nat) : (nxL a x n k).length = k := by simp [nxL]
theorem gi_nxL {a : List (List Int)} {x : List Int} {n k i : Nat} (h : i < k) : gi (nxL a x n k) i = nxV a x n i := gi_range h
theorem VQ.len2' {a : List (List Int)} {n : Nat} (v : VQ a) (hl : a.length = n) : (gr a 0).length = n := by have := v.2; omega
theorem dotr_pos {a : List (List Int)} {x : List Int} {i n : Nat} (ha : ∀ j, j < n → 1 ≤ g2 a i j) (hx : ∀ j, j < n → 0 ≤ gi x j) : ∀ {k}, k ≤ n → sm x k ≤ dotr a x i k
  | 0, _ => Int.le_refl _
  | k + 1, h => by
    have h1 := dotr_pos ha hx (k := k) (by omega)
    have h2 := ha k (by omega)
    have h3 := hx k (by omega)
    have h4 : 1 * gi x k ≤ g2 a i k * gi x k := Int.mul_le_mul_of_nonneg_right h2 h3
    simp only [sm, dotr]
    omega
/-- A field and shares. -/
structure FS (a : List (List Int)) (x : List Int) (n : Nat) : Prop where
  f : VF a
  s : VS x (n : Int)
  l : a.length = n
theorem FS.n3 {a x n} (h : FS a x n) : 1 ≤ n ∧ n ≤ 3 := by have := h.f.q.1.n1; have := h.f.q.1.n3; have := h.l; omega
theorem FS.xl {a x n} (h : FS a x n) : x.length = n := by have := h.s.1; omega
theorem FS.x {a x n} (h : FS a x n) : ∀ j, j < n → 0 ≤ gi x j ∧ gi x j ≤ 1000 := VS.bds h.s
theorem FS.a {a x n} (h : FS a x n) {i j : Nat} (hi : i < n) (hj : j < n) : 1 ≤ g2 a i j ∧ g2 a i j ≤ 9 := by
  have hl := h.l
  have h1 := h.f.p i j (by omega) (by omega)
  have h2 := h.f.q.1.bd (i := i) (j := j) (by omega) (by have := h.f.q.2; omega)
  omega
theorem FS.dot {a x n} (h : FS a x n) {i : Nat} (hi : i < n) : 1 ≤ dotr a x i n ∧ dotr a x i n ≤ 27000 := by
  have h0 := h.n3
  have h1 := dotr_pos (a := a) (x := x) (i := i) (n := n) (fun j hj => (h.a hi hj).1) (fun j hj => (h.x j hj).1) (Nat.le_refl n)
  have h2 := dotr_bd (a := a) (w := x) (i := i) (m := n) (fun j hj => by have := h.a hi hj; omega) h.x (Nat.le_refl n)
  have h3 := h.s.2.2
  unfold tot at h3
  rw [h.xl] at h3
  omega
theorem FS.nx {a x n} (h : FS a x n) {i : Nat} (hi : i < n) : 0 ≤ nxV a x n i ∧ nxV a x n i ≤ 27000000 ∧ (0 < gi x i → 0 < nxV a x n i) := by
  have h1 := h.dot hi
  have h2 := h.x i hi
  unfold nxV
  have h3 : 0 * dotr a x i n ≤ gi x i * dotr a x i n := Int.mul_le_mul_of_nonneg_right h2.1 (by omega)
  have h4 : gi x i * dotr a x i n ≤ 1000 * 27000 := Int.mul_le_mul h2.2 h1.2 (by omega) (by omega)
  exact ⟨by omega, by omega, fun h => Int.mul_pos h (by omega)⟩
theorem sm_has {x : List Int} : ∀ {k}, (∀ j, j < k → 0 ≤ gi x j) → 0 < sm x k → ∃ j, j < k ∧ 0 < gi x j
  | 0, _, h => by simp [sm] at h
  | k + 1, hp, h => by
    by_cases e : 0 < gi x k
    · exact ⟨k, by omega, e⟩
    · have h1 := hp k (by omega)
      obtain ⟨j, hj, hp'⟩ := sm_has (x := x) (k := k) (fun j hj => hp j (by omega)) (by simp only [sm] at h; omega)
      exact ⟨j, by omega, hp'⟩
theorem FS.clr {a x n} (h : FS a x n) : ClrP (nxL a x n n) ∧ 0 < gcdL (nxL a x n n) n := by
  have h0 := h.s.2.2
  unfold tot at h0
  rw [h.xl] at h0
  obtain ⟨j, hj, hp⟩ := sm_has (fun j hj => (h.x j hj).1) h0
  have hc : ClrP (nxL a x n n) := by
    refine ⟨⟨j, by rw [nxL_len]; exact hj, ?_⟩, .inl fun p hp => ?_⟩
    · rw [gi_nxL hj]; have := (h.nx hj).2.2 hp; omega
    · rw [nxL_len] at hp; rw [gi_nxL hp]; exact (h.nx hp).1
  exact ⟨hc, (clr_yes (nxL_len a x n n) hc).1⟩
theorem FS.mid {a x n} (h : FS a x n) : ∀ p, p < (nxL a x n n).length → Mid (gi (nxL a x n n) p) := fun p hp => by
  rw [nxL_len] at hp
  rw [gi_nxL hp]
  have := h.nx hp
  unfold Mid
  omega
/-- What NextShares answers. -/
noncomputable def nsF (a : List (List Int)) (x : List Int) : List Int := if pb (VF a ∧ VS x a.length) = true then clrL (nxL a x a.length a.length) (gcdL (nxL a x a.length a.length) a.length) a.length else []
theorem nsF_yes {a : List (List Int)} {x : List Int} {n : Nat} (h : FS a x n) : nsF a x = clrL (nxL a x n n) (gcdL (nxL a x n n) n) n := by
  unfold nsF; rw [if_pos (pb_true ⟨h.f, by rw [h.l]; exact h.s⟩), h.l]
theorem nsF_no {a : List (List Int)} {x : List Int} (h : ¬ (VF a ∧ VS x a.length)) : nsF a x = [] := by unfold nsF; rw [if_neg (by rw [pb_false h]; decide)]
theorem FS.of {a : List (List Int)} {x : List Int} {n : Nat} (hl : a.length = n) (hf : VF a) (hs : VS x (n : Int)) : FS a x n := ⟨hf, hs, hl⟩
theorem nsF_le (a : List (List Int)) (x : List Int) : (nsF a x).length ≤ 100 := by
  by_cases h : VF a ∧ VS x a.length
  · have hf : FS a x a.length := ⟨h.1, h.2, rfl⟩
    have := hf.n3
    rw [nsF_yes hf, clrL_len]; omega
  · rw [nsF_no h]; simp

end Go.Proofs.Ytamjiinhogmifaa

/- NextShares, by both programs. -/
namespace Go.Proofs.Ytamjiinhogmifaa
open Go.RowKit

theorem NewI.empty {w w' : World} {ys : List Int} (h : Below w.heap.size w w') (hy : ys = []) : NewI w ys (.returned (.slice none 0 0)) w' := by
  subst hy; exact ⟨none, 0, 0, 0, rfl, rfl, OwnI.nil _ _ _ _, h⟩
theorem NewI.from {w w1 w2 : World} {ys : List Int} {e : Ending} (h : Below w.heap.size w w1) (k : NewI w1 ys e w2) : NewI w ys e w2 := by
  obtain ⟨A, n, c, g, he, hn, ho, hb⟩ := k
  exact ⟨A, n, c, g, he, hn, ho.mono h.size (Nat.le_refl _), below_up h hb⟩


end Go.Proofs.Ytamjiinhogmifaa

/- NextShares, by the program. -/
namespace Go.Proofs.Ytamjiinhogmifaa
open Go.RowKit

/-- The next shares on their way, beside the closure's boxes. -/
structure NL (n g pa pw b o c cw : Nat) (Y : Option Addr) (w : World) (L : List Int) (W : World) : Prop where
  nx : NX w n g L W
  ca : W.cell? ⟨pa, 0, none⟩ = some (.slice (some ⟨b, o, none⟩) n c)
  cs : W.cell? ⟨pw, 0, none⟩ = some (.slice Y n cw)
  ha : pa ≠ g
  hs : pw ≠ g
theorem NL.next {n g pa pw b o c cw Y w L W W'} (h : NL n g pa pw b o c cw Y w L W) (k : Below W.heap.size W W') : NL n g pa pw b o c cw Y w L W' :=
  ⟨h.nx.next k, Keep.below k _ _ h.ca, Keep.below k _ _ h.cs, h.ha, h.hs⟩
theorem NL.set {n g pa pw b o c cw Y w L W} (h : NL n g pa pw b o c cw Y w L W) {i : Nat} (hi : i < n) {v : Int} (hv : -9223372036854775808 ≤ v ∧ v ≤ 9223372036854775807) :
    NL n g pa pw b o c cw Y w (L.set i v) (W.setCell ⟨g, i, none⟩ (.int .i64 v)) :=
  ⟨h.nx.set hi hv, by rw [World.cell?_setCell_other _ _ _ _ (by intro e; have := congrArg Addr.block e; first | exact h.ha this | exact h.ha this.symm)]; exact h.ca, by rw [World.cell?_setCell_other _ _ _ _ (by intro e; have := congrArg Addr.block e; first | exact h.hs this | exact h.hs this.symm)]; exact h.cs, h.ha, h.hs⟩
theorem NL.pa {n g pa pw b o c cw Y w L W} {a : List (List Int)} {x : List Int} {rb ro cc : Nat → Nat} (h : NL n g pa pw b o c cw Y w L W) (ht : Tab w b o rb ro cc n n a) (hx : Ints w Y n cw x) (hb : ∀ j, j < n → 0 ≤ gi x j ∧ gi x j ≤ 1000) :
    PA a x n pa pw b o c cw rb ro cc Y W := ⟨ht.keep (Keep.below h.nx.up), hx.keep (Keep.below h.nx.up), hb, h.ca, h.cs⟩

end Go.Proofs.Ytamjiinhogmifaa

/- The harness of the exact laws, for slices of fractions. -/
namespace Go.Proofs.Ytamjiinhogmifaa
open Go.RowKit

/-- A slice of fractions whose cells read as ints, two each. -/
structure Frs (w : World) (A : Option Addr) (n c : Nat) (L : List Int) : Prop where
  len : L.length = 2 * n
  cap : n ≤ c
  max : n ≤ 1000
  at_ : 0 < n → ∃ b o, A = some ⟨b, o, none⟩ ∧ ∀ k, k < 2 * n → w.cell? ⟨b, o + k, none⟩ = some (.int .i64 (gi L k))
theorem Frs.keep {w w' : World} {A n c L} (h : Frs w A n c L) (k : Keep w w') : Frs w' A n c L :=
  ⟨h.len, h.cap, h.max, fun hn => let ⟨b, o, e, hc⟩ := h.at_ hn; ⟨b, o, e, fun i hi => k _ _ (hc i hi)⟩⟩
structure OwnF (lo hi : Nat) (w : World) (b : Nat) (A : Option Addr) (n c : Nat) (L : List Int) : Prop where
  frs : Frs w A n c L
  own : 0 < n → ∃ o, A = some ⟨b, o, none⟩ ∧ lo ≤ b ∧ b < hi ∧ ∀ k, k < 2 * n → w.frozen? ⟨b, o + k, none⟩ = false
theorem OwnF.lt {lo hi w b A n c L} (h : OwnF lo hi w b A n c L) (hn : 0 < n) : b < w.heap.size := by
  obtain ⟨b', o', e, hc⟩ := h.frs.at_ hn
  obtain ⟨o, e', _⟩ := h.own hn
  rw [e] at e'
  injection e' with e'
  injection e' with e1 _ _
  rw [← e1]
  exact World.block_lt_of_cell? w _ (hc 0 (by omega))
theorem OwnF.of_block {lo hi w w' b A n c L} (h : OwnF lo hi w b A n c L) (e : 0 < n → w'.heap[b]? = w.heap[b]?) : OwnF lo hi w' b A n c L := by
  refine ⟨⟨h.frs.len, h.frs.cap, h.frs.max, fun hn => ?_⟩, fun hn => ?_⟩
  · obtain ⟨b', o', e1, hc⟩ := h.frs.at_ hn
    obtain ⟨o, e2, _⟩ := h.own hn
    rw [e1] at e2
    injection e2 with e2
    injection e2 with e2 _ _
    subst e2
    exact ⟨b', o', e1, fun k hk => by rw [World.cell?_of_block (w := w) (e hn)]; exact hc k hk⟩
  · obtain ⟨o, e2, hB, hB2, hf⟩ := h.own hn
    exact ⟨o, e2, hB, hB2, fun k hk => by rw [World.frozen?_of_block (w := w) (e hn)]; exact hf k hk⟩
theorem OwnF.mono {lo hi lo' hi' w b A n c L} (h : OwnF lo hi w b A n c L) (hB : lo' ≤ lo) (hB' : hi ≤ hi') : OwnF lo' hi' w b A n c L :=
  ⟨h.frs, fun hn => let ⟨o, e, h1, h2, h3⟩ := h.own hn; ⟨o, e, Nat.le_trans hB h1, Nat.lt_of_lt_of_le h2 hB', h3⟩⟩
theorem OwnF.below {lo hi w w' b A n c L} (h : OwnF lo hi w b A n c L) (k : Below w.heap.size w w') : OwnF lo hi w' b A n c L := h.of_block fun hn => k.block _ (h.lt hn)
theorem OwnF.touch {lo hi lo' hi' w w' b A n c L} (h : OwnF lo hi w b A n c L) (k : Touch lo' hi' w w') (hd : hi ≤ lo' ∨ hi' ≤ lo) : OwnF lo hi w' b A n c L :=
  h.of_block fun hn => k.block _ (by obtain ⟨_, _, h1, h2, _⟩ := h.own hn; omega)
theorem OwnF.one {lo hi g w w' b A n c L} (h : OwnF lo hi w b A n c L) (k : One g w w') (hne : b ≠ g) : OwnF lo hi w' b A n c L := h.of_block fun _ => k.block b hne
theorem OwnF.nil (lo hi : Nat) (w : World) (b : Nat) : OwnF lo hi w b none 0 0 [] :=
  ⟨⟨rfl, Nat.le_refl _, by omega, fun h => absurd h (by omega)⟩, fun h => absurd h (by omega)⟩
theorem OwnF.set {lo hi w b o n c L} (h : OwnF lo hi w b (some ⟨b, o, none⟩) n c L) {i : Nat} (hi' : i < 2 * n) (v : Int) :
    OwnF lo hi (w.setCell ⟨b, o + i, none⟩ (.int .i64 v)) b (some ⟨b, o, none⟩) n c (L.set i v) := by
  have hl := h.frs.len
  obtain ⟨o', e, h1, h2, hf⟩ := h.own (by omega)
  injection e with e
  injection e with _ e _
  subst e
  obtain ⟨b', o', e, hc⟩ := h.frs.at_ (by omega)
  injection e with e
  injection e with e1 e2 _
  subst e1
  subst e2
  refine ⟨⟨by rw [List.length_set]; exact hl, h.frs.cap, h.frs.max, fun _ => ⟨b, o, rfl, fun k hk => ?_⟩⟩, fun _ => ⟨o, rfl, h1, h2, fun k hk => ?_⟩⟩
  · by_cases e : k = i
    · subst e
      rw [gi_set_eq (by omega), World.cell?_setCell_same w _ _ (hc k hk)]
    · rw [gi_set_ne (by omega) e, World.cell?_setCell_other w _ _ _ (fun e' => by injection e' with _ e' _; omega)]
      exact hc k hk
  · rw [World.frozen?_setCell]; exact hf k hk
/-- A new slice of fractions. -/
def NewF (w : World) (L : List Int) (e : Ending) (w' : World) : Prop :=
  ∃ Av n c gg, e = .returned (.slice Av n c) ∧ L.length = 2 * n ∧ OwnF w.heap.size w'.heap.size w' gg Av n c L ∧ Below w.heap.size w w'
theorem NewF.ge {w w' : World} {L : List Int} {e : Ending} (h : NewF w L e w') :
    ∃ Av c gg, e = .returned (.slice Av (L.length / 2) c) ∧ OwnF w.heap.size w'.heap.size w' gg Av (L.length / 2) c L ∧ w.heap.size ≤ gg ∧ Below w.heap.size w w' := by
  obtain ⟨Av, n, c, gg, rfl, hn, ho, hb⟩ := h
  obtain rfl : n = L.length / 2 := by omega
  by_cases h0 : 0 < L.length / 2
  · obtain ⟨o, e, h1, h2, hf⟩ := ho.own h0
    exact ⟨Av, c, gg, rfl, ho, h1, hb⟩
  · exact ⟨Av, c, w.heap.size, rfl, ⟨ho.frs, fun hn => absurd hn h0⟩, Nat.le_refl _, hb⟩

theorem NewF.geN {w w' : World} {L : List Int} {e : Ending} {N : Nat} (h : NewF w L e w') (hN : L.length = 2 * N) :
    ∃ Av c gg, e = .returned (.slice Av N c) ∧ OwnF w.heap.size w'.heap.size w' gg Av N c L ∧ w.heap.size ≤ gg ∧ Below w.heap.size w w' := by
  have := h.ge
  rw [show L.length / 2 = N by omega] at this
  exact this


def MarkedF (lo hi : Nat) (w : World) (b : Nat) (A : Option Addr) (n c : Nat) (k : Int) (e : Ending) (w' : World) : Prop :=
  e = .returned (.int .i64 (k + (2 * n : Nat))) ∧ OwnF lo hi w' b A n c (seqI k (2 * n)) ∧ (n = 0 → w = w') ∧ One b w w'


end Go.Proofs.Ytamjiinhogmifaa

/- Growth, by the model: a slice of fractions made by append. -/
namespace Go.Proofs.Ytamjiinhogmifaa
open Go.RowKit

theorem payR_dot (a : List (List Int)) (x y : List Int) (i : Nat) : ∀ j, payR a x y i j = gi x i * dotr a y i j
  | 0 => by simp [payR, dotr]
  | j + 1 => by
    rw [payR, dotr, payR_dot a x y i j, Int.mul_add]
    have : gi x i * gi y j * g2 a i j = gi x i * (g2 a i j * gi y j) := by rw [Int.mul_assoc, Int.mul_comm (gi y j)]
    omega
theorem payU_ge {a : List (List Int)} {x : List Int} {n : Nat} (hx : ∀ j, j < n → 0 ≤ gi x j) (hd : ∀ i, i < n → 1 ≤ dotr a x i n) : ∀ {k}, k ≤ n → sm x k ≤ payU a x x n k
  | 0, _ => Int.le_refl _
  | k + 1, h => by
    have h1 := payU_ge hx hd (k := k) (by omega)
    have h2 : gi x k * 1 ≤ gi x k * dotr a x k n := Int.mul_le_mul_of_nonneg_left (hd k (by omega)) (hx k (by omega))
    rw [payU, payR_dot, sm]
    omega
/-- What a strategy grows by, above and below the line. -/
def gU (a : List (List Int)) (x : List Int) (n i : Nat) : Int := dotr a x i n * tot x
def gP (a : List (List Int)) (x : List Int) (n : Nat) : Int := payU a x x n n
def grL (a : List (List Int)) (x : List Int) (n : Nat) : Nat → List Int
  | 0 => []
  | i + 1 => grL a x n i ++ [frU (gU a x n i) (gP a x n), frD (gU a x n i) (gP a x n)]
theorem grL_len (a : List (List Int)) (x : List Int) (n : Nat) : ∀ i, (grL a x n i).length = 2 * i
  | 0 => rfl
  | i + 1 => by rw [grL, List.length_append, grL_len a x n i]; simp; omega
theorem gi_append_lt {L M : List Int} {k : Nat} (h : k < L.length) : gi (L ++ M) k = gi L k := by
  rw [gi_get (by rw [List.length_append]; omega), gi_get h, List.getElem_append_left h]
theorem gi_append_ge {L M : List Int} {k : Nat} (h : k < M.length) : gi (L ++ M) (L.length + k) = gi M k := by
  rw [gi_get (by rw [List.length_append]; omega), gi_get h, List.getElem_append_right (by omega)]
  simp
theorem gi_grL (a : List (List Int)) (x : List Int) (n : Nat) : ∀ {k i}, i < k → gi (grL a x n k) (i * 2) = frU (gU a x n i) (gP a x n) ∧ gi (grL a x n k) (i * 2 + 1) = frD (gU a x n i) (gP a x n)
  | 0, _, h => absurd h (by omega)
  | k + 1, i, h => by
    have hl := grL_len a x n k
    rw [grL]
    by_cases e : i = k
    · subst e
      have h0 := gi_append_ge (L := grL a x n i) (M := [frU (gU a x n i) (gP a x n), frD (gU a x n i) (gP a x n)]) (k := 0) (by simp)
      have h1 := gi_append_ge (L := grL a x n i) (M := [frU (gU a x n i) (gP a x n), frD (gU a x n i) (gP a x n)]) (k := 1) (by simp)
      rw [hl] at h0 h1
      rw [show i * 2 = 2 * i + 0 by omega, h0, show 2 * i + 0 + 1 = 2 * i + 1 by omega, h1]
      exact ⟨rfl, rfl⟩
    · rw [gi_append_lt (by omega), gi_append_lt (by omega)]
      exact gi_grL a x n (by omega)
theorem FS.gu {a x n} (h : FS a x n) {i : Nat} (hi : i < n) : 1 ≤ gU a x n i ∧ gU a x n i ≤ 81000000 := by
  have h1 := h.dot hi
  have h2 := h.s.bd (by have := h.n3; omega)
  unfold gU
  have h3 : 1 * 1 ≤ dotr a x i n * tot x := Int.mul_le_mul h1.1 (by omega) (by omega) (by omega)
  have h4 : dotr a x i n * tot x ≤ 27000 * 3000 := Int.mul_le_mul h1.2 h2.2 (by omega) (by omega)
  omega
theorem FS.pb {a x n} (h : FS a x n) : PB a x x n n := ⟨fun i j hi hj => by have := h.a hi hj; omega, h.x, h.x⟩
theorem FS.gp {a x n} (h : FS a x n) : 1 ≤ gP a x n ∧ gP a x n ≤ 81000000 := by
  have h0 := h.n3
  have h1 := payU_ge (a := a) (x := x) (n := n) (fun j hj => (h.x j hj).1) (fun i hi => (h.dot hi).1) (Nat.le_refl n)
  have h2 := payU_bd h.pb h0.2 (Nat.le_refl n)
  have h3 := h.s.2.2
  unfold tot at h3
  rw [h.xl] at h3
  unfold gP
  omega
noncomputable def grF (a : List (List Int)) (x : List Int) : List Int := if pb (VF a ∧ VS x a.length) = true then grL a x a.length a.length else []
theorem grF_yes {a : List (List Int)} {x : List Int} {n : Nat} (h : FS a x n) : grF a x = grL a x n n := by
  unfold grF; rw [if_pos (pb_true ⟨h.f, by rw [h.l]; exact h.s⟩), h.l]
theorem grF_no {a : List (List Int)} {x : List Int} (h : ¬ (VF a ∧ VS x a.length)) : grF a x = [] := by unfold grF; rw [if_neg (by rw [pb_false h]; decide)]
theorem grF_le (a : List (List Int)) (x : List Int) : (grF a x).length ≤ 100 ∧ 2 * ((grF a x).length / 2) = (grF a x).length := by
  by_cases h : VF a ∧ VS x a.length
  · have hf : FS a x a.length := ⟨h.1, h.2, rfl⟩
    have := hf.n3
    rw [grF_yes hf, grL_len]; omega
  · rw [grF_no h]; simp

theorem grF_two (a : List (List Int)) (x : List Int) : ∃ N, (grF a x).length = 2 * N ∧ N ≤ 50 := ⟨(grF a x).length / 2, (grF_le a x).2.symm, by have := (grF_le a x).1; omega⟩

/-- Fractions under way: a slice made by append. -/
structure FU (wb : World) (v : Value) (n : Nat) (L : List Int) (w : World) : Prop where
  own : w.ownsRow wb.heap.size 36 2 v n (L.map iv)
  hi_ : ∀ k, v.ownBlock = some k → k < w.heap.size
  up : Below wb.heap.size wb w
theorem FU.start (wb : World) : FU wb (.slice (some ⟨wb.heap.size, 0, none⟩) 0 0) 0 [] (wb.alloc (.cells #[] 36)) :=
  ⟨World.ownsRow_made (e := 36) (size := 2) wb #[] 0 (Nat.le_refl _) (Nat.zero_le _) rfl, fun k hk => by simp [Value.ownBlock] at hk; simp; omega, below_alloc _ _⟩
theorem FU.next {wb v n L w w'} (h : FU wb v n L w) (k : Below w.heap.size w w') : FU wb v n L w' :=
  ⟨blk_kept h.own fun g hg => k.block g (h.hi_ g hg), fun g hg => Nat.lt_of_lt_of_le (h.hi_ g hg) k.size, below_up h.up k⟩
theorem FU.form {wb v n L w} (h : FU wb v n L w) : ∃ A c, v = .slice A n c := by
  rcases h.own.2 with ⟨rfl, h0⟩ | ⟨g, cap, cur, rfl, _⟩
  · exact ⟨none, 0, by rw [h0]⟩
  · exact ⟨_, _, rfl⟩
theorem FU.len {wb v n L w} (h : FU wb v n L w) : L.length = 2 * n := by have := h.own.1; rw [List.length_map] at this; omega
theorem FU.push {wb v v' n L w w' u d} (h : FU wb v n L w) (hown : w'.ownsRow wb.heap.size 36 2 v' (n + 1) (L.map iv ++ [iv u, iv d]))
    (hgrow : (w.alloc (.cells #[iv u, iv d] 36)).grownBy w' v.ownBlock) (hat : v'.ownBlock = v.ownBlock ∨ v'.ownBlock = some (w.heap.size + 1)) : FU wb v' (n + 1) (L ++ [u, d]) w' := by
  have hsz := hgrow.size
  simp only [World.size_alloc] at hsz
  have hu : ∀ k, v.ownBlock = some k → wb.heap.size ≤ k := fun k hk => (h.own.lt k hk).1
  have hbelow : ∀ k, k < wb.heap.size → w'.heap[k]? = w.heap[k]? := fun k hk => by
    have := h.up.size
    exact (hgrow.block k (by simp; omega) (fun e => by have := hu k e.symm; omega)).trans (Below.heap_alloc _ _ _ (by omega))
  refine ⟨by rw [List.map_append]; exact hown, fun k hk => ?_, ?_⟩
  · rcases hat with hat | hat
    · have := h.hi_ k (by rw [← hat]; exact hk); omega
    · have := (hown.lt k hk).2; omega
  · exact ⟨hgrow.os.trans h.up.os, hgrow.tape.trans h.up.tape, hgrow.output.trans h.up.output, by have := h.up.size; omega, fun k hk => (hbelow k hk).trans (h.up.block k hk)⟩
theorem FU.new {wb n L w} {A : Option Addr} {c : Nat} (h : FU wb (.slice A n c) n L w) (hm : n ≤ 1000) : NewF wb L (.returned (.slice A n c)) w := by
  have hl := h.len
  have hh := h.hi_
  rcases h.own.2 with ⟨e, h0⟩ | ⟨g, cap, cur, e, hb, hg, hnc, _, hcs, htake⟩
  · injection e with e1 e2 e3
    subst e1
    subst e3
    subst h0
    have : L = [] := List.eq_nil_of_length_eq_zero (by omega)
    subst this
    exact ⟨none, 0, 0, 0, rfl, rfl, OwnF.nil _ _ _ _, h.up⟩
  · injection e with e1 e2 e3
    subst e1
    subst e3
    refine ⟨_, n, c, g, rfl, hl, ⟨⟨hl, hnc, hm, fun _ => ⟨g, 0, rfl, fun k hk => ?_⟩⟩, fun _ => ⟨0, rfl, hb, hh g rfl, fun k _ => ?_⟩⟩, h.up⟩
    · rw [Nat.zero_add, ← getElem_iv (by omega : k < L.length), ← htake, List.getElem?_take, if_pos (by omega)]
      simp [World.cell?, hg]
    · rw [Nat.zero_add]; simp [World.frozen?, hg]
theorem cells_two_new (w : World) (u d : Int) : ∀ j v, [iv u, iv d][j]? = some v → (w.alloc (.cells #[iv u, iv d] 36)).cell? ((⟨w.heap.size, 0, none⟩ : Addr).add j) = some v := fun j v h => by
  have hadd : (⟨w.heap.size, 0, none⟩ : Addr).add j = ⟨w.heap.size, j, none⟩ := by unfold Addr.add; split <;> simp_all
  rw [hadd]
  exact blk_cell (blk_new w _ _) (by simpa using h)
theorem NewF.empty {w w' : World} {ys : List Int} (h : Below w.heap.size w w') (hy : ys = []) : NewF w ys (.returned (.slice none 0 0)) w' := by
  subst hy; exact ⟨none, 0, 0, 0, rfl, rfl, OwnF.nil _ _ _ _, h⟩
theorem NewF.from {w w1 w2 : World} {ys : List Int} {e : Ending} (h : Below w.heap.size w w1) (k : NewF w1 ys e w2) : NewF w ys e w2 := by
  obtain ⟨A, n, c, g, he, hn, ho, hb⟩ := k
  exact ⟨A, n, c, g, he, hn, ho.mono h.size (Nat.le_refl _), below_up h hb⟩
theorem Try.infoF : (Try.prog.info? 36).map (fun i => (i.zero, i.size, i.bytes)) = some (some (.agg #[.int .i64 0, .int .i64 0]), 2, 16) := by kernel_rfl

end Go.Proofs.Ytamjiinhogmifaa

/- Fractions compared by the laws, and the sum of the shares' growth. -/
namespace Go.Proofs.Ytamjiinhogmifaa
open Go.RowKit

theorem fr_mul' {u d v e : Int} (hd : 0 < d) (he : 0 < e) : frU (frU u d * frU v e) (frD u d * frD v e) = frU (u * v) (d * e) ∧ frD (frU u d * frU v e) (frD u d * frD v e) = frD (u * v) (d * e) := by
  refine fr_eq (Int.mul_pos (frD_pos hd) (frD_pos he)) (Int.mul_pos hd he) ?_
  have h1 := fr_ratio u d
  have h2 := fr_ratio v e
  generalize frU u d = a at *
  generalize frD u d = b at *
  generalize frU v e = c at *
  generalize frD v e = f at *
  grind
/-- At the end of a region: one frame, and F of the world. -/
def OnceQ (b : Act) (F : World → Prop) : Exit → Act → World → Prop
  | .normal, b', v => b' = b ∧ F v
  | _, _, _ => False
theorem OnceQ.mk {b b' : Act} {F : World → Prop} {v : World} (h : b' = b) (f : F v) : OnceQ b F .normal b' v := ⟨h, f⟩
/-- A region that ends in one frame, whatever the order: what follows is walked once. -/
theorem region_once {P : Program} {c : Code} {Q : Exit → Act → World → Prop} {a : Act} {w : World} (F : World → Prop) {b : Act} (h : c.wp P (OnceQ b F) a w) (k : ∀ v, F v → Q .normal b v) : c.wp P Q a w :=
  Code.wp_mono (fun e b' v h => by
    cases e <;> first | exact (h : False).elim | (obtain ⟨rfl, hf⟩ := (h : b' = b ∧ F v); exact k v hf)) h
/-- One strategy's part of the mean. -/
theorem gr_part {a : List (List Int)} {x : List Int} {n : Nat} (h : FS a x n) {i : Nat} :
    frU (frU (gi x i) (tot x) * frU (gU a x n i) (gP a x n)) (frD (gi x i) (tot x) * frD (gU a x n i) (gP a x n)) = frU (gi x i * dotr a x i n) (gP a x n) ∧
    frD (frU (gi x i) (tot x) * frU (gU a x n i) (gP a x n)) (frD (gi x i) (tot x) * frD (gU a x n i) (gP a x n)) = frD (gi x i * dotr a x i n) (gP a x n) := by
  have hS : 0 < tot x := h.s.2.2
  have hP := h.gp.1
  obtain ⟨e1, e2⟩ := fr_mul' (u := gi x i) (d := tot x) (v := gU a x n i) (e := gP a x n) hS (by omega)
  rw [e1, e2]
  have hU : gU a x n i = dotr a x i n * tot x := rfl
  rw [hU]
  generalize gP a x n = P at *
  generalize tot x = T at *
  exact fr_eq (Int.mul_pos hS (by omega)) (by omega) (by grind)
/-- Two fractions over the same number. -/
theorem fr_sum {S R P : Int} (hP : 0 < P) :
    frU (frU S P * frD R P + frU R P * frD S P) (frD S P * frD R P) = frU (S + R) P ∧ frD (frU S P * frD R P + frU R P * frD S P) (frD S P * frD R P) = frD (S + R) P := by
  have k1 := frU_mul S P
  have k2 := frD_mul S P
  have k3 := frU_mul R P
  have k4 := frD_mul R P
  have q1 := gcdI_pos (a := S) (b := P) (by omega)
  have q2 := gcdI_pos (a := R) (b := P) (by omega)
  refine fr_eq (Int.mul_pos (frD_pos hP) (frD_pos hP)) hP ?_
  generalize gcdI S P = g1 at *
  generalize gcdI R P = g2 at *
  generalize frU S P = s at *
  generalize frD S P = sd at *
  generalize frU R P = r at *
  generalize frD R P = rd at *
  have hc : 0 < g1 * g2 := Int.mul_pos q1 q2
  refine Int.eq_of_mul_eq_mul_right (show g1 * g2 ≠ 0 by omega) ?_
  have e1 : (s * rd + r * sd) * P * (g1 * g2) = ((s * g1) * (rd * g2) + (r * g2) * (sd * g1)) * P := by clear k1 k2 k3 k4; grind
  have e2 : (S + R) * (sd * rd) * (g1 * g2) = (S + R) * ((sd * g1) * (rd * g2)) := by clear k1 k2 k3 k4; grind
  rw [e1, e2, k1, k2, k3, k4]
  clear e1 e2 k1 k2 k3 k4
  grind
theorem fr_whole {P : Int} (hP : 0 < P) : frU P P = 1 ∧ frD P P = 1 := by
  obtain ⟨e1, e2⟩ := fr_eq (u := P) (d := P) (v := 1) (e := 1) hP (by omega) (by omega)
  obtain ⟨f1, f2⟩ := fr_one 1
  rw [e1, e2, f1, f2]; exact ⟨rfl, rfl⟩
/-- At rest a growth is at most one, and one where there is a share. -/
theorem gr_rest {a : List (List Int)} {x : List Int} {n : Nat} (h : FS a x n) (hr : RestP a x n) {i : Nat} (hi : i < n) :
    lessB 1 1 (frU (gU a x n i) (gP a x n)) (frD (gU a x n i) (gP a x n)) = false ∧ (0 < gi x i → frU (gU a x n i) (gP a x n) = 1 ∧ frD (gU a x n i) (gP a x n) = 1) := by
  have hm := (rest_mean h.s).1 hr i hi
  have hP := h.gp.1
  have hl := fr_lt (u := 1) (d := 1) (v := gU a x n i) (e := gP a x n) (by omega) (by omega)
  rw [(fr_one 1).1, (fr_one 1).2] at hl
  refine ⟨?_, fun hp => ?_⟩
  · unfold lessB
    rw [decide_eq_false_iff_not, hl]
    have := hm.1
    unfold gU gP
    omega
  · have he : gU a x n i = gP a x n := hm.2 hp
    rw [he]
    exact fr_whole (by omega)
theorem gr_bd {a : List (List Int)} {x : List Int} {n : Nat} (h : FS a x n) {i : Nat} (hi : i < n) : 0 ≤ gi x i * dotr a x i n ∧ gi x i * dotr a x i n ≤ 27000000 := by
  have h1 := h.dot hi
  have h2 := h.x i hi
  have h3 : 0 * dotr a x i n ≤ gi x i * dotr a x i n := Int.mul_le_mul_of_nonneg_right h2.1 (by omega)
  have h4 : gi x i * dotr a x i n ≤ 1000 * 27000 := Int.mul_le_mul h2.2 h1.2 (by omega) (by omega)
  omega
end Go.Proofs.Ytamjiinhogmifaa

/- MeanKinds, by both programs. -/
namespace Go.Proofs.Ytamjiinhogmifaa
open Go.RowKit

/-- The result's box, untouched, and a fraction's box at r. -/
structure PX (w : World) (r : Nat) (U D : Int) (W : World) : Prop where
  p : PF w W
  b : Blk W r 36 #[.int .i64 U, .int .i64 D]
  lt : w.heap.size < r
theorem PX.next {w r U D W W'} (h : PX w r U D W) (k : Below W.heap.size W W') : PX w r U D W' := ⟨h.p.up k, blk_below h.b k, h.lt⟩
theorem PX.drew {w r U D W} (h : PX w r U D W) : PX w r U D W.drew := h.next (Quiet.below ⟨1, rfl⟩)
theorem PX.set {w r U D W} (h : PX w r U D W) (U' D' : Int) : PX w r U' D' ((W.setCell ⟨r, 0, none⟩ (.int .i64 U')).setCell ⟨r, 1, none⟩ (.int .i64 D')) := by
  have hl := h.lt
  have h1 : w.heap.size ≠ r := by omega
  have h2 : w.heap.size ≤ r := by omega
  exact ⟨⟨blk_other (blk_other h.p.box (p := ⟨r, 0, none⟩) h1 _) (p := ⟨r, 1, none⟩) h1 _, (h.p.below.setCell (p := ⟨r, 0, none⟩) h2 (.int .i64 U')).setCell (p := ⟨r, 1, none⟩) h2 (.int .i64 D')⟩, blk_set (blk_set h.b 0 (.int .i64 U')) 1 (.int .i64 D'), h.lt⟩
set_option maxHeartbeats 1000000 in
theorem plusI_any (u d v e : Int) (w : World) (hu : -20000000 ≤ u ∧ u ≤ 20000000) (hv : -20000000 ≤ v ∧ v ≤ 20000000) (hd : 1 ≤ d ∧ d ≤ 20000000) (he : 1 ≤ e ∧ e ≤ 20000000) :
    Calls Try.prog 51 #[.agg #[.int .i64 u, .int .i64 d], .agg #[.int .i64 v, .int .i64 e]] w (Ret (frV (u * e + v * d) (d * e)) w) := by
  obtain ⟨p1, p2⟩ := mulbd (x := u) (y := e) (A := 20000000) (B := 20000000) hu (by omega)
  obtain ⟨p3, p4⟩ := mulbd (x := v) (y := d) (A := 20000000) (B := 20000000) hv (by omega)
  obtain ⟨p5, p6⟩ := mulbd (x := d) (y := e) (A := 20000000) (B := 20000000) (by omega) (by omega)
  obtain ⟨p7, p8⟩ := mulbd (x := u) (y := v) (A := 20000000) (B := 20000000) hu hv
  have p9 : 1 ≤ d * e := by have h : 1 * 1 ≤ d * e := Int.mul_le_mul hd.1 he.1 (by omega) (by omega); omega
  have HC := Lib.hid (fun W => fracOf_any (u * e + v * d) (d * e) W (by unfold Mid; omega) (by unfold Mid; omega) p9)
  have b0 := blk_old (blk_old (blk_new w 36 #[.int .i64 u, .int .i64 d]) (.cells #[.int .i64 v, .int .i64 e] 36)) (.cells #[.int .i64 0, .int .i64 0] 36)
  have b1 := blk_old (blk_new (w.alloc (.cells #[.int .i64 u, .int .i64 d] 36)) 36 #[.int .i64 v, .int .i64 e]) (.cells #[.int .i64 0, .int .i64 0] 36)
  have b2 := blk_new ((w.alloc (.cells #[.int .i64 u, .int .i64 d] 36)).alloc (.cells #[.int .i64 v, .int .i64 e] 36)) 36 #[.int .i64 0, .int .i64 0]
  have HB := Lib.hid (below_up (below_up (below_alloc w (.cells #[.int .i64 u, .int .i64 d] 36)) (below_alloc _ (.cells #[.int .i64 v, .int .i64 e] 36))) (below_alloc _ (.cells #[.int .i64 0, .int .i64 0] 36)))
  have HFV : Hid (frV (u * e + v * d) (d * e) = .agg #[.int .i64 (frU (u * e + v * d) (d * e)), .int .i64 (frD (u * e + v * d) (d * e))]) := Lib.hid rfl
  rw [HFV.out] at HC
  simp only [World.size_alloc] at b1 b2
  have c0 := blk_cell b0 (i := 0) rfl
  have c1 := blk_cell b0 (i := 1) rfl
  have c2 := blk_cell b1 (i := 0) rfl
  have c3 := blk_cell b1 (i := 1) rfl
  have HB2 := Lib.hid b2
  clear b0 b1 b2
  go_enter Try.func51, Try.ntmps51
  go_wp2_with fail
  clear c0 c1 c2 c3
  generalize ((w.alloc (.cells #[.int .i64 u, .int .i64 d] 36)).alloc (.cells #[.int .i64 v, .int .i64 e] 36)).alloc (.cells #[.int .i64 0, .int .i64 0] 36) = w1 at *
  refine (HC.out _).mono ?_
  rintro e w2 ⟨rfl, hb⟩
  have b0 := blk_below HB2.out hb
  have HBW := Lib.hid (below_up HB.out hb)
  clear hb HC HB HB2
  generalize frU (u * e + v * d) (d * e) = U at *
  generalize frD (u * e + v * d) (d * e) = D at *
  have c0 := blk_cell b0 (i := 0) rfl
  have c1 := blk_cell b0 (i := 1) rfl
  have f0 := blk_frozen b0 0
  have f1 := blk_frozen b0 1
  go_wp2
  clear c0 c1 f0 f1
  have B1 := blk_set (blk_set b0 0 (.int .i64 U)) 1 (.int .i64 D)
  have r0 := blk_cell B1 (i := 0) (v := .int .i64 U) rfl
  have r1 := blk_cell B1 (i := 1) (v := .int .i64 D) rfl
  have hle : w.heap.size ≤ w.heap.size + 1 + 1 := by omega
  have HBX := Lib.hid ((HBW.out.setCell (p := ⟨w.heap.size + 1 + 1, 0, none⟩) hle (.int .i64 U)).setCell (p := ⟨w.heap.size + 1 + 1, 1, none⟩) hle (.int .i64 D))
  clear B1 b0 HBW
  generalize (w2.setCell ⟨w.heap.size + 1 + 1, 0, none⟩ (.int .i64 U)).setCell ⟨w.heap.size + 1 + 1, 1, none⟩ (.int .i64 D) = WE at *
  refine bodyPost_ret (v := .agg #[.int .i64 U, .int .i64 D]) (by simp [results, Try.results51, go_sem, r0, r1]) rfl ?_
  exact ⟨by rw [HFV.out], HBX.out⟩
set_option maxRecDepth 100000 in
set_option maxHeartbeats 800000 in
theorem MeanKinds_spec (n f : Int) (w : World) (_ : Fit n) (_ : Fit f) : Calls Try.prog 24 #[.int .i64 n, .int .i64 f] w (Ret (.tuple #[mkV n f, .bool (pb (MQ n f))]) w) := by
  have HPF := Lib.hid (PF.start w)
  by_cases hn : InR n 1 7
  · have HN := Lib.hid (fun W => pb_true hn ▸ inRange_any n 1 7 W)
    by_cases hf : InR f 1 6
    · have HF := Lib.hid (fun W => pb_true hf ▸ inRange_any f 1 6 W)
      obtain ⟨n, rfl⟩ : ∃ k : Nat, n = (k : Int) := ⟨n.toNat, by unfold InR at hn; omega⟩
      have hq : MQ n f := ⟨hn, hf⟩
      rw [mk_yes hq, pb_true hq]
      have n1 : 1 ≤ n := by unfold InR at hn; omega
      have n7 : n ≤ 7 := by unfold InR at hn; omega
      obtain ⟨f1, f6⟩ := hf
      clear hn hq
      have HZ : Hid (frV 0 1 = .agg #[.int .i64 0, .int .i64 1]) := Lib.hid (by rw [frV, (fr_one 0).1, (fr_one 0).2])
      have HC0 := Lib.hid (fun W => HZ.out ▸ frac_any 0 1 W (by unfold Mid; omega) (by unfold Mid; omega) (by omega))
      go_enter Try.func24, Try.ntmps24
      go_wp2_with fail
      refine (HN.out _).mono ?_
      rintro e w1 ⟨rfl, rfl⟩
      go_wp2_with fail
      refine (HF.out _).mono ?_
      rintro e w2 ⟨rfl, rfl⟩
      go_wp2_with fail
      refine (HC0.out _).mono ?_
      rintro e w3 ⟨rfl, hb⟩
      have HP3 := Lib.hid (HPF.out.up hb)
      clear hb HC0 HPF HN HF HZ
      have b4 := blk_new w3 36 #[.int .i64 0, .int .i64 1]
      have HW4 := Lib.hid (show PF w (w3.alloc (.cells #[.int .i64 0, .int .i64 1] 36)) ∧ w.heap.size < w3.heap.size from ⟨HP3.out.up (below_alloc _ _), blk_lt HP3.out.box⟩)
      have HB4 : Hid (Blk (w3.alloc (.cells #[.int .i64 0, .int .i64 1] 36)) w3.heap.size 36 #[.int .i64 (frU (mkU f 0) (mkD f 0)), .int .i64 (frD (mkU f 0) (mkD f 0))]) := Lib.hid (by
        show Blk _ _ _ #[.int .i64 (frU 0 1), .int .i64 (frD 0 1)]
        rw [(fr_one 0).1, (fr_one 0).2]; exact b4)
      clear b4 HP3
      go_wp2
      generalize w3.alloc (.cells #[.int .i64 0, .int .i64 1] 36) = W0 at *
      generalize w3.heap.size = r at *
      have hr : w.heap.size < r := HW4.out.2
      go_loopw [7] (fun i wr => ∃ k : Nat, k ≤ n ∧ i = .int .i64 k ∧ Hid (PX w r (frU (mkU f k) (mkD f k)) (frD (mkU f k) (mkD f k)) wr)) (fun i _ => n - (intOf i).toNat)
      case atStart => exact ⟨0, Nat.zero_le _, rfl, Lib.hid ⟨HW4.out.1, HB4.out, HW4.out.2⟩⟩
      case round =>
        clear HW4 HB4
        obtain ⟨k, hk, rfl, HX⟩ := hrel
        by_cases hlt : k < n
        · have HBD := mk_bd f1 f6 (k := k) (by omega)
          have PU := Lib.hid (frU_bd (u := mkU f k) (d := mkD f k) (B := 20000000) (by omega) (by omega))
          have PD := Lib.hid (frD_bd (u := mkU f k) (d := mkD f k) (B := 20000000) (by omega) (by omega))
          have GU := Lib.hid (frU_bd (u := f) (d := f + k) (B := 20000000) (by omega) (by omega))
          have GD := Lib.hid (frD_bd (u := f) (d := f + k) (B := 20000000) (by omega) (by omega))
          have HST := Lib.hid (mk_step f1 f6 (k := k) (by omega))
          have HFV : Hid (frV f (f + k) = .agg #[.int .i64 (frU f (f + k)), .int .i64 (frD f (f + k))]) := Lib.hid rfl
          have HC1 := Lib.hid (fun W => HFV.out ▸ frac_any f (f + k) W (by unfold Mid; omega) (by unfold Mid; omega) (by omega))
          have HC2 := Lib.hid (fun W => plusH_any (frU (mkU f k) (mkD f k)) (frD (mkU f k) (mkD f k)) (frU f (f + k)) (frD f (f + k)) W (by have := PU.out; omega) (by have := GU.out; omega) (by have := PD.out; omega) (by have := GD.out; omega))
          have HSV : Hid (∀ u d : Int, frV u d = .agg #[.int .i64 (frU u d), .int .i64 (frD u d)]) := Lib.hid (fun _ _ => rfl)
          rw [HSV.out, HST.out.1, HST.out.2] at HC2
          clear HST HSV HFV PU PD GU GD HBD
          generalize frU f (f + k) = GU at *
          generalize frD f (f + k) = GD at *
          rw [← wrapIn (x := f + k) (by omega)] at HC1
          generalize hNU : frU (mkU f (k + 1)) (mkD f (k + 1)) = NU at *
          generalize hND : frD (mkU f (k + 1)) (mkD f (k + 1)) = ND at *
          have HNE := Lib.hid (And.intro hNU hND)
          clear hNU hND
          have y0 := blk_cell HX.out.b (i := 0) rfl
          have y1 := blk_cell HX.out.b (i := 1) rfl
          go_wp2
          apply region_once (F := fun v => Hid (PX w r NU ND v))
          · go_region_law ((first
              | (go_simp; go_at_call 52; refine (HC1.out _).mono ?_; rintro e v1 ⟨rfl, hb⟩; have D1 := Lib.hid (HX.out.drew.next hb); have y0 := blk_cell D1.out.b (i := 0) rfl; have y1 := blk_cell D1.out.b (i := 1) rfl; clear hb)
              | (go_simp; go_at_call 53; refine (HC2.out _).mono ?_; rintro e v2 ⟨rfl, hb⟩; have D2 := Lib.hid (D1.out.next hb); have z0 := blk_cell D2.out.b (i := 0) rfl; have z1 := blk_cell D2.out.b (i := 1) rfl; have f0 := blk_frozen D2.out.b 0; have f1 := blk_frozen D2.out.b 1; clear hb)))
            all_goals exact OnceQ.mk rfl (Lib.hid (D2.out.set NU ND))
          · rintro w7 HX7
            clear y0 y1 HX HC1 HC2
            go_wp2
            go_roundw
            case rel => exact ⟨k + 1, by omega, by go_num, Lib.hid (by rw [HNE.out.1, HNE.out.2]; exact HX7.out)⟩
            case measure => simp [intOf]; omega
        · obtain rfl : k = n := by omega
          generalize frU (mkU f k) (mkD f k) = U at *
          generalize frD (mkU f k) (mkD f k) = D at *
          have HP := Lib.hid HX.out.p
          have HB := Lib.hid HX.out.b
          have c0 := blk_cell HP.out.box (i := 0) rfl
          have c1 := blk_cell HP.out.box (i := 1) rfl
          have f0 := blk_frozen HP.out.box 0
          have f1 := blk_frozen HP.out.box 1
          have d0 := blk_cell HB.out (i := 0) rfl
          have d1 := blk_cell HB.out (i := 1) rfl
          go_wp2
          clear c0 c1 f0 f1 d0 d1
          have B1 := blk_set (blk_set HP.out.box 0 (.int .i64 U)) 1 (.int .i64 D)
          have r0 := blk_cell B1 (i := 0) (v := .int .i64 U) rfl
          have r1 := blk_cell B1 (i := 1) (v := .int .i64 D) rfl
          have HBX := Lib.hid ((HP.out.below.setCell (p := ⟨w.heap.size, 0, none⟩) (Nat.le_refl _) (.int .i64 U)).setCell (p := ⟨w.heap.size, 1, none⟩) (Nat.le_refl _) (.int .i64 D))
          clear B1 HP
          generalize (wr.setCell ⟨w.heap.size, 0, none⟩ (.int .i64 U)).setCell ⟨w.heap.size, 1, none⟩ (.int .i64 D) = WE at *
          refine bodyPost_ret (v := .tuple #[.agg #[.int .i64 U, .int .i64 D], .bool true]) (by simp [results, Try.results24, go_sem, r0, r1]) rfl ?_
          exact ⟨rfl, HBX.out⟩
    · have HNO := Lib.hid ((fun h : ¬ MQ n f => And.intro (mk_no h) (pb_false h)) (fun h => hf h.2))
      have HF := Lib.hid (fun W => pb_false hf ▸ inRange_any f 1 6 W)
      clear hn hf
      go_enter Try.func24, Try.ntmps24
      go_wp2_with fail
      refine (HN.out _).mono ?_
      rintro e w1 ⟨rfl, rfl⟩
      go_wp2_with fail
      refine (HF.out _).mono ?_
      rintro e w2 ⟨rfl, rfl⟩
      have r0 := blk_cell HPF.out.box (i := 0) rfl
      have r1 := blk_cell HPF.out.box (i := 1) rfl
      have f0 := blk_frozen HPF.out.box 0
      have f1 := blk_frozen HPF.out.box 1
      go_wp2
      refine bodyPost_ret (v := .tuple #[.agg #[.int .i64 0, .int .i64 0], .bool false]) (by simp [results, Try.results24, go_sem, r0, r1]) rfl ?_
      exact ⟨by rw [HNO.out.1, HNO.out.2], HPF.out.below⟩
  · have HNO := Lib.hid ((fun h : ¬ MQ n f => And.intro (mk_no h) (pb_false h)) (fun h => hn h.1))
    have HN := Lib.hid (fun W => pb_false hn ▸ inRange_any n 1 7 W)
    clear hn
    go_enter Try.func24, Try.ntmps24
    go_wp2_with fail
    refine (HN.out _).mono ?_
    rintro e w1 ⟨rfl, rfl⟩
    have r0 := blk_cell HPF.out.box (i := 0) rfl
    have r1 := blk_cell HPF.out.box (i := 1) rfl
    have f0 := blk_frozen HPF.out.box 0
    have f1 := blk_frozen HPF.out.box 1
    go_wp2
    refine bodyPost_ret (v := .tuple #[.agg #[.int .i64 0, .int .i64 0], .bool false]) (by simp [results, Try.results24, go_sem, r0, r1]) rfl ?_
    exact ⟨by rw [HNO.out.1, HNO.out.2], HPF.out.below⟩
set_option maxRecDepth 100000 in
set_option maxHeartbeats 800000 in
theorem MeanKinds_impl (n f : Int) (w : World) (_ : Fit n) (_ : Fit f) : Calls Try.prog 23 #[.int .i64 n, .int .i64 f] w (Ret (.tuple #[mkV n f, .bool (pb (MQ n f))]) w) := by
  have HPF := Lib.hid (PF.start w)
  by_cases hn : InR n 1 7
  · have HN := Lib.hid (fun W => pb_true hn ▸ isUrn_any n W)
    by_cases hf : InR f 1 6
    · have HF := Lib.hid (fun W => pb_true hf ▸ isFresh_any f W)
      obtain ⟨n, rfl⟩ : ∃ k : Nat, n = (k : Int) := ⟨n.toNat, by unfold InR at hn; omega⟩
      have hq : MQ n f := ⟨hn, hf⟩
      rw [mk_yes hq, pb_true hq]
      have n1 : 1 ≤ n := by unfold InR at hn; omega
      have n7 : n ≤ 7 := by unfold InR at hn; omega
      obtain ⟨f1, f6⟩ := hf
      clear hn hq
      have HZ : Hid (frV 0 1 = .agg #[.int .i64 0, .int .i64 1]) := Lib.hid (by rw [frV, (fr_one 0).1, (fr_one 0).2])
      have HC0 := Lib.hid (fun W => HZ.out ▸ fracOf_any 0 1 W (by unfold Mid; omega) (by unfold Mid; omega) (by omega))
      go_enter Try.func23, Try.ntmps23
      go_wp2_with fail
      refine (HN.out _).mono ?_
      rintro e w1 ⟨rfl, rfl⟩
      go_wp2_with fail
      refine (HF.out _).mono ?_
      rintro e w2 ⟨rfl, rfl⟩
      go_wp2_with fail
      refine (HC0.out _).mono ?_
      rintro e w3 ⟨rfl, hb⟩
      have HP3 := Lib.hid (HPF.out.up hb)
      clear hb HC0 HPF HN HF HZ
      have b4 := blk_new w3 36 #[.int .i64 0, .int .i64 1]
      have HW4 := Lib.hid (show PF w (w3.alloc (.cells #[.int .i64 0, .int .i64 1] 36)) ∧ w.heap.size < w3.heap.size from ⟨HP3.out.up (below_alloc _ _), blk_lt HP3.out.box⟩)
      have HB4 : Hid (Blk (w3.alloc (.cells #[.int .i64 0, .int .i64 1] 36)) w3.heap.size 36 #[.int .i64 (frU (mkU f 0) (mkD f 0)), .int .i64 (frD (mkU f 0) (mkD f 0))]) := Lib.hid (by
        show Blk _ _ _ #[.int .i64 (frU 0 1), .int .i64 (frD 0 1)]
        rw [(fr_one 0).1, (fr_one 0).2]; exact b4)
      clear b4 HP3
      go_wp2
      generalize w3.alloc (.cells #[.int .i64 0, .int .i64 1] 36) = W0 at *
      generalize w3.heap.size = r at *
      have hr : w.heap.size < r := HW4.out.2
      go_loopw [7, 19] (fun _ i wr => ∃ k : Nat, k ≤ n ∧ i = .int .i64 k ∧ Hid (PX w r (frU (mkU f k) (mkD f k)) (frD (mkU f k) (mkD f k)) wr)) (fun _ i _ => n - (intOf i).toNat)
      case atStart => exact ⟨0, Nat.zero_le _, rfl, Lib.hid ⟨HW4.out.1, HB4.out, HW4.out.2⟩⟩
      case round =>
        clear HW4 HB4
        obtain ⟨k, hk, rfl, HX⟩ := hrel
        by_cases hlt : k < n
        · have HBD := mk_bd f1 f6 (k := k) (by omega)
          have PU := Lib.hid (frU_bd (u := mkU f k) (d := mkD f k) (B := 20000000) (by omega) (by omega))
          have PD := Lib.hid (frD_bd (u := mkU f k) (d := mkD f k) (B := 20000000) (by omega) (by omega))
          have GU := Lib.hid (frU_bd (u := f) (d := f + k) (B := 20000000) (by omega) (by omega))
          have GD := Lib.hid (frD_bd (u := f) (d := f + k) (B := 20000000) (by omega) (by omega))
          have HST := Lib.hid (mk_step f1 f6 (k := k) (by omega))
          have HFV : Hid (frV f (f + k) = .agg #[.int .i64 (frU f (f + k)), .int .i64 (frD f (f + k))]) := Lib.hid rfl
          have HC1 := Lib.hid (fun W => HFV.out ▸ fracOf_any f (f + k) W (by unfold Mid; omega) (by unfold Mid; omega) (by omega))
          have HC2 := Lib.hid (fun W => plusI_any (frU (mkU f k) (mkD f k)) (frD (mkU f k) (mkD f k)) (frU f (f + k)) (frD f (f + k)) W (by have := PU.out; omega) (by have := GU.out; omega) (by have := PD.out; omega) (by have := GD.out; omega))
          have HSV : Hid (∀ u d : Int, frV u d = .agg #[.int .i64 (frU u d), .int .i64 (frD u d)]) := Lib.hid (fun _ _ => rfl)
          rw [HSV.out, HST.out.1, HST.out.2] at HC2
          clear HST HSV HFV PU PD GU GD HBD
          generalize frU f (f + k) = GU at *
          generalize frD f (f + k) = GD at *
          rw [← wrapIn (x := f + k) (by omega)] at HC1
          generalize hNU : frU (mkU f (k + 1)) (mkD f (k + 1)) = NU at *
          generalize hND : frD (mkU f (k + 1)) (mkD f (k + 1)) = ND at *
          have HNE := Lib.hid (And.intro hNU hND)
          clear hNU hND
          have y0 := blk_cell HX.out.b (i := 0) rfl
          have y1 := blk_cell HX.out.b (i := 1) rfl
          go_wp2
          apply region_once (F := fun v => Hid (PX w r NU ND v))
          · go_region_law ((first
              | (go_simp; go_at_call 50; refine (HC1.out _).mono ?_; rintro e v1 ⟨rfl, hb⟩; have D1 := Lib.hid (HX.out.drew.next hb); have y0 := blk_cell D1.out.b (i := 0) rfl; have y1 := blk_cell D1.out.b (i := 1) rfl; clear hb)
              | (go_simp; go_at_call 51; refine (HC2.out _).mono ?_; rintro e v2 ⟨rfl, hb⟩; have D2 := Lib.hid (D1.out.next hb); have z0 := blk_cell D2.out.b (i := 0) rfl; have z1 := blk_cell D2.out.b (i := 1) rfl; have f0 := blk_frozen D2.out.b 0; have f1 := blk_frozen D2.out.b 1; clear hb)))
            all_goals exact OnceQ.mk rfl (Lib.hid (D2.out.set NU ND))
          · rintro w7 HX7
            clear y0 y1 HX HC1 HC2
            go_wp2
            go_roundw
            case rel => exact ⟨k + 1, by omega, by go_num, Lib.hid (by rw [HNE.out.1, HNE.out.2]; exact HX7.out)⟩
            case measure => simp [intOf]; omega
        · obtain rfl : k = n := by omega
          generalize frU (mkU f k) (mkD f k) = U at *
          generalize frD (mkU f k) (mkD f k) = D at *
          have HP := Lib.hid HX.out.p
          have HB := Lib.hid HX.out.b
          have c0 := blk_cell HP.out.box (i := 0) rfl
          have c1 := blk_cell HP.out.box (i := 1) rfl
          have f0 := blk_frozen HP.out.box 0
          have f1 := blk_frozen HP.out.box 1
          have d0 := blk_cell HB.out (i := 0) rfl
          have d1 := blk_cell HB.out (i := 1) rfl
          go_wp2
          clear c0 c1 f0 f1 d0 d1
          have B1 := blk_set (blk_set HP.out.box 0 (.int .i64 U)) 1 (.int .i64 D)
          have r0 := blk_cell B1 (i := 0) (v := .int .i64 U) rfl
          have r1 := blk_cell B1 (i := 1) (v := .int .i64 D) rfl
          have HBX := Lib.hid ((HP.out.below.setCell (p := ⟨w.heap.size, 0, none⟩) (Nat.le_refl _) (.int .i64 U)).setCell (p := ⟨w.heap.size, 1, none⟩) (Nat.le_refl _) (.int .i64 D))
          clear B1 HP
          generalize (wr.setCell ⟨w.heap.size, 0, none⟩ (.int .i64 U)).setCell ⟨w.heap.size, 1, none⟩ (.int .i64 D) = WE at *
          refine bodyPost_ret (v := .tuple #[.agg #[.int .i64 U, .int .i64 D], .bool true]) (by simp [results, Try.results23, go_sem, r0, r1]) rfl ?_
          exact ⟨rfl, HBX.out⟩
    · have HNO := Lib.hid ((fun h : ¬ MQ n f => And.intro (mk_no h) (pb_false h)) (fun h => hf h.2))
      have HF := Lib.hid (fun W => pb_false hf ▸ isFresh_any f W)
      clear hn hf
      go_enter Try.func23, Try.ntmps23
      go_wp2_with fail
      refine (HN.out _).mono ?_
      rintro e w1 ⟨rfl, rfl⟩
      go_wp2_with fail
      refine (HF.out _).mono ?_
      rintro e w2 ⟨rfl, rfl⟩
      have r0 := blk_cell HPF.out.box (i := 0) rfl
      have r1 := blk_cell HPF.out.box (i := 1) rfl
      have f0 := blk_frozen HPF.out.box 0
      have f1 := blk_frozen HPF.out.box 1
      go_wp2
      refine bodyPost_ret (v := .tuple #[.agg #[.int .i64 0, .int .i64 0], .bool false]) (by simp [results, Try.results23, go_sem, r0, r1]) rfl ?_
      exact ⟨by rw [HNO.out.1, HNO.out.2], HPF.out.below⟩
  · have HNO := Lib.hid ((fun h : ¬ MQ n f => And.intro (mk_no h) (pb_false h)) (fun h => hn h.1))
    have HN := Lib.hid (fun W => pb_false hn ▸ isUrn_any n W)
    clear hn
    go_enter Try.func23, Try.ntmps23
    go_wp2_with fail
    refine (HN.out _).mono ?_
    rintro e w1 ⟨rfl, rfl⟩
    have r0 := blk_cell HPF.out.box (i := 0) rfl
    have r1 := blk_cell HPF.out.box (i := 1) rfl
    have f0 := blk_frozen HPF.out.box 0
    have f1 := blk_frozen HPF.out.box 1
    go_wp2
    refine bodyPost_ret (v := .tuple #[.agg #[.int .i64 0, .int .i64 0], .bool false]) (by simp [results, Try.results23, go_sem, r0, r1]) rfl ?_
    exact ⟨by rw [HNO.out.1, HNO.out.2], HPF.out.below⟩

end Go.Proofs.Ytamjiinhogmifaa

/- ValidParts, by both programs. -/
namespace Go.Proofs.Ytamjiinhogmifaa
open Go.RowKit

/-- A size at a place. -/
def PtOk (xs : List Int) (i : Nat) : Prop := 1 ≤ gi xs i ∧ gi xs i ≤ 7 ∧ (0 < i → gi xs i ≤ gi xs (i - 1))
/-- Sizes of kinds. -/
def VPt (xs : List Int) : Prop := (∀ i, i < xs.length → PtOk xs i) ∧ xs.length ≤ 7 ∧ InR (tot xs) 1 7
theorem sm_up {xs : List Int} {n : Nat} (h : ∀ i, i < n → 1 ≤ gi xs i) : ∀ {k}, k ≤ n → sm xs k + ((n : Int) - k) ≤ sm xs n := by
  induction n with
  | zero =>
    intro k hk
    obtain rfl : k = 0 := by omega
    rw [Int.sub_self, Int.add_zero]; exact Int.le_refl _
  | succ m ih =>
    intro k hk
    have h1 := h m (by omega)
    by_cases e : k = m + 1
    · subst e; omega
    · have := ih (fun i hi => h i (by omega)) (k := k) (by omega)
      rw [sm]; omega
theorem VPt_no {xs : List Int} {k : Nat} (hk : k < xs.length) (h : ¬ PtOk xs k) : pb (VPt xs) = false := pb_false fun v => h (v.1 k hk)
theorem VPt_room {xs : List Int} {k : Nat} (hk : k < xs.length) (h : 7 < sm xs k + gi xs k) : pb (VPt xs) = false := pb_false fun v => by
  have h1 := sm_up (xs := xs) (n := xs.length) (fun i hi => (v.1 i hi).1) (k := k + 1) (by omega)
  have h2 := v.2.2
  unfold InR tot at h2
  rw [sm] at h1
  omega
theorem VPt.of {xs : List Int} (h : ∀ i, i < xs.length → PtOk xs i) (h7 : sm xs xs.length ≤ 7) (h0 : 0 < xs.length) : VPt xs := by
  have h1 := sm_up (xs := xs) (n := xs.length) (fun i hi => (h i hi).1) (k := 0) (by omega)
  simp only [sm] at h1
  exact ⟨h, by omega, by unfold InR tot; omega⟩
theorem VPt.sumOk {xs : List Int} (h : ∀ i, i < xs.length → PtOk xs i) (hl : xs.length ≤ 7) : SumOk xs := ⟨by omega, fun j hj => by have := h j hj; unfold PtOk at this; omega⟩

set_option maxRecDepth 100000 in
set_option maxHeartbeats 800000 in
theorem validParts_any (A : Option Addr) (n c : Nat) (xs : List Int) (w : World) (hx : Ints w A n c xs) :
    Calls Try.prog 48 #[.slice A n c] w fun e w' => e = .returned (.bool (pb (VPt xs))) ∧ Quiet w w' := by
  have hm := hx.max
  have HX := Lib.hid hx
  have HL := Lib.hid hx.len
  clear hx
  go_enter Try.func48, Try.ntmps48
  go_wp2
  go_loopw [3] (fun i wr => ∃ k : Nat, k ≤ n ∧ i = .int .i64 k ∧ Hid (∀ j, j < k → PtOk xs j) ∧ Hid (Quiet w wr)) (fun i _ => n - (intOf i).toNat)
  case atStart => exact ⟨0, Nat.zero_le _, rfl, Lib.hid (fun _ h => absurd h (by omega)), Lib.hid (Quiet.refl _)⟩
  case round =>
    obtain ⟨k, hk, rfl, HP, HQ⟩ := hrel
    by_cases hlt : k < n
    · obtain ⟨b, o, rfl, hc⟩ := (HX.out.keep (Keep.quiet HQ.out)).at_ (by omega)
      have c1 := hc k hlt
      have HKL := Lib.hid (show k < xs.length by rw [HL.out]; exact hlt)
      by_cases x1 : gi xs k < 1
      · have HV := Lib.hid (VPt_no HKL.out (fun h => by have := h.1; omega))
        clear hc
        generalize gi xs k = x at *
        have g1 : decide (x < 1) = true := decide_eq_true (by omega)
        go_wp2
        go_quiet (fail)
        go_wp2
        go_ret
        exact ⟨ret_bool (by rw [HV.out]), HQ.out.trans ⟨_, rfl⟩⟩
      · by_cases x7 : 7 < gi xs k
        · have HV := Lib.hid (VPt_no HKL.out (fun h => by have := h.2.1; omega))
          clear hc
          generalize gi xs k = x at *
          have g1 : decide (x < 1) = false := decide_eq_false (by omega)
          have g2 : decide (7 < x) = true := decide_eq_true (by omega)
          go_wp2
          go_quiet (fail)
          go_wp2
          go_ret
          exact ⟨ret_bool (by rw [HV.out]), HQ.out.trans ⟨_, rfl⟩⟩
        · by_cases h0 : k = 0
          · have HOK := Lib.hid (show PtOk xs k from ⟨by omega, by omega, fun h => absurd h (by omega)⟩)
            clear hc
            generalize gi xs k = x at *
            have g1 : decide (x < 1) = false := decide_eq_false (by omega)
            have g2 : decide (7 < x) = false := decide_eq_false (by omega)
            have g3 : decide ((0 : Int) < (k : Int)) = false := decide_eq_false (by omega)
            have g5 : decide (0 < k) = false := decide_eq_false (by omega)
            clear h0
            go_wp2
            go_quiet (fail)
            go_wp2
            go_roundw
            case rel => exact ⟨k + 1, by omega, by go_num, Lib.hid (fun j hj => by
              by_cases hjk : j < k
              · exact HP.out j hjk
              · obtain rfl : j = k := by omega
                exact HOK.out), Lib.hid (HQ.out.trans ⟨_, rfl⟩)⟩
            case measure => simp [intOf]; omega
          · obtain ⟨l, rfl⟩ : ∃ l, k = l + 1 := ⟨k - 1, by omega⟩
            have c2 := hc l (by omega)
            have hcs : ((l + 1 : Nat) : Int) - 1 = (l : Int) := by omega
            have hl1 : l < n := by omega
            have hln : (l : Int) < (n : Int) := by omega
            clear hc
            by_cases h : gi xs l < gi xs (l + 1)
            · have HV := Lib.hid (VPt_no HKL.out (fun hh => by have := hh.2.2 (by omega); rw [Nat.add_sub_cancel] at this; omega))
              generalize gi xs (l + 1) = x at *
              generalize gi xs l = y at *
              have g1 : decide (x < 1) = false := decide_eq_false (by omega)
              have g2 : decide (7 < x) = false := decide_eq_false (by omega)
              have g3 : decide ((0 : Int) < ((l + 1 : Nat) : Int)) = true := decide_eq_true (by omega)
              have g4 : decide (y < x) = true := decide_eq_true (by omega)
              go_wp2
              go_quiet (fail)
              go_wp2
              go_ret
              exact ⟨ret_bool (by rw [HV.out]), HQ.out.trans ⟨_, rfl⟩⟩
            · have HOK := Lib.hid (show PtOk xs (l + 1) from ⟨by omega, by omega, fun _ => by rw [Nat.add_sub_cancel]; omega⟩)
              generalize gi xs (l + 1) = x at *
              generalize gi xs l = y at *
              have g1 : decide (x < 1) = false := decide_eq_false (by omega)
              have g2 : decide (7 < x) = false := decide_eq_false (by omega)
              have g3 : decide ((0 : Int) < ((l + 1 : Nat) : Int)) = true := decide_eq_true (by omega)
              have g4 : decide (y < x) = false := decide_eq_false (by omega)
              go_wp2
              go_quiet (fail)
              go_wp2
              go_roundw
              case rel => exact ⟨l + 1 + 1, by omega, by go_num, Lib.hid (fun j hj => by
                by_cases hjk : j < l + 1
                · exact HP.out j hjk
                · obtain rfl : j = l + 1 := by omega
                  exact HOK.out), Lib.hid (HQ.out.trans ⟨_, rfl⟩)⟩
              case measure => simp [intOf]; omega
    · obtain rfl : k = n := by omega
      by_cases h7 : k ≤ 7
      · have h7' : decide ((k : Int) ≤ 7) = true := decide_eq_true (by omega)
        have h7i : (k : Int) ≤ 7 := by omega
        have HPA := Lib.hid (fun j (hj : j < xs.length) => HP.out j (by rw [← HL.out]; exact hj))
        have HS := Lib.hid (sum_any A k c xs _ (HX.out.keep (Keep.quiet HQ.out)) (VPt.sumOk HPA.out (by rw [HL.out]; exact h7)))
        have HV : Hid (pb (VPt xs) = pb (InR (tot xs) 1 7)) := Lib.hid (pb_congr ⟨fun h => h.2.2, fun h => ⟨HPA.out, by rw [HL.out]; exact h7, h⟩⟩)
        have HI := Lib.hid (fun W => inRange_any (tot xs) 1 7 W)
        generalize tot xs = s at *
        go_wp2_with fail
        refine HS.out.mono ?_
        rintro e w1 ⟨rfl, hq⟩
        have HQ1 := Lib.hid (HQ.out.trans hq)
        clear hq HS
        go_wp2_with fail
        refine (HI.out _).mono ?_
        rintro e w2 ⟨rfl, rfl⟩
        go_wp2
        go_ret
        exact ⟨ret_bool (by rw [HV.out]), HQ1.out⟩
      · have h7' : decide ((k : Int) ≤ 7) = false := decide_eq_false (by omega)
        have h7i : ¬ (k : Int) ≤ 7 := by omega
        have HV := Lib.hid (pb_false (p := VPt xs) (fun h => by have := h.2.1; rw [HL.out] at this; omega))
        go_wp2
        go_ret
        exact ⟨ret_bool (by rw [HV.out]), HQ.out⟩
theorem ValidParts_spec (A : Option Addr) (n c : Nat) (xs : List Int) (w : World) (hx : Ints w A n c xs) :
    Calls Try.prog 21 #[.slice A n c] w (Ret (.bool (pb (VPt xs))) w) := by
  have HC := Lib.hid (validParts_any A n c xs w hx)
  clear hx
  go_enter Try.func21, Try.ntmps21
  go_wp2_with fail
  refine HC.out.mono ?_
  rintro e w1 ⟨rfl, hq⟩
  go_wp2
  go_ret
  exact ⟨rfl, hq.below⟩
set_option maxRecDepth 100000 in
set_option maxHeartbeats 800000 in
theorem ValidParts_impl (A : Option Addr) (n c : Nat) (xs : List Int) (w : World) (hx : Ints w A n c xs) :
    Calls Try.prog 18 #[.slice A n c] w (Ret (.bool (pb (VPt xs))) w) := by
  have hm := hx.max
  have HX := Lib.hid hx
  have HL := Lib.hid hx.len
  clear hx
  go_enter Try.func18, Try.ntmps18
  go_wp2
  go_loopw [3, 4, 6, 9] (fun m r _ i wr => ∃ (k : Nat) (mo : Int), k ≤ n ∧ i = .int .i64 k ∧ m = .int .i64 mo ∧ r = .int .i64 (7 - sm xs k) ∧ Hid (mo = if k = 0 then 7 else gi xs (k - 1)) ∧ Hid (∀ j, j < k → PtOk xs j) ∧ Hid (1 ≤ mo ∧ mo ≤ 7 ∧ 0 ≤ sm xs k ∧ sm xs k ≤ 7) ∧ Hid (Below w.heap.size w wr)) (fun _ _ _ i _ => n - (intOf i).toNat)
  case atStart => exact ⟨0, 7, Nat.zero_le _, rfl, rfl, rfl, Lib.hid rfl, Lib.hid (fun _ h => absurd h (by omega)), Lib.hid (by simp [sm]), Lib.hid (Below.refl _ _)⟩
  case round =>
    obtain ⟨k, mo, hk, rfl, rfl, rfl, HM, HP, HS, HB⟩ := hrel
    by_cases hlt : k < n
    · obtain ⟨b, o, rfl, hc⟩ := (HX.out.keep (Keep.below HB.out)).at_ (by omega)
      have c1 := hc k hlt
      have HKL := Lib.hid (show k < xs.length by rw [HL.out]; exact hlt)
      have HW := HX.out.wf _ (gi_mem HKL.out)
      obtain ⟨hw1, hw2⟩ := HW
      obtain ⟨m1, m7, s0, s7⟩ := HS.out
      have HSS : Hid (sm xs (k + 1) = sm xs k + gi xs k) := Lib.hid rfl
      clear hc
      by_cases x1 : gi xs k < 1
      · have HV := Lib.hid (VPt_no HKL.out (fun h => by have := h.1; omega))
        clear HSS
        generalize gi xs k = x at *
        generalize sm xs k = s at *
        go_wp2
        go_ret
        exact ⟨ret_bool (by rw [HV.out]), HB.out⟩
      · by_cases hmo : mo < gi xs k
        · have HV := Lib.hid (VPt_no HKL.out (fun h => by
            have hM := HM.out
            split at hM
            · have := h.2.1; omega
            · have := h.2.2 (by omega); omega))
          clear HSS
          generalize gi xs k = x at *
          generalize sm xs k = s at *
          go_wp2
          all_goals go_ret
          all_goals exact ⟨ret_bool (by rw [HV.out]), HB.out⟩
        · by_cases hr : 7 - sm xs k < gi xs k
          · have HV := Lib.hid (VPt_room HKL.out (by omega))
            clear HSS
            generalize gi xs k = x at *
            generalize sm xs k = s at *
            go_wp2
            all_goals go_ret
            all_goals exact ⟨ret_bool (by rw [HV.out]), HB.out⟩
          · have HOK := Lib.hid (show PtOk xs k from by
              have hM := HM.out
              refine ⟨by omega, by omega, fun h0 => ?_⟩
              rw [if_neg (by omega)] at hM
              omega)
            have HN : Hid (gi xs k = if k + 1 = 0 then 7 else gi xs (k + 1 - 1)) := Lib.hid (by rw [if_neg (by omega), Nat.add_sub_cancel])
            generalize gi xs k = x at *
            generalize sm xs k = s at *
            go_wp2
            all_goals
              go_roundw
              case rel => exact ⟨k + 1, x, by omega, by go_num, rfl, by rw [HSS.out]; go_num, HN, Lib.hid (fun j hj => by
                by_cases hjk : j < k
                · exact HP.out j hjk
                · obtain rfl : j = k := by omega
                  exact HOK.out), Lib.hid (by rw [HSS.out]; omega), HB⟩
              case measure => simp [intOf]; omega
    · obtain rfl : k = n := by omega
      by_cases h0 : k = 0
      · subst h0
        have HV := Lib.hid (pb_false (p := VPt xs) (fun h => by have h2 := h.2.2; have := HL.out; rw [tot, this] at h2; unfold InR at h2; simp [sm] at h2))
        clear HM HS HP
        generalize sm xs 0 = s at *
        go_wp2
        go_ret
        exact ⟨ret_bool (by rw [HV.out]), HB.out⟩
      · have HV := Lib.hid (pb_true (p := VPt xs) (VPt.of (fun j hj => HP.out j (by rw [← HL.out]; exact hj)) (by rw [HL.out]; exact HS.out.2.2.2) (by rw [HL.out]; omega)))
        have hk0 : (0 : Int) < (k : Int) := by omega
        have hk1 : decide ((0 : Int) < (k : Int)) = true := decide_eq_true hk0
        have hk2 : 0 < k := by omega
        clear HM HS HP
        generalize sm xs k = s at *
        go_wp2
        go_ret
        exact ⟨ret_bool (by rw [HV.out]), HB.out⟩

end Go.Proofs.Ytamjiinhogmifaa

/- All sizes of kinds: plain. -/
namespace Go.Proofs.Ytamjiinhogmifaa

/-- The rows from m down, t of them, with what comes behind each. -/
def ptsT (g : Nat → Nat → List (List Int)) (n m : Nat) : Nat → List (List Int)
  | 0 => []
  | t + 1 => ptsT g n m t ++ (g (n - (m - t)) (m - t)).map (fun r => ((m - t : Nat) : Int) :: r)
/-- All rows with the sum n, none greater than most (F: n at least). -/
def pts : Nat → Nat → Nat → List (List Int)
  | 0, _, _ => [[]]
  | F + 1, n, most => if n = 0 then [[]] else ptsT (pts F) n (min n most) (min n most)
theorem pts_all : ((List.range 8).all fun F => (List.range 8).all fun n => (List.range 8).all fun m => decide ((pts F n m).length ≤ 40) && (pts F n m).all fun r => decide (r.length ≤ 7) && r.all fun x => decide (0 ≤ x) && decide (x ≤ 7)) = true := by decide +kernel
theorem pts_bd0 (F : Nat) (hF : F < 8) (n : Nat) (hn : n < 8) (m : Nat) (hm : m < 8) : (pts F n m).length ≤ 40 ∧ (∀ r ∈ pts F n m, r.length ≤ 7 ∧ ∀ x ∈ r, 0 ≤ x ∧ x ≤ 7) := by
  have h := pts_all
  simp only [List.all_eq_true, List.mem_range, Bool.and_eq_true, decide_eq_true_eq] at h
  exact h F hF n hn m hm
theorem ptsT_bd0 : ∀ F, F < 7 → ∀ n, n < 8 → ∀ m, m < 8 → ∀ t, t ≤ m → (ptsT (pts F) n m t).length ≤ 50 := by decide +kernel
theorem pts_zero (F m : Nat) : pts F 0 m = [[]] := by cases F <;> rfl
theorem pts_pos {F n : Nat} (h : 0 < n) (m : Nat) : pts (F + 1) n m = ptsT (pts F) n (min n m) (min n m) := by
  show (if n = 0 then _ else _) = _
  rw [if_neg (by omega)]
theorem pts_row {F n m : Nat} (hF : F ≤ 7) (hn : n ≤ 7) (hm : m ≤ 7) {i : Nat} (hi : i < (pts F n m).length) : (gr (pts F n m) i).length ≤ 7 ∧ ∀ x ∈ gr (pts F n m) i, 0 ≤ x ∧ x ≤ 7 :=
  (pts_bd0 F (by omega) n (by omega) m (by omega)).2 _ (gr_mem hi)
/-- One row of what comes behind more. -/
theorem take_cons_succ (list : List (List Int)) (x : Int) {i : Nat} (h : i < list.length) :
    (list.take (i + 1)).map (fun r => x :: r) = (list.take i).map (fun r => x :: r) ++ [x :: gr list i] := by
  rw [List.take_succ_eq_append_getElem h, List.map_append, gr_get h]; rfl
end Go.Proofs.Ytamjiinhogmifaa

/- Shares at which some strategies have as much: the sums of the cofactors of the columns, and the differences to the first row. Plain. -/
namespace Go.Proofs.Ytamjiinhogmifaa
open V (sumN detN rowC colC cofN minorN skip sgn Asc)

/-- The square of a part, as it is. -/
def lf (a : List (List Int)) (r : Nat → Nat) : Nat → Nat → Int := fun p q => g2 a (r p) (r q) + 0
/-- The differences to the first row, behind a row of ones. -/
def mf (a : List (List Int)) (r : Nat → Nat) : Nat → Nat → Int := fun p q => if p = 0 then 1 else g2 a (r p) (r q) - g2 a (r 0) (r q)

theorem rowC_shift {k : Nat} (hk : k ≤ 3) {f g : Nat → Nat → Int} (z : Int) (h : ∀ p q, g p q = f p q + z) {p : Nat} (hp : p < k) : rowC k g p = rowC k f p := by
  have : k = 1 ∨ k = 2 ∨ k = 3 := by omega
  rcases this with rfl | rfl | rfl
  · simp [rowC, sumN, cofN, detN]
  · have : p = 0 ∨ p = 1 := by omega
    rcases this with rfl | rfl <;> simp [rowC, sumN, cofN, sgn, detN, minorN, skip, h] <;> omega
  · obtain ⟨e0, e1, e2⟩ := V.rowC3 f
    obtain ⟨d0, d1, d2⟩ := V.rowC3 g
    have : p = 0 ∨ p = 1 ∨ p = 2 := by omega
    rcases this with rfl | rfl | rfl
    · rw [e0, d0]; simp only [h]; grind
    · rw [e1, d1]; simp only [h]; grind
    · rw [e2, d2]; simp only [h]; grind
theorem lf_kY (a : List (List Int)) (r : Nat → Nat) {k : Nat} (hk : k ≤ 3) : cofL k (trN (lf a r)) k = kY a r r k := by
  unfold kY cofL
  refine List.map_congr_left fun p hp => ?_
  exact (rowC_shift hk 18 (f := trN (lf a r)) (g := trN (kf a r r)) (fun p q => by unfold trN lf kf; omega) (List.mem_range.1 hp)).symm
theorem gi_kY {a : List (List Int)} {r : Nat → Nat} {k : Nat} (hk : k ≤ 3) {c : Nat} (hc : c < k) : gi (kY a r r k) c = colC k (kf a r r) c := by
  unfold kY; rw [gi_cofL hc, rowC_tr hk]
theorem mf_cof {a : List (List Int)} {r : Nat → Nat} {k : Nat} (hk : k ≤ 3) {c : Nat} (hc : c < k) : cofN k (mf a r) 0 c = gi (kY a r r k) c := by
  rw [gi_kY hk hc]
  have : k = 1 ∨ k = 2 ∨ k = 3 := by omega
  rcases this with rfl | rfl | rfl
  · obtain rfl : c = 0 := by omega
    simp [colC, sumN, cofN, sgn, detN]
  · have : c = 0 ∨ c = 1 := by omega
    rcases this with rfl | rfl <;> simp [colC, sumN, cofN, sgn, detN, minorN, skip, mf, kf] <;> omega
  · obtain ⟨e0, e1, e2⟩ := V.colC3 (kf a r r)
    have : c = 0 ∨ c = 1 ∨ c = 2 := by omega
    rcases this with rfl | rfl | rfl
    · rw [e0]; simp [sumN, cofN, sgn, detN, minorN, skip, mf, kf]; grind
    · rw [e1]; simp [sumN, cofN, sgn, detN, minorN, skip, mf, kf]; grind
    · rw [e2]; simp [sumN, cofN, sgn, detN, minorN, skip, mf, kf]; grind
theorem mf_det {a : List (List Int)} {r : Nat → Nat} {k : Nat} (h1 : 1 ≤ k) (hk : k ≤ 3) : detN k (mf a r) = sumN (gi (kY a r r k)) k := by
  obtain ⟨l, rfl⟩ : ∃ l, k = l + 1 := ⟨k - 1, by omega⟩
  rw [detN]
  refine sumN_congr fun j hj => ?_
  rw [← mf_cof hk hj]
  unfold cofN
  rw [Nat.zero_add, show mf a r 0 j = 1 from rfl, Nat.add_sub_cancel, Int.one_mul]
theorem mf_ab {a : List (List Int)} (v : VT a) (h : a.length = (gr a 0).length) {r : Nat → Nat} {k : Nat} (hr : Asc a.length k r) : Ab k (mf a r) := fun p q hp hq => by
  unfold mf
  have h0 := hr.1 0 (by omega)
  have hpp := hr.1 p hp
  have hqq := hr.1 q hq
  have e1 := v.bd hpp (j := r q) (by omega)
  have e2 := v.bd h0 (j := r q) (by omega)
  split <;> omega

/-- All numbers more than 0, or all less. -/
def LevP (X : List Int) : Prop := (∀ p, p < X.length → 0 < gi X p) ∨ ∀ p, p < X.length → gi X p < 0
theorem LevP.clr {X : List Int} (h : LevP X) (h0 : 0 < X.length) : ClrP X := by
  rcases h with h | h
  · exact ⟨⟨0, h0, by have := h 0 h0; omega⟩, .inl fun p hp => by have := h p hp; omega⟩
  · exact ⟨⟨0, h0, by have := h 0 h0; omega⟩, .inr fun p hp => by have := h p hp; omega⟩
def levB (xs : List Int) : Bool := decide (lst xs ≤ 0) && decide (0 ≤ mxl xs)
theorem levB_iff {xs : List Int} (h0 : 0 < xs.length) : levB xs = false ↔ LevP xs := by
  unfold levB lst mxl LevP
  rw [Bool.and_eq_false_iff, decide_eq_false_iff_not, decide_eq_false_iff_not]
  constructor
  · rintro (h | h)
    · exact .inl fun p hp => by have := mn_le (xs := xs) (k := xs.length - 1) (j := p) (by omega); omega
    · exact .inr fun p hp => by have := mx_ge xs (k := xs.length - 1) (j := p) (by omega); omega
  · rintro (h | h)
    · obtain ⟨j, hj, e⟩ := mn_mem (xs := xs) (xs.length - 1)
      exact .inl (by have := h j (by omega); omega)
    · obtain ⟨j, hj, e⟩ := mx_at xs (xs.length - 1)
      exact .inr (by have := h j (by omega); omega)

/-- The first c numbers, times z. -/
def sgL (X : List Int) (z : Int) (c : Nat) : List Int := (List.range c).map fun p => z * gi X p
theorem sgL_succ (X : List Int) (z : Int) (c : Nat) : sgL X z (c + 1) = sgL X z c ++ [z * gi X c] := by simp [sgL, List.range_succ]
theorem sgL_len (X : List Int) (z : Int) (c : Nat) : (sgL X z c).length = c := by simp [sgL]
theorem gi_sgL {X : List Int} {z : Int} {c p : Nat} (h : p < c) : gi (sgL X z c) p = z * gi X p := by
  rw [gi_get (by rw [sgL_len]; exact h)]; simp [sgL]
theorem gcdL_sgL {X : List Int} {z : Int} (hz : z = 1 ∨ z = -1) {k : Nat} : ∀ {j}, j ≤ k → gcdL (sgL X z k) j = gcdL X j
  | 0, _ => rfl
  | j + 1, h => by
    rw [gcdL, gcdL, gcdL_sgL hz (by omega), gi_sgL (by omega)]
    rcases hz with rfl | rfl
    · rw [Int.one_mul]
    · unfold gcdI; rw [Int.neg_one_mul, Int.gcd_neg]
theorem shr_sgL {X : List Int} {z : Int} (hz : z = 1 ∨ z = -1) {n k : Nat} {r : Nat → Nat} (hl : X.length = k) : shr n r (sgL X z k) k = shr n r X k := by
  unfold shr
  rw [sgL_len, hl, gcdL_sgL hz (Nat.le_refl _)]
  congr 1
  unfold clrL
  refine List.map_congr_left fun p hp => ?_
  rw [gi_sgL (List.mem_range.1 hp)]
  rcases hz with rfl | rfl
  · rw [Int.one_mul]
  · rw [show max (-1 * gi X p) (-(-1 * gi X p)) = max (gi X p) (-(gi X p)) by omega]
/-- The sign of the sum. -/
def zsg (X : List Int) (k : Nat) : Int := if sumN (gi X) k < 0 then -1 else 1
theorem zsg_or (X : List Int) (k : Nat) : zsg X k = 1 ∨ zsg X k = -1 := by unfold zsg; split <;> simp
theorem lev_sum {X : List Int} (h : LevP X) (h0 : 0 < X.length) : sumN (gi X) X.length ≠ 0 ∧ ∀ p, p < X.length → 0 < zsg X X.length * gi X p := by
  rcases h with h | h
  · have hs := sumN_pos (f := gi X) (n := X.length) (fun i hi => by have := h i hi; omega) ⟨0, h0, h 0 h0⟩
    refine ⟨by omega, fun p hp => ?_⟩
    unfold zsg; rw [if_neg (by omega), Int.one_mul]; exact h p hp
  · have hs := sumN_pos (f := fun i => (-1) * gi X i) (n := X.length) (fun i hi => by have := h i hi; omega) ⟨0, h0, by have := h 0 h0; omega⟩
    rw [sumN_mul] at hs
    refine ⟨by omega, fun p hp => ?_⟩
    unfold zsg; rw [if_pos (by omega)]; have := h p hp; omega
theorem lev_of {X : List Int} {z : Int} (hz : z = 1 ∨ z = -1) (h : ∀ p, p < X.length → 0 < z * gi X p) : LevP X := by
  rcases hz with rfl | rfl
  · exact .inl fun p hp => by have := h p hp; omega
  · exact .inr fun p hp => by have := h p hp; omega

theorem memL_ge : ∀ R, R < 8 → ∀ n, n < 4 → 1 ≤ R → R < 2 ^ n → 1 ≤ (memL R n).length := by decide
/-- The shares of some strategies are the only ones at which these have as much, and no other one has more. -/
def LevAt (a : List (List Int)) (k : Nat) (r : Nat → Nat) : Prop := LevP (kY a r r k) ∧ RestP a (shr a.length r (kY a r r k) k) a.length
def lvl (a : List (List Int)) (s : Nat) : List Int := shr a.length (idx s a.length) (kY a (idx s a.length) (idx s a.length) (memL s a.length).length) (memL s a.length).length
def LvP (a : List (List Int)) (s : Nat) : Prop := 1 ≤ s ∧ s < 2 ^ a.length ∧ LevAt a (memL s a.length).length (idx s a.length)
noncomputable def resR (a : List (List Int)) : Nat → List (List Int)
  | 0 => []
  | s + 1 => if pb (LvP a s) = true then resR a s ++ [lvl a s] else resR a s
noncomputable def resF (a : List (List Int)) : List (List Int) := if pb (VQ a) = true then resR a 8 else []
theorem resR_yes {a : List (List Int)} {s : Nat} (h : LvP a s) : resR a (s + 1) = resR a s ++ [lvl a s] := by rw [resR, if_pos (pb_true h)]
theorem resR_no {a : List (List Int)} {s : Nat} (h : ¬ LvP a s) : resR a (s + 1) = resR a s := by rw [resR, if_neg (by rw [pb_false h]; decide)]
theorem lvl_len (a : List (List Int)) (s : Nat) : (lvl a s).length = a.length := putL_len _ _ _ _
theorem resR_one (a : List (List Int)) : resR a 1 = [] := by rw [resR_no (fun h => by have := h.1; omega)]; rfl
theorem resR_len (a : List (List Int)) : ∀ s, (resR a s).length ≤ s
  | 0 => by simp [resR]
  | s + 1 => by
    have := resR_len a s
    by_cases h : LvP a s
    · rw [resR_yes h, List.length_append, List.length_singleton]; omega
    · rw [resR_no h]; omega
theorem resR_end {a : List (List Int)} : ∀ {d}, resR a (2 ^ a.length + d) = resR a (2 ^ a.length)
  | 0 => rfl
  | d + 1 => by rw [← Nat.add_assoc, resR_no (fun h => by have := h.2.1; omega), resR_end]
theorem resR_all {a : List (List Int)} (h : a.length ≤ 3) : resR a 8 = resR a (2 ^ a.length) := by
  have h8 : 2 ^ a.length ≤ 8 := pow_le8 h
  have := resR_end (a := a) (d := 8 - 2 ^ a.length)
  rwa [show 2 ^ a.length + (8 - 2 ^ a.length) = 8 by omega] at this
theorem mem_resR {a : List (List Int)} {x : List Int} : ∀ {k}, x ∈ resR a k ↔ ∃ s, s < k ∧ LvP a s ∧ x = lvl a s
  | 0 => by simp [resR]
  | k + 1 => by
    have ih := mem_resR (a := a) (x := x) (k := k)
    by_cases h : LvP a k
    · rw [resR_yes h, List.mem_append, List.mem_singleton, ih]
      constructor
      · rintro (⟨s, h1, h2, h3⟩ | h1)
        · exact ⟨s, by omega, h2, h3⟩
        · exact ⟨k, by omega, h, h1⟩
      · rintro ⟨s, h1, h2, h3⟩
        by_cases e : s = k
        · subst e; exact .inr h3
        · exact .inl ⟨s, by omega, h2, h3⟩
    · rw [resR_no h, ih]
      constructor
      · rintro ⟨s, h1, h2, h3⟩; exact ⟨s, by omega, h2, h3⟩
      · rintro ⟨s, h1, h2, h3⟩
        by_cases e : s = k
        · subst e; exact absurd h2 h
        · exact ⟨s, by omega, h2, h3⟩
theorem lvl_VS {a : List (List Int)} (q : VQ a) {s : Nat} (h : LvP a s) (h8 : s < 8) : VS (lvl a s) a.length := by
  have hk3 : (memL s a.length).length ≤ 3 := by have := memL_le s a.length; have := q.1.n3; omega
  have h1 := memL_ge s h8 a.length (by have := q.1.n3; omega) h.1 h.2.1
  have hr := idx_asc s a.length
  exact shr_VS (kY_len _ _ _ _) hr (h.2.2.1.clr (by rw [kY_len]; omega)) (fun p hp => kY_bd q.1 hk3 hr (by rw [← q.2]; exact hr) hp)
end Go.Proofs.Ytamjiinhogmifaa

/- The shares of some strategies at which these have as much, by the model. -/
namespace Go.Proofs.Ytamjiinhogmifaa
open Go.RowKit
open V (sumN detN rowC colC cofN minorN skip sgn Asc)

/-- The first j numbers of row p of the differences; the first i rows. -/
def dfR (a : List (List Int)) (r : Nat → Nat) (p j : Nat) : List Int := (List.range j).map fun q => mf a r p q
def dfL (a : List (List Int)) (r : Nat → Nat) (k i : Nat) : List (List Int) := (List.range i).map fun p => dfR a r p k
theorem dfR_succ (a : List (List Int)) (r : Nat → Nat) (p j : Nat) : dfR a r p (j + 1) = dfR a r p j ++ [mf a r p j] := by simp [dfR, List.range_succ]
theorem dfL_succ (a : List (List Int)) (r : Nat → Nat) (k i : Nat) : dfL a r k (i + 1) = dfL a r k i ++ [dfR a r i k] := by simp [dfL, List.range_succ]
theorem dfR_len (a : List (List Int)) (r : Nat → Nat) (p j : Nat) : (dfR a r p j).length = j := by simp [dfR]
theorem dfL_len (a : List (List Int)) (r : Nat → Nat) (k i : Nat) : (dfL a r k i).length = i := by simp [dfL]
theorem dfL_sq (a : List (List Int)) (r : Nat → Nat) (k : Nat) : Sq k (dfL a r k k) (mf a r) :=
  ⟨dfL_len _ _ _ _, fun p hp => by rw [gr_get (by rw [dfL_len]; exact hp)]; simp [dfL, dfR], fun p q hp hq => by
    unfold g2; rw [gr_get (by rw [dfL_len]; exact hp), gi_get (by simp [dfL, dfR]; exact hq)]; simp [dfL, dfR]⟩
theorem dfR_zero {a : List (List Int)} {r : Nat → Nat} {p j : Nat} (h : p = 0) : dfR a r p (j + 1) = dfR a r p j ++ [1] := by subst h; exact dfR_succ _ _ _ _
theorem dfR_next {a : List (List Int)} {r : Nat → Nat} {p j : Nat} (h : p ≠ 0) : dfR a r p (j + 1) = dfR a r p j ++ [g2 a (r p) (r j) - g2 a (r 0) (r j)] := by
  rw [dfR_succ, mf, if_neg h]
theorem mf_odd {a : List (List Int)} {r : Nat → Nat} {k c : Nat} (hk : k ≤ 3) (hc : c < k) (h : c % 2 = 1) : gi (kY a r r k) c = -(detN (k - 1) (minorN (mf a r) 0 c)) := by
  rw [← mf_cof hk hc, cofN_odd (by omega)]
theorem mf_even {a : List (List Int)} {r : Nat → Nat} {k c : Nat} (hk : k ≤ 3) (hc : c < k) (h : ¬ c % 2 = 1) : gi (kY a r r k) c = detN (k - 1) (minorN (mf a r) 0 c) := by
  rw [← mf_cof hk hc, cofN_even (by omega)]

end Go.Proofs.Ytamjiinhogmifaa

/- Best shares by a part of a table, by the model. -/
namespace Go.Proofs.Ytamjiinhogmifaa
open Go.RowKit
open V (sumN detN rowC colC cofN minorN skip sgn Asc Kern)

/-- Shares by a part, and that they are best; or that there are none. -/
def NewK (w : World) (a : List (List Int)) (k : Nat) (r s : Nat → Nat) (e : Ending) (w' : World) : Prop :=
  (KerP a k r s ∧ ∃ A1 c1 A2 c2, e = .returned (.tuple #[.slice A1 a.length c1, .slice A2 (gr a 0).length c2, .bool true]) ∧ Ints w' A1 a.length c1 (shr a.length r (kX a r s k) k) ∧
    Ints w' A2 (gr a 0).length c2 (shr (gr a 0).length s (kY a r s k) k) ∧ Below w.heap.size w w') ∨
  (¬ KerP a k r s ∧ ∃ v1 v2, e = .returned (.tuple #[v1, v2, .bool false]) ∧ Below w.heap.size w w')
theorem flip_tr {xss : List (List Int)} {k : Nat} {f : Nat → Nat → Int} (h : Sq k xss f) : Sq k (flip xss k k) (trN f) :=
  ⟨flip_len _ _ _, fun p hp => by rw [gr_flip hp]; simp, fun p q hp hq => by
    unfold g2; rw [gr_flip hp, gi_col hq]; exact h.eq q p hq hp⟩
theorem Pl.keep {w w' : World} {X k c r n} (h : Pl w X k c r n) (q : Keep w w') : Pl w' X k c r n := ⟨h.ints.keep q, h.lt⟩

/-- What cleared answers, with its flag as a letter. -/
def ClrV (w' : World) (xs : List Int) (ok : Bool) (v : Value) : Prop :=
  (ok = true ∧ ClrP xs ∧ ∃ A c, v = .slice A xs.length c ∧ Ints w' A xs.length c (clrL xs (gcdL xs xs.length) xs.length)) ∨ (ok = false ∧ ¬ ClrP xs)
theorem NewC.uni {w w' : World} {xs : List Int} {e : Ending} (h : NewC w xs e w') : ∃ ok v, e = .returned (.tuple #[v, .bool ok]) ∧ Below w.heap.size w w' ∧ ClrV w' xs ok v := by
  rcases h with ⟨h1, A, n, c, g, rfl, rfl, ho, hb⟩ | ⟨h1, rfl, hb⟩
  · exact ⟨true, _, rfl, hb, .inl ⟨rfl, h1, A, c, rfl, ho.ints⟩⟩
  · exact ⟨false, _, rfl, hb, .inr ⟨rfl, h1⟩⟩
theorem ClrV.keep {w' w2 : World} {xs : List Int} {ok : Bool} {v : Value} (h : ClrV w' xs ok v) (k : Keep w' w2) : ClrV w2 xs ok v := by
  rcases h with ⟨h1, h2, A, c, h3, h4⟩ | h
  · exact .inl ⟨h1, h2, A, c, h3, h4.keep k⟩
  · exact .inr h
theorem mid_of {x : Int} (h : -648 ≤ x ∧ x ≤ 648) : Mid x := by unfold Mid; omega

end Go.Proofs.Ytamjiinhogmifaa

/- The value's shares, by the model. -/
namespace Go.Proofs.Ytamjiinhogmifaa
open Go.RowKit
open V (Asc)

/-- The best shares of a table. -/
def NewV (w : World) (a : List (List Int)) (e : Ending) (w' : World) : Prop :=
  ∃ A1 c1 A2 c2, e = .returned (.tuple #[.slice A1 a.length c1, .slice A2 (gr a 0).length c2]) ∧ Ints w' A1 a.length c1 (bx a) ∧ Ints w' A2 (gr a 0).length c2 (by_ a) ∧ Below w.heap.size w w'
theorem NewK.no {w w' : World} {a : List (List Int)} {k : Nat} {r s : Nat → Nat} {e : Ending} (h : NewK w a k r s e w') (hn : ¬ KerP a k r s) : ∃ v1 v2, e = .returned (.tuple #[v1, v2, .bool false]) ∧ Below w.heap.size w w' := by
  rcases h with ⟨h1, _⟩ | ⟨_, h⟩
  · exact absurd h1 hn
  · exact h
theorem NewK.yes {w w' : World} {a : List (List Int)} {k : Nat} {r s : Nat → Nat} {e : Ending} (h : NewK w a k r s e w') (hn : KerP a k r s) :
    ∃ A1 c1 A2 c2, e = .returned (.tuple #[.slice A1 a.length c1, .slice A2 (gr a 0).length c2, .bool true]) ∧ Ints w' A1 a.length c1 (shr a.length r (kX a r s k) k) ∧
      Ints w' A2 (gr a 0).length c2 (shr (gr a 0).length s (kY a r s k) k) ∧ Below w.heap.size w w' := by
  rcases h with ⟨_, h⟩ | ⟨h1, _⟩
  · exact h
  · exact absurd hn h1
theorem memL_pl {w : World} {A : Option Addr} {n c S m : Nat} (h : Ints w A n c (memL S m)) (e : n = (memL S m).length) : Pl w A n c (idx S m) m := by
  subst e
  exact ⟨by rw [← memL_idx]; exact h, (idx_asc S m).1⟩

end Go.Proofs.Ytamjiinhogmifaa

/- The rests of a table, by the model. -/
namespace Go.Proofs.Ytamjiinhogmifaa
open Go.RowKit
open V (sumN detN rowC colC cofN minorN skip sgn Asc)

theorem shl_val' {n : Nat} (h : n ≤ 3) : ∃ P : Nat, wrap64 ((2 : Int) ^ n) = (P : Int) ∧ P = 2 ^ n := by
  refine ⟨2 ^ n, ?_, rfl⟩
  have : n = 0 ∨ n = 1 ∨ n = 2 ∨ n = 3 := by omega
  rcases this with rfl | rfl | rfl | rfl <;> (unfold wrap64; decide)
theorem NewT.from {w w1 w2 : World} {xss : List (List Int)} {e : Ending} (h : Below w.heap.size w w1) (k : NewT w1 xss e w2) : NewT w xss e w2 := by
  obtain ⟨A, n, c, g, e1, e2, ho, hb⟩ := k
  exact ⟨A, n, c, g, e1, e2, ho.mono h.size (Nat.le_refl _), below_up h hb⟩
theorem TM.new {wb vs xss w} {A : Option Addr} {n c : Nat} (h : TM wb (.slice A n c) vs xss w) (hm : xss.length ≤ 100) : NewT wb xss (.returned (.slice A n c)) w := by
  obtain ⟨A', n', c', gg, e, hn', hown⟩ := h.bo.owns (by omega)
  injection e with e1 e2 e3
  subst e1
  subst e2
  subst e3
  exact ⟨_, _, _, gg, rfl, hn', hown, h.up⟩
theorem NewT.none {w w' : World} {xss : List (List Int)} (h : Below w.heap.size w w') (hx : xss = []) : NewT w xss (.returned (.slice none 0 0)) w' := by
  subst hx
  exact ⟨_, _, _, 0, rfl, rfl, OwnR.nil _ _ _ _, h⟩
theorem resF_yes {a : List (List Int)} (h : VQ a) : resF a = resR a 8 := by unfold resF; rw [if_pos (pb_true h)]
theorem resF_no {a : List (List Int)} (h : ¬ VQ a) : resF a = [] := by unfold resF; rw [if_neg (by rw [pb_false h]; decide)]

end Go.Proofs.Ytamjiinhogmifaa

/- The harness of the exact laws: a copy of a game marked; how many numbers it has. -/
namespace Go.Proofs.Ytamjiinhogmifaa
open Go.RowKit

theorem szR_offs (left : Int) (xs : List (List Int)) (h : 0 ≤ szR left xs) : szR left xs = left - offs xs xs.length := by
  have key : ∀ (xs : List (List Int)) (left : Int), 0 ≤ szR left xs → szR left xs = left - ((xs.map List.length).sum : Nat) := by
    intro xs
    induction xs with
    | nil => intro left _; simp [szR]
    | cons x xs ih =>
      intro left h
      by_cases hn : szI left x.length < 0
      · rw [szR_neg hn] at h; omega
      · rw [szR_pos hn] at h ⊢
        rw [ih _ h]
        have : szI left x.length = left - x.length := by unfold szI at hn ⊢; split <;> simp_all
        rw [this]
        simp
        omega
  have key2 : ∀ k, k ≤ xs.length → offs xs k = (((xs.take k).map List.length).sum : Nat) := by
    intro k
    induction k with
    | zero => intro _; simp [offs]
    | succ k ih =>
      intro hk
      rw [offs, ih (by omega), List.take_succ_eq_append_getElem (by omega), List.map_append, List.sum_append, gr_get (by omega)]
      simp
  rw [key xs left h, key2 _ (Nat.le_refl _), List.take_length]
theorem szRR_offs {left : Int} {xs : List (List Int)} (h : ¬ szRR left xs < 0) : offs xs xs.length ≤ left := by
  unfold szRR at h
  split at h
  · omega
  · rename_i hn
    have := szR_offs _ _ (by omega : 0 ≤ szR (szI left xs.length) xs)
    have h2 : szI left xs.length ≤ left := by unfold szI at hn ⊢; split <;> simp_all; omega
    omega
theorem szG_offs {left : Int} {xs ys : List (List Int)} (h : ¬ szG left xs ys < 0) (h0 : 0 ≤ left) (h1 : left ≤ 1048576) : offs xs xs.length ≤ 1048576 ∧ offs ys ys.length ≤ 1048576 := by
  unfold szG at h
  split at h
  · omega
  · rename_i hn
    split at h
    · omega
    · rename_i hn2
      have := szRR_offs hn
      have := szRR_offs hn2
      have := szRR_le left xs h0 h1
      omega

/-- A game marked: only its own rows have turned, and new blocks are there. -/
def MarkedG (lo hi : Nat) (w : World) (xs ys : List (List Int)) (k : Int) (e : Ending) (w' : World) : Prop :=
  e = .returned (.int .i64 (k + offs xs xs.length + offs ys ys.length)) ∧ ∃ w1, Below w.heap.size w w1 ∧ Touch lo hi w1 w'

def MarkedP (lo hi : Nat) (w : World) (xs ys : List (List Int)) (k : Int) (n m : Nat) (e : Ending) (w' : World) : Prop :=
  e = .returned (.int .i64 (k + offs xs n + offs ys m)) ∧ ∃ w1, Below w.heap.size w w1 ∧ Touch lo hi w1 w'

theorem offs_le {xss : List (List Int)} (h : ∀ r ∈ xss, r.length ≤ 3) : ∀ k, k ≤ xss.length → offs xss k ≤ 3 * k
  | 0, _ => by simp [offs]
  | k + 1, hk => by
    have h1 := offs_le h k (by omega)
    have h2 := h _ (gr_mem (xs := xss) (k := k) (by omega))
    simp only [offs]
    omega

end Go.Proofs.Ytamjiinhogmifaa

