/- Texts merged: CO LO4 LO5 LO6 LO7 Mix Math19 Z3 S5 Cmp S6 S7 Math9 V4 V5. -/
import Derived.Test.YtjmfkodbilknlaaQ3
import Derived.Laws.Tables
import Derived.Laws.Rows
/- A table as an array, by the program. -/
namespace Go.Proofs.Ytjmfkodbilknlaa
open Go.RowKit

theorem blk_row {w g t cs} (h : Blk w g t cs) (c : Array Value) : Blk (w.setRow g c) g t c := setRow_heap w g cs c t (0, 0) h
theorem row_other (w : World) (g k : Nat) (c : Array Value) (h : k ≠ g) : (w.setRow g c).heap[k]? = w.heap[k]? := by
  simp only [World.setRow, Array.getElem?_modify, if_neg (Ne.symm h)]
theorem blk_row_other {w g k t cs} (h : Blk w k t cs) (c : Array Value) (hne : k ≠ g) : Blk (w.setRow g c) k t cs := (row_other w g k c hne).trans h
theorem below_row {B : Nat} {a w : World} (h : Below B a w) {g : Nat} (hg : B ≤ g) (c : Array Value) : Below B a (w.setRow g c) :=
  ⟨h.os, h.tape, h.output, by simpa [World.setRow] using h.size, fun k hk => (row_other w g k c (by omega)).trans (h.block k hk)⟩

end Go.Proofs.Ytjmfkodbilknlaa

/- What is left over, by the program: rows compared at marks, beaten rows. -/
namespace Go.Proofs.Ytjmfkodbilknlaa
open Go.RowKit

def cs3 (x : Nat → Int) : Array Value := #[.int .i64 (x 0), .int .i64 (x 1), .int .i64 (x 2)]
def bs3 (h : Nat → Bool) : Array Value := #[.bool (h 0), .bool (h 1), .bool (h 2)]
theorem cs3_get (x : Nat → Int) {k : Nat} (h : k < 3) : (cs3 x)[k]? = some (.int .i64 (x k)) := by
  have : k = 0 ∨ k = 1 ∨ k = 2 := by omega
  rcases this with rfl | rfl | rfl <;> rfl
theorem bs3_get (x : Nat → Bool) {k : Nat} (h : k < 3) : (bs3 x)[k]? = some (.bool (x k)) := by
  have : k = 0 ∨ k = 1 ∨ k = 2 := by omega
  rcases this with rfl | rfl | rfl <;> rfl
/-- Less at all marks. -/
def LA (x y : Nat → Int) (h : Nat → Bool) (l : Nat) : Prop := ∀ j, j < l → h j = true → x j < y j

end Go.Proofs.Ytjmfkodbilknlaa

/- What is left over, by the program: is a row beaten. -/
namespace Go.Proofs.Ytjmfkodbilknlaa
open Go.RowKit

/-- One of the first l own rows that are marked is more than row i at all marks of the other. -/
def BM (f : Nat → Nat → Int) (own h : Nat → Bool) (i l : Nat) : Prop := ∃ k, k < l ∧ own k = true ∧ LA (f i) (f k) h 3

end Go.Proofs.Ytjmfkodbilknlaa

/- What is left over, by the program: who stays. -/
namespace Go.Proofs.Ytjmfkodbilknlaa
open Go.RowKit

theorem und_marks : Try.prog.underlying 78 = some (.array 3 4) := by kernel_rfl
noncomputable def stM (f : Nat → Nat → Int) (own h : Nat → Bool) : Nat → Bool := fun i => own i && !pb (BM f own h i 3)
/-- The first k of them. -/
def partB (s : Nat → Bool) (k : Nat) : Nat → Bool := fun j => if j < k then s j else false
theorem partB_zero (s : Nat → Bool) : bs3 (partB s 0) = #[.bool false, .bool false, .bool false] := by simp [bs3, partB]
theorem partB_set (s : Nat → Bool) {k : Nat} (h : k < 3) : (bs3 (partB s k)).setIfInBounds k (.bool (s k)) = bs3 (partB s (k + 1)) := by
  have : k = 0 ∨ k = 1 ∨ k = 2 := by omega
  rcases this with rfl | rfl | rfl <;> simp [bs3, partB]
theorem partB_all (s : Nat → Bool) : bs3 (partB s 3) = bs3 s := by simp [bs3, partB]
end Go.Proofs.Ytjmfkodbilknlaa

/- What is left over, by the program: all marks, and the marked. -/
namespace Go.Proofs.Ytjmfkodbilknlaa
open Go.RowKit

/-- The boxes of allMarks. -/
structure AW (w : World) (n k : Nat) (W : World) : Prop where
  box : Blk W w.heap.size 78 #[.bool false, .bool false, .bool false]
  var : Blk W (w.heap.size + 1) 78 (bs3 fun j => decide (j < k))
  below : Below w.heap.size w W
theorem AW.start (n : Nat) (w : World) : AW w n 0 ((w.alloc (.cells #[.bool false, .bool false, .bool false] 78)).alloc (.cells #[.bool false, .bool false, .bool false] 78)) :=
  ⟨blk_old (blk_new _ _ _) _, by have := blk_new (w.alloc (.cells #[.bool false, .bool false, .bool false] 78)) 78 #[.bool false, .bool false, .bool false]; rw [World.size_alloc] at this; exact this, below_up (below_alloc _ _) (below_alloc _ _)⟩
theorem AW.put {w n k W} (u : AW w n k W) (hk : k < 3) : AW w n (k + 1) (W.setCell ⟨w.heap.size + 1, k, none⟩ (.bool true)) :=
  ⟨blk_other u.box (by show w.heap.size ≠ w.heap.size + 1; omega) _, by
    have := blk_set u.var k (.bool true)
    have e : (bs3 fun j => decide (j < k)).setIfInBounds k (.bool true) = bs3 fun j => decide (j < k + 1) := by
      have : k = 0 ∨ k = 1 ∨ k = 2 := by omega
      rcases this with rfl | rfl | rfl <;> simp [bs3]
    rw [e] at this; exact this, u.below.setCell (by show w.heap.size ≤ w.heap.size + 1; omega) _⟩
set_option maxRecDepth 100000 in
set_option maxHeartbeats 3200000 in
theorem allMarks_any (n : Nat) (w : World) (hn : n ≤ 3) :
    Calls Try.prog 78 #[.int .i64 n] w (Ret (.agg (bs3 fun j => decide (j < n))) w) := by
  have HS := Lib.hid (AW.start n w)
  go_enter Try.func78, Try.ntmps78
  go_wp2
  generalize (w.alloc (.cells #[.bool false, .bool false, .bool false] 78)).alloc (.cells #[.bool false, .bool false, .bool false] 78) = W5 at *
  go_loopw [6] (fun s wr => ∃ k : Nat, k ≤ n ∧ s = .int .i64 k ∧ Hid (AW w n k wr)) (fun s _ => n - (intOf s).toNat)
  case atStart => exact ⟨0, by omega, rfl, HS⟩
  case round =>
    clear HS
    obtain ⟨k, hk, rfl, HU⟩ := hrel
    by_cases hlt : k < n
    · have hk3 : (k : Int) < 3 := by omega
      have HN := Lib.hid (HU.out.put (by omega))
      have c2 := blk_cell HU.out.var (bs3_get (fun j => decide (j < k)) (show k < 3 by omega))
      have c3 := blk_frozen HU.out.var k
      clear HU
      go_wp2
      clear c2 c3
      go_roundw
      case rel => exact ⟨k + 1, by omega, by go_num, HN⟩
      case measure => simp [intOf]; omega
    · obtain rfl : k = n := by omega
      have HV := Lib.hid HU.out.var
      have HX := Lib.hid HU.out.box
      have HB := Lib.hid HU.out.below
      clear HU
      obtain ⟨F, hF⟩ : ∃ F : Nat → Bool, F = fun j => decide (j < k) := ⟨_, rfl⟩
      rw [← hF] at HV
      have HF := Lib.hid hF
      clear hF
      generalize wr = W0 at *
      have HSZ : Hid ((Try.prog.info? 78).map (·.size) = some (bs3 F).size) := Lib.hid (by show _ = some 3; kernel_rfl)
      have HS1 : Hid ((bs3 F).all (·.oneCell') = true) := Lib.hid (by simp [bs3, Value.oneCell'])
      go_wp2_with (first | (refine wpList_load_row rfl 78 _ rfl (w.heap.size + 1) rfl 78 (bs3 F) (0, 0) _ HV.out und_marks rfl HSZ.out ?_) | (refine wpList_store_row rfl 78 _ _ rfl w.heap.size (bs3 F) rfl rfl 78 _ HX.out HSZ.out rfl HS1.out ?_))
      have BB := Lib.hid (blk_row HX.out (bs3 F))
      have HBX := Lib.hid (below_row HB.out (g := w.heap.size) (by omega) (bs3 F))
      clear HX HV HB
      generalize W0.setRow w.heap.size (bs3 F) = W9 at *
      refine bodyPost_ret (v := .agg (bs3 F)) (results_cell_row (by rfl) _ _ w.heap.size 78 (bs3 F) (0, 0) _ (by rfl) BB.out und_marks rfl HSZ.out) rfl ?_
      exact ⟨by rw [HF.out], HBX.out⟩
end Go.Proofs.Ytjmfkodbilknlaa

/- A list that a call owns; numbers of which the first have turned. -/
namespace Go.Proofs.Ytjmfkodbilknlaa
open Go.RowKit

/-- A list that a call owns, in block g from its beginning on. -/
structure NX (w : World) (n g : Nat) (L : List Int) (W : World) : Prop where
  own : OwnI w.heap.size W.heap.size W g (some ⟨g, 0, none⟩) n n L
  up : Below w.heap.size w W
  lo : w.heap.size ≤ g
theorem NX.next {w n g L W W'} (h : NX w n g L W) (k : Below W.heap.size W W') : NX w n g L W' := ⟨(h.own.below k).mono (Nat.le_refl _) k.size, below_up h.up k, h.lo⟩
theorem NX.cell {w n g L W} (h : NX w n g L W) {i : Nat} (hi : i < n) : W.cell? ⟨g, i, none⟩ = some (.int .i64 (gi L i)) := by
  obtain ⟨b, o, e, hc⟩ := h.own.ints.at_ (by omega)
  injection e with e
  injection e with e1 e2
  subst e1
  subst e2
  have := hc i hi
  rw [Nat.zero_add] at this
  exact this
theorem NX.frozen {w n g L W} (h : NX w n g L W) {i : Nat} (hi : i < n) : W.frozen? ⟨g, i, none⟩ = false := by
  obtain ⟨o, e, _, _, hf⟩ := h.own.own (by omega)
  injection e with e
  injection e with _ e2
  subst e2
  have := hf i hi
  rw [Nat.zero_add] at this
  exact this
theorem NX.set {w n g L W} (h : NX w n g L W) {i : Nat} (hi : i < n) {v : Int} (hv : -9223372036854775808 ≤ v ∧ v ≤ 9223372036854775807) : NX w n g (L.set i v) (W.setCell ⟨g, i, none⟩ (.int .i64 v)) := by
  have h1 := h.own.set hi hv
  rw [Nat.zero_add] at h1
  exact ⟨h1.mono (Nat.le_refl _) (by simp [World.setCell]), h.up.setCell (p := ⟨g, i, none⟩) h.lo _, h.lo⟩
/-- Numbers of which the first k have turned. -/
def mixT (f h : Nat → Int) (n k : Nat) : List Int := (List.range n).map fun i => if i < k then f i else h i
theorem mixT_len (f h : Nat → Int) (n k : Nat) : (mixT f h n k).length = n := by simp [mixT]
theorem gi_mixT {f h : Nat → Int} {n k i : Nat} (hi : i < n) : gi (mixT f h n k) i = if i < k then f i else h i := by
  rw [gi_get (by rw [mixT_len]; exact hi)]; simp [mixT]
theorem mixT_set {f h : Nat → Int} {n k : Nat} : (mixT f h n k).set k (f k) = mixT f h n (k + 1) := gi_ext (by rw [List.length_set, mixT_len, mixT_len]) fun i hi => by
  rw [List.length_set, mixT_len] at hi
  rw [gi_mixT hi]
  by_cases e : i = k
  · subst e; rw [gi_set_eq (by rw [mixT_len]; exact hi), if_pos (by omega)]
  · rw [gi_set_ne (by rw [mixT_len]; exact hi) e, gi_mixT hi]
    by_cases h2 : i < k
    · rw [if_pos h2, if_pos (by omega)]
    · rw [if_neg h2, if_neg (by omega)]
theorem mixT_zero (f h : Nat → Int) (n : Nat) : mixT f h n 0 = (List.range n).map h := gi_ext (by rw [mixT_len]; simp) fun i hi => by
  rw [mixT_len] at hi
  rw [gi_mixT hi, if_neg (by omega), gi_get (by simpa using hi)]; simp
theorem mixT_all (f h : Nat → Int) (n : Nat) : mixT f h n n = (List.range n).map f := gi_ext (by rw [mixT_len]; simp) fun i hi => by
  rw [mixT_len] at hi
  rw [gi_mixT hi, if_pos hi, gi_get (by simpa using hi)]; simp
theorem list_range (x : List Int) : (List.range x.length).map (gi x) = x := gi_ext (by simp) fun i hi => by
  have hi' : i < x.length := by simpa using hi
  rw [gi_get hi]; simp
theorem gi_range {f : Nat → Int} {n i : Nat} (h : i < n) : gi ((List.range n).map f) i = f i := by rw [gi_get (by simpa using h)]; simp

end Go.Proofs.Ytjmfkodbilknlaa

/- Sums of a row with shares. -/
namespace Go.Proofs.Ytjmfkodbilknlaa

/-- What row i has against shares: the terms, and the sum of the first j of them. -/
def dotr (a : List (List Int)) (w : List Int) (i : Nat) : Nat → Int
  | 0 => 0
  | j + 1 => dotr a w i j + g2 a i j * gi w j
def termL (a : List (List Int)) (w : List Int) (i : Nat) : Nat → List Int
  | 0 => []
  | j + 1 => termL a w i j ++ [g2 a i j * gi w j]
theorem termL_len (a : List (List Int)) (w : List Int) (i : Nat) : ∀ j, (termL a w i j).length = j
  | 0 => rfl
  | j + 1 => by rw [termL, List.length_append, termL_len a w i j]; rfl
theorem termL_tot (a : List (List Int)) (w : List Int) (i : Nat) : ∀ j, tot (termL a w i j) = dotr a w i j
  | 0 => rfl
  | j + 1 => by rw [termL, tot_snoc, termL_tot a w i j, dotr]
theorem termL_bd {a : List (List Int)} {w : List Int} {i m : Nat} (ha : ∀ j, j < m → -9 ≤ g2 a i j ∧ g2 a i j ≤ 9) (hw : ∀ j, j < m → 0 ≤ gi w j ∧ gi w j ≤ 1000) :
    ∀ {j}, j ≤ m → ∀ t ∈ termL a w i j, -9000 ≤ t ∧ t ≤ 9000
  | 0, _, t, h => by simp [termL] at h
  | j + 1, hj, t, h => by
    rw [termL, List.mem_append] at h
    rcases h with h | h
    · exact termL_bd ha hw (j := j) (by omega) t h
    · simp only [List.mem_singleton] at h; subst h
      exact mul_bd3 (hw j (by omega)) (ha j (by omega))
theorem dotr_bd {a : List (List Int)} {w : List Int} {i m : Nat} (ha : ∀ j, j < m → -9 ≤ g2 a i j ∧ g2 a i j ≤ 9) (hw : ∀ j, j < m → 0 ≤ gi w j ∧ gi w j ≤ 1000) :
    ∀ {j}, j ≤ m → -9000 * (j : Int) ≤ dotr a w i j ∧ dotr a w i j ≤ 9000 * (j : Int)
  | 0, _ => by simp [dotr]
  | j + 1, hj => by
    have h1 := dotr_bd ha hw (j := j) (by omega)
    have h2 := mul_bd3 (hw j (by omega)) (ha j (by omega))
    simp only [dotr]
    omega
/-- .. against one strategy alone: a number of the table. -/
theorem dotr_onl (a : List (List Int)) (n i k : Nat) : ∀ {j}, j ≤ n → dotr a (onl n k) i j = if k < j then g2 a i k else 0
  | 0, _ => by simp [dotr]
  | j + 1, h => by
    rw [dotr, dotr_onl a n i k (j := j) (by omega), gi_onl (by omega)]
    by_cases e : j = k
    · subst e; rw [if_neg (by omega), if_pos rfl, if_pos (by omega)]; simp
    · rw [if_neg e]
      by_cases h2 : k < j
      · rw [if_pos h2, if_pos (by omega)]; simp
      · rw [if_neg h2, if_neg (by omega)]; simp
theorem dotr_alone (a : List (List Int)) (n i k : Nat) (hk : k < n) : dotr a (onl n k) i n = g2 a i k := by
  rw [dotr_onl a n i k (Nat.le_refl n), if_pos hk]
theorem payR_row (a : List (List Int)) (w : List Int) (n i k : Nat) (hk : k < n) : ∀ j, payR a (onl n i) w k j = if k = i then dotr a w i j else 0
  | 0 => by simp [payR, dotr]
  | j + 1 => by
    rw [payR, payR_row a w n i k hk j, gi_onl hk, dotr]
    by_cases e : k = i
    · subst e; rw [if_pos rfl, if_pos rfl, if_pos rfl, Int.one_mul, Int.mul_comm (gi w j)]
    · rw [if_neg e, if_neg e, if_neg e]; simp
theorem payU_row (a : List (List Int)) (w : List Int) (n m i : Nat) : ∀ {k}, k ≤ n → payU a (onl n i) w m k = if i < k then dotr a w i m else 0
  | 0, _ => by simp [payU]
  | k + 1, h => by
    rw [payU, payU_row a w n m i (k := k) (by omega), payR_row a w n i k (by omega)]
    by_cases e : k = i
    · subst e; rw [if_neg (by omega), if_pos rfl, if_pos (by omega)]; simp
    · rw [if_neg e]
      by_cases h2 : i < k
      · rw [if_pos h2, if_pos (by omega)]; simp
      · rw [if_neg h2, if_neg (by omega)]; simp
/-- The model's sum with one strategy alone is that of its row. -/
theorem payU_alone (a : List (List Int)) (w : List Int) (n m i : Nat) (hi : i < n) : payU a (onl n i) w m n = dotr a w i m := by
  rw [payU_row a w n m i (Nat.le_refl n), if_pos hi]
end Go.Proofs.Ytjmfkodbilknlaa

/- Stable strategies, by the model. -/
namespace Go.Proofs.Ytjmfkodbilknlaa
open Go.RowKit

/-- Strategy i holds against all others before number l. -/
def StP (a : List (List Int)) (i l : Nat) : Prop := ∀ j, j < l → i = j ∨ HoldP a i j
theorem StP.zero (a : List (List Int)) (i : Nat) : StP a i 0 := fun _ h => absurd h (by omega)
theorem StP.succ {a : List (List Int)} {i l : Nat} : StP a i (l + 1) ↔ StP a i l ∧ (i = l ∨ HoldP a i l) := by
  constructor
  · exact fun h => ⟨fun j hj => h j (by omega), h l (by omega)⟩
  · rintro ⟨h1, h2⟩ j hj
    by_cases e : j = l
    · subst e; exact h2
    · exact h1 j (by omega)
/-- The strategies before number k that hold against all n. -/
noncomputable def stL (a : List (List Int)) (n : Nat) : Nat → List Int
  | 0 => []
  | k + 1 => stL a n k ++ (if pb (StP a k n) = true then [(k : Int)] else [])
theorem stL_yes {a : List (List Int)} {n k : Nat} (h : StP a k n) : stL a n (k + 1) = stL a n k ++ [(k : Int)] := by rw [stL, if_pos (pb_true h)]
theorem stL_no {a : List (List Int)} {n k : Nat} (h : ¬ StP a k n) : stL a n (k + 1) = stL a n k := by rw [stL, if_neg (by rw [pb_false h]; decide), List.append_nil]
theorem stL_len (a : List (List Int)) (n : Nat) : ∀ k, (stL a n k).length ≤ k
  | 0 => by simp [stL]
  | k + 1 => by
    have := stL_len a n k
    rw [stL, List.length_append]
    split <;> simp <;> omega
theorem stL_bd (a : List (List Int)) (n : Nat) : ∀ k, ∀ y ∈ stL a n k, 0 ≤ y ∧ y < (k : Int)
  | 0, y, h => by simp [stL] at h
  | k + 1, y, h => by
    rw [stL, List.mem_append] at h
    rcases h with h | h
    · have := stL_bd a n k y h; omega
    · split at h
      · simp only [List.mem_singleton] at h; omega
      · simp at h
/-- What StableOf answers. -/
noncomputable def stF (a : List (List Int)) : List Int := if pb (VQ a) = true then stL a a.length a.length else []
theorem NewI.quiet {w w1 w' : World} {ys : List Int} {e : Ending} (h : Quiet w w1) (k : NewI w1 ys e w') : NewI w ys e w' := by
  obtain ⟨m, rfl⟩ := h
  obtain ⟨A, n, c, g, e1, e2, ho, hb⟩ := k
  exact ⟨A, n, c, g, e1, e2, ho, ⟨hb.os, hb.tape, hb.output, hb.size, hb.block⟩⟩
theorem IU.quiet {wb v ys w w'} (h : IU wb v ys w) (k : Quiet w w') : IU wb v ys w' := h.next k.below

end Go.Proofs.Ytjmfkodbilknlaa

/- Means of a table with shares, by both programs. -/
namespace Go.Proofs.Ytjmfkodbilknlaa
open Go.RowKit

/-- The box of a fraction that a function returns, at its start. -/
structure PF (w W : World) : Prop where
  box : Blk W w.heap.size 25 #[.int .i64 0, .int .i64 0]
  below : Below w.heap.size w W
theorem PF.start (w : World) : PF w (w.alloc (.cells #[.int .i64 0, .int .i64 0] 25)) := ⟨blk_new _ _ _, below_alloc _ _⟩
theorem PF.up {w W W' : World} (h : PF w W) (k : Below W.heap.size W W') : PF w W' := ⟨blk_below h.box k, below_up h.below k⟩
theorem PF.keep {w W : World} (h : PF w W) : Keep w W := Keep.below h.below

theorem VT.vsn {a : List (List Int)} (v : VT a) (x : List Int) : pb (VSn x a.length) = pb (VS x a.length) :=
  pb_congr ⟨fun h => h.2.2, fun h => ⟨by have := v.n1; omega, by have := v.n3; omega, h⟩⟩
theorem VT.vsm {a : List (List Int)} (v : VT a) (x : List Int) : pb (VSn x (gr a 0).length) = pb (VS x (gr a 0).length) :=
  pb_congr ⟨fun h => h.2.2, fun h => ⟨by have := v.m1; omega, by have := v.m3; omega, h⟩⟩
theorem VT.pb_ {a : List (List Int)} {x y : List Int} (v : VT a) (hx : VS x a.length) (hy : VS y (gr a 0).length) : PB a x y a.length (gr a 0).length :=
  ⟨fun i j hi hj => v.bd hi hj, fun i hi => hx.2.1 i (by have := hx.1; omega), fun j hj => hy.2.1 j (by have := hy.1; omega)⟩
structure POk (a : List (List Int)) (x y : List Int) : Prop where
  v : VT a
  x : VS x a.length
  y : VS y (gr a 0).length
noncomputable def payF (a : List (List Int)) (x y : List Int) : Value := if pb (POk a x y) = true then frV (payU a x y (gr a 0).length a.length) (tot x * tot y) else .agg #[.int .i64 0, .int .i64 0]
theorem payF_yes {a x y} (h : POk a x y) : payF a x y = frV (payU a x y (gr a 0).length a.length) (tot x * tot y) := by rw [payF, if_pos (pb_true h)]
theorem payF_no {a x y} (h : ¬ POk a x y) : payF a x y = .agg #[.int .i64 0, .int .i64 0] := by rw [payF, if_neg (by rw [pb_false h]; decide)]

theorem frV_form (u d : Int) : ∃ U D, frV u d = .agg #[.int .i64 U, .int .i64 D] := ⟨_, _, rfl⟩
theorem payF_form (a : List (List Int)) (x y : List Int) : ∃ U D, payF a x y = .agg #[.int .i64 U, .int .i64 D] := by
  unfold payF
  split
  · exact frV_form _ _
  · exact ⟨_, _, rfl⟩

end Go.Proofs.Ytjmfkodbilknlaa

/- Ints compared by the library's cmp.Compare. -/
namespace Go.Proofs.Ytjmfkodbilknlaa
open Go.RowKit

end Go.Proofs.Ytjmfkodbilknlaa

/- Fractions compared by the harness; less, by both programs. -/
namespace Go.Proofs.Ytjmfkodbilknlaa
open Go.RowKit

set_option maxHeartbeats 400000 in
theorem eqFrac_self (v : Value) (w : World) (hv : ∃ U D, v = .agg #[.int .i64 U, .int .i64 D]) : Calls Try.prog 12 #[v, v] w (Ret (.bool true) w) := by
  obtain ⟨U, D, rfl⟩ := hv
  have b0 := blk_old (blk_new w 25 #[.int .i64 U, .int .i64 D]) (.cells #[.int .i64 U, .int .i64 D] 25)
  have b1 := blk_new (w.alloc (.cells #[.int .i64 U, .int .i64 D] 25)) 25 #[.int .i64 U, .int .i64 D]
  have HB := Lib.hid (below_up (below_alloc w (.cells #[.int .i64 U, .int .i64 D] 25)) (below_alloc _ (.cells #[.int .i64 U, .int .i64 D] 25)))
  rw [World.size_alloc] at b1
  have c0 := blk_cell b0 (i := 0) rfl
  have c1 := blk_cell b0 (i := 1) rfl
  have c2 := blk_cell b1 (i := 0) rfl
  have c3 := blk_cell b1 (i := 1) rfl
  go_enter Try.func12, Try.ntmps12
  go_wp2
  go_ret
  exact ⟨rfl, HB.out⟩

def lessB (u d v e : Int) : Bool := decide (u * e < v * d)
theorem less_bd {u v : Int} (hu : -1000000000 ≤ u ∧ u ≤ 1000000000) (hv : 0 ≤ v ∧ v ≤ 1000000000) : -1000000000000000000 ≤ u * v ∧ u * v ≤ 1000000000000000000 := by
  have h1 : u * v ≤ 1000000000 * v := Int.mul_le_mul_of_nonneg_right hu.2 hv.1
  have h2 : -1000000000 * v ≤ u * v := Int.mul_le_mul_of_nonneg_right hu.1 hv.1
  omega


end Go.Proofs.Ytjmfkodbilknlaa

/- Shares of one alone; the worst mean: by both programs. -/
namespace Go.Proofs.Ytjmfkodbilknlaa
open Go.RowKit

theorem alloc_set (w : World) (cs : Array Value) (t : TypeId) (i : Nat) (v : Value) : (w.alloc (.cells cs t)).setCell ⟨w.heap.size, i, none⟩ v = w.alloc (.cells (cs.setIfInBounds i v) t) := by
  unfold World.setCell World.alloc
  congr 1
  apply Array.ext
  · simp
  · intro j h1 h2
    simp only [Array.size_modify, Array.size_push] at h1
    rw [Array.getElem_modify]
    by_cases e : w.heap.size = j
    · subst e; simp
    · rw [if_neg e, Array.getElem_push_lt (by omega), Array.getElem_push_lt (by omega)]
def MadeO (w : World) (n i : Nat) (e : Ending) (w' : World) : Prop :=
  e = .returned (.slice (some ⟨w.heap.size, 0, none⟩) n n) ∧ OwnI w.heap.size w'.heap.size w' w.heap.size (some ⟨w.heap.size, 0, none⟩) n n (onl n i) ∧ Below w.heap.size w w'
theorem onl_own (w w1 : World) (n i : Nat) (hn : n ≤ 100) (hr : w1.rowIs w.heap.size 3 n (fun j => if j = i then .int .i64 1 else .int .i64 0)) :
    OwnI w.heap.size w1.heap.size w1 w.heap.size (some ⟨w.heap.size, 0, none⟩) n n (onl n i) :=
  OwnI.of_rowIs (onl_len n i) (by omega) (fun x hx => by
    obtain ⟨k, hk, rfl⟩ := List.mem_iff_getElem.1 hx
    rw [onl_len] at hk
    have := onl_bd (n := n) (i := i) hk
    rw [gi_get (by rw [onl_len]; exact hk)] at this
    omega) (Nat.le_refl _) hr.lt hr fun k hk => by
      show (if k = i then Value.int .i64 1 else Value.int .i64 0) = _
      rw [gi_onl hk]; split <;> rfl

end Go.Proofs.Ytjmfkodbilknlaa

/- Members of sets, parts of tables, numbers put to their places, numbers without a common factor. Plain. -/
namespace Go.Proofs.Ytjmfkodbilknlaa
open V (sumN detN rowC colC cofN minorN skip sgn)

/-- The members below j of a set. -/
def memL (s : Nat) : Nat → List Int
  | 0 => []
  | j + 1 => if s / 2 ^ j % 2 = 1 then memL s j ++ [(j : Int)] else memL s j
theorem memL_yes {s j : Nat} (h : s / 2 ^ j % 2 = 1) : memL s (j + 1) = memL s j ++ [(j : Int)] := by rw [memL, if_pos h]
theorem memL_no {s j : Nat} (h : ¬ s / 2 ^ j % 2 = 1) : memL s (j + 1) = memL s j := by rw [memL, if_neg h]
theorem memL_le (s : Nat) : ∀ j, (memL s j).length ≤ j
  | 0 => by simp [memL]
  | j + 1 => by
    have := memL_le s j
    rw [memL]
    split
    · rw [List.length_append, List.length_singleton]; omega
    · omega
theorem memL_bd (s : Nat) : ∀ j, ∀ x ∈ memL s j, 0 ≤ x ∧ x < (j : Int)
  | 0, x, h => by simp [memL] at h
  | j + 1, x, h => by
    rw [memL] at h
    split at h
    · rcases List.mem_append.1 h with h | h
      · have := memL_bd s j x h; omega
      · simp at h; omega
    · have := memL_bd s j x h; omega

/-- A list of as many places. -/
def lstN (r : Nat → Nat) (k : Nat) : List Int := (List.range k).map fun p => (r p : Int)
theorem lstN_len (r : Nat → Nat) (k : Nat) : (lstN r k).length = k := by simp [lstN]
theorem gi_lstN {r : Nat → Nat} {k p : Nat} (h : p < k) : gi (lstN r k) p = (r p : Int) := by
  rw [gi_get (by rw [lstN_len]; exact h)]; simp [lstN]

/-- The first j numbers of a row of a part; the first i rows. -/
def prtR (a : List (List Int)) (i : Nat) (c : Nat → Nat) (more : Int) (j : Nat) : List Int := (List.range j).map fun q => g2 a i (c q) + more
def prtL (a : List (List Int)) (r c : Nat → Nat) (more : Int) (l i : Nat) : List (List Int) := (List.range i).map fun p => prtR a (r p) c more l
theorem prtR_succ (a : List (List Int)) (i : Nat) (c : Nat → Nat) (more : Int) (j : Nat) : prtR a i c more (j + 1) = prtR a i c more j ++ [g2 a i (c j) + more] := by simp [prtR, List.range_succ]
theorem prtL_succ (a : List (List Int)) (r c : Nat → Nat) (more : Int) (l i : Nat) : prtL a r c more l (i + 1) = prtL a r c more l i ++ [prtR a (r i) c more l] := by simp [prtL, List.range_succ]
theorem prtR_len (a : List (List Int)) (i : Nat) (c : Nat → Nat) (more : Int) (j : Nat) : (prtR a i c more j).length = j := by simp [prtR]
theorem prtL_len (a : List (List Int)) (r c : Nat → Nat) (more : Int) (l i : Nat) : (prtL a r c more l i).length = i := by simp [prtL]
theorem gi_prtR {a : List (List Int)} {i : Nat} {c : Nat → Nat} {more : Int} {j q : Nat} (h : q < j) : gi (prtR a i c more j) q = g2 a i (c q) + more := by
  rw [gi_get (by rw [prtR_len]; exact h)]; simp [prtR]
theorem gr_prtL {a : List (List Int)} {r c : Nat → Nat} {more : Int} {l i p : Nat} (h : p < i) : gr (prtL a r c more l i) p = prtR a (r p) c more l := by
  rw [gr_get (by rw [prtL_len]; exact h)]; simp [prtL]
theorem prtL_sq (a : List (List Int)) (r c : Nat → Nat) (more : Int) (k : Nat) : Sq k (prtL a r c more k k) (fun p q => g2 a (r p) (c q) + more) :=
  ⟨prtL_len _ _ _ _ _ _, fun p hp => by rw [gr_prtL hp, prtR_len], fun p q hp hq => by unfold g2; rw [gr_prtL hp, gi_prtR hq]; rfl⟩
theorem prtR_bd {a : List (List Int)} {i : Nat} {c : Nat → Nat} {more : Int} {j : Nat} (h : ∀ q, q < j → -9 ≤ g2 a i (c q) ∧ g2 a i (c q) ≤ 9) (hm : 0 ≤ more ∧ more ≤ 18) : ∀ x ∈ prtR a i c more j, -27 ≤ x ∧ x ≤ 27 := fun x hx => by
  obtain ⟨q, hq, rfl⟩ := List.mem_map.1 hx
  have := h q (List.mem_range.1 hq)
  omega

/-- Numbers put to their places among n: the first k of them. -/
def putL (n : Nat) (r : Nat → Nat) (xs : List Int) : Nat → List Int
  | 0 => List.replicate n 0
  | k + 1 => (putL n r xs k).set (r k) (gi xs k)
theorem putL_len (n : Nat) (r : Nat → Nat) (xs : List Int) : ∀ k, (putL n r xs k).length = n
  | 0 => by simp [putL]
  | k + 1 => by rw [putL, List.length_set, putL_len n r xs k]
theorem gi_set_at {xs : List Int} {i k : Nat} {v : Int} (h : k < xs.length) : gi (xs.set i v) k = if i = k then v else gi xs k := by
  rw [gi_get (by rw [List.length_set]; exact h), gi_get h, List.getElem_set]
theorem gi_putL {n : Nat} {r : Nat → Nat} {xs : List Int} {i : Nat} (hi : i < n) : ∀ {k}, (∀ p q, p < q → q < k → r p ≠ r q) → gi (putL n r xs k) i = sumN (fun p => if r p = i then gi xs p else 0) k
  | 0, _ => by rw [putL, gi_get (by simpa using hi)]; simp [sumN]
  | k + 1, h => by
    have ih := gi_putL (xs := xs) hi (k := k) fun p q hp hq => h p q hp (by omega)
    rw [putL, gi_set_at (by rw [putL_len]; exact hi), sumN]
    by_cases e : r k = i
    · rw [if_pos e, if_pos e]
      have : sumN (fun p => if r p = i then gi xs p else 0) k = sumN (fun _ => 0) k := sumN_congr fun p hp => by rw [if_neg (fun e2 => h p k hp (by omega) (e2.trans e.symm))]
      rw [this, sumN_zero]; omega
    · rw [if_neg e, if_neg e, ih]; omega

/-- Numbers without signs, divided by g. -/
def clrL (xs : List Int) (g : Int) (i : Nat) : List Int := (List.range i).map fun p => max (gi xs p) (- gi xs p) / g
theorem clrL_succ (xs : List Int) (g : Int) (i : Nat) : clrL xs g (i + 1) = clrL xs g i ++ [max (gi xs i) (- gi xs i) / g] := by simp [clrL, List.range_succ]
theorem clrL_len (xs : List Int) (g : Int) (i : Nat) : (clrL xs g i).length = i := by simp [clrL]
theorem gi_clrL {xs : List Int} {g : Int} {i p : Nat} (h : p < i) : gi (clrL xs g i) p = max (gi xs p) (- gi xs p) / g := by
  rw [gi_get (by rw [clrL_len]; exact h)]; simp [clrL]
/-- Not all numbers are 0, and none have different signs. -/
structure ClrP (xs : List Int) : Prop where
  nz : ∃ p, p < xs.length ∧ gi xs p ≠ 0
  sg : (∀ p, p < xs.length → 0 ≤ gi xs p) ∨ ∀ p, p < xs.length → gi xs p ≤ 0
theorem gcdL_zero {xs : List Int} : ∀ {k}, gcdL xs k = 0 ↔ ∀ p, p < k → gi xs p = 0
  | 0 => by simp [gcdL]
  | k + 1 => by
    have ih := gcdL_zero (xs := xs) (k := k)
    rw [gcdL]
    constructor
    · intro h p hp
      have h1 : gcdL xs k = 0 := by
        apply Classical.byContradiction; intro hn
        have := gcdI_pos_left (b := gi xs k) hn; omega
      by_cases e : p = k
      · subst e
        apply Classical.byContradiction; intro hn
        have := gcdI_pos (a := gcdL xs p) hn; omega
      · exact ih.1 h1 p (by omega)
    · intro h
      rw [ih.2 fun p hp => h p (by omega), h k (by omega)]
      rfl
theorem gcdL_dvd (xs : List Int) : ∀ {k p}, p < k → gcdL xs k ∣ gi xs p
  | 0, _, h => absurd h (by omega)
  | k + 1, p, h => by
    rw [gcdL]
    by_cases e : p = k
    · subst e; exact gcdI_dvd_right _ _
    · exact Int.dvd_trans (gcdI_dvd_left _ _) (gcdL_dvd xs (k := k) (by omega))
end Go.Proofs.Ytjmfkodbilknlaa

/- Members of sets, by the model. -/
namespace Go.Proofs.Ytjmfkodbilknlaa
open Go.RowKit

theorem div_pow_succ (x i : Nat) : x / 2 ^ (i + 1) = x / 2 ^ i / 2 := by rw [Nat.pow_succ, Nat.div_div_eq_div_mul]
theorem memb_bd (s j : Nat) (hj : j ≤ 100) : ∀ y ∈ memL s j, -1000000000000000 ≤ y ∧ y ≤ 1000000000000000 := fun y hy => by have := memL_bd s j y hy; omega
end Go.Proofs.Ytjmfkodbilknlaa

/- Some rows and columns of a table, by the model. -/
namespace Go.Proofs.Ytjmfkodbilknlaa
open Go.RowKit

/-- One number more, appended in a region that draws its order. -/
theorem IU.push2 {wb v ys w w2 w1 x} {gg cap : Nat} (h : IU wb v ys w) (hb : Below w.heap.size w w2)
    (hown : w1.ownsRow wb.heap.size 3 1 (.slice (some ⟨gg, 0, none⟩) (ys.length + 1) cap) (ys.length + 1) (ys.map iv ++ [iv x])) (hgrow : w2.grownBy w1 v.ownBlock) (hlt : gg < w1.heap.size) :
    IU wb (.slice (some ⟨gg, 0, none⟩) (ys.length + 1) cap) (ys ++ [x]) w1 := by
  have hu : ∀ k, v.ownBlock = some k → wb.heap.size ≤ k := fun k hk => (h.bi.own.lt k hk).1
  have hz := h.up.size
  have hz2 := hb.size
  refine ⟨⟨by rw [List.length_append, List.length_singleton, List.map_append]; exact hown, fun k hk => ?_⟩, ?_⟩
  · have : gg = k := by simpa [Value.ownBlock] using hk
    omega
  · exact (below_up h.up hb).grown hgrow (by omega) fun k hk => hu k hk
theorem TN.push2 {wb H v vs xss u ys w w2 w1 x} {gg cap : Nat} (h : TN wb H v vs xss u ys w) (hb : Below w.heap.size w w2)
    (hown : w1.ownsRow H 3 1 (.slice (some ⟨gg, 0, none⟩) (ys.length + 1) cap) (ys.length + 1) (ys.map iv ++ [iv x])) (hgrow : w2.grownBy w1 u.ownBlock) (hlt : gg < w1.heap.size) :
    TN wb H v vs xss (.slice (some ⟨gg, 0, none⟩) (ys.length + 1) cap) (ys ++ [x]) w1 := by
  have hu : ∀ k, u.ownBlock = some k → H ≤ k := fun k hk => (h.bi.own.lt k hk).1
  have hz := h.up.size
  have hz2 := hb.size
  have hlh := h.lh
  have hhs := h.hs
  have hsz := hgrow.size
  have hbelow : ∀ k, k < H → w1.heap[k]? = w.heap[k]? := fun k hk =>
    (hgrow.block k (by omega) (fun e => by have := hu k e.symm; omega)).trans (hb.block k (by omega))
  refine ⟨h.bo.of_blocks fun k _ hk _ => hbelow k hk, ⟨by rw [List.length_append, List.length_singleton, List.map_append]; exact hown, fun k hk => ?_⟩, hlh, by omega, ?_⟩
  · have : gg = k := by simpa [Value.ownBlock] using hk
    omega
  · exact (below_up h.up hb).grown hgrow (by omega) fun k hk => by have := hu k hk; omega
theorem IU.qu {wb v ys w w'} (h : IU wb v ys w) (k : Quiet w w') : IU wb v ys w' := h.next k.below
theorem TN.next {wb H v vs xss u ys w w'} (h : TN wb H v vs xss u ys w) (k : Below w.heap.size w w') : TN wb H v vs xss u ys w' := by
  have hhs := h.hs
  have hz := k.size
  exact ⟨h.bo.of_blocks fun g _ hg _ => k.block g (by omega), (h.bi.below k).mono k.size, h.lh, by omega, below_up h.up k⟩
theorem TN.qu {wb H v vs xss u ys w w'} (h : TN wb H v vs xss u ys w) (k : Quiet w w') : TN wb H v vs xss u ys w' := h.next k.below

/-- Places of a table in a list. -/
structure Pl (w : World) (X : Option Addr) (k c : Nat) (r : Nat → Nat) (n : Nat) : Prop where
  ints : Ints w X k c (lstN r k)
  lt : ∀ p, p < k → r p < n

end Go.Proofs.Ytjmfkodbilknlaa

