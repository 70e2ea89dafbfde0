/- Texts merged: Turn R10 R11 T1 V1 V2 V3 Z3 S7 Math9 V4 V5. -/
import Derived.Test.YtamjiinhogmifaaQ4
import Derived.Deep.LoopGhost
/- A table turned, by the program: make, make, store. -/
namespace Go.Proofs.Ytamjiinhogmifaa
open Go.RowKit

def flip (a : List (List Int)) (n m : Nat) : List (List Int) := (List.range m).map fun j => (List.range n).map fun i => g2 a i j
theorem gr_flip {a : List (List Int)} {n m j : Nat} (h : j < m) : gr (flip a n m) j = (List.range n).map fun i => g2 a i j := by
  rw [gr_get (by simpa [flip] using h)]; simp [flip]
theorem gi_col {a : List (List Int)} {n i j : Nat} (h : i < n) : gi ((List.range n).map fun i => g2 a i j) i = g2 a i j := by
  rw [gi_get (by simpa using h)]; simp

def ttop (B n c : Nat) : Nat → Value := fun j => if j < c then .slice (some ⟨B + 1 + j, 0, none⟩) n n else .slice none 0 0
structure TurnO (w wr : World) (n m c : Nat) (xs : List (List Int)) : Prop where
  below : Below w.heap.size w wr
  size : wr.heap.size = w.heap.size + 1 + c
  top : wr.rowIs w.heap.size 28 m (ttop w.heap.size n c)
  done : ∀ j, j < c → wr.rowIs (w.heap.size + 1 + j) 3 n (fun i => .int .i64 (g2 xs i j))
structure TurnI (w wi : World) (n m c r : Nat) (xs : List (List Int)) : Prop where
  below : Below w.heap.size w wi
  size : wi.heap.size = w.heap.size + 1 + c + 1
  top : wi.rowIs w.heap.size 28 m (ttop w.heap.size n (c + 1))
  done : ∀ j, j < c → wi.rowIs (w.heap.size + 1 + j) 3 n (fun i => .int .i64 (g2 xs i j))
  cur : wi.rowIs (w.heap.size + 1 + c) 3 n (fun i => if i < r then .int .i64 (g2 xs i c) else .int .i64 0)
theorem turnO_start (w : World) (n m : Nat) (xs : List (List Int)) : TurnO w (w.alloc (.cells (madeCells #[.slice none 0 0] m) 28)) n m 0 xs :=
  ⟨below_alloc _ _, by simp, (World.rowIs_made w _ m 28).congr (fun j _ => by simp [ttop]), fun j hj => absurd hj (Nat.not_lt_zero _)⟩
theorem turnI_start {w wr : World} {n m c : Nat} {xs : List (List Int)} (h : TurnO w wr n m c xs) :
    TurnI w ((wr.alloc (.cells (madeCells #[.int .i64 0] n) 3)).setCell ⟨w.heap.size, c, none⟩ (.slice (some ⟨wr.heap.size, 0, none⟩) n n)) n m c 0 xs := by
  have hnew := World.rowIs_made wr (.int .i64 0) n 3
  have hs := h.size
  rw [hs] at hnew ⊢
  refine ⟨(h.below.alloc (by rw [hs]; omega) _).setCell (Nat.le_refl _) _, by simp [hs], ((h.top.alloc _).set c _).congr (fun j _ => ?_), fun j hj => ((h.done j hj).alloc _).setOther (by show w.heap.size + 1 + j ≠ w.heap.size; omega) _,
    (hnew.setOther (by show w.heap.size + 1 + c ≠ w.heap.size; omega) _).congr (fun i _ => by simp)⟩
  unfold ttop
  by_cases e : j = c
  · subst e; simp
  · rw [if_neg e]
    by_cases hlt : j < c
    · rw [if_pos hlt, if_pos (by omega)]
    · rw [if_neg hlt, if_neg (by omega)]
theorem turnI_step {w wi wd : World} {n m c r : Nat} {xs : List (List Int)} (h : TurnI w wi n m c r xs) (hq : Quiet wi wd) :
    TurnI w (wd.setCell ⟨w.heap.size + 1 + c, r, none⟩ (.int .i64 (g2 xs r c))) n m c (r + 1) xs := by
  obtain ⟨q, rfl⟩ := hq
  have hs := h.size
  refine ⟨(below_drewN h.below q).setCell (by show w.heap.size ≤ w.heap.size + 1 + c; omega) _, by simp [World.setCell]; exact hs, (World.rowIs.setOther (w := wi.drewN q) h.top (by show w.heap.size ≠ w.heap.size + 1 + c; omega) _),
    fun j hj => (World.rowIs.setOther (w := wi.drewN q) (h.done j hj) (by show w.heap.size + 1 + j ≠ w.heap.size + 1 + c; omega) _), (World.rowIs.set (w := wi.drewN q) h.cur r _).congr (fun i _ => ?_)⟩
  by_cases e : i = r
  · subst e; simp
  · rw [if_neg e]
    by_cases hlt : i < r
    · rw [if_pos hlt, if_pos (by omega)]
    · rw [if_neg hlt, if_neg (by omega)]
theorem TurnI.drew {w wi : World} {n m c r : Nat} {xs : List (List Int)} (h : TurnI w wi n m c r xs) : TurnI w wi.drew n m c r xs :=
  ⟨h.below.drew, h.size, h.top.drew, fun j hj => (h.done j hj).drew, h.cur.drew⟩
theorem turnI_done {w wi : World} {n m c : Nat} {xs : List (List Int)} (h : TurnI w wi n m c n xs) : TurnO w wi n m (c + 1) xs :=
  ⟨h.below, by rw [h.size]; omega, h.top, fun j hj => by
    by_cases e : j = c
    · subst e
      exact h.cur.congr (fun i hi => by rw [if_pos hi])
    · exact h.done j (by omega)⟩
theorem turnO_own {w wr : World} {n m : Nat} {xs : List (List Int)} (h : TurnO w wr n m m xs) (hn : n ≤ 3) (hm : m ≤ 3) (hbd : ∀ i j, i < n → j < m → -9 ≤ g2 xs i j ∧ g2 xs i j ≤ 9) :
    OwnR w.heap.size wr.heap.size wr w.heap.size (some ⟨w.heap.size, 0, none⟩) m m (flip xs n m) := by
  have hs := h.size
  refine ⟨by simp [flip], Nat.le_refl _, by omega, fun _ => ⟨0, fun k => w.heap.size + 1 + k, fun k => some ⟨w.heap.size + 1 + k, 0, none⟩, fun _ => n, rfl, Nat.le_refl _, h.top.lt, fun k hk => ?_, fun j k hj _ _ _ => by show w.heap.size + 1 + j ≠ w.heap.size + 1 + k; omega⟩⟩
  have hl : ((List.range n).map fun i => g2 xs i k).length = n := by simp
  rw [gr_flip hk, hl]
  refine ⟨by rw [Nat.zero_add]; exact h.top.frozen k, by rw [Nat.zero_add, h.top.cell hk, ttop, if_pos hk], OwnI.of_rowIs hl (by omega) ?_ (by show w.heap.size ≤ w.heap.size + 1 + k; omega) (by show w.heap.size + 1 + k < _; omega) (h.done k hk) (fun i hi => by rw [gi_col hi]), fun _ => by show w.heap.size + 1 + k ≠ w.heap.size; omega⟩
  intro x hx
  obtain ⟨i, hi, rfl⟩ := List.mem_map.1 hx
  have := hbd i k (List.mem_range.1 hi) hk
  omega

def MadeT (w : World) (n m : Nat) (xs : List (List Int)) (e : Ending) (w' : World) : Prop :=
  e = .returned (.slice (some ⟨w.heap.size, 0, none⟩) m m) ∧ OwnR w.heap.size w'.heap.size w' w.heap.size (some ⟨w.heap.size, 0, none⟩) m m (flip xs n m) ∧ Below w.heap.size w w' ∧ w.heap.size < w'.heap.size

end Go.Proofs.Ytamjiinhogmifaa

/- Tables made of tables. -/
namespace Go.Proofs.Ytamjiinhogmifaa
open Go.RowKit

/-- A table under way. -/
structure TM (wb : World) (v : Value) (vs : List Value) (xss : List (List Int)) (w : World) : Prop where
  bo : Bld wb.heap.size w.heap.size w v vs xss
  up : Below wb.heap.size wb w
/-- .. and the row that is begun. -/
structure TN (wb : World) (H : Nat) (v : Value) (vs : List Value) (xss : List (List Int)) (u : Value) (ys : List Int) (w : World) : Prop where
  bo : Bld wb.heap.size H w v vs xss
  bi : BldI H w.heap.size w u ys
  lh : wb.heap.size ≤ H
  hs : H ≤ w.heap.size
  up : Below wb.heap.size wb w
theorem TM.start (wb : World) : TM wb (.slice (some ⟨wb.heap.size, 0, none⟩) 0 0) [] [] (wb.alloc (.cells #[] 28)) :=
  ⟨by rw [World.size_alloc]; exact Bld.make (Nat.le_refl _), below_alloc _ _⟩
theorem TM.row {wb v vs xss w} (h : TM wb v vs xss w) : TN wb w.heap.size v vs xss (.slice (some ⟨w.heap.size, 0, none⟩) 0 0) [] (w.alloc (.cells #[] 3)) :=
  ⟨h.bo.below (below_alloc _ _), by rw [World.size_alloc]; exact BldI.make (Nat.le_refl _), h.up.size, by simp, below_up h.up (below_alloc _ _)⟩
theorem TN.push {wb H v vs xss u u' ys w w' x} (h : TN wb H v vs xss u ys w)
    (hown : w'.ownsRow H 3 1 u' (ys.length + 1) (ys.map iv ++ [iv x])) (hgrow : (w.alloc (.cells #[iv x] 3)).grownBy w' u.ownBlock)
    (hat : u'.ownBlock = u.ownBlock ∨ u'.ownBlock = some (w.heap.size + 1)) : TN wb H v vs xss u' (ys ++ [x]) w' := by
  have hlh := h.lh
  have hhs := h.hs
  have hsz := hgrow.size
  simp only [World.size_alloc] at hsz
  have hu : ∀ k, u.ownBlock = some k → H ≤ k := fun k hk => (h.bi.own.lt k hk).1
  have hbelow : ∀ k, k < H → w'.heap[k]? = w.heap[k]? := fun k hk =>
    (hgrow.block k (by simp; omega) (fun e => by have := hu k e.symm; omega)).trans (Below.heap_alloc _ _ _ (by omega))
  refine ⟨h.bo.of_blocks fun k _ hk _ => hbelow k hk, ⟨by rw [List.length_append, List.length_singleton, List.map_append]; exact hown, fun k hk => ?_⟩, h.lh, by omega, ?_⟩
  · rcases hat with hat | hat
    · have := h.bi.hi_ k (by rw [← hat]; exact hk); omega
    · have := (hown.lt k hk).2; omega
  · exact ⟨hgrow.os.trans h.up.os, hgrow.tape.trans h.up.tape, hgrow.output.trans h.up.output, by have := h.up.size; omega, fun k hk => (hbelow k (by omega)).trans (h.up.block k hk)⟩
theorem TN.done {wb H v v' vs xss ys w w' Ar cr gr_} (h : TN wb H v vs xss (.slice Ar ys.length cr) ys w) (ho : OwnI H w.heap.size w gr_ Ar ys.length cr ys)
    (hown : w'.ownsRow wb.heap.size 28 1 v' (xss.length + 1) (vs ++ [.slice Ar ys.length cr])) (hgrow : (w.alloc (.cells #[.slice Ar ys.length cr] 28)).grownBy w' v.ownBlock)
    (hat : v'.ownBlock = v.ownBlock ∨ v'.ownBlock = some (w.heap.size + 1)) : TM wb v' (vs ++ [.slice Ar ys.length cr]) (xss ++ [ys]) w' := by
  have hlh := h.lh
  have hhs := h.hs
  have hsz := hgrow.size
  simp only [World.size_alloc] at hsz
  have hv : ∀ k, v.ownBlock = some k → wb.heap.size ≤ k := fun k hk => (h.bo.own.lt k hk).1
  have hbelow : ∀ k, k < wb.heap.size → w'.heap[k]? = w.heap[k]? := fun k hk =>
    (hgrow.block k (by simp; omega) (fun e => by have := hv k e.symm; omega)).trans (Below.heap_alloc _ _ _ (by omega))
  have hb := below_alloc w (.cells #[.slice Ar ys.length cr] 28)
  refine ⟨?_, ?_⟩
  · have hbo : Bld wb.heap.size H w v vs xss := h.bo
    exact Bld.push (hi := H) (w := w) hbo hb ((ho.below hb).mono (Nat.le_refl _) (by simp)) hown hgrow (by simpa using hat) hlh hhs
  · exact ⟨hgrow.os.trans h.up.os, hgrow.tape.trans h.up.tape, hgrow.output.trans h.up.output, by have := h.up.size; omega, fun k hk => (hbelow k hk).trans (h.up.block k hk)⟩

/-- A new table. -/
def NewT (w : World) (yss : List (List Int)) (e : Ending) (w' : World) : Prop :=
  ∃ Av n c gg, e = .returned (.slice Av n c) ∧ n = yss.length ∧ OwnR w.heap.size w'.heap.size w' gg Av n c yss ∧ Below w.heap.size w w'

def mrow (r : List Int) (j : Nat) : List Int := (List.range j).map fun k => - gi r k
def mtab (xss : List (List Int)) (i : Nat) : List (List Int) := (List.range i).map fun k => mrow (gr xss k) (gr xss k).length
theorem mrow_succ (r : List Int) (j : Nat) : mrow r (j + 1) = mrow r j ++ [- gi r j] := by simp [mrow, List.range_succ]
theorem mtab_succ (xss : List (List Int)) (i : Nat) : mtab xss (i + 1) = mtab xss i ++ [mrow (gr xss i) (gr xss i).length] := by simp [mtab, List.range_succ]
theorem mrow_len (r : List Int) (j : Nat) : (mrow r j).length = j := by simp [mrow]
theorem mtab_len (xss : List (List Int)) (j : Nat) : (mtab xss j).length = j := by simp [mtab]
theorem Small.gi {xss : List (List Int)} (h : Small xss) {k j : Nat} (hk : k < xss.length) (hj : j < (gr xss k).length) : -1000 ≤ gi (gr xss k) j ∧ gi (gr xss k) j ≤ 1000 :=
  (h.rows _ (gr_mem hk)).2 _ (gi_mem hj)
theorem Small.mrow_bd {xss : List (List Int)} (h : Small xss) {k j : Nat} (hk : k < xss.length) (hj : j ≤ (gr xss k).length) : ∀ x ∈ mrow (gr xss k) j, -1000 ≤ x ∧ x ≤ 1000 := fun x hx => by
  obtain ⟨i, hi, rfl⟩ := List.mem_map.1 hx
  have := h.gi hk (show i < _ by have := List.mem_range.1 hi; omega)
  omega
theorem Small.mtab {xss : List (List Int)} (h : Small xss) : Small (mtab xss xss.length) :=
  ⟨by rw [mtab_len]; exact h.n, fun r hr => by
    obtain ⟨i, hi, rfl⟩ := List.mem_map.1 hr
    have hi := List.mem_range.1 hi
    exact ⟨by rw [mrow_len]; exact (h.rows _ (gr_mem hi)).1, h.mrow_bd hi (Nat.le_refl _)⟩⟩

end Go.Proofs.Ytamjiinhogmifaa

/- Tables turned, by the laws. -/
namespace Go.Proofs.Ytamjiinhogmifaa
open Go.RowKit

def fcol (xss : List (List Int)) (j i : Nat) : List Int := (List.range i).map fun k => g2 xss k j
theorem fcol_succ (xss : List (List Int)) (j i : Nat) : fcol xss j (i + 1) = fcol xss j i ++ [g2 xss i j] := by simp [fcol, List.range_succ]
theorem flip_succ (xss : List (List Int)) (n j : Nat) : flip xss n (j + 1) = flip xss n j ++ [fcol xss j n] := by simp [flip, fcol, List.range_succ]
theorem fcol_len (xss : List (List Int)) (j i : Nat) : (fcol xss j i).length = i := by simp [fcol]
theorem flip_len (xss : List (List Int)) (n j : Nat) : (flip xss n j).length = j := by simp [flip]
/-- Rows of m numbers. -/
def Even (xss : List (List Int)) (m : Nat) : Prop := ∀ k, k < xss.length → (gr xss k).length = m
theorem Small.fcol_bd {xss : List (List Int)} (h : Small xss) {m : Nat} (he : Even xss m) {i j : Nat} (hi : i ≤ xss.length) (hj : j < m) : ∀ x ∈ fcol xss j i, -1000 ≤ x ∧ x ≤ 1000 := fun x hx => by
  obtain ⟨k, hk, rfl⟩ := List.mem_map.1 hx
  have hk := List.mem_range.1 hk
  exact h.gi (show k < _ by omega) (by rw [he k (by omega)]; exact hj)
theorem Small.m {xss : List (List Int)} (h : Small xss) {m : Nat} (he : Even xss m) (h0 : 0 < xss.length) : m ≤ 8 := by
  rw [← he 0 h0]; exact (h.rows _ (gr_mem h0)).1
theorem Small.flip {xss : List (List Int)} (h : Small xss) {m : Nat} (he : Even xss m) (h0 : 0 < xss.length) : Small (flip xss xss.length m) :=
  ⟨by rw [flip_len]; exact h.m he h0, fun r hr => by
    obtain ⟨j, hj, rfl⟩ := List.mem_map.1 hr
    have hj := List.mem_range.1 hj
    exact ⟨by simp; exact h.n, h.fcol_bd he (Nat.le_refl _) hj⟩⟩

theorem VT.even {a : List (List Int)} (v : VT a) : Even a (gr a 0).length := fun k hk => (v.rows k hk).1
theorem VT.flip {a : List (List Int)} (v : VT a) : VT (flip a a.length (gr a 0).length) := by
  have h0 := v.m1
  refine VT_of (by rw [flip_len]; exact v.m1) (by rw [flip_len]; exact v.m3) fun i hi => ?_
  rw [flip_len] at hi
  rw [gr_flip hi, gr_flip h0]
  refine ⟨by simp, by simp; exact v.n1, by simp; exact v.n3, fun j hj => ?_⟩
  simp at hj
  rw [gi_col hj]
  exact v.bd hj hi
theorem VT.minus {a : List (List Int)} (v : VT a) : VT (mtab a a.length) := by
  have hg : ∀ i, i < a.length → gr (mtab a a.length) i = mrow (gr a i) (gr a i).length := fun i hi => by
    rw [gr_get (by rw [mtab_len]; exact hi)]; simp [mtab]
  have h0 : 0 < a.length := v.n1
  refine VT_of (by rw [mtab_len]; exact v.n1) (by rw [mtab_len]; exact v.n3) fun i hi => ?_
  rw [mtab_len] at hi
  have hr := v.rows i hi
  rw [hg i hi, hg 0 h0, RowV, mrow_len, mrow_len]
  refine ⟨hr.1, by rw [hr.1]; exact v.m1, by rw [hr.1]; exact v.m3, fun j hj => ?_⟩
  have := hr.2 j hj
  rw [gi_get (by rw [mrow_len]; exact hj)]
  simp only [mrow, List.getElem_map, List.getElem_range]
  unfold InR at *
  omega

end Go.Proofs.Ytamjiinhogmifaa

/- A table turned, by the model. -/
namespace Go.Proofs.Ytamjiinhogmifaa
open Go.RowKit

end Go.Proofs.Ytamjiinhogmifaa

/- A square without a row and a column, by the model. -/
namespace Go.Proofs.Ytamjiinhogmifaa
open Go.RowKit

theorem Small.rowW_bd {xss : List (List Int)} (h : Small xss) {k c j : Nat} (hk : k < xss.length) (hj : j ≤ (gr xss k).length) : ∀ x ∈ rowW (gr xss k) c j, -1000 ≤ x ∧ x ≤ 1000 :=
  fun x hx => (h.rows _ (gr_mem hk)).2 x (rowW_mem _ _ hj hx)
theorem eqi_true {a b : Nat} (h : a = b) : ((a : Int) == (b : Int)) = true := by subst h; simp
theorem eqi_false {a b : Nat} (h : a ≠ b) : ((a : Int) == (b : Int)) = false := by simp; omega
theorem nei_true {a b : Nat} (h : a ≠ b) : ((a : Int) != (b : Int)) = true := by simp; omega
theorem nei_false {a b : Nat} (h : a = b) : ((a : Int) != (b : Int)) = false := by subst h; simp

end Go.Proofs.Ytamjiinhogmifaa

/- The determinant of a square, by the model. -/
namespace Go.Proofs.Ytamjiinhogmifaa
open Go.RowKit
open V (sumN detN rowC colC cofN minorN skip sgn)

theorem sgn_succ (j : Nat) : sgn (j + 1) = - sgn j := by unfold sgn; split <;> split <;> omega
theorem Sq.small {k : Nat} {xss : List (List Int)} {f : Nat → Nat → Int} (h : Sq k xss f) (hk : k ≤ 3) (ha : Ab k f) : Small xss := by
  refine ⟨by have := h.len; omega, fun r hr => ?_⟩
  obtain ⟨p, hp, rfl⟩ := List.mem_iff_getElem.1 hr
  rw [← gr_get hp]
  have hpk : p < k := by have := h.len; omega
  have hl := h.row p hpk
  refine ⟨by omega, fun x hx => ?_⟩
  obtain ⟨q, hq, rfl⟩ := List.mem_iff_getElem.1 hx
  rw [← gi_get hq]
  have := h.eq p q hpk (by omega)
  unfold g2 at this
  have := ha p q hpk (by omega)
  omega
theorem Sq.even {k : Nat} {xss : List (List Int)} {f : Nat → Nat → Int} (h : Sq k xss f) : Even xss k := fun p hp => h.row p (by rw [← h.len]; exact hp)
theorem wrapIn {x : Int} (h : -1000000000000000 ≤ x ∧ x ≤ 1000000000000000) : IntKind.i64.wrap x = x := wrap_in64 ⟨by omega, by omega⟩

end Go.Proofs.Ytamjiinhogmifaa

/- Slices of ints under way; the sums of cofactors of each row of a square, by the model. -/
namespace Go.Proofs.Ytamjiinhogmifaa
open Go.RowKit
open V (sumN detN rowC colC cofN minorN skip sgn)

/-- Ints under way: a slice made by append, alone. -/
structure IU (wb : World) (v : Value) (ys : List Int) (w : World) : Prop where
  bi : BldI wb.heap.size w.heap.size w v ys
  up : Below wb.heap.size wb w
theorem IU.start (wb : World) : IU wb (.slice (some ⟨wb.heap.size, 0, none⟩) 0 0) [] (wb.alloc (.cells #[] 3)) :=
  ⟨by rw [World.size_alloc]; exact BldI.make (Nat.le_refl _), below_alloc _ _⟩
theorem IU.nil (wb : World) : IU wb (.slice none 0 0) [] wb := ⟨BldI.nil _ _ _, Below.refl _ _⟩
theorem IU.next {wb v ys w w'} (h : IU wb v ys w) (k : Below w.heap.size w w') : IU wb v ys w' := ⟨(h.bi.below k).mono k.size, below_up h.up k⟩
theorem IU.push {wb v v' ys w w' x} (h : IU wb v ys w) (hown : w'.ownsRow wb.heap.size 3 1 v' (ys.length + 1) (ys.map iv ++ [iv x]))
    (hgrow : (w.alloc (.cells #[iv x] 3)).grownBy w' v.ownBlock) (hat : v'.ownBlock = v.ownBlock ∨ v'.ownBlock = some (w.heap.size + 1)) : IU wb v' (ys ++ [x]) w' := by
  have hsz := hgrow.size
  simp only [World.size_alloc] at hsz
  have hu : ∀ k, v.ownBlock = some k → wb.heap.size ≤ k := fun k hk => (h.bi.own.lt k hk).1
  have hbelow : ∀ k, k < wb.heap.size → w'.heap[k]? = w.heap[k]? := fun k hk => by
    have := h.up.size
    exact (hgrow.block k (by simp; omega) (fun e => by have := hu k e.symm; omega)).trans (Below.heap_alloc _ _ _ (by omega))
  refine ⟨⟨by rw [List.length_append, List.length_singleton, List.map_append]; exact hown, fun k hk => ?_⟩, ?_⟩
  · rcases hat with hat | hat
    · have := h.bi.hi_ k (by rw [← hat]; exact hk); omega
    · have := (hown.lt k hk).2; omega
  · exact ⟨hgrow.os.trans h.up.os, hgrow.tape.trans h.up.tape, hgrow.output.trans h.up.output, by have := h.up.size; omega, fun k hk => (hbelow k hk).trans (h.up.block k hk)⟩
/-- A new slice of ints. -/
def NewI (w : World) (ys : List Int) (e : Ending) (w' : World) : Prop :=
  ∃ Av n c gg, e = .returned (.slice Av n c) ∧ n = ys.length ∧ OwnI w.heap.size w'.heap.size w' gg Av n c ys ∧ Below w.heap.size w w'
theorem IU.new {wb ys w} {A : Option Addr} {c : Nat} (h : IU wb (.slice A ys.length c) ys w) (hm : ys.length ≤ 100) (hb : ∀ y ∈ ys, -1000000000000000 ≤ y ∧ y ≤ 1000000000000000) :
    NewI wb ys (.returned (.slice A ys.length c)) w := by
  obtain ⟨A', n', c', g, e, hn, ho, _⟩ := h.bi.owns (by omega) (fun t ht => by have := hb t ht; omega)
  injection e with e1 e2 e3
  subst e1
  subst e2
  subst e3
  exact ⟨_, _, _, g, rfl, rfl, ho, h.up⟩

theorem Sq.minor' {n : Nat} {xss : List (List Int)} {f : Nat → Nat → Int} (h : Sq n xss f) {r c : Nat} (hr : r < n) (hc : c < n) : Sq (n - 1) (minW xss r c n n) (minorN f r c) := by
  obtain ⟨l, rfl⟩ : ∃ l, n = l + 1 := ⟨n - 1, by omega⟩
  exact h.minor (by omega) (by omega)
theorem Ab.minor' {n : Nat} {f : Nat → Nat → Int} (h : Ab n f) (hn : 0 < n) (r c : Nat) : Ab (n - 1) (minorN f r c) := by
  obtain ⟨l, rfl⟩ : ∃ l, n = l + 1 := ⟨n - 1, by omega⟩
  exact h.minor r c
/-- The sums of cofactors of the first i rows. -/
def cofL (k : Nat) (f : Nat → Nat → Int) (i : Nat) : List Int := (List.range i).map (rowC k f)
theorem cofL_succ (k : Nat) (f : Nat → Nat → Int) (i : Nat) : cofL k f (i + 1) = cofL k f i ++ [rowC k f i] := by simp [cofL, List.range_succ]
theorem cofL_len (k : Nat) (f : Nat → Nat → Int) (i : Nat) : (cofL k f i).length = i := by simp [cofL]
theorem cofL_bd {k : Nat} {f : Nat → Nat → Int} (hk : k ≤ 3) (h : Ab k f) {i : Nat} (hi : i ≤ k) : ∀ x ∈ cofL k f i, -1000000 ≤ x ∧ x ≤ 1000000 := fun x hx => by
  obtain ⟨j, hj, rfl⟩ := List.mem_map.1 hx
  have := List.mem_range.1 hj
  exact cofS_bd hk h (by omega) (Nat.le_refl k)

theorem cofS_odd {k : Nat} {f : Nat → Nat → Int} {i j : Nat} (h : (i + j) % 2 = 1) : cofS k f i (j + 1) = cofS k f i j + -(detN (k - 1) (minorN f i j)) := by
  rw [cofS_succ, cofN, sgn, if_pos h]; omega
theorem cofS_even {k : Nat} {f : Nat → Nat → Int} {i j : Nat} (h : ¬ (i + j) % 2 = 1) : cofS k f i (j + 1) = cofS k f i j + detN (k - 1) (minorN f i j) := by
  rw [cofS_succ, cofN, sgn, if_neg h]; omega

end Go.Proofs.Ytamjiinhogmifaa

/- Stable strategies, by the model. -/
namespace Go.Proofs.Ytamjiinhogmifaa
open Go.RowKit

/-- Strategy i holds against all others before number l. -/
def StP (a : List (List Int)) (i l : Nat) : Prop := ∀ j, j < l → i = j ∨ HoldP a i j
theorem StP.zero (a : List (List Int)) (i : Nat) : StP a i 0 := fun _ h => absurd h (by omega)
theorem StP.succ {a : List (List Int)} {i l : Nat} : StP a i (l + 1) ↔ StP a i l ∧ (i = l ∨ HoldP a i l) := by
  constructor
  · exact fun h => ⟨fun j hj => h j (by omega), h l (by omega)⟩
  · rintro ⟨h1, h2⟩ j hj
    by_cases e : j = l
    · subst e; exact h2
    · exact h1 j (by omega)
/-- The strategies before number k that hold against all n. -/
noncomputable def stL (a : List (List Int)) (n : Nat) : Nat → List Int
  | 0 => []
  | k + 1 => stL a n k ++ (if pb (StP a k n) = true then [(k : Int)] else [])
theorem stL_yes {a : List (List Int)} {n k : Nat} (h : StP a k n) : stL a n (k + 1) = stL a n k ++ [(k : Int)] := by rw [stL, if_pos (pb_true h)]
theorem stL_no {a : List (List Int)} {n k : Nat} (h : ¬ StP a k n) : stL a n (k + 1) = stL a n k := by rw [stL, if_neg (by rw [pb_false h]; decide), List.append_nil]
theorem stL_len (a : List (List Int)) (n : Nat) : ∀ k, (stL a n k).length ≤ k
  | 0 => by simp [stL]
  | k + 1 => by
    have := stL_len a n k
    rw [stL, List.length_append]
    split <;> simp <;> omega
theorem stL_bd (a : List (List Int)) (n : Nat) : ∀ k, ∀ y ∈ stL a n k, 0 ≤ y ∧ y < (k : Int)
  | 0, y, h => by simp [stL] at h
  | k + 1, y, h => by
    rw [stL, List.mem_append] at h
    rcases h with h | h
    · have := stL_bd a n k y h; omega
    · split at h
      · simp only [List.mem_singleton] at h; omega
      · simp at h
/-- What StableOf answers. -/
noncomputable def stF (a : List (List Int)) : List Int := if pb (VQ a) = true then stL a a.length a.length else []
theorem NewI.quiet {w w1 w' : World} {ys : List Int} {e : Ending} (h : Quiet w w1) (k : NewI w1 ys e w') : NewI w ys e w' := by
  obtain ⟨m, rfl⟩ := h
  obtain ⟨A, n, c, g, e1, e2, ho, hb⟩ := k
  exact ⟨A, n, c, g, e1, e2, ho, ⟨hb.os, hb.tape, hb.output, hb.size, hb.block⟩⟩
theorem IU.quiet {wb v ys w w'} (h : IU wb v ys w) (k : Quiet w w') : IU wb v ys w' := h.next k.below

end Go.Proofs.Ytamjiinhogmifaa

/- Shares of one alone; the worst mean: by both programs. -/
namespace Go.Proofs.Ytamjiinhogmifaa
open Go.RowKit

theorem alloc_set (w : World) (cs : Array Value) (t : TypeId) (i : Nat) (v : Value) : (w.alloc (.cells cs t)).setCell ⟨w.heap.size, i, none⟩ v = w.alloc (.cells (cs.setIfInBounds i v) t) := by
  unfold World.setCell World.alloc
  congr 1
  apply Array.ext
  · simp
  · intro j h1 h2
    simp only [Array.size_modify, Array.size_push] at h1
    rw [Array.getElem_modify]
    by_cases e : w.heap.size = j
    · subst e; simp
    · rw [if_neg e, Array.getElem_push_lt (by omega), Array.getElem_push_lt (by omega)]
def MadeO (w : World) (n i : Nat) (e : Ending) (w' : World) : Prop :=
  e = .returned (.slice (some ⟨w.heap.size, 0, none⟩) n n) ∧ OwnI w.heap.size w'.heap.size w' w.heap.size (some ⟨w.heap.size, 0, none⟩) n n (onl n i) ∧ Below w.heap.size w w'
theorem onl_own (w w1 : World) (n i : Nat) (hn : n ≤ 100) (hr : w1.rowIs w.heap.size 3 n (fun j => if j = i then .int .i64 1 else .int .i64 0)) :
    OwnI w.heap.size w1.heap.size w1 w.heap.size (some ⟨w.heap.size, 0, none⟩) n n (onl n i) :=
  OwnI.of_rowIs (onl_len n i) (by omega) (fun x hx => by
    obtain ⟨k, hk, rfl⟩ := List.mem_iff_getElem.1 hx
    rw [onl_len] at hk
    have := onl_bd (n := n) (i := i) hk
    rw [gi_get (by rw [onl_len]; exact hk)] at this
    omega) (Nat.le_refl _) hr.lt hr fun k hk => by
      show (if k = i then Value.int .i64 1 else Value.int .i64 0) = _
      rw [gi_onl hk]; split <;> rfl

end Go.Proofs.Ytamjiinhogmifaa

/- Members of sets, parts of tables, numbers put to their places, numbers without a common factor. Plain. -/
namespace Go.Proofs.Ytamjiinhogmifaa
open V (sumN detN rowC colC cofN minorN skip sgn)

/-- The members below j of a set. -/
def memL (s : Nat) : Nat → List Int
  | 0 => []
  | j + 1 => if s / 2 ^ j % 2 = 1 then memL s j ++ [(j : Int)] else memL s j
theorem memL_yes {s j : Nat} (h : s / 2 ^ j % 2 = 1) : memL s (j + 1) = memL s j ++ [(j : Int)] := by rw [memL, if_pos h]
theorem memL_no {s j : Nat} (h : ¬ s / 2 ^ j % 2 = 1) : memL s (j + 1) = memL s j := by rw [memL, if_neg h]
theorem memL_le (s : Nat) : ∀ j, (memL s j).length ≤ j
  | 0 => by simp [memL]
  | j + 1 => by
    have := memL_le s j
    rw [memL]
    split
    · rw [List.length_append, List.length_singleton]; omega
    · omega
theorem memL_bd (s : Nat) : ∀ j, ∀ x ∈ memL s j, 0 ≤ x ∧ x < (j : Int)
  | 0, x, h => by simp [memL] at h
  | j + 1, x, h => by
    rw [memL] at h
    split at h
    · rcases List.mem_append.1 h with h | h
      · have := memL_bd s j x h; omega
      · simp at h; omega
    · have := memL_bd s j x h; omega

/-- A list of as many places. -/
def lstN (r : Nat → Nat) (k : Nat) : List Int := (List.range k).map fun p => (r p : Int)
theorem lstN_len (r : Nat → Nat) (k : Nat) : (lstN r k).length = k := by simp [lstN]
theorem gi_lstN {r : Nat → Nat} {k p : Nat} (h : p < k) : gi (lstN r k) p = (r p : Int) := by
  rw [gi_get (by rw [lstN_len]; exact h)]; simp [lstN]

/-- The first j numbers of a row of a part; the first i rows. -/
def prtR (a : List (List Int)) (i : Nat) (c : Nat → Nat) (more : Int) (j : Nat) : List Int := (List.range j).map fun q => g2 a i (c q) + more
def prtL (a : List (List Int)) (r c : Nat → Nat) (more : Int) (l i : Nat) : List (List Int) := (List.range i).map fun p => prtR a (r p) c more l
theorem prtR_succ (a : List (List Int)) (i : Nat) (c : Nat → Nat) (more : Int) (j : Nat) : prtR a i c more (j + 1) = prtR a i c more j ++ [g2 a i (c j) + more] := by simp [prtR, List.range_succ]
theorem prtL_succ (a : List (List Int)) (r c : Nat → Nat) (more : Int) (l i : Nat) : prtL a r c more l (i + 1) = prtL a r c more l i ++ [prtR a (r i) c more l] := by simp [prtL, List.range_succ]
theorem prtR_len (a : List (List Int)) (i : Nat) (c : Nat → Nat) (more : Int) (j : Nat) : (prtR a i c more j).length = j := by simp [prtR]
theorem prtL_len (a : List (List Int)) (r c : Nat → Nat) (more : Int) (l i : Nat) : (prtL a r c more l i).length = i := by simp [prtL]
theorem gi_prtR {a : List (List Int)} {i : Nat} {c : Nat → Nat} {more : Int} {j q : Nat} (h : q < j) : gi (prtR a i c more j) q = g2 a i (c q) + more := by
  rw [gi_get (by rw [prtR_len]; exact h)]; simp [prtR]
theorem gr_prtL {a : List (List Int)} {r c : Nat → Nat} {more : Int} {l i p : Nat} (h : p < i) : gr (prtL a r c more l i) p = prtR a (r p) c more l := by
  rw [gr_get (by rw [prtL_len]; exact h)]; simp [prtL]
theorem prtL_sq (a : List (List Int)) (r c : Nat → Nat) (more : Int) (k : Nat) : Sq k (prtL a r c more k k) (fun p q => g2 a (r p) (c q) + more) :=
  ⟨prtL_len _ _ _ _ _ _, fun p hp => by rw [gr_prtL hp, prtR_len], fun p q hp hq => by unfold g2; rw [gr_prtL hp, gi_prtR hq]; rfl⟩
theorem prtR_bd {a : List (List Int)} {i : Nat} {c : Nat → Nat} {more : Int} {j : Nat} (h : ∀ q, q < j → -9 ≤ g2 a i (c q) ∧ g2 a i (c q) ≤ 9) (hm : 0 ≤ more ∧ more ≤ 18) : ∀ x ∈ prtR a i c more j, -27 ≤ x ∧ x ≤ 27 := fun x hx => by
  obtain ⟨q, hq, rfl⟩ := List.mem_map.1 hx
  have := h q (List.mem_range.1 hq)
  omega

/-- Numbers put to their places among n: the first k of them. -/
def putL (n : Nat) (r : Nat → Nat) (xs : List Int) : Nat → List Int
  | 0 => List.replicate n 0
  | k + 1 => (putL n r xs k).set (r k) (gi xs k)
theorem putL_len (n : Nat) (r : Nat → Nat) (xs : List Int) : ∀ k, (putL n r xs k).length = n
  | 0 => by simp [putL]
  | k + 1 => by rw [putL, List.length_set, putL_len n r xs k]
theorem gi_set_at {xs : List Int} {i k : Nat} {v : Int} (h : k < xs.length) : gi (xs.set i v) k = if i = k then v else gi xs k := by
  rw [gi_get (by rw [List.length_set]; exact h), gi_get h, List.getElem_set]
theorem gi_putL {n : Nat} {r : Nat → Nat} {xs : List Int} {i : Nat} (hi : i < n) : ∀ {k}, (∀ p q, p < q → q < k → r p ≠ r q) → gi (putL n r xs k) i = sumN (fun p => if r p = i then gi xs p else 0) k
  | 0, _ => by rw [putL, gi_get (by simpa using hi)]; simp [sumN]
  | k + 1, h => by
    have ih := gi_putL (xs := xs) hi (k := k) fun p q hp hq => h p q hp (by omega)
    rw [putL, gi_set_at (by rw [putL_len]; exact hi), sumN]
    by_cases e : r k = i
    · rw [if_pos e, if_pos e]
      have : sumN (fun p => if r p = i then gi xs p else 0) k = sumN (fun _ => 0) k := sumN_congr fun p hp => by rw [if_neg (fun e2 => h p k hp (by omega) (e2.trans e.symm))]
      rw [this, sumN_zero]; omega
    · rw [if_neg e, if_neg e, ih]; omega

/-- Numbers without signs, divided by g. -/
def clrL (xs : List Int) (g : Int) (i : Nat) : List Int := (List.range i).map fun p => max (gi xs p) (- gi xs p) / g
theorem clrL_succ (xs : List Int) (g : Int) (i : Nat) : clrL xs g (i + 1) = clrL xs g i ++ [max (gi xs i) (- gi xs i) / g] := by simp [clrL, List.range_succ]
theorem clrL_len (xs : List Int) (g : Int) (i : Nat) : (clrL xs g i).length = i := by simp [clrL]
theorem gi_clrL {xs : List Int} {g : Int} {i p : Nat} (h : p < i) : gi (clrL xs g i) p = max (gi xs p) (- gi xs p) / g := by
  rw [gi_get (by rw [clrL_len]; exact h)]; simp [clrL]
/-- Not all numbers are 0, and none have different signs. -/
structure ClrP (xs : List Int) : Prop where
  nz : ∃ p, p < xs.length ∧ gi xs p ≠ 0
  sg : (∀ p, p < xs.length → 0 ≤ gi xs p) ∨ ∀ p, p < xs.length → gi xs p ≤ 0
theorem gcdL_zero {xs : List Int} : ∀ {k}, gcdL xs k = 0 ↔ ∀ p, p < k → gi xs p = 0
  | 0 => by simp [gcdL]
  | k + 1 => by
    have ih := gcdL_zero (xs := xs) (k := k)
    rw [gcdL]
    constructor
    · intro h p hp
      have h1 : gcdL xs k = 0 := by
        apply Classical.byContradiction; intro hn
        have := gcdI_pos_left (b := gi xs k) hn; omega
      by_cases e : p = k
      · subst e
        apply Classical.byContradiction; intro hn
        have := gcdI_pos (a := gcdL xs p) hn; omega
      · exact ih.1 h1 p (by omega)
    · intro h
      rw [ih.2 fun p hp => h p (by omega), h k (by omega)]
      rfl
theorem gcdL_dvd (xs : List Int) : ∀ {k p}, p < k → gcdL xs k ∣ gi xs p
  | 0, _, h => absurd h (by omega)
  | k + 1, p, h => by
    rw [gcdL]
    by_cases e : p = k
    · subst e; exact gcdI_dvd_right _ _
    · exact Int.dvd_trans (gcdI_dvd_left _ _) (gcdL_dvd xs (k := k) (by omega))
end Go.Proofs.Ytamjiinhogmifaa

/- Members of sets, by the model. -/
namespace Go.Proofs.Ytamjiinhogmifaa
open Go.RowKit

theorem div_pow_succ (x i : Nat) : x / 2 ^ (i + 1) = x / 2 ^ i / 2 := by rw [Nat.pow_succ, Nat.div_div_eq_div_mul]
theorem memb_bd (s j : Nat) (hj : j ≤ 100) : ∀ y ∈ memL s j, -1000000000000000 ≤ y ∧ y ≤ 1000000000000000 := fun y hy => by have := memL_bd s j y hy; omega
end Go.Proofs.Ytamjiinhogmifaa

/- Some rows and columns of a table, by the model. -/
namespace Go.Proofs.Ytamjiinhogmifaa
open Go.RowKit

/-- One number more, appended in a region that draws its order. -/
theorem IU.push2 {wb v ys w w2 w1 x} {gg cap : Nat} (h : IU wb v ys w) (hb : Below w.heap.size w w2)
    (hown : w1.ownsRow wb.heap.size 3 1 (.slice (some ⟨gg, 0, none⟩) (ys.length + 1) cap) (ys.length + 1) (ys.map iv ++ [iv x])) (hgrow : w2.grownBy w1 v.ownBlock) (hlt : gg < w1.heap.size) :
    IU wb (.slice (some ⟨gg, 0, none⟩) (ys.length + 1) cap) (ys ++ [x]) w1 := by
  have hu : ∀ k, v.ownBlock = some k → wb.heap.size ≤ k := fun k hk => (h.bi.own.lt k hk).1
  have hz := h.up.size
  have hz2 := hb.size
  refine ⟨⟨by rw [List.length_append, List.length_singleton, List.map_append]; exact hown, fun k hk => ?_⟩, ?_⟩
  · have : gg = k := by simpa [Value.ownBlock] using hk
    omega
  · exact (below_up h.up hb).grown hgrow (by omega) fun k hk => hu k hk
theorem TN.push2 {wb H v vs xss u ys w w2 w1 x} {gg cap : Nat} (h : TN wb H v vs xss u ys w) (hb : Below w.heap.size w w2)
    (hown : w1.ownsRow H 3 1 (.slice (some ⟨gg, 0, none⟩) (ys.length + 1) cap) (ys.length + 1) (ys.map iv ++ [iv x])) (hgrow : w2.grownBy w1 u.ownBlock) (hlt : gg < w1.heap.size) :
    TN wb H v vs xss (.slice (some ⟨gg, 0, none⟩) (ys.length + 1) cap) (ys ++ [x]) w1 := by
  have hu : ∀ k, u.ownBlock = some k → H ≤ k := fun k hk => (h.bi.own.lt k hk).1
  have hz := h.up.size
  have hz2 := hb.size
  have hlh := h.lh
  have hhs := h.hs
  have hsz := hgrow.size
  have hbelow : ∀ k, k < H → w1.heap[k]? = w.heap[k]? := fun k hk =>
    (hgrow.block k (by omega) (fun e => by have := hu k e.symm; omega)).trans (hb.block k (by omega))
  refine ⟨h.bo.of_blocks fun k _ hk _ => hbelow k hk, ⟨by rw [List.length_append, List.length_singleton, List.map_append]; exact hown, fun k hk => ?_⟩, hlh, by omega, ?_⟩
  · have : gg = k := by simpa [Value.ownBlock] using hk
    omega
  · exact (below_up h.up hb).grown hgrow (by omega) fun k hk => by have := hu k hk; omega
theorem IU.qu {wb v ys w w'} (h : IU wb v ys w) (k : Quiet w w') : IU wb v ys w' := h.next k.below
theorem TN.next {wb H v vs xss u ys w w'} (h : TN wb H v vs xss u ys w) (k : Below w.heap.size w w') : TN wb H v vs xss u ys w' := by
  have hhs := h.hs
  have hz := k.size
  exact ⟨h.bo.of_blocks fun g _ hg _ => k.block g (by omega), (h.bi.below k).mono k.size, h.lh, by omega, below_up h.up k⟩
theorem TN.qu {wb H v vs xss u ys w w'} (h : TN wb H v vs xss u ys w) (k : Quiet w w') : TN wb H v vs xss u ys w' := h.next k.below

/-- Places of a table in a list. -/
structure Pl (w : World) (X : Option Addr) (k c : Nat) (r : Nat → Nat) (n : Nat) : Prop where
  ints : Ints w X k c (lstN r k)
  lt : ∀ p, p < k → r p < n

end Go.Proofs.Ytamjiinhogmifaa

