/- Texts merged: Turn R10 R11 T1 V1 S3 S4 V2 V3 V4 N1 Y8a. -/
import Derived.Test.YtolnbkplgnpfjaaQ2
import Derived.Deep.LoopGhost
/- A table turned, by the program: make, make, store. -/
namespace Go.Proofs.Ytolnbkplgnpfjaa
open Go.RowKit

def flip (a : List (List Int)) (n m : Nat) : List (List Int) := (List.range m).map fun j => (List.range n).map fun i => g2 a i j
theorem gr_flip {a : List (List Int)} {n m j : Nat} (h : j < m) : gr (flip a n m) j = (List.range n).map fun i => g2 a i j := by
  rw [gr_get (by simpa [flip] using h)]; simp [flip]
theorem gi_col {a : List (List Int)} {n i j : Nat} (h : i < n) : gi ((List.range n).map fun i => g2 a i j) i = g2 a i j := by
  rw [gi_get (by simpa using h)]; simp

def ttop (B n c : Nat) : Nat → Value := fun j => if j < c then .slice (some ⟨B + 1 + j, 0, none⟩) n n else .slice none 0 0
structure TurnO (w wr : World) (n m c : Nat) (xs : List (List Int)) : Prop where
  below : Below w.heap.size w wr
  size : wr.heap.size = w.heap.size + 1 + c
  top : wr.rowIs w.heap.size 27 m (ttop w.heap.size n c)
  done : ∀ j, j < c → wr.rowIs (w.heap.size + 1 + j) 3 n (fun i => .int .i64 (g2 xs i j))
structure TurnI (w wi : World) (n m c r : Nat) (xs : List (List Int)) : Prop where
  below : Below w.heap.size w wi
  size : wi.heap.size = w.heap.size + 1 + c + 1
  top : wi.rowIs w.heap.size 27 m (ttop w.heap.size n (c + 1))
  done : ∀ j, j < c → wi.rowIs (w.heap.size + 1 + j) 3 n (fun i => .int .i64 (g2 xs i j))
  cur : wi.rowIs (w.heap.size + 1 + c) 3 n (fun i => if i < r then .int .i64 (g2 xs i c) else .int .i64 0)
theorem turnO_start (w : World) (n m : Nat) (xs : List (List Int)) : TurnO w (w.alloc (.cells (madeCells #[.slice none 0 0] m) 27)) n m 0 xs :=
  ⟨below_alloc _ _, by simp, (World.rowIs_made w _ m 27).congr (fun j _ => by simp [ttop]), fun j hj => absurd hj (Nat.not_lt_zero _)⟩
theorem turnI_start {w wr : World} {n m c : Nat} {xs : List (List Int)} (h : TurnO w wr n m c xs) :
    TurnI w ((wr.alloc (.cells (madeCells #[.int .i64 0] n) 3)).setCell ⟨w.heap.size, c, none⟩ (.slice (some ⟨wr.heap.size, 0, none⟩) n n)) n m c 0 xs := by
  have hnew := World.rowIs_made wr (.int .i64 0) n 3
  have hs := h.size
  rw [hs] at hnew ⊢
  refine ⟨(h.below.alloc (by rw [hs]; omega) _).setCell (Nat.le_refl _) _, by simp [hs], ((h.top.alloc _).set c _).congr (fun j _ => ?_), fun j hj => ((h.done j hj).alloc _).setOther (by show w.heap.size + 1 + j ≠ w.heap.size; omega) _,
    (hnew.setOther (by show w.heap.size + 1 + c ≠ w.heap.size; omega) _).congr (fun i _ => by simp)⟩
  unfold ttop
  by_cases e : j = c
  · subst e; simp
  · rw [if_neg e]
    by_cases hlt : j < c
    · rw [if_pos hlt, if_pos (by omega)]
    · rw [if_neg hlt, if_neg (by omega)]
theorem turnI_step {w wi wd : World} {n m c r : Nat} {xs : List (List Int)} (h : TurnI w wi n m c r xs) (hq : Quiet wi wd) :
    TurnI w (wd.setCell ⟨w.heap.size + 1 + c, r, none⟩ (.int .i64 (g2 xs r c))) n m c (r + 1) xs := by
  obtain ⟨q, rfl⟩ := hq
  have hs := h.size
  refine ⟨(below_drewN h.below q).setCell (by show w.heap.size ≤ w.heap.size + 1 + c; omega) _, by simp [World.setCell]; exact hs, (World.rowIs.setOther (w := wi.drewN q) h.top (by show w.heap.size ≠ w.heap.size + 1 + c; omega) _),
    fun j hj => (World.rowIs.setOther (w := wi.drewN q) (h.done j hj) (by show w.heap.size + 1 + j ≠ w.heap.size + 1 + c; omega) _), (World.rowIs.set (w := wi.drewN q) h.cur r _).congr (fun i _ => ?_)⟩
  by_cases e : i = r
  · subst e; simp
  · rw [if_neg e]
    by_cases hlt : i < r
    · rw [if_pos hlt, if_pos (by omega)]
    · rw [if_neg hlt, if_neg (by omega)]
theorem TurnI.drew {w wi : World} {n m c r : Nat} {xs : List (List Int)} (h : TurnI w wi n m c r xs) : TurnI w wi.drew n m c r xs :=
  ⟨h.below.drew, h.size, h.top.drew, fun j hj => (h.done j hj).drew, h.cur.drew⟩
theorem turnI_done {w wi : World} {n m c : Nat} {xs : List (List Int)} (h : TurnI w wi n m c n xs) : TurnO w wi n m (c + 1) xs :=
  ⟨h.below, by rw [h.size]; omega, h.top, fun j hj => by
    by_cases e : j = c
    · subst e
      exact h.cur.congr (fun i hi => by rw [if_pos hi])
    · exact h.done j (by omega)⟩
theorem turnO_own {w wr : World} {n m : Nat} {xs : List (List Int)} (h : TurnO w wr n m m xs) (hn : n ≤ 3) (hm : m ≤ 3) (hbd : ∀ i j, i < n → j < m → -9 ≤ g2 xs i j ∧ g2 xs i j ≤ 9) :
    OwnR w.heap.size wr.heap.size wr w.heap.size (some ⟨w.heap.size, 0, none⟩) m m (flip xs n m) := by
  have hs := h.size
  refine ⟨by simp [flip], Nat.le_refl _, by omega, fun _ => ⟨0, fun k => w.heap.size + 1 + k, fun k => some ⟨w.heap.size + 1 + k, 0, none⟩, fun _ => n, rfl, Nat.le_refl _, h.top.lt, fun k hk => ?_, fun j k hj _ _ _ => by show w.heap.size + 1 + j ≠ w.heap.size + 1 + k; omega⟩⟩
  have hl : ((List.range n).map fun i => g2 xs i k).length = n := by simp
  rw [gr_flip hk, hl]
  refine ⟨by rw [Nat.zero_add]; exact h.top.frozen k, by rw [Nat.zero_add, h.top.cell hk, ttop, if_pos hk], OwnI.of_rowIs hl (by omega) ?_ (by show w.heap.size ≤ w.heap.size + 1 + k; omega) (by show w.heap.size + 1 + k < _; omega) (h.done k hk) (fun i hi => by rw [gi_col hi]), fun _ => by show w.heap.size + 1 + k ≠ w.heap.size; omega⟩
  intro x hx
  obtain ⟨i, hi, rfl⟩ := List.mem_map.1 hx
  have := hbd i k (List.mem_range.1 hi) hk
  omega

def MadeT (w : World) (n m : Nat) (xs : List (List Int)) (e : Ending) (w' : World) : Prop :=
  e = .returned (.slice (some ⟨w.heap.size, 0, none⟩) m m) ∧ OwnR w.heap.size w'.heap.size w' w.heap.size (some ⟨w.heap.size, 0, none⟩) m m (flip xs n m) ∧ Below w.heap.size w w' ∧ w.heap.size < w'.heap.size

set_option maxHeartbeats 1000000 in
theorem turned_any (b o : Nat) (rb ro cc : Nat → Nat) (n m c : Nat) (xs : List (List Int)) (w : World) (h : Tab w b o rb ro cc n m xs) :
    Calls Try.prog 59 #[.slice (some ⟨b, o, none⟩) n c] w (MadeT w n m xs) := by
  have HT := Lib.hid h
  have hn3 := h.n3
  have hn1 := h.n1
  have hm3 := h.m3
  have r0 := h.row 0 (by omega)
  simp only [Nat.add_zero] at r0
  clear h
  have hmk := run_make_row' (P := Try.prog) 23 27 (.slice none 0 0) 24 Try.underlying23 Try.info27 rfl .i64 .i64 m (by omega) (by omega)
  go_enter Try.func59, Try.ntmps59
  go_wp2
  clear hmk
  go_loopw [13] (fun s wr => ∃ k : Nat, k ≤ m ∧ s = .int .i64 k ∧ Hid (TurnO w wr n m k xs)) (fun s _ => m - (intOf s).toNat)
  case atStart => exact ⟨0, Nat.zero_le _, rfl, Lib.hid (turnO_start w n m xs)⟩
  case round =>
    obtain ⟨k, hk, rfl, HO⟩ := hrel
    by_cases hlt : k < m
    · have hmk2 := run_make_row' (P := Try.prog) 27 3 (.int .i64 0) 8 Try.underlying27 Try.info3 rfl .i64 .i64 n (by omega) (by omega)
      have c1 := (HO.out.top.alloc (.cells (madeCells #[.int .i64 0] n) 3)).cell hlt
      simp only [ttop, if_neg (Nat.lt_irrefl k)] at c1
      have c2 := (HO.out.top.alloc (.cells (madeCells #[.int .i64 0] n) 3)).frozen k
      have HI := Lib.hid (turnI_start HO.out)
      clear HO
      go_wp2
      clear hmk2 c1 c2
      go_loopw [24] (fun s wi => ∃ r : Nat, r ≤ n ∧ s = .int .i64 r ∧ Hid (TurnI w wi n m k r xs)) (fun s _ => n - (intOf s).toNat)
      case atStart => exact ⟨0, Nat.zero_le _, rfl, HI⟩
      case round =>
        clear HI
        obtain ⟨r, hr, rfl, HI⟩ := hrel
        by_cases hrn : r < n
        · have c1 := HI.out.top.cell hlt
          simp only [ttop, if_pos (Nat.lt_succ_self k)] at c1
          have hsrc := (HT.out.keep (Keep.below HI.out.below)).row r hrn
          have hel := (HT.out.keep (Keep.below HI.out.below)).cell r k hrn hlt
          have c3 := HI.out.cur.cell hrn
          simp only [if_neg (Nat.lt_irrefl r)] at c3
          have c4 := HI.out.cur.frozen r
          have HN := Lib.hid ((turnI_step HI.out (Quiet.refl _)).drew)
          go_wp2
          go_region
          all_goals
            clear c1 hsrc hel c3 c4 HI
            go_wp2
            go_roundw
            case rel => exact ⟨r + 1, by omega, by go_num, HN⟩
            case measure => simp [intOf]; omega
        · go_wp2
          go_roundw
          case rel => exact ⟨k + 1, by omega, by go_num, Lib.hid (turnI_done (by have h := HI.out; rw [show r = n by omega] at h; exact h))⟩
          case measure => simp [intOf]; omega
    · go_wp2
      go_ret
      obtain rfl : k = m := by omega
      exact ⟨rfl, turnO_own HO.out hn3 hm3 HT.out.bd, HO.out.below, HO.out.top.lt⟩
end Go.Proofs.Ytolnbkplgnpfjaa

/- Tables made of tables. -/
namespace Go.Proofs.Ytolnbkplgnpfjaa
open Go.RowKit

/-- A table under way. -/
structure TM (wb : World) (v : Value) (vs : List Value) (xss : List (List Int)) (w : World) : Prop where
  bo : Bld wb.heap.size w.heap.size w v vs xss
  up : Below wb.heap.size wb w
/-- .. and the row that is begun. -/
structure TN (wb : World) (H : Nat) (v : Value) (vs : List Value) (xss : List (List Int)) (u : Value) (ys : List Int) (w : World) : Prop where
  bo : Bld wb.heap.size H w v vs xss
  bi : BldI H w.heap.size w u ys
  lh : wb.heap.size ≤ H
  hs : H ≤ w.heap.size
  up : Below wb.heap.size wb w
theorem TM.start (wb : World) : TM wb (.slice (some ⟨wb.heap.size, 0, none⟩) 0 0) [] [] (wb.alloc (.cells #[] 27)) :=
  ⟨by rw [World.size_alloc]; exact Bld.make (Nat.le_refl _), below_alloc _ _⟩
theorem TM.row {wb v vs xss w} (h : TM wb v vs xss w) : TN wb w.heap.size v vs xss (.slice (some ⟨w.heap.size, 0, none⟩) 0 0) [] (w.alloc (.cells #[] 3)) :=
  ⟨h.bo.below (below_alloc _ _), by rw [World.size_alloc]; exact BldI.make (Nat.le_refl _), h.up.size, by simp, below_up h.up (below_alloc _ _)⟩
theorem TN.push {wb H v vs xss u u' ys w w' x} (h : TN wb H v vs xss u ys w)
    (hown : w'.ownsRow H 3 1 u' (ys.length + 1) (ys.map iv ++ [iv x])) (hgrow : (w.alloc (.cells #[iv x] 3)).grownBy w' u.ownBlock)
    (hat : u'.ownBlock = u.ownBlock ∨ u'.ownBlock = some (w.heap.size + 1)) : TN wb H v vs xss u' (ys ++ [x]) w' := by
  have hlh := h.lh
  have hhs := h.hs
  have hsz := hgrow.size
  simp only [World.size_alloc] at hsz
  have hu : ∀ k, u.ownBlock = some k → H ≤ k := fun k hk => (h.bi.own.lt k hk).1
  have hbelow : ∀ k, k < H → w'.heap[k]? = w.heap[k]? := fun k hk =>
    (hgrow.block k (by simp; omega) (fun e => by have := hu k e.symm; omega)).trans (Below.heap_alloc _ _ _ (by omega))
  refine ⟨h.bo.of_blocks fun k _ hk _ => hbelow k hk, ⟨by rw [List.length_append, List.length_singleton, List.map_append]; exact hown, fun k hk => ?_⟩, h.lh, by omega, ?_⟩
  · rcases hat with hat | hat
    · have := h.bi.hi_ k (by rw [← hat]; exact hk); omega
    · have := (hown.lt k hk).2; omega
  · exact ⟨hgrow.os.trans h.up.os, hgrow.tape.trans h.up.tape, hgrow.output.trans h.up.output, by have := h.up.size; omega, fun k hk => (hbelow k (by omega)).trans (h.up.block k hk)⟩
theorem TN.done {wb H v v' vs xss ys w w' Ar cr gr_} (h : TN wb H v vs xss (.slice Ar ys.length cr) ys w) (ho : OwnI H w.heap.size w gr_ Ar ys.length cr ys)
    (hown : w'.ownsRow wb.heap.size 27 1 v' (xss.length + 1) (vs ++ [.slice Ar ys.length cr])) (hgrow : (w.alloc (.cells #[.slice Ar ys.length cr] 27)).grownBy w' v.ownBlock)
    (hat : v'.ownBlock = v.ownBlock ∨ v'.ownBlock = some (w.heap.size + 1)) : TM wb v' (vs ++ [.slice Ar ys.length cr]) (xss ++ [ys]) w' := by
  have hlh := h.lh
  have hhs := h.hs
  have hsz := hgrow.size
  simp only [World.size_alloc] at hsz
  have hv : ∀ k, v.ownBlock = some k → wb.heap.size ≤ k := fun k hk => (h.bo.own.lt k hk).1
  have hbelow : ∀ k, k < wb.heap.size → w'.heap[k]? = w.heap[k]? := fun k hk =>
    (hgrow.block k (by simp; omega) (fun e => by have := hv k e.symm; omega)).trans (Below.heap_alloc _ _ _ (by omega))
  have hb := below_alloc w (.cells #[.slice Ar ys.length cr] 27)
  refine ⟨?_, ?_⟩
  · have hbo : Bld wb.heap.size H w v vs xss := h.bo
    exact Bld.push (hi := H) (w := w) hbo hb ((ho.below hb).mono (Nat.le_refl _) (by simp)) hown hgrow (by simpa using hat) hlh hhs
  · exact ⟨hgrow.os.trans h.up.os, hgrow.tape.trans h.up.tape, hgrow.output.trans h.up.output, by have := h.up.size; omega, fun k hk => (hbelow k hk).trans (h.up.block k hk)⟩

/-- A new table. -/
def NewT (w : World) (yss : List (List Int)) (e : Ending) (w' : World) : Prop :=
  ∃ Av n c gg, e = .returned (.slice Av n c) ∧ n = yss.length ∧ OwnR w.heap.size w'.heap.size w' gg Av n c yss ∧ Below w.heap.size w w'

def mrow (r : List Int) (j : Nat) : List Int := (List.range j).map fun k => - gi r k
def mtab (xss : List (List Int)) (i : Nat) : List (List Int) := (List.range i).map fun k => mrow (gr xss k) (gr xss k).length
theorem mrow_succ (r : List Int) (j : Nat) : mrow r (j + 1) = mrow r j ++ [- gi r j] := by simp [mrow, List.range_succ]
theorem mtab_succ (xss : List (List Int)) (i : Nat) : mtab xss (i + 1) = mtab xss i ++ [mrow (gr xss i) (gr xss i).length] := by simp [mtab, List.range_succ]
theorem mrow_len (r : List Int) (j : Nat) : (mrow r j).length = j := by simp [mrow]
theorem mtab_len (xss : List (List Int)) (j : Nat) : (mtab xss j).length = j := by simp [mtab]
theorem Small.gi {xss : List (List Int)} (h : Small xss) {k j : Nat} (hk : k < xss.length) (hj : j < (gr xss k).length) : -1000 ≤ gi (gr xss k) j ∧ gi (gr xss k) j ≤ 1000 :=
  (h.rows _ (gr_mem hk)).2 _ (gi_mem hj)
theorem Small.mrow_bd {xss : List (List Int)} (h : Small xss) {k j : Nat} (hk : k < xss.length) (hj : j ≤ (gr xss k).length) : ∀ x ∈ mrow (gr xss k) j, -1000 ≤ x ∧ x ≤ 1000 := fun x hx => by
  obtain ⟨i, hi, rfl⟩ := List.mem_map.1 hx
  have := h.gi hk (show i < _ by have := List.mem_range.1 hi; omega)
  omega
theorem Small.mtab {xss : List (List Int)} (h : Small xss) : Small (mtab xss xss.length) :=
  ⟨by rw [mtab_len]; exact h.n, fun r hr => by
    obtain ⟨i, hi, rfl⟩ := List.mem_map.1 hr
    have hi := List.mem_range.1 hi
    exact ⟨by rw [mrow_len]; exact (h.rows _ (gr_mem hi)).1, h.mrow_bd hi (Nat.le_refl _)⟩⟩

end Go.Proofs.Ytolnbkplgnpfjaa

/- Tables turned, by the laws. -/
namespace Go.Proofs.Ytolnbkplgnpfjaa
open Go.RowKit

def fcol (xss : List (List Int)) (j i : Nat) : List Int := (List.range i).map fun k => g2 xss k j
theorem fcol_succ (xss : List (List Int)) (j i : Nat) : fcol xss j (i + 1) = fcol xss j i ++ [g2 xss i j] := by simp [fcol, List.range_succ]
theorem flip_succ (xss : List (List Int)) (n j : Nat) : flip xss n (j + 1) = flip xss n j ++ [fcol xss j n] := by simp [flip, fcol, List.range_succ]
theorem fcol_len (xss : List (List Int)) (j i : Nat) : (fcol xss j i).length = i := by simp [fcol]
theorem flip_len (xss : List (List Int)) (n j : Nat) : (flip xss n j).length = j := by simp [flip]
/-- Rows of m numbers. -/
def Even (xss : List (List Int)) (m : Nat) : Prop := ∀ k, k < xss.length → (gr xss k).length = m
theorem Small.fcol_bd {xss : List (List Int)} (h : Small xss) {m : Nat} (he : Even xss m) {i j : Nat} (hi : i ≤ xss.length) (hj : j < m) : ∀ x ∈ fcol xss j i, -1000 ≤ x ∧ x ≤ 1000 := fun x hx => by
  obtain ⟨k, hk, rfl⟩ := List.mem_map.1 hx
  have hk := List.mem_range.1 hk
  exact h.gi (show k < _ by omega) (by rw [he k (by omega)]; exact hj)
theorem Small.m {xss : List (List Int)} (h : Small xss) {m : Nat} (he : Even xss m) (h0 : 0 < xss.length) : m ≤ 8 := by
  rw [← he 0 h0]; exact (h.rows _ (gr_mem h0)).1
theorem Small.flip {xss : List (List Int)} (h : Small xss) {m : Nat} (he : Even xss m) (h0 : 0 < xss.length) : Small (flip xss xss.length m) :=
  ⟨by rw [flip_len]; exact h.m he h0, fun r hr => by
    obtain ⟨j, hj, rfl⟩ := List.mem_map.1 hr
    have hj := List.mem_range.1 hj
    exact ⟨by simp; exact h.n, h.fcol_bd he (Nat.le_refl _) hj⟩⟩

theorem VT.even {a : List (List Int)} (v : VT a) : Even a (gr a 0).length := fun k hk => (v.rows k hk).1
theorem VT.flip {a : List (List Int)} (v : VT a) : VT (flip a a.length (gr a 0).length) := by
  have h0 := v.m1
  refine VT_of (by rw [flip_len]; exact v.m1) (by rw [flip_len]; exact v.m3) fun i hi => ?_
  rw [flip_len] at hi
  rw [gr_flip hi, gr_flip h0]
  refine ⟨by simp, by simp; exact v.n1, by simp; exact v.n3, fun j hj => ?_⟩
  simp at hj
  rw [gi_col hj]
  exact v.bd hj hi
theorem VT.minus {a : List (List Int)} (v : VT a) : VT (mtab a a.length) := by
  have hg : ∀ i, i < a.length → gr (mtab a a.length) i = mrow (gr a i) (gr a i).length := fun i hi => by
    rw [gr_get (by rw [mtab_len]; exact hi)]; simp [mtab]
  have h0 : 0 < a.length := v.n1
  refine VT_of (by rw [mtab_len]; exact v.n1) (by rw [mtab_len]; exact v.n3) fun i hi => ?_
  rw [mtab_len] at hi
  have hr := v.rows i hi
  rw [hg i hi, hg 0 h0, RowV, mrow_len, mrow_len]
  refine ⟨hr.1, by rw [hr.1]; exact v.m1, by rw [hr.1]; exact v.m3, fun j hj => ?_⟩
  have := hr.2 j hj
  rw [gi_get (by rw [mrow_len]; exact hj)]
  simp only [mrow, List.getElem_map, List.getElem_range]
  unfold InR at *
  omega

set_option maxHeartbeats 1000000 in
theorem flipped_any (A : Option Addr) (n c m : Nat) (xss : List (List Int)) (w : World) (hx : IntRows w A n c xss) (hs : Small xss) (h0 : 0 < n) (he : Even xss m) :
    Calls Try.prog 16 #[.slice A n c] w (NewT w (flip xss n m)) := by
  have HS := Lib.hid hs
  have HS0 := Lib.hid (TM.start w)
  have HE := Lib.hid he
  have hn8 := hs.n
  have HX := Lib.hid hx
  have LX := Lib.hid hx.len
  have hnx : n ≤ 8 := by rw [← hx.len]; exact hn8
  have hm8 : m ≤ 8 := hs.m he (by rw [hx.len]; exact h0)
  clear hx hs he
  obtain ⟨b, o, rfl, hc⟩ := HX.out.at_ h0
  have HC := Lib.hid hc
  clear hc
  go_enter Try.func16, Try.ntmps16
  go_wp2
  go_loopw [3, 4] (fun v i wr => ∃ (k : Nat) (vs : List Value), k ≤ m ∧ i = .int .i64 k ∧ Hid (TM w v vs (flip xss n k) wr)) (fun _ i _ => m - (intOf i).toNat)
  case atStart => exact ⟨0, [], Nat.zero_le _, rfl, HS0⟩
  case round =>
    clear HS0
    obtain ⟨k, vs, hk, rfl, HT⟩ := hrel
    obtain ⟨Av, cv, rfl⟩ := HT.out.bo.form
    obtain ⟨R0, cc0, c0, _⟩ := HC.out 0 h0
    rw [HE.out 0 (by rw [LX.out]; exact h0)] at c0
    have d0 := HT.out.up.cell (p := ⟨b, o + 0, none⟩) (World.block_lt_of_cell? _ _ c0)
    rw [c0] at d0
    simp only [Nat.add_zero] at d0 c0
    by_cases hlt : k < m
    · have HI := Lib.hid HT.out.row
      clear HT
      go_wp2
      clear d0
      generalize wr.heap.size = N at *
      go_loopw [5, 6] (fun u i wi => ∃ (j : Nat), j ≤ n ∧ i = .int .i64 j ∧ Hid (TN w N (.slice Av (flip xss n k).length cv) vs (flip xss n k) u (fcol xss k j) wi)) (fun _ i _ => n - (intOf i).toNat)
      case atStart => exact ⟨0, Nat.zero_le _, rfl, HI⟩
      case round =>
        clear HI
        obtain ⟨j, hj, rfl, HI⟩ := hrel
        obtain ⟨Au, cu, rfl⟩ := HI.out.bi.form
        by_cases hlm : j < n
        · have hjx : j < xss.length := by rw [LX.out]; exact hlm
          obtain ⟨R, cc, c1, hR⟩ := HC.out j hlm
          have c2 := HI.out.up.cell (p := ⟨b, o + j, none⟩) (World.block_lt_of_cell? _ _ c1)
          rw [c1] at c2
          have hR2 := hR.keep (Keep.below HI.out.up)
          have hbd := HS.out.gi hjx (show k < (gr xss j).length by rw [HE.out j hjx]; exact hlt)
          rw [HE.out j hjx] at c1 c2 hR2
          obtain ⟨b', o', rfl, hc'⟩ := hR2.at_ (by omega)
          have c3 := hc' k hlt
          clear hc' hR hR2
          generalize hval : gi (gr xss j) k = x at *
          have HV := Lib.hid (show g2 xss j k = x from hval)
          clear hval
          have hb := below_alloc wr (.cells #[iv x] 3)
          have HB4 := Lib.hid (HI.out.bi.below hb).own
          have HN := Lib.hid (cell_one_new wr (iv x) 3)
          have hHs := HI.out.hs
          have hlh := HI.out.lh
          have HML := Lib.hid (fcol_len xss k j)
          generalize hys : fcol xss k j = ys at *
          have HYS := Lib.hid hys
          clear hb hys
          obtain ⟨i0, hi0, hz0, hz1, hz2⟩ := info_parts Try.info_int
          go_wp2_with (at_builtin; refine wpList_append_own_at _ rfl _ _ 27 rfl N 3 i0 (.int .i64 0) 1 8 Try.underlying27 hi0 hz0 hz1 hz2 rfl (by decide) _ ys.length (ys.map iv) rfl HB4.out ⟨wr.heap.size, 0, none⟩ 1 1 [iv x] rfl rfl ?c1 ?c2 ?c3 ?c4 ?c5 ?_)
          case c1 => exact HN.out
          case c2 => intro u hu; simp at hu; subst hu; rfl
          case c3 => have := HML.out; unfold maxLen; omega
          case c4 => have := HML.out; omega
          case c5 => simp; omega
          intro v' w5 hown' hgrow _ hat
          have HI5 := Lib.hid (HI.out.push hown' hgrow (by simpa using hat))
          clear HB4 HN hown' hgrow hat HI
          go_wp2
          go_roundw
          case rel => exact ⟨j + 1, by omega, by go_num, Lib.hid (by rw [fcol_succ, HYS.out, HV.out]; exact HI5.out)⟩
          case measure => simp [intOf]; omega
        · obtain rfl : j = n := by omega
          have HBD := Lib.hid (HS.out.fcol_bd HE.out (Nat.le_of_eq LX.out.symm) hlt)
          obtain ⟨Ar, nr, cr, gg, e, rfl, ho, _⟩ := HI.out.bi.owns (by rw [fcol_len]; omega) (fun x hx => by have := HBD.out x hx; omega)
          injection e with e1 _ e3
          subst e1
          subst e3
          have HO := Lib.hid ho
          have HML := Lib.hid (fcol_len xss k j)
          have HTL := Lib.hid (flip_len xss j k)
          have HMS := Lib.hid (flip_succ xss j k)
          have hb := below_alloc wr (.cells #[.slice Au (fcol xss k j).length cu] 27)
          have HB4 := Lib.hid (HI.out.bo.below hb).own
          have HN := Lib.hid (cell_one_new wr (.slice Au (fcol xss k j).length cu) 27)
          have hHs := HI.out.hs
          have hlh := HI.out.lh
          clear hb ho HBD
          generalize fcol xss k j = ys at *
          generalize flip xss j k = ms at *
          obtain ⟨i0, hi0, hz0, hz1, hz2⟩ := info_parts Try.info_row
          go_wp2_with (at_builtin; refine wpList_append_own_at _ rfl _ _ 23 rfl w.heap.size 27 i0 (.slice none 0 0) 1 24 Try.underlying23 hi0 hz0 hz1 hz2 rfl (by decide) _ ms.length vs rfl HB4.out ⟨wr.heap.size, 0, none⟩ 1 1 [.slice Au ys.length cu] rfl rfl ?d1 ?d2 ?d3 ?d4 ?d5 ?_)
          case d2 => rfl
          case d3 => have := HTL.out; unfold maxLen; omega
          case d4 => have := HTL.out; omega
          case d5 => omega
          intro v' w5 hown' hgrow _ hat
          have HT5 := Lib.hid (HI.out.done HO.out hown' hgrow (by simpa using hat))
          clear HB4 HN hown' hgrow hat HI HO
          go_wp2
          go_roundw
          case rel => exact ⟨k + 1, _, by omega, by go_num, Lib.hid (by rw [HMS.out]; exact HT5.out)⟩
          case measure => simp [intOf]; omega
    · obtain rfl : k = m := by omega
      obtain ⟨A', n', c', gg, e, hn', hown⟩ := HT.out.bo.owns (by rw [flip_len]; omega)
      injection e with e1 e2 e3
      subst e1
      subst e2
      subst e3
      have HO := Lib.hid hown
      have HB := Lib.hid HT.out.up
      clear hown HT
      go_wp2
      go_ret
      exact ⟨_, _, _, gg, rfl, rfl, HO.out, HB.out⟩
end Go.Proofs.Ytolnbkplgnpfjaa

/- A table turned, by the model. -/
namespace Go.Proofs.Ytolnbkplgnpfjaa
open Go.RowKit

set_option maxHeartbeats 1000000 in
theorem turnedS_any (A : Option Addr) (n c m : Nat) (xss : List (List Int)) (w : World) (hx : IntRows w A n c xss) (hs : Small xss) (h0 : 0 < n) (he : Even xss m) :
    Calls Try.prog 65 #[.slice A n c] w (NewT w (flip xss n m)) := by
  have HS := Lib.hid hs
  have HS0 := Lib.hid (TM.start w)
  have HE := Lib.hid he
  have hn8 := hs.n
  have HX := Lib.hid hx
  have LX := Lib.hid hx.len
  have hnx : n ≤ 8 := by rw [← hx.len]; exact hn8
  have hm8 : m ≤ 8 := hs.m he (by rw [hx.len]; exact h0)
  clear hx hs he
  obtain ⟨b, o, rfl, hc⟩ := HX.out.at_ h0
  have HC := Lib.hid hc
  clear hc
  go_enter Try.func65, Try.ntmps65
  go_wp2
  go_loopw [3, 4] (fun v i wr => ∃ (k : Nat) (vs : List Value), k ≤ m ∧ i = .int .i64 k ∧ Hid (TM w v vs (flip xss n k) wr)) (fun _ i _ => m - (intOf i).toNat)
  case atStart => exact ⟨0, [], Nat.zero_le _, rfl, HS0⟩
  case round =>
    clear HS0
    obtain ⟨k, vs, hk, rfl, HT⟩ := hrel
    obtain ⟨Av, cv, rfl⟩ := HT.out.bo.form
    obtain ⟨R0, cc0, c0, _⟩ := HC.out 0 h0
    rw [HE.out 0 (by rw [LX.out]; exact h0)] at c0
    have d0 := HT.out.up.cell (p := ⟨b, o + 0, none⟩) (World.block_lt_of_cell? _ _ c0)
    rw [c0] at d0
    simp only [Nat.add_zero] at d0 c0
    by_cases hlt : k < m
    · have HI := Lib.hid HT.out.row
      clear HT
      go_wp2
      clear d0
      generalize wr.heap.size = N at *
      go_loopw [5, 6] (fun u i wi => ∃ (j : Nat), j ≤ n ∧ i = .int .i64 j ∧ Hid (TN w N (.slice Av (flip xss n k).length cv) vs (flip xss n k) u (fcol xss k j) wi)) (fun _ i _ => n - (intOf i).toNat)
      case atStart => exact ⟨0, Nat.zero_le _, rfl, HI⟩
      case round =>
        clear HI
        obtain ⟨j, hj, rfl, HI⟩ := hrel
        obtain ⟨Au, cu, rfl⟩ := HI.out.bi.form
        by_cases hlm : j < n
        · have hjx : j < xss.length := by rw [LX.out]; exact hlm
          obtain ⟨R, cc, c1, hR⟩ := HC.out j hlm
          have c2 := HI.out.up.cell (p := ⟨b, o + j, none⟩) (World.block_lt_of_cell? _ _ c1)
          rw [c1] at c2
          have hR2 := hR.keep (Keep.below HI.out.up)
          have hbd := HS.out.gi hjx (show k < (gr xss j).length by rw [HE.out j hjx]; exact hlt)
          rw [HE.out j hjx] at c1 c2 hR2
          obtain ⟨b', o', rfl, hc'⟩ := hR2.at_ (by omega)
          have c3 := hc' k hlt
          clear hc' hR hR2
          generalize hval : gi (gr xss j) k = x at *
          have HV := Lib.hid (show g2 xss j k = x from hval)
          clear hval
          have hb := below_alloc wr (.cells #[iv x] 3)
          have HB4 := Lib.hid (HI.out.bi.below hb).own
          have HN := Lib.hid (cell_one_new wr (iv x) 3)
          have hHs := HI.out.hs
          have hlh := HI.out.lh
          have HML := Lib.hid (fcol_len xss k j)
          generalize hys : fcol xss k j = ys at *
          have HYS := Lib.hid hys
          clear hb hys
          obtain ⟨i0, hi0, hz0, hz1, hz2⟩ := info_parts Try.info_int
          go_wp2_with (at_builtin; refine wpList_append_own_at _ rfl _ _ 27 rfl N 3 i0 (.int .i64 0) 1 8 Try.underlying27 hi0 hz0 hz1 hz2 rfl (by decide) _ ys.length (ys.map iv) rfl HB4.out ⟨wr.heap.size, 0, none⟩ 1 1 [iv x] rfl rfl ?c1 ?c2 ?c3 ?c4 ?c5 ?_)
          case c1 => exact HN.out
          case c2 => intro u hu; simp at hu; subst hu; rfl
          case c3 => have := HML.out; unfold maxLen; omega
          case c4 => have := HML.out; omega
          case c5 => simp; omega
          intro v' w5 hown' hgrow _ hat
          have HI5 := Lib.hid (HI.out.push hown' hgrow (by simpa using hat))
          clear HB4 HN hown' hgrow hat HI
          go_wp2
          go_roundw
          case rel => exact ⟨j + 1, by omega, by go_num, Lib.hid (by rw [fcol_succ, HYS.out, HV.out]; exact HI5.out)⟩
          case measure => simp [intOf]; omega
        · obtain rfl : j = n := by omega
          have HBD := Lib.hid (HS.out.fcol_bd HE.out (Nat.le_of_eq LX.out.symm) hlt)
          obtain ⟨Ar, nr, cr, gg, e, rfl, ho, _⟩ := HI.out.bi.owns (by rw [fcol_len]; omega) (fun x hx => by have := HBD.out x hx; omega)
          injection e with e1 _ e3
          subst e1
          subst e3
          have HO := Lib.hid ho
          have HML := Lib.hid (fcol_len xss k j)
          have HTL := Lib.hid (flip_len xss j k)
          have HMS := Lib.hid (flip_succ xss j k)
          have hb := below_alloc wr (.cells #[.slice Au (fcol xss k j).length cu] 27)
          have HB4 := Lib.hid (HI.out.bo.below hb).own
          have HN := Lib.hid (cell_one_new wr (.slice Au (fcol xss k j).length cu) 27)
          have hHs := HI.out.hs
          have hlh := HI.out.lh
          clear hb ho HBD
          generalize fcol xss k j = ys at *
          generalize flip xss j k = ms at *
          obtain ⟨i0, hi0, hz0, hz1, hz2⟩ := info_parts Try.info_row
          go_wp2_with (at_builtin; refine wpList_append_own_at _ rfl _ _ 23 rfl w.heap.size 27 i0 (.slice none 0 0) 1 24 Try.underlying23 hi0 hz0 hz1 hz2 rfl (by decide) _ ms.length vs rfl HB4.out ⟨wr.heap.size, 0, none⟩ 1 1 [.slice Au ys.length cu] rfl rfl ?d1 ?d2 ?d3 ?d4 ?d5 ?_)
          case d2 => rfl
          case d3 => have := HTL.out; unfold maxLen; omega
          case d4 => have := HTL.out; omega
          case d5 => omega
          intro v' w5 hown' hgrow _ hat
          have HT5 := Lib.hid (HI.out.done HO.out hown' hgrow (by simpa using hat))
          clear HB4 HN hown' hgrow hat HI HO
          go_wp2
          go_roundw
          case rel => exact ⟨k + 1, _, by omega, by go_num, Lib.hid (by rw [HMS.out]; exact HT5.out)⟩
          case measure => simp [intOf]; omega
    · obtain rfl : k = m := by omega
      obtain ⟨A', n', c', gg, e, hn', hown⟩ := HT.out.bo.owns (by rw [flip_len]; omega)
      injection e with e1 e2 e3
      subst e1
      subst e2
      subst e3
      have HO := Lib.hid hown
      have HB := Lib.hid HT.out.up
      clear hown HT
      go_wp2
      go_ret
      exact ⟨_, _, _, gg, rfl, rfl, HO.out, HB.out⟩
end Go.Proofs.Ytolnbkplgnpfjaa

/- A square without a row and a column, by the model. -/
namespace Go.Proofs.Ytolnbkplgnpfjaa
open Go.RowKit

theorem Small.rowW_bd {xss : List (List Int)} (h : Small xss) {k c j : Nat} (hk : k < xss.length) (hj : j ≤ (gr xss k).length) : ∀ x ∈ rowW (gr xss k) c j, -1000 ≤ x ∧ x ≤ 1000 :=
  fun x hx => (h.rows _ (gr_mem hk)).2 x (rowW_mem _ _ hj hx)
theorem eqi_true {a b : Nat} (h : a = b) : ((a : Int) == (b : Int)) = true := by subst h; simp
theorem eqi_false {a b : Nat} (h : a ≠ b) : ((a : Int) == (b : Int)) = false := by simp; omega
theorem nei_true {a b : Nat} (h : a ≠ b) : ((a : Int) != (b : Int)) = true := by simp; omega
theorem nei_false {a b : Nat} (h : a = b) : ((a : Int) != (b : Int)) = false := by subst h; simp

end Go.Proofs.Ytolnbkplgnpfjaa

/- Means of tables, by both programs. -/
namespace Go.Proofs.Ytolnbkplgnpfjaa
open Go.RowKit

end Go.Proofs.Ytolnbkplgnpfjaa

/- Means of tables, by the program: terms in a slice made by append. -/
namespace Go.Proofs.Ytolnbkplgnpfjaa
open Go.RowKit

theorem wrap_in64 {x : Int} (h : -9223372036854775808 ≤ x ∧ x ≤ 9223372036854775807) : IntKind.i64.wrap x = x := by rw [IntKind.wrap_i64]; omega
theorem Try.infoI : (Try.prog.info? 3).map (fun i => (i.zero, i.size, i.bytes)) = some (some (.int .i64 0), 1, 8) := by kernel_rfl
/-- Terms under way. -/
structure MP (a : List (List Int)) (x y : List Int) (m : Nat) (w : World) (i j : Nat) (v : Value) (L : List Int) (wr : World) : Prop where
  bld : BldI (w.heap.size + 1) wr.heap.size wr v L
  box : Blk wr w.heap.size 39 #[.int .i64 0, .int .i64 0]
  below : Below w.heap.size w wr
  len : L.length ≤ 3 * i + j
  bd : ∀ t ∈ L, -9000000 ≤ t ∧ t ≤ 9000000
  sum : tot L = payU a x y m i + payR a x y i j
theorem MP.start (a : List (List Int)) (x y : List Int) (m : Nat) (w : World) : MP a x y m w 0 0 (.slice none 0 0) [] (w.alloc (.cells #[.int .i64 0, .int .i64 0] 39)) :=
  ⟨BldI.nil _ _ _, blk_new _ _ _, below_alloc _ _, by simp, fun t ht => by simp at ht, rfl⟩
theorem MP.qu {a x y m w i j v L wr wr'} (h : MP a x y m w i j v L wr) (k : Quiet wr wr') : MP a x y m w i j v L wr' := by
  obtain ⟨q, rfl⟩ := k
  exact ⟨h.bld.of_blocks fun _ _ _ _ => rfl, h.box, below_drewN h.below q, h.len, h.bd, h.sum⟩
theorem MP.next {a x y m w i v L wr} (h : MP a x y m w i m v L wr) (hm : m ≤ 3) : MP a x y m w (i + 1) 0 v L wr :=
  ⟨h.bld, h.box, h.below, by have := h.len; omega, h.bd, by rw [h.sum, payU, payR]; omega⟩
theorem MP.push {a x y m w i j v L wr w2 w1} {gg cap : Nat} {t : Int} (h : MP a x y m w i j v L wr) (hb : Below wr.heap.size wr w2) (hs : w2.heap.size = wr.heap.size + 1)
    (hown : w1.ownsRow (w.heap.size + 1) 3 1 (.slice (some ⟨gg, 0, none⟩) (L.length + 1) cap) (L.length + 1) (L.map iv ++ [iv t])) (hgrow : w2.grownBy w1 v.ownBlock) (hlt : gg < w1.heap.size)
    (ht : -9000000 ≤ t ∧ t ≤ 9000000) (he : payR a x y i (j + 1) = payR a x y i j + t) : MP a x y m w i (j + 1) (.slice (some ⟨gg, 0, none⟩) (L.length + 1) cap) (L ++ [t]) w1 := by
  have hz := h.below.size
  have hv : ∀ k, v.ownBlock = some k → w.heap.size + 1 ≤ k := fun k hk => (h.bld.own.lt k hk).1
  have hbl : w.heap.size < wr.heap.size := blk_lt h.box
  have hsz := hgrow.size
  refine ⟨⟨by rw [List.length_append, List.length_singleton, List.map_append]; exact hown, fun k hk => ?_⟩, ?_, ?_, ?_, fun u hu => ?_, ?_⟩
  · have : gg = k := by simpa [Value.ownBlock] using hk
    omega
  · exact (hgrow.block _ (by omega) (fun e => by have := hv _ e.symm; omega)).trans ((hb.block _ hbl).trans h.box)
  · exact ⟨hgrow.os.trans (hb.os.trans h.below.os), hgrow.tape.trans (hb.tape.trans h.below.tape), hgrow.output.trans (hb.output.trans h.below.output), by omega, fun k hk =>
      (hgrow.block k (by omega) (fun e => by have := hv k e.symm; omega)).trans ((hb.block k (by omega)).trans (h.below.block k hk))⟩
  · have := h.len; rw [List.length_append, List.length_singleton]; omega
  · rcases List.mem_append.1 hu with hu | hu
    · exact h.bd u hu
    · simp at hu; subst hu; exact ht
  · rw [tot_snoc, h.sum, he]; omega
theorem MP.ints {a x y m w i j L wr} {A : Option Addr} {c : Nat} (h : MP a x y m w i j (.slice A L.length c) L wr) (hl : L.length ≤ 100) : Ints wr A L.length c L := by
  obtain ⟨A', n', c', g, e, hn, ho, _⟩ := h.bld.owns (by omega) (fun t ht => by have := h.bd t ht; omega)
  injection e with e1 e2 e3
  subst e1
  subst e2
  subst e3
  exact ho.ints
theorem MP.sumOk {a x y m w i j v L wr} (h : MP a x y m w i j v L wr) (hl : L.length ≤ 100) : SumOk L :=
  ⟨by omega, fun j hj => by have := h.bd _ (gi_mem hj); omega⟩
theorem tot_bd {x : List Int} {n : Nat} (hn : n ≤ 3) (hl : x.length = n) (h : ∀ i, i < n → 0 ≤ gi x i ∧ gi x i ≤ 1000) : 0 ≤ tot x ∧ tot x ≤ 3000 := by
  have := sm_bd (xs := x) (k := x.length) (lo := 0) (hi := 1000) fun j hj => h j (by omega)
  unfold tot
  omega

end Go.Proofs.Ytolnbkplgnpfjaa

/- The determinant of a square, by the model. -/
namespace Go.Proofs.Ytolnbkplgnpfjaa
open Go.RowKit
open V (sumN detN rowC colC cofN minorN skip sgn)

theorem sgn_succ (j : Nat) : sgn (j + 1) = - sgn j := by unfold sgn; split <;> split <;> omega
theorem Sq.small {k : Nat} {xss : List (List Int)} {f : Nat → Nat → Int} (h : Sq k xss f) (hk : k ≤ 3) (ha : Ab k f) : Small xss := by
  refine ⟨by have := h.len; omega, fun r hr => ?_⟩
  obtain ⟨p, hp, rfl⟩ := List.mem_iff_getElem.1 hr
  rw [← gr_get hp]
  have hpk : p < k := by have := h.len; omega
  have hl := h.row p hpk
  refine ⟨by omega, fun x hx => ?_⟩
  obtain ⟨q, hq, rfl⟩ := List.mem_iff_getElem.1 hx
  rw [← gi_get hq]
  have := h.eq p q hpk (by omega)
  unfold g2 at this
  have := ha p q hpk (by omega)
  omega
theorem Sq.even {k : Nat} {xss : List (List Int)} {f : Nat → Nat → Int} (h : Sq k xss f) : Even xss k := fun p hp => h.row p (by rw [← h.len]; exact hp)
theorem wrapIn {x : Int} (h : -1000000000000000 ≤ x ∧ x ≤ 1000000000000000) : IntKind.i64.wrap x = x := wrap_in64 ⟨by omega, by omega⟩

end Go.Proofs.Ytolnbkplgnpfjaa

/- Slices of ints under way; the sums of cofactors of each row of a square, by the model. -/
namespace Go.Proofs.Ytolnbkplgnpfjaa
open Go.RowKit
open V (sumN detN rowC colC cofN minorN skip sgn)

/-- Ints under way: a slice made by append, alone. -/
structure IU (wb : World) (v : Value) (ys : List Int) (w : World) : Prop where
  bi : BldI wb.heap.size w.heap.size w v ys
  up : Below wb.heap.size wb w
theorem IU.start (wb : World) : IU wb (.slice (some ⟨wb.heap.size, 0, none⟩) 0 0) [] (wb.alloc (.cells #[] 3)) :=
  ⟨by rw [World.size_alloc]; exact BldI.make (Nat.le_refl _), below_alloc _ _⟩
theorem IU.nil (wb : World) : IU wb (.slice none 0 0) [] wb := ⟨BldI.nil _ _ _, Below.refl _ _⟩
theorem IU.next {wb v ys w w'} (h : IU wb v ys w) (k : Below w.heap.size w w') : IU wb v ys w' := ⟨(h.bi.below k).mono k.size, below_up h.up k⟩
theorem IU.push {wb v v' ys w w' x} (h : IU wb v ys w) (hown : w'.ownsRow wb.heap.size 3 1 v' (ys.length + 1) (ys.map iv ++ [iv x]))
    (hgrow : (w.alloc (.cells #[iv x] 3)).grownBy w' v.ownBlock) (hat : v'.ownBlock = v.ownBlock ∨ v'.ownBlock = some (w.heap.size + 1)) : IU wb v' (ys ++ [x]) w' := by
  have hsz := hgrow.size
  simp only [World.size_alloc] at hsz
  have hu : ∀ k, v.ownBlock = some k → wb.heap.size ≤ k := fun k hk => (h.bi.own.lt k hk).1
  have hbelow : ∀ k, k < wb.heap.size → w'.heap[k]? = w.heap[k]? := fun k hk => by
    have := h.up.size
    exact (hgrow.block k (by simp; omega) (fun e => by have := hu k e.symm; omega)).trans (Below.heap_alloc _ _ _ (by omega))
  refine ⟨⟨by rw [List.length_append, List.length_singleton, List.map_append]; exact hown, fun k hk => ?_⟩, ?_⟩
  · rcases hat with hat | hat
    · have := h.bi.hi_ k (by rw [← hat]; exact hk); omega
    · have := (hown.lt k hk).2; omega
  · exact ⟨hgrow.os.trans h.up.os, hgrow.tape.trans h.up.tape, hgrow.output.trans h.up.output, by have := h.up.size; omega, fun k hk => (hbelow k hk).trans (h.up.block k hk)⟩
/-- A new slice of ints. -/
def NewI (w : World) (ys : List Int) (e : Ending) (w' : World) : Prop :=
  ∃ Av n c gg, e = .returned (.slice Av n c) ∧ n = ys.length ∧ OwnI w.heap.size w'.heap.size w' gg Av n c ys ∧ Below w.heap.size w w'
theorem IU.new {wb ys w} {A : Option Addr} {c : Nat} (h : IU wb (.slice A ys.length c) ys w) (hm : ys.length ≤ 100) (hb : ∀ y ∈ ys, -1000000000000000 ≤ y ∧ y ≤ 1000000000000000) :
    NewI wb ys (.returned (.slice A ys.length c)) w := by
  obtain ⟨A', n', c', g, e, hn, ho, _⟩ := h.bi.owns (by omega) (fun t ht => by have := hb t ht; omega)
  injection e with e1 e2 e3
  subst e1
  subst e2
  subst e3
  exact ⟨_, _, _, g, rfl, rfl, ho, h.up⟩

theorem Sq.minor' {n : Nat} {xss : List (List Int)} {f : Nat → Nat → Int} (h : Sq n xss f) {r c : Nat} (hr : r < n) (hc : c < n) : Sq (n - 1) (minW xss r c n n) (minorN f r c) := by
  obtain ⟨l, rfl⟩ : ∃ l, n = l + 1 := ⟨n - 1, by omega⟩
  exact h.minor (by omega) (by omega)
theorem Ab.minor' {n : Nat} {f : Nat → Nat → Int} (h : Ab n f) (hn : 0 < n) (r c : Nat) : Ab (n - 1) (minorN f r c) := by
  obtain ⟨l, rfl⟩ : ∃ l, n = l + 1 := ⟨n - 1, by omega⟩
  exact h.minor r c
/-- The sums of cofactors of the first i rows. -/
def cofL (k : Nat) (f : Nat → Nat → Int) (i : Nat) : List Int := (List.range i).map (rowC k f)
theorem cofL_succ (k : Nat) (f : Nat → Nat → Int) (i : Nat) : cofL k f (i + 1) = cofL k f i ++ [rowC k f i] := by simp [cofL, List.range_succ]
theorem cofL_len (k : Nat) (f : Nat → Nat → Int) (i : Nat) : (cofL k f i).length = i := by simp [cofL]
theorem cofL_bd {k : Nat} {f : Nat → Nat → Int} (hk : k ≤ 3) (h : Ab k f) {i : Nat} (hi : i ≤ k) : ∀ x ∈ cofL k f i, -1000000 ≤ x ∧ x ≤ 1000000 := fun x hx => by
  obtain ⟨j, hj, rfl⟩ := List.mem_map.1 hx
  have := List.mem_range.1 hj
  exact cofS_bd hk h (by omega) (Nat.le_refl k)

theorem cofS_odd {k : Nat} {f : Nat → Nat → Int} {i j : Nat} (h : (i + j) % 2 = 1) : cofS k f i (j + 1) = cofS k f i j + -(detN (k - 1) (minorN f i j)) := by
  rw [cofS_succ, cofN, sgn, if_pos h]; omega
theorem cofS_even {k : Nat} {f : Nat → Nat → Int} {i j : Nat} (h : ¬ (i + j) % 2 = 1) : cofS k f i (j + 1) = cofS k f i j + detN (k - 1) (minorN f i j) := by
  rw [cofS_succ, cofN, sgn, if_neg h]; omega

end Go.Proofs.Ytolnbkplgnpfjaa

/- Members of sets, by the model. -/
namespace Go.Proofs.Ytolnbkplgnpfjaa
open Go.RowKit

theorem div_pow_succ (x i : Nat) : x / 2 ^ (i + 1) = x / 2 ^ i / 2 := by rw [Nat.pow_succ, Nat.div_div_eq_div_mul]
set_option maxHeartbeats 400000 in
theorem bit_any (x j : Nat) (w : World) (hx : x ≤ 1000) (hj : j ≤ 1000) : Calls Try.prog 122 #[.int .i64 x, .int .i64 j] w fun e w' => e = .returned (.int .i64 ((x / 2 ^ j % 2 : Nat) : Int)) ∧ w = w' := by
  go_enter Try.func122, Try.ntmps122
  go_wp2
  go_loop [0, 1] (fun s t => ∃ i k : Nat, i + k = j ∧ t = .int .i64 k ∧ s = .int .i64 ((x / 2 ^ i : Nat) : Int)) (fun _ t => (intOf t).toNat)
  case atStart => exact ⟨0, j, by omega, rfl, by simp⟩
  case round =>
    obtain ⟨i, k, hik, rfl, rfl⟩ := hrel
    have hb : x / 2 ^ i ≤ 1000 := Nat.le_trans (Nat.div_le_self _ _) hx
    have HS := Lib.hid (div_pow_succ x i)
    have hk1 : k ≤ 1000 := by omega
    have HI := Lib.hid hik
    generalize hy : x / 2 ^ i = y at *
    have HY := Lib.hid hy
    clear hy hik
    by_cases hk : 0 < k
    · have hk' : (0 : Int) < (k : Int) := by omega
      go_wp2
      go_round
      case rel => exact ⟨i + 1, k - 1, by have := HI.out; omega, by go_num, by rw [HS.out]; go_num⟩
      case measure => simp [intOf]; omega
    · obtain rfl : k = 0 := by omega
      go_wp2
      go_ret
      exact ⟨ret_int (by
        have h1 := HI.out
        have h2 := HY.out
        obtain rfl : j = i := by omega
        have h3 : ((x / 2 ^ j % 2 : Nat) : Int) = ((y : Nat) : Int) % 2 := by rw [h2]; omega
        first | exact h3.symm | (rw [← h3]; simp)), rfl⟩

theorem memb_bd (s j : Nat) (hj : j ≤ 100) : ∀ y ∈ memL s j, -1000000000000000 ≤ y ∧ y ≤ 1000000000000000 := fun y hy => by have := memL_bd s j y hy; omega
end Go.Proofs.Ytolnbkplgnpfjaa

/- Graphs, by the model: powers, bits, what is reached, valid graphs. -/
namespace Go.Proofs.Ytolnbkplgnpfjaa
open Go.RowKit

def pwF : Nat → Int
  | 0 => 1
  | n + 1 => wrap64 (2 * pwF n)
theorem pw_bd : ∀ n, -9223372036854775808 ≤ pwF n ∧ pwF n ≤ 9223372036854775807
  | 0 => by decide
  | n + 1 => by unfold pwF; unfold wrap64; omega
theorem pw5 : ∀ n, n < 6 → pwF n = 2 ^ n := by decide +kernel
set_option maxHeartbeats 400000 in
theorem power_any (n : Nat) (w : World) (hn : n ≤ 17592186044416) : Calls Try.prog 81 #[.int .i64 n] w fun e w' => e = .returned (.int .i64 (pwF n)) ∧ w = w' := by
  go_enter Try.func81, Try.ntmps81
  go_wp2
  go_loop [0, 3] (fun t s => ∃ i k : Nat, i + k = n ∧ t = .int .i64 k ∧ s = .int .i64 (pwF i)) (fun t _ => (intOf t).toNat)
  case atStart => exact ⟨0, n, by omega, rfl, rfl⟩
  case round =>
    obtain ⟨i, k, hik, rfl, rfl⟩ := hrel
    have HS : Hid (pwF (i + 1) = wrap64 (2 * pwF i)) := Lib.hid rfl
    have HI := Lib.hid hik
    have hk1 : k ≤ 17592186044416 := by omega
    clear hik
    by_cases hk : 0 < k
    · have hk' : (0 : Int) < (k : Int) := by omega
      generalize pwF i = v at *
      go_wp2
      go_round
      case rel => exact ⟨i + 1, k - 1, by have := HI.out; omega, by go_num, by rw [HS.out]⟩
      case measure => simp [intOf]; omega
    · obtain rfl : k = 0 := by omega
      go_wp2
      go_ret
      exact ⟨ret_int (congrArg pwF (by have h1 := HI.out; omega)), rfl⟩
set_option maxHeartbeats 400000 in
theorem bitB_any (x j : Nat) (w : World) (hx : x ≤ 9223372036854775807) (hj : j ≤ 17592186044416) : Calls Try.prog 122 #[.int .i64 x, .int .i64 j] w fun e w' => e = .returned (.int .i64 ((x / 2 ^ j % 2 : Nat) : Int)) ∧ w = w' := by
  go_enter Try.func122, Try.ntmps122
  go_wp2
  go_loop [0, 1] (fun s t => ∃ i k : Nat, i + k = j ∧ t = .int .i64 k ∧ s = .int .i64 ((x / 2 ^ i : Nat) : Int)) (fun _ t => (intOf t).toNat)
  case atStart => exact ⟨0, j, by omega, rfl, by simp⟩
  case round =>
    obtain ⟨i, k, hik, rfl, rfl⟩ := hrel
    have hb : x / 2 ^ i ≤ 9223372036854775807 := Nat.le_trans (Nat.div_le_self _ _) hx
    have HS := Lib.hid (div_pow_succ x i)
    have hk1 : k ≤ 17592186044416 := by omega
    have HI := Lib.hid hik
    generalize hy : x / 2 ^ i = y at *
    have HY := Lib.hid hy
    clear hy hik
    by_cases hk : 0 < k
    · have hk' : (0 : Int) < (k : Int) := by omega
      go_wp2
      go_round
      case rel => exact ⟨i + 1, k - 1, by have := HI.out; omega, by go_num, by rw [HS.out]; go_num⟩
      case measure => simp [intOf]; omega
    · obtain rfl : k = 0 := by omega
      go_wp2
      go_ret
      exact ⟨ret_int (by
        have h1 := HI.out
        have h2 := HY.out
        obtain rfl : j = i := by omega
        have h3 : ((x / 2 ^ j % 2 : Nat) : Int) = ((y : Nat) : Int) % 2 := by rw [h2]; omega
        first | exact h3.symm | (rw [← h3]; simp)), rfl⟩
/-- A number of the list, and one of its bits. -/
theorem bit_of {g : List Int} {v u : Nat} (h0 : 0 ≤ gi g v) (h1 : gi g v ≤ 9223372036854775807) (hu : u ≤ 17592186044416) (w : World) :
    Calls Try.prog 122 #[.int .i64 (gi g v), .int .i64 u] w fun e w' => e = .returned (.int .i64 (bt g v u : Nat)) ∧ w = w' := by
  have h := bitB_any (gi g v).toNat u w (by omega) hu
  rw [Int.toNat_of_nonneg h0] at h
  exact h

theorem nd_any : ∀ a, a < 32 → ∀ b, b < 32 → bits BinOp.andNot IntKind.i64 ((a : Nat) : Int) ((b : Nat) : Int) = ((ndAnd a b : Nat) : Int) := by decide +kernel
theorem or_any : ∀ a, a < 32 → ∀ b, b < 32 → bits BinOp.or IntKind.i64 ((a : Nat) : Int) ((b : Nat) : Int) = ((a ||| b : Nat) : Int) := by decide +kernel
theorem lk_facts {g : List Int} (h : GB g) : (∀ k, k < 7 → lkI g k < 32 ∧ (∀ v, v < 6 → lkR g (lkI g k) v < 32) ∧ (agF g k = false → lkI g k = lnk g)) ∧ agF g 6 = false ∧
    ∀ k, k < 6 → (agF g (k + 1) = true → lkI g k < lkI g (k + 1)) ∧ (agF g (k + 1) = false → lkI g k = lkI g (k + 1)) := by
  have t := List.all_eq_true.1 lk_table g (mem_graphs h)
  simp only [Bool.and_eq_true, lkOk, List.all_eq_true, List.mem_range, decide_eq_true_eq, Bool.or_eq_true, beq_iff_eq, Bool.not_eq_true'] at t
  refine ⟨fun k hk => ⟨(t.1.1.1 k hk).1.1, (t.1.1.1 k hk).1.2, fun ha => ?_⟩, t.1.2, fun k hk => ?_⟩
  · rcases (t.1.1.1 k hk).2 with h | h
    · rw [h] at ha; cases ha
    · exact h
  · have q := t.1.1.2 k hk
    cases e : agF g (k + 1) <;> rw [e] at q <;> simp at q <;> simp [q]
theorem GB.nat {g : List Int} (h : GB g) {v : Nat} (hv : v < g.length) : gi g v = ((gi g v).toNat : Int) ∧ (gi g v).toNat < 32 := by
  have h1 := h.inn v hv
  unfold InR at h1
  have h5 := h.n5
  have h6 : ((2 ^ g.length : Nat) : Int) = (2 : Int) ^ g.length := by simp
  have h7 : 2 ^ g.length ≤ 2 ^ 5 := Nat.pow_le_pow_right (by omega) h5
  omega
set_option maxRecDepth 100000 in
set_option maxHeartbeats 1000000 in
theorem linked_any (A : Option Addr) (n c : Nat) (g : List Int) (w : World) (hx : Ints w A n c g) (h : GB g) :
    Calls Try.prog 126 #[.slice A n c] w fun e w' => e = .returned (.int .i64 (lnk g : Nat)) ∧ Quiet w w' := by
  have HX := Lib.hid hx
  have hl := hx.len
  have hn5 : n ≤ 5 := by rw [← hl]; exact h.n5
  have HL := Lib.hid hl
  obtain ⟨HF, H6, HS⟩ := lk_facts h
  have HF := Lib.hid HF
  have H6 := Lib.hid H6
  have HS := Lib.hid HS
  have HG := Lib.hid (fun v (hv : v < n) => h.nat (v := v) (by rw [hl]; exact hv))
  have HI0 : Hid (lkI g 0 = 1) := Lib.hid rfl
  have HA0 : Hid (agF g 0 = true) := Lib.hid rfl
  clear hx h hl
  go_enter Try.func126, Try.ntmps126
  go_wp2
  go_loopw [3, 4] (fun o a wr => ∃ k : Nat, k ≤ 6 ∧ o = .int .i64 (lkI g k : Nat) ∧ a = .bool (agF g k) ∧ Quiet w wr) (fun o a _ => 2 * (32 - (intOf o).toNat) + (match a with | .bool true => 1 | _ => 0))
  case atStart => exact ⟨0, by omega, by rw [HI0.out]; rfl, by rw [HA0.out], Quiet.refl _⟩
  case round =>
    clear HI0 HA0
    obtain ⟨k, hk, rfl, rfl, q, rfl⟩ := hrel
    by_cases ha : agF g k = true
    · have hk6 : k < 6 := by
        rcases Nat.lt_or_ge k 6 with h | h
        · exact h
        · obtain rfl : k = 6 := by omega
          rw [H6.out] at ha; cases ha
      have HS1 := Lib.hid (HS.out k hk6)
      have HF1 := Lib.hid (HF.out k (by omega))
      have hb0 := (HF.out k (by omega)).1
      have HN1 : Hid (lkI g (k + 1) = lkR g (lkI g k) n ∧ agF g (k + 1) = lkA g (lkI g k) n) := Lib.hid (by rw [← HL.out]; exact ⟨rfl, rfl⟩)
      rw [ha]
      have HR0 : Hid (lkR g (lkI g k) 0 = lkI g k) := Lib.hid rfl
      have HA0 : Hid (lkA g (lkI g k) 0 = false) := Lib.hid rfl
      clear ha HF
      generalize lkI g k = o at *
      go_wp2
      go_loopw [3, 4, 5] (fun x a i wi => ∃ v : Nat, v ≤ n ∧ i = .int .i64 v ∧ x = .int .i64 (lkR g o v : Nat) ∧ a = .bool (lkA g o v) ∧ Quiet w wi) (fun _ _ i _ => n - (intOf i).toNat)
      case atStart => exact ⟨0, Nat.zero_le _, rfl, by rw [HR0.out], by rw [HA0.out], ⟨_, rfl⟩⟩
      case round =>
        clear HR0 HA0
        obtain ⟨v, hv, rfl, rfl, rfl, q2, rfl⟩ := hrel
        by_cases hlt : v < n
        · obtain ⟨b, oo, rfl, hc⟩ := HX.out.at_ (by omega)
          have c1 := hc v hlt
          obtain ⟨hg1, hg2⟩ := HG.out v hlt
          have hr := HF1.out.2.1 v (by omega)
          have HB := Lib.hid (fun W => bit_any (lkR g o v) v W (by omega) (by omega))
          have HND := Lib.hid (nd_any _ hg2 _ hr)
          have HOR := Lib.hid (or_any _ hr _ hg2)
          have HR1 : Hid (lkR g o (v + 1) = if lkR g o v / 2 ^ v % 2 = 1 ∧ ndAnd (gi g v).toNat (lkR g o v) ≠ 0 then lkR g o v ||| (gi g v).toNat else lkR g o v) := Lib.hid rfl
          have HA1 : Hid (lkA g o (v + 1) = if lkR g o v / 2 ^ v % 2 = 1 ∧ ndAnd (gi g v).toNat (lkR g o v) ≠ 0 then true else lkA g o v) := Lib.hid rfl
          rw [hg1] at c1
          clear hc hg1
          generalize lkR g o v = x at *
          generalize (gi g v).toNat = y at *
          generalize lkA g o v = a at *
          by_cases h1 : x / 2 ^ v % 2 = 1
          · rw [h1] at HB
            by_cases h2 : ndAnd y x = 0
            · have hd : (bits BinOp.andNot IntKind.i64 ((y : Nat) : Int) ((x : Nat) : Int) != 0) = false := by rw [HND.out, h2]; rfl
              rw [if_neg (by rintro ⟨_, h⟩; exact h h2)] at HR1 HA1
              clear HND HOR h1 h2
              go_wp2_with (go_at_call 122; refine (HB.out _).mono ?_; rintro e w' ⟨rfl, rfl⟩)
              go_roundw
              case rel => exact ⟨v + 1, by omega, by go_num, by rw [HR1.out], by rw [HA1.out], ⟨_, rfl⟩⟩
              case measure => simp [intOf]; omega
            · have hd : (bits BinOp.andNot IntKind.i64 ((y : Nat) : Int) ((x : Nat) : Int) != 0) = true := by rw [HND.out]; simp; omega
              rw [if_pos ⟨h1, h2⟩] at HR1 HA1
              clear HND h1 h2
              go_wp2_with (go_at_call 122; refine (HB.out _).mono ?_; rintro e w' ⟨rfl, rfl⟩)
              go_roundw
              case rel => exact ⟨v + 1, by omega, by go_num, by rw [HR1.out, HOR.out], by rw [HA1.out], ⟨_, rfl⟩⟩
              case measure => simp [intOf]; omega
          · have h0 : x / 2 ^ v % 2 = 0 := by omega
            rw [h0] at HB
            rw [if_neg (by rintro ⟨h, _⟩; exact h1 h)] at HR1 HA1
            clear HND HOR h1 h0
            go_wp2_with (go_at_call 122; refine (HB.out _).mono ?_; rintro e w' ⟨rfl, rfl⟩)
            go_roundw
            case rel => exact ⟨v + 1, by omega, by go_num, by rw [HR1.out], by rw [HA1.out], ⟨_, rfl⟩⟩
            case measure => simp [intOf]; omega
        · obtain rfl : v = n := by omega
          rw [← HN1.out.1, ← HN1.out.2]
          have HM := Lib.hid (show 2 * (32 - lkI g (k + 1)) + (match (Value.bool (agF g (k + 1))) with | .bool true => 1 | _ => 0) < 2 * (32 - o) + 1 by
            have h1 := HS1.out.1
            have h2 := HS1.out.2
            cases e : agF g (k + 1)
            · rw [← h2 e]; simp
            · have := h1 e; simp only; omega)
          go_wp2
          go_roundw
          case rel => exact ⟨k + 1, by omega, rfl, rfl, ⟨_, rfl⟩⟩
          case measure => have := HM.out; simpa [intOf] using this
    · have ha' : agF g k = false := by simpa using ha
      rw [ha']
      have HE := Lib.hid ((HF.out k (by omega)).2.2 ha')
      rw [HE.out]
      clear ha ha'
      go_wp2
      go_ret
      exact ⟨rfl, ⟨_, rfl⟩⟩
end Go.Proofs.Ytolnbkplgnpfjaa

/- A region that ends in one frame, whatever the order: walked on once. -/
namespace Go.Proofs.Ytolnbkplgnpfjaa
open Go.RowKit

/-- At the end of a region: one frame, and F of the world. -/
def OnceQ (b : Act) (F : World → Prop) : Exit → Act → World → Prop
  | .normal, b', v => b' = b ∧ F v
  | _, _, _ => False
theorem OnceQ.mk {b b' : Act} {F : World → Prop} {v : World} (h : b' = b) (f : F v) : OnceQ b F .normal b' v := ⟨h, f⟩
/-- A region that ends in one frame, whatever the order: what follows is walked once. -/
theorem region_once {P : Program} {c : Code} {Q : Exit → Act → World → Prop} {a : Act} {w : World} (F : World → Prop) {b : Act} (h : c.wp P (OnceQ b F) a w) (k : ∀ v, F v → Q .normal b v) : c.wp P Q a w :=
  Code.wp_mono (fun e b' v h => by
    cases e <;> first | exact (h : False).elim | (obtain ⟨rfl, hf⟩ := (h : b' = b ∧ F v); exact k v hf)) h
end Go.Proofs.Ytolnbkplgnpfjaa

