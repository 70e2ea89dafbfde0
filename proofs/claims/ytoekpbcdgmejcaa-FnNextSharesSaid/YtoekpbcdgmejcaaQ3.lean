/- Texts merged: Turn R10 R11 T1 R12 S3 S4 IP B2 S5 Cmp S6 S7 S8 S9 T3 V1 V2 V3 V4 V5. -/
import Derived.Test.YtoekpbcdgmejcaaQ2
import Derived.Deep.LoopGhost
/- A table turned, by the program: make, make, store. -/
namespace Go.Proofs.Ytoekpbcdgmejcaa
open Go.RowKit

def flip (a : List (List Int)) (n m : Nat) : List (List Int) := (List.range m).map fun j => (List.range n).map fun i => g2 a i j
theorem gr_flip {a : List (List Int)} {n m j : Nat} (h : j < m) : gr (flip a n m) j = (List.range n).map fun i => g2 a i j := by
  rw [gr_get (by simpa [flip] using h)]; simp [flip]
theorem gi_col {a : List (List Int)} {n i j : Nat} (h : i < n) : gi ((List.range n).map fun i => g2 a i j) i = g2 a i j := by
  rw [gi_get (by simpa using h)]; simp

def ttop (B n c : Nat) : Nat → Value := fun j => if j < c then .slice (some ⟨B + 1 + j, 0, none⟩) n n else .slice none 0 0
structure TurnO (w wr : World) (n m c : Nat) (xs : List (List Int)) : Prop where
  below : Below w.heap.size w wr
  size : wr.heap.size = w.heap.size + 1 + c
  top : wr.rowIs w.heap.size 26 m (ttop w.heap.size n c)
  done : ∀ j, j < c → wr.rowIs (w.heap.size + 1 + j) 3 n (fun i => .int .i64 (g2 xs i j))
structure TurnI (w wi : World) (n m c r : Nat) (xs : List (List Int)) : Prop where
  below : Below w.heap.size w wi
  size : wi.heap.size = w.heap.size + 1 + c + 1
  top : wi.rowIs w.heap.size 26 m (ttop w.heap.size n (c + 1))
  done : ∀ j, j < c → wi.rowIs (w.heap.size + 1 + j) 3 n (fun i => .int .i64 (g2 xs i j))
  cur : wi.rowIs (w.heap.size + 1 + c) 3 n (fun i => if i < r then .int .i64 (g2 xs i c) else .int .i64 0)
theorem turnO_start (w : World) (n m : Nat) (xs : List (List Int)) : TurnO w (w.alloc (.cells (madeCells #[.slice none 0 0] m) 26)) n m 0 xs :=
  ⟨below_alloc _ _, by simp, (World.rowIs_made w _ m 26).congr (fun j _ => by simp [ttop]), fun j hj => absurd hj (Nat.not_lt_zero _)⟩
theorem turnI_start {w wr : World} {n m c : Nat} {xs : List (List Int)} (h : TurnO w wr n m c xs) :
    TurnI w ((wr.alloc (.cells (madeCells #[.int .i64 0] n) 3)).setCell ⟨w.heap.size, c, none⟩ (.slice (some ⟨wr.heap.size, 0, none⟩) n n)) n m c 0 xs := by
  have hnew := World.rowIs_made wr (.int .i64 0) n 3
  have hs := h.size
  rw [hs] at hnew ⊢
  refine ⟨(h.below.alloc (by rw [hs]; omega) _).setCell (Nat.le_refl _) _, by simp [hs], ((h.top.alloc _).set c _).congr (fun j _ => ?_), fun j hj => ((h.done j hj).alloc _).setOther (by show w.heap.size + 1 + j ≠ w.heap.size; omega) _,
    (hnew.setOther (by show w.heap.size + 1 + c ≠ w.heap.size; omega) _).congr (fun i _ => by simp)⟩
  unfold ttop
  by_cases e : j = c
  · subst e; simp
  · rw [if_neg e]
    by_cases hlt : j < c
    · rw [if_pos hlt, if_pos (by omega)]
    · rw [if_neg hlt, if_neg (by omega)]
theorem turnI_step {w wi wd : World} {n m c r : Nat} {xs : List (List Int)} (h : TurnI w wi n m c r xs) (hq : Quiet wi wd) :
    TurnI w (wd.setCell ⟨w.heap.size + 1 + c, r, none⟩ (.int .i64 (g2 xs r c))) n m c (r + 1) xs := by
  obtain ⟨q, rfl⟩ := hq
  have hs := h.size
  refine ⟨(below_drewN h.below q).setCell (by show w.heap.size ≤ w.heap.size + 1 + c; omega) _, by simp [World.setCell]; exact hs, (World.rowIs.setOther (w := wi.drewN q) h.top (by show w.heap.size ≠ w.heap.size + 1 + c; omega) _),
    fun j hj => (World.rowIs.setOther (w := wi.drewN q) (h.done j hj) (by show w.heap.size + 1 + j ≠ w.heap.size + 1 + c; omega) _), (World.rowIs.set (w := wi.drewN q) h.cur r _).congr (fun i _ => ?_)⟩
  by_cases e : i = r
  · subst e; simp
  · rw [if_neg e]
    by_cases hlt : i < r
    · rw [if_pos hlt, if_pos (by omega)]
    · rw [if_neg hlt, if_neg (by omega)]
theorem TurnI.drew {w wi : World} {n m c r : Nat} {xs : List (List Int)} (h : TurnI w wi n m c r xs) : TurnI w wi.drew n m c r xs :=
  ⟨h.below.drew, h.size, h.top.drew, fun j hj => (h.done j hj).drew, h.cur.drew⟩
theorem turnI_done {w wi : World} {n m c : Nat} {xs : List (List Int)} (h : TurnI w wi n m c n xs) : TurnO w wi n m (c + 1) xs :=
  ⟨h.below, by rw [h.size]; omega, h.top, fun j hj => by
    by_cases e : j = c
    · subst e
      exact h.cur.congr (fun i hi => by rw [if_pos hi])
    · exact h.done j (by omega)⟩
theorem turnO_own {w wr : World} {n m : Nat} {xs : List (List Int)} (h : TurnO w wr n m m xs) (hn : n ≤ 3) (hm : m ≤ 3) (hbd : ∀ i j, i < n → j < m → -9 ≤ g2 xs i j ∧ g2 xs i j ≤ 9) :
    OwnR w.heap.size wr.heap.size wr w.heap.size (some ⟨w.heap.size, 0, none⟩) m m (flip xs n m) := by
  have hs := h.size
  refine ⟨by simp [flip], Nat.le_refl _, by omega, fun _ => ⟨0, fun k => w.heap.size + 1 + k, fun k => some ⟨w.heap.size + 1 + k, 0, none⟩, fun _ => n, rfl, Nat.le_refl _, h.top.lt, fun k hk => ?_, fun j k hj _ _ _ => by show w.heap.size + 1 + j ≠ w.heap.size + 1 + k; omega⟩⟩
  have hl : ((List.range n).map fun i => g2 xs i k).length = n := by simp
  rw [gr_flip hk, hl]
  refine ⟨by rw [Nat.zero_add]; exact h.top.frozen k, by rw [Nat.zero_add, h.top.cell hk, ttop, if_pos hk], OwnI.of_rowIs hl (by omega) ?_ (by show w.heap.size ≤ w.heap.size + 1 + k; omega) (by show w.heap.size + 1 + k < _; omega) (h.done k hk) (fun i hi => by rw [gi_col hi]), fun _ => by show w.heap.size + 1 + k ≠ w.heap.size; omega⟩
  intro x hx
  obtain ⟨i, hi, rfl⟩ := List.mem_map.1 hx
  have := hbd i k (List.mem_range.1 hi) hk
  omega

def MadeT (w : World) (n m : Nat) (xs : List (List Int)) (e : Ending) (w' : World) : Prop :=
  e = .returned (.slice (some ⟨w.heap.size, 0, none⟩) m m) ∧ OwnR w.heap.size w'.heap.size w' w.heap.size (some ⟨w.heap.size, 0, none⟩) m m (flip xs n m) ∧ Below w.heap.size w w' ∧ w.heap.size < w'.heap.size

set_option maxHeartbeats 1000000 in
theorem turned_any (b o : Nat) (rb ro cc : Nat → Nat) (n m c : Nat) (xs : List (List Int)) (w : World) (h : Tab w b o rb ro cc n m xs) :
    Calls Try.prog 54 #[.slice (some ⟨b, o, none⟩) n c] w (MadeT w n m xs) := by
  have HT := Lib.hid h
  have hn3 := h.n3
  have hn1 := h.n1
  have hm3 := h.m3
  have r0 := h.row 0 (by omega)
  simp only [Nat.add_zero] at r0
  clear h
  have hmk := run_make_row' (P := Try.prog) 23 26 (.slice none 0 0) 24 Try.underlying23 Try.info26 rfl .i64 .i64 m (by omega) (by omega)
  go_enter Try.func54, Try.ntmps54
  go_wp2
  clear hmk
  go_loopw [13] (fun s wr => ∃ k : Nat, k ≤ m ∧ s = .int .i64 k ∧ Hid (TurnO w wr n m k xs)) (fun s _ => m - (intOf s).toNat)
  case atStart => exact ⟨0, Nat.zero_le _, rfl, Lib.hid (turnO_start w n m xs)⟩
  case round =>
    obtain ⟨k, hk, rfl, HO⟩ := hrel
    by_cases hlt : k < m
    · have hmk2 := run_make_row' (P := Try.prog) 26 3 (.int .i64 0) 8 Try.underlying26 Try.info3 rfl .i64 .i64 n (by omega) (by omega)
      have c1 := (HO.out.top.alloc (.cells (madeCells #[.int .i64 0] n) 3)).cell hlt
      simp only [ttop, if_neg (Nat.lt_irrefl k)] at c1
      have c2 := (HO.out.top.alloc (.cells (madeCells #[.int .i64 0] n) 3)).frozen k
      have HI := Lib.hid (turnI_start HO.out)
      clear HO
      go_wp2
      clear hmk2 c1 c2
      go_loopw [24] (fun s wi => ∃ r : Nat, r ≤ n ∧ s = .int .i64 r ∧ Hid (TurnI w wi n m k r xs)) (fun s _ => n - (intOf s).toNat)
      case atStart => exact ⟨0, Nat.zero_le _, rfl, HI⟩
      case round =>
        clear HI
        obtain ⟨r, hr, rfl, HI⟩ := hrel
        by_cases hrn : r < n
        · have c1 := HI.out.top.cell hlt
          simp only [ttop, if_pos (Nat.lt_succ_self k)] at c1
          have hsrc := (HT.out.keep (Keep.below HI.out.below)).row r hrn
          have hel := (HT.out.keep (Keep.below HI.out.below)).cell r k hrn hlt
          have c3 := HI.out.cur.cell hrn
          simp only [if_neg (Nat.lt_irrefl r)] at c3
          have c4 := HI.out.cur.frozen r
          have HN := Lib.hid ((turnI_step HI.out (Quiet.refl _)).drew)
          go_wp2
          go_region
          all_goals
            clear c1 hsrc hel c3 c4 HI
            go_wp2
            go_roundw
            case rel => exact ⟨r + 1, by omega, by go_num, HN⟩
            case measure => simp [intOf]; omega
        · go_wp2
          go_roundw
          case rel => exact ⟨k + 1, by omega, by go_num, Lib.hid (turnI_done (by have h := HI.out; rw [show r = n by omega] at h; exact h))⟩
          case measure => simp [intOf]; omega
    · go_wp2
      go_ret
      obtain rfl : k = m := by omega
      exact ⟨rfl, turnO_own HO.out hn3 hm3 HT.out.bd, HO.out.below, HO.out.top.lt⟩
end Go.Proofs.Ytoekpbcdgmejcaa

/- Tables made of tables. -/
namespace Go.Proofs.Ytoekpbcdgmejcaa
open Go.RowKit

/-- A table under way. -/
structure TM (wb : World) (v : Value) (vs : List Value) (xss : List (List Int)) (w : World) : Prop where
  bo : Bld wb.heap.size w.heap.size w v vs xss
  up : Below wb.heap.size wb w
/-- .. and the row that is begun. -/
structure TN (wb : World) (H : Nat) (v : Value) (vs : List Value) (xss : List (List Int)) (u : Value) (ys : List Int) (w : World) : Prop where
  bo : Bld wb.heap.size H w v vs xss
  bi : BldI H w.heap.size w u ys
  lh : wb.heap.size ≤ H
  hs : H ≤ w.heap.size
  up : Below wb.heap.size wb w
theorem TM.start (wb : World) : TM wb (.slice (some ⟨wb.heap.size, 0, none⟩) 0 0) [] [] (wb.alloc (.cells #[] 26)) :=
  ⟨by rw [World.size_alloc]; exact Bld.make (Nat.le_refl _), below_alloc _ _⟩
theorem TM.row {wb v vs xss w} (h : TM wb v vs xss w) : TN wb w.heap.size v vs xss (.slice (some ⟨w.heap.size, 0, none⟩) 0 0) [] (w.alloc (.cells #[] 3)) :=
  ⟨h.bo.below (below_alloc _ _), by rw [World.size_alloc]; exact BldI.make (Nat.le_refl _), h.up.size, by simp, below_up h.up (below_alloc _ _)⟩
theorem TN.push {wb H v vs xss u u' ys w w' x} (h : TN wb H v vs xss u ys w)
    (hown : w'.ownsRow H 3 1 u' (ys.length + 1) (ys.map iv ++ [iv x])) (hgrow : (w.alloc (.cells #[iv x] 3)).grownBy w' u.ownBlock)
    (hat : u'.ownBlock = u.ownBlock ∨ u'.ownBlock = some (w.heap.size + 1)) : TN wb H v vs xss u' (ys ++ [x]) w' := by
  have hlh := h.lh
  have hhs := h.hs
  have hsz := hgrow.size
  simp only [World.size_alloc] at hsz
  have hu : ∀ k, u.ownBlock = some k → H ≤ k := fun k hk => (h.bi.own.lt k hk).1
  have hbelow : ∀ k, k < H → w'.heap[k]? = w.heap[k]? := fun k hk =>
    (hgrow.block k (by simp; omega) (fun e => by have := hu k e.symm; omega)).trans (Below.heap_alloc _ _ _ (by omega))
  refine ⟨h.bo.of_blocks fun k _ hk _ => hbelow k hk, ⟨by rw [List.length_append, List.length_singleton, List.map_append]; exact hown, fun k hk => ?_⟩, h.lh, by omega, ?_⟩
  · rcases hat with hat | hat
    · have := h.bi.hi_ k (by rw [← hat]; exact hk); omega
    · have := (hown.lt k hk).2; omega
  · exact ⟨hgrow.os.trans h.up.os, hgrow.tape.trans h.up.tape, hgrow.output.trans h.up.output, by have := h.up.size; omega, fun k hk => (hbelow k (by omega)).trans (h.up.block k hk)⟩
theorem TN.done {wb H v v' vs xss ys w w' Ar cr gr_} (h : TN wb H v vs xss (.slice Ar ys.length cr) ys w) (ho : OwnI H w.heap.size w gr_ Ar ys.length cr ys)
    (hown : w'.ownsRow wb.heap.size 26 1 v' (xss.length + 1) (vs ++ [.slice Ar ys.length cr])) (hgrow : (w.alloc (.cells #[.slice Ar ys.length cr] 26)).grownBy w' v.ownBlock)
    (hat : v'.ownBlock = v.ownBlock ∨ v'.ownBlock = some (w.heap.size + 1)) : TM wb v' (vs ++ [.slice Ar ys.length cr]) (xss ++ [ys]) w' := by
  have hlh := h.lh
  have hhs := h.hs
  have hsz := hgrow.size
  simp only [World.size_alloc] at hsz
  have hv : ∀ k, v.ownBlock = some k → wb.heap.size ≤ k := fun k hk => (h.bo.own.lt k hk).1
  have hbelow : ∀ k, k < wb.heap.size → w'.heap[k]? = w.heap[k]? := fun k hk =>
    (hgrow.block k (by simp; omega) (fun e => by have := hv k e.symm; omega)).trans (Below.heap_alloc _ _ _ (by omega))
  have hb := below_alloc w (.cells #[.slice Ar ys.length cr] 26)
  refine ⟨?_, ?_⟩
  · have hbo : Bld wb.heap.size H w v vs xss := h.bo
    exact Bld.push (hi := H) (w := w) hbo hb ((ho.below hb).mono (Nat.le_refl _) (by simp)) hown hgrow (by simpa using hat) hlh hhs
  · exact ⟨hgrow.os.trans h.up.os, hgrow.tape.trans h.up.tape, hgrow.output.trans h.up.output, by have := h.up.size; omega, fun k hk => (hbelow k hk).trans (h.up.block k hk)⟩

/-- A new table. -/
def NewT (w : World) (yss : List (List Int)) (e : Ending) (w' : World) : Prop :=
  ∃ Av n c gg, e = .returned (.slice Av n c) ∧ n = yss.length ∧ OwnR w.heap.size w'.heap.size w' gg Av n c yss ∧ Below w.heap.size w w'

def mrow (r : List Int) (j : Nat) : List Int := (List.range j).map fun k => - gi r k
def mtab (xss : List (List Int)) (i : Nat) : List (List Int) := (List.range i).map fun k => mrow (gr xss k) (gr xss k).length
theorem mrow_succ (r : List Int) (j : Nat) : mrow r (j + 1) = mrow r j ++ [- gi r j] := by simp [mrow, List.range_succ]
theorem mtab_succ (xss : List (List Int)) (i : Nat) : mtab xss (i + 1) = mtab xss i ++ [mrow (gr xss i) (gr xss i).length] := by simp [mtab, List.range_succ]
theorem mrow_len (r : List Int) (j : Nat) : (mrow r j).length = j := by simp [mrow]
theorem mtab_len (xss : List (List Int)) (j : Nat) : (mtab xss j).length = j := by simp [mtab]
theorem Small.gi {xss : List (List Int)} (h : Small xss) {k j : Nat} (hk : k < xss.length) (hj : j < (gr xss k).length) : -1000 ≤ gi (gr xss k) j ∧ gi (gr xss k) j ≤ 1000 :=
  (h.rows _ (gr_mem hk)).2 _ (gi_mem hj)
theorem Small.mrow_bd {xss : List (List Int)} (h : Small xss) {k j : Nat} (hk : k < xss.length) (hj : j ≤ (gr xss k).length) : ∀ x ∈ mrow (gr xss k) j, -1000 ≤ x ∧ x ≤ 1000 := fun x hx => by
  obtain ⟨i, hi, rfl⟩ := List.mem_map.1 hx
  have := h.gi hk (show i < _ by have := List.mem_range.1 hi; omega)
  omega
theorem Small.mtab {xss : List (List Int)} (h : Small xss) : Small (mtab xss xss.length) :=
  ⟨by rw [mtab_len]; exact h.n, fun r hr => by
    obtain ⟨i, hi, rfl⟩ := List.mem_map.1 hr
    have hi := List.mem_range.1 hi
    exact ⟨by rw [mrow_len]; exact (h.rows _ (gr_mem hi)).1, h.mrow_bd hi (Nat.le_refl _)⟩⟩

end Go.Proofs.Ytoekpbcdgmejcaa

/- Tables turned, by the laws. -/
namespace Go.Proofs.Ytoekpbcdgmejcaa
open Go.RowKit

def fcol (xss : List (List Int)) (j i : Nat) : List Int := (List.range i).map fun k => g2 xss k j
theorem fcol_succ (xss : List (List Int)) (j i : Nat) : fcol xss j (i + 1) = fcol xss j i ++ [g2 xss i j] := by simp [fcol, List.range_succ]
theorem flip_succ (xss : List (List Int)) (n j : Nat) : flip xss n (j + 1) = flip xss n j ++ [fcol xss j n] := by simp [flip, fcol, List.range_succ]
theorem fcol_len (xss : List (List Int)) (j i : Nat) : (fcol xss j i).length = i := by simp [fcol]
theorem flip_len (xss : List (List Int)) (n j : Nat) : (flip xss n j).length = j := by simp [flip]
/-- Rows of m numbers. -/
def Even (xss : List (List Int)) (m : Nat) : Prop := ∀ k, k < xss.length → (gr xss k).length = m
theorem Small.fcol_bd {xss : List (List Int)} (h : Small xss) {m : Nat} (he : Even xss m) {i j : Nat} (hi : i ≤ xss.length) (hj : j < m) : ∀ x ∈ fcol xss j i, -1000 ≤ x ∧ x ≤ 1000 := fun x hx => by
  obtain ⟨k, hk, rfl⟩ := List.mem_map.1 hx
  have hk := List.mem_range.1 hk
  exact h.gi (show k < _ by omega) (by rw [he k (by omega)]; exact hj)
theorem Small.m {xss : List (List Int)} (h : Small xss) {m : Nat} (he : Even xss m) (h0 : 0 < xss.length) : m ≤ 8 := by
  rw [← he 0 h0]; exact (h.rows _ (gr_mem h0)).1
theorem Small.flip {xss : List (List Int)} (h : Small xss) {m : Nat} (he : Even xss m) (h0 : 0 < xss.length) : Small (flip xss xss.length m) :=
  ⟨by rw [flip_len]; exact h.m he h0, fun r hr => by
    obtain ⟨j, hj, rfl⟩ := List.mem_map.1 hr
    have hj := List.mem_range.1 hj
    exact ⟨by simp; exact h.n, h.fcol_bd he (Nat.le_refl _) hj⟩⟩

theorem VT.even {a : List (List Int)} (v : VT a) : Even a (gr a 0).length := fun k hk => (v.rows k hk).1
theorem VT.flip {a : List (List Int)} (v : VT a) : VT (flip a a.length (gr a 0).length) := by
  have h0 := v.m1
  refine VT_of (by rw [flip_len]; exact v.m1) (by rw [flip_len]; exact v.m3) fun i hi => ?_
  rw [flip_len] at hi
  rw [gr_flip hi, gr_flip h0]
  refine ⟨by simp, by simp; exact v.n1, by simp; exact v.n3, fun j hj => ?_⟩
  simp at hj
  rw [gi_col hj]
  exact v.bd hj hi
theorem VT.minus {a : List (List Int)} (v : VT a) : VT (mtab a a.length) := by
  have hg : ∀ i, i < a.length → gr (mtab a a.length) i = mrow (gr a i) (gr a i).length := fun i hi => by
    rw [gr_get (by rw [mtab_len]; exact hi)]; simp [mtab]
  have h0 : 0 < a.length := v.n1
  refine VT_of (by rw [mtab_len]; exact v.n1) (by rw [mtab_len]; exact v.n3) fun i hi => ?_
  rw [mtab_len] at hi
  have hr := v.rows i hi
  rw [hg i hi, hg 0 h0, RowV, mrow_len, mrow_len]
  refine ⟨hr.1, by rw [hr.1]; exact v.m1, by rw [hr.1]; exact v.m3, fun j hj => ?_⟩
  have := hr.2 j hj
  rw [gi_get (by rw [mrow_len]; exact hj)]
  simp only [mrow, List.getElem_map, List.getElem_range]
  unfold InR at *
  omega

set_option maxHeartbeats 1000000 in
theorem flipped_any (A : Option Addr) (n c m : Nat) (xss : List (List Int)) (w : World) (hx : IntRows w A n c xss) (hs : Small xss) (h0 : 0 < n) (he : Even xss m) :
    Calls Try.prog 17 #[.slice A n c] w (NewT w (flip xss n m)) := by
  have HS := Lib.hid hs
  have HS0 := Lib.hid (TM.start w)
  have HE := Lib.hid he
  have hn8 := hs.n
  have HX := Lib.hid hx
  have LX := Lib.hid hx.len
  have hnx : n ≤ 8 := by rw [← hx.len]; exact hn8
  have hm8 : m ≤ 8 := hs.m he (by rw [hx.len]; exact h0)
  clear hx hs he
  obtain ⟨b, o, rfl, hc⟩ := HX.out.at_ h0
  have HC := Lib.hid hc
  clear hc
  go_enter Try.func17, Try.ntmps17
  go_wp2
  go_loopw [3, 4] (fun v i wr => ∃ (k : Nat) (vs : List Value), k ≤ m ∧ i = .int .i64 k ∧ Hid (TM w v vs (flip xss n k) wr)) (fun _ i _ => m - (intOf i).toNat)
  case atStart => exact ⟨0, [], Nat.zero_le _, rfl, HS0⟩
  case round =>
    clear HS0
    obtain ⟨k, vs, hk, rfl, HT⟩ := hrel
    obtain ⟨Av, cv, rfl⟩ := HT.out.bo.form
    obtain ⟨R0, cc0, c0, _⟩ := HC.out 0 h0
    rw [HE.out 0 (by rw [LX.out]; exact h0)] at c0
    have d0 := HT.out.up.cell (p := ⟨b, o + 0, none⟩) (World.block_lt_of_cell? _ _ c0)
    rw [c0] at d0
    simp only [Nat.add_zero] at d0 c0
    by_cases hlt : k < m
    · have HI := Lib.hid HT.out.row
      clear HT
      go_wp2
      clear d0
      generalize wr.heap.size = N at *
      go_loopw [5, 6] (fun u i wi => ∃ (j : Nat), j ≤ n ∧ i = .int .i64 j ∧ Hid (TN w N (.slice Av (flip xss n k).length cv) vs (flip xss n k) u (fcol xss k j) wi)) (fun _ i _ => n - (intOf i).toNat)
      case atStart => exact ⟨0, Nat.zero_le _, rfl, HI⟩
      case round =>
        clear HI
        obtain ⟨j, hj, rfl, HI⟩ := hrel
        obtain ⟨Au, cu, rfl⟩ := HI.out.bi.form
        by_cases hlm : j < n
        · have hjx : j < xss.length := by rw [LX.out]; exact hlm
          obtain ⟨R, cc, c1, hR⟩ := HC.out j hlm
          have c2 := HI.out.up.cell (p := ⟨b, o + j, none⟩) (World.block_lt_of_cell? _ _ c1)
          rw [c1] at c2
          have hR2 := hR.keep (Keep.below HI.out.up)
          have hbd := HS.out.gi hjx (show k < (gr xss j).length by rw [HE.out j hjx]; exact hlt)
          rw [HE.out j hjx] at c1 c2 hR2
          obtain ⟨b', o', rfl, hc'⟩ := hR2.at_ (by omega)
          have c3 := hc' k hlt
          clear hc' hR hR2
          generalize hval : gi (gr xss j) k = x at *
          have HV := Lib.hid (show g2 xss j k = x from hval)
          clear hval
          have hb := below_alloc wr (.cells #[iv x] 3)
          have HB4 := Lib.hid (HI.out.bi.below hb).own
          have HN := Lib.hid (cell_one_new wr (iv x) 3)
          have hHs := HI.out.hs
          have hlh := HI.out.lh
          have HML := Lib.hid (fcol_len xss k j)
          generalize hys : fcol xss k j = ys at *
          have HYS := Lib.hid hys
          clear hb hys
          obtain ⟨i0, hi0, hz0, hz1, hz2⟩ := info_parts Try.info_int
          go_wp2_with (at_builtin; refine wpList_append_own_at _ rfl _ _ 26 rfl N 3 i0 (.int .i64 0) 1 8 Try.underlying26 hi0 hz0 hz1 hz2 rfl (by decide) _ ys.length (ys.map iv) rfl HB4.out ⟨wr.heap.size, 0, none⟩ 1 1 [iv x] rfl rfl ?c1 ?c2 ?c3 ?c4 ?c5 ?_)
          case c1 => exact HN.out
          case c2 => intro u hu; simp at hu; subst hu; rfl
          case c3 => have := HML.out; unfold maxLen; omega
          case c4 => have := HML.out; omega
          case c5 => simp; omega
          intro v' w5 hown' hgrow _ hat
          have HI5 := Lib.hid (HI.out.push hown' hgrow (by simpa using hat))
          clear HB4 HN hown' hgrow hat HI
          go_wp2
          go_roundw
          case rel => exact ⟨j + 1, by omega, by go_num, Lib.hid (by rw [fcol_succ, HYS.out, HV.out]; exact HI5.out)⟩
          case measure => simp [intOf]; omega
        · obtain rfl : j = n := by omega
          have HBD := Lib.hid (HS.out.fcol_bd HE.out (Nat.le_of_eq LX.out.symm) hlt)
          obtain ⟨Ar, nr, cr, gg, e, rfl, ho, _⟩ := HI.out.bi.owns (by rw [fcol_len]; omega) (fun x hx => by have := HBD.out x hx; omega)
          injection e with e1 _ e3
          subst e1
          subst e3
          have HO := Lib.hid ho
          have HML := Lib.hid (fcol_len xss k j)
          have HTL := Lib.hid (flip_len xss j k)
          have HMS := Lib.hid (flip_succ xss j k)
          have hb := below_alloc wr (.cells #[.slice Au (fcol xss k j).length cu] 26)
          have HB4 := Lib.hid (HI.out.bo.below hb).own
          have HN := Lib.hid (cell_one_new wr (.slice Au (fcol xss k j).length cu) 26)
          have hHs := HI.out.hs
          have hlh := HI.out.lh
          clear hb ho HBD
          generalize fcol xss k j = ys at *
          generalize flip xss j k = ms at *
          obtain ⟨i0, hi0, hz0, hz1, hz2⟩ := info_parts Try.info_row
          go_wp2_with (at_builtin; refine wpList_append_own_at _ rfl _ _ 23 rfl w.heap.size 26 i0 (.slice none 0 0) 1 24 Try.underlying23 hi0 hz0 hz1 hz2 rfl (by decide) _ ms.length vs rfl HB4.out ⟨wr.heap.size, 0, none⟩ 1 1 [.slice Au ys.length cu] rfl rfl ?d1 ?d2 ?d3 ?d4 ?d5 ?_)
          case d2 => rfl
          case d3 => have := HTL.out; unfold maxLen; omega
          case d4 => have := HTL.out; omega
          case d5 => omega
          intro v' w5 hown' hgrow _ hat
          have HT5 := Lib.hid (HI.out.done HO.out hown' hgrow (by simpa using hat))
          clear HB4 HN hown' hgrow hat HI HO
          go_wp2
          go_roundw
          case rel => exact ⟨k + 1, _, by omega, by go_num, Lib.hid (by rw [HMS.out]; exact HT5.out)⟩
          case measure => simp [intOf]; omega
    · obtain rfl : k = m := by omega
      obtain ⟨A', n', c', gg, e, hn', hown⟩ := HT.out.bo.owns (by rw [flip_len]; omega)
      injection e with e1 e2 e3
      subst e1
      subst e2
      subst e3
      have HO := Lib.hid hown
      have HB := Lib.hid HT.out.up
      clear hown HT
      go_wp2
      go_ret
      exact ⟨_, _, _, gg, rfl, rfl, HO.out, HB.out⟩
end Go.Proofs.Ytoekpbcdgmejcaa

/- A table turned, by the model. -/
namespace Go.Proofs.Ytoekpbcdgmejcaa
open Go.RowKit

end Go.Proofs.Ytoekpbcdgmejcaa

/- Tables with the other signs, by the model. -/
namespace Go.Proofs.Ytoekpbcdgmejcaa
open Go.RowKit

/-- A new table, as append has made it. -/
def NewB (w : World) (yss : List (List Int)) (e : Ending) (w' : World) : Prop :=
  ∃ Av c vs, e = .returned (.slice Av yss.length c) ∧ Bld w.heap.size w'.heap.size w' (.slice Av yss.length c) vs yss ∧ Below w.heap.size w w'
end Go.Proofs.Ytoekpbcdgmejcaa

/- Means of tables, by both programs. -/
namespace Go.Proofs.Ytoekpbcdgmejcaa
open Go.RowKit

set_option maxHeartbeats 1000000 in
theorem payUp_any (b o : Nat) (rb ro cc : Nat → Nat) (n m c cx cy : Nat) (X Y : Option Addr) (a : List (List Int)) (x y : List Int) (w : World) (h : Tab w b o rb ro cc n m a) (hx : Ints w X n cx x) (hy : Ints w Y m cy y) (hp : PB a x y n m) :
    Calls Try.prog 81 #[.slice (some ⟨b, o, none⟩) n c, .slice X n cx, .slice Y m cy] w fun e w' => e = .returned (.int .i64 (payU a x y m n)) ∧ Quiet w w' := by
  have HT := Lib.hid h
  have hn1 := h.n1
  have hn3 := h.n3
  have hm1 := h.m1
  have hm3 := h.m3
  obtain ⟨bx, ox, rfl, hcx⟩ := hx.at_ (by omega)
  obtain ⟨by_, oy, rfl, hcy⟩ := hy.at_ (by omega)
  have HX := Lib.hid hcx
  have HY := Lib.hid hcy
  have HP := Lib.hid hp
  clear h hx hy hcx hcy hp
  go_enter Try.func81, Try.ntmps81
  go_wp2
  go_loopw [7, 8] (fun s i wr => ∃ k : Nat, k ≤ n ∧ i = .int .i64 k ∧ s = .int .i64 (payU a x y m k) ∧ Quiet w wr) (fun _ i _ => n - (intOf i).toNat)
  case atStart => exact ⟨0, Nat.zero_le _, rfl, rfl, Quiet.refl _⟩
  case round =>
    obtain ⟨k, hk, rfl, rfl, q, rfl⟩ := hrel
    by_cases hlt : k < n
    · go_wp2
      go_loopw [7, 9] (fun s j wi => ∃ l : Nat, l ≤ m ∧ j = .int .i64 l ∧ s = .int .i64 (payU a x y m k + payR a x y k l) ∧ Quiet w wi) (fun _ j _ => m - (intOf j).toNat)
      case atStart => exact ⟨0, Nat.zero_le _, rfl, by rw [payR]; exact congrArg (Value.int .i64) (by omega), ⟨_, rfl⟩⟩
      case round =>
        obtain ⟨l, hl, rfl, rfl, q2, rfl⟩ := hrel
        by_cases hll : l < m
        · have c1 := HX.out k hlt
          have c2 := HY.out l hll
          have c3 := HT.out.row k hlt
          have c4 := HT.out.cell k l hlt hll
          obtain ⟨x1, x2⟩ := HP.out.x k hlt
          obtain ⟨y1, y2⟩ := HP.out.y l hll
          obtain ⟨z1, z2⟩ := HP.out.a k l hlt hll
          obtain ⟨p1, p2⟩ := mul_bd2 ⟨x1, x2⟩ ⟨y1, y2⟩
          obtain ⟨p3, p4⟩ := mul_bd ⟨x1, x2⟩ ⟨y1, y2⟩ ⟨z1, z2⟩
          obtain ⟨s1, s2⟩ := payP_bd HP.out hm3 hn3 hlt (j := l) hl
          have HS : Hid (payU a x y m k + payR a x y k (l + 1) = payU a x y m k + payR a x y k l + gi x k * gi y l * g2 a k l) := Lib.hid (by rw [payR]; omega)
          go_wp2
          go_quiet (fail)
          go_wp2
          go_roundw
          case rel => exact ⟨l + 1, by omega, by go_num, by rw [HS.out], by first | exact ⟨_, rfl⟩ | exact Quiet.two _ _ _⟩
          case measure => simp [intOf]; omega
        · obtain rfl : l = m := by omega
          go_wp2
          go_roundw
          case rel => exact ⟨k + 1, by omega, by go_num, by rw [payU], by first | exact ⟨_, rfl⟩ | exact Quiet.two _ _ _⟩
          case measure => simp [intOf]; omega
    · obtain rfl : k = n := by omega
      go_wp2
      go_ret
      exact ⟨rfl, ⟨_, rfl⟩⟩
end Go.Proofs.Ytoekpbcdgmejcaa

/- Means of tables, by the program: terms in a slice made by append. -/
namespace Go.Proofs.Ytoekpbcdgmejcaa
open Go.RowKit

theorem wrap_in64 {x : Int} (h : -9223372036854775808 ≤ x ∧ x ≤ 9223372036854775807) : IntKind.i64.wrap x = x := by rw [IntKind.wrap_i64]; omega
theorem Try.infoI : (Try.prog.info? 3).map (fun i => (i.zero, i.size, i.bytes)) = some (some (.int .i64 0), 1, 8) := by kernel_rfl
/-- Terms under way. -/
structure MP (a : List (List Int)) (x y : List Int) (m : Nat) (w : World) (i j : Nat) (v : Value) (L : List Int) (wr : World) : Prop where
  bld : BldI (w.heap.size + 1) wr.heap.size wr v L
  box : Blk wr w.heap.size 37 #[.int .i64 0, .int .i64 0]
  below : Below w.heap.size w wr
  len : L.length ≤ 3 * i + j
  bd : ∀ t ∈ L, -9000000 ≤ t ∧ t ≤ 9000000
  sum : tot L = payU a x y m i + payR a x y i j
theorem MP.start (a : List (List Int)) (x y : List Int) (m : Nat) (w : World) : MP a x y m w 0 0 (.slice none 0 0) [] (w.alloc (.cells #[.int .i64 0, .int .i64 0] 37)) :=
  ⟨BldI.nil _ _ _, blk_new _ _ _, below_alloc _ _, by simp, fun t ht => by simp at ht, rfl⟩
theorem MP.qu {a x y m w i j v L wr wr'} (h : MP a x y m w i j v L wr) (k : Quiet wr wr') : MP a x y m w i j v L wr' := by
  obtain ⟨q, rfl⟩ := k
  exact ⟨h.bld.of_blocks fun _ _ _ _ => rfl, h.box, below_drewN h.below q, h.len, h.bd, h.sum⟩
theorem MP.next {a x y m w i v L wr} (h : MP a x y m w i m v L wr) (hm : m ≤ 3) : MP a x y m w (i + 1) 0 v L wr :=
  ⟨h.bld, h.box, h.below, by have := h.len; omega, h.bd, by rw [h.sum, payU, payR]; omega⟩
theorem MP.push {a x y m w i j v L wr w2 w1} {gg cap : Nat} {t : Int} (h : MP a x y m w i j v L wr) (hb : Below wr.heap.size wr w2) (hs : w2.heap.size = wr.heap.size + 1)
    (hown : w1.ownsRow (w.heap.size + 1) 3 1 (.slice (some ⟨gg, 0, none⟩) (L.length + 1) cap) (L.length + 1) (L.map iv ++ [iv t])) (hgrow : w2.grownBy w1 v.ownBlock) (hlt : gg < w1.heap.size)
    (ht : -9000000 ≤ t ∧ t ≤ 9000000) (he : payR a x y i (j + 1) = payR a x y i j + t) : MP a x y m w i (j + 1) (.slice (some ⟨gg, 0, none⟩) (L.length + 1) cap) (L ++ [t]) w1 := by
  have hz := h.below.size
  have hv : ∀ k, v.ownBlock = some k → w.heap.size + 1 ≤ k := fun k hk => (h.bld.own.lt k hk).1
  have hbl : w.heap.size < wr.heap.size := blk_lt h.box
  have hsz := hgrow.size
  refine ⟨⟨by rw [List.length_append, List.length_singleton, List.map_append]; exact hown, fun k hk => ?_⟩, ?_, ?_, ?_, fun u hu => ?_, ?_⟩
  · have : gg = k := by simpa [Value.ownBlock] using hk
    omega
  · exact (hgrow.block _ (by omega) (fun e => by have := hv _ e.symm; omega)).trans ((hb.block _ hbl).trans h.box)
  · exact ⟨hgrow.os.trans (hb.os.trans h.below.os), hgrow.tape.trans (hb.tape.trans h.below.tape), hgrow.output.trans (hb.output.trans h.below.output), by omega, fun k hk =>
      (hgrow.block k (by omega) (fun e => by have := hv k e.symm; omega)).trans ((hb.block k (by omega)).trans (h.below.block k hk))⟩
  · have := h.len; rw [List.length_append, List.length_singleton]; omega
  · rcases List.mem_append.1 hu with hu | hu
    · exact h.bd u hu
    · simp at hu; subst hu; exact ht
  · rw [tot_snoc, h.sum, he]; omega
theorem MP.ints {a x y m w i j L wr} {A : Option Addr} {c : Nat} (h : MP a x y m w i j (.slice A L.length c) L wr) (hl : L.length ≤ 100) : Ints wr A L.length c L := by
  obtain ⟨A', n', c', g, e, hn, ho, _⟩ := h.bld.owns (by omega) (fun t ht => by have := h.bd t ht; omega)
  injection e with e1 e2 e3
  subst e1
  subst e2
  subst e3
  exact ho.ints
theorem MP.sumOk {a x y m w i j v L wr} (h : MP a x y m w i j v L wr) (hl : L.length ≤ 100) : SumOk L :=
  ⟨by omega, fun j hj => by have := h.bd _ (gi_mem hj); omega⟩
theorem tot_bd {x : List Int} {n : Nat} (hn : n ≤ 3) (hl : x.length = n) (h : ∀ i, i < n → 0 ≤ gi x i ∧ gi x i ≤ 1000) : 0 ≤ tot x ∧ tot x ≤ 3000 := by
  have := sm_bd (xs := x) (k := x.length) (lo := 0) (hi := 1000) fun j hj => h j (by omega)
  unfold tot
  omega

set_option maxRecDepth 100000 in
set_option maxHeartbeats 3200000 in
theorem meanPay_any (b o : Nat) (rb ro cc : Nat → Nat) (n m c cx cy : Nat) (X Y : Option Addr) (a : List (List Int)) (x y : List Int) (w : World) (h : Tab w b o rb ro cc n m a) (hx : Ints w X n cx x) (hy : Ints w Y m cy y) (hp : PB a x y n m) (tx : 0 < tot x) (ty : 0 < tot y) :
    Calls Try.prog 68 #[.slice (some ⟨b, o, none⟩) n c, .slice X n cx, .slice Y m cy] w (Ret (frV (payU a x y m n) (tot x * tot y)) w) := by
  have HT := Lib.hid h
  have hn1 := h.n1
  have hn3 := h.n3
  have hm1 := h.m1
  have hm3 := h.m3
  have hbx := tot_bd hn3 hx.len hp.x
  have hby := tot_bd hm3 hy.len hp.y
  have HSX := Lib.hid (show SumOk x from ⟨by rw [hx.len]; omega, fun j hj => by have := hp.x j (by rw [← hx.len]; exact hj); omega⟩)
  have HSY := Lib.hid (show SumOk y from ⟨by rw [hy.len]; omega, fun j hj => by have := hp.y j (by rw [← hy.len]; exact hj); omega⟩)
  have HIX := Lib.hid hx
  have HIY := Lib.hid hy
  obtain ⟨bx, ox, rfl, hcx⟩ := hx.at_ (by omega)
  obtain ⟨by_, oy, rfl, hcy⟩ := hy.at_ (by omega)
  have HX := Lib.hid hcx
  have HY := Lib.hid hcy
  have HP := Lib.hid hp
  clear h hx hy hcx hcy hp
  obtain ⟨i0, hi0, hz0, hz1, hz2⟩ := info_parts Try.infoI
  have HST := Lib.hid (MP.start a x y m w)
  go_enter Try.func68, Try.ntmps68
  go_wp2
  go_loopw [7, 14] (fun v i wr => ∃ (k : Nat) (L : List Int), k ≤ n ∧ i = .int .i64 k ∧ Hid (MP a x y m w k 0 v L wr)) (fun _ i _ => n - (intOf i).toNat)
  case atStart => exact ⟨0, [], Nat.zero_le _, rfl, HST⟩
  case round =>
    clear HST
    obtain ⟨k, L, hk, rfl, HM⟩ := hrel
    obtain ⟨Av, cv, rfl⟩ := HM.out.bld.form
    by_cases hlt : k < n
    · have HK := Lib.hid (Keep.below HM.out.below)
      have c3 := HK.out _ _ (HT.out.row k hlt)
      go_wp2
      clear c3
      go_loopw [7, 21] (fun v j wi => ∃ (l : Nat) (L : List Int), l ≤ m ∧ j = .int .i64 l ∧ Hid (MP a x y m w k l v L wi)) (fun _ j _ => m - (intOf j).toNat)
      case atStart => exact ⟨0, L, Nat.zero_le _, rfl, HM⟩
      case round =>
        clear HM HK
        obtain ⟨l, L, hl, rfl, HM⟩ := hrel
        obtain ⟨Av, cv, rfl⟩ := HM.out.bld.form
        by_cases hll : l < m
        · have HK := Lib.hid (Keep.below HM.out.below)
          have c4 := HK.out _ _ (HT.out.cell k l hlt hll)
          have c1 := HK.out _ _ (HX.out k hlt)
          have c2 := HK.out _ _ (HY.out l hll)
          obtain ⟨x1, x2⟩ := HP.out.x k hlt
          obtain ⟨y1, y2⟩ := HP.out.y l hll
          obtain ⟨z1, z2⟩ := HP.out.a k l hlt hll
          obtain ⟨p1, p2⟩ := mul_bd3 ⟨x1, x2⟩ ⟨z1, z2⟩
          obtain ⟨p3, p4⟩ := mul_bd ⟨x1, x2⟩ ⟨y1, y2⟩ ⟨z1, z2⟩
          rw [show gi x k * gi y l * g2 a k l = g2 a k l * gi x k * gi y l by rw [Int.mul_comm (gi x k * gi y l), Int.mul_assoc]] at p3 p4
          have HE : Hid (payR a x y k (l + 1) = payR a x y k l + g2 a k l * gi x k * gi y l) := Lib.hid (by
            rw [payR, Int.mul_comm (gi x k * gi y l), Int.mul_assoc])
          have hL := HM.out.len
          have hsz := HM.out.below.size
          have hbl : w.heap.size < wr.heap.size := blk_lt HM.out.box
          go_wp2
          have HW : Hid (IntKind.i64.wrap (IntKind.i64.wrap (g2 a k l * gi x k) * gi y l) = g2 a k l * gi x k * gi y l) := Lib.hid (by rw [wrap_in64 (x := g2 a k l * gi x k) (by omega), wrap_in64 (by omega)])
          go_region_held3 (fun W => W.cell? ⟨bx, ox + k, none⟩ = some (.int .i64 (gi x k)) ∧ W.cell? ⟨by_, oy + l, none⟩ = some (.int .i64 (gi y l)))
            (first | go_keep | exact HKK.out)
            ((refine step_append_lies _ (by rfl) _ _ _ (by rfl) (w.heap.size + 1) 3 i0 _ 1 8 Try.underlying26 hi0 hz0 hz1 hz2 rfl (by omega) (.slice Av L.length cv) L.length (L.map iv) (by rfl) ((HM.out.bld.own.alloc _).drew) ⟨wr.heap.size, 0, none⟩ 1 1 [iv (IntKind.i64.wrap (IntKind.i64.wrap (g2 a k l * gi x k) * gi y l))] (by rfl) (by rfl) (World.news_of_block (w := (wr.alloc (.cells #[iv (IntKind.i64.wrap (IntKind.i64.wrap (g2 a k l * gi x k) * gi y l))] 3)).drew) (cs := #[iv (IntKind.i64.wrap (IntKind.i64.wrap (g2 a k l * gi x k) * gi y l))]) (t := 3) (fr := (0, 0)) (heap_alloc_new wr _)) (by simp [Value.oneCell', iv]) (by omega) (by unfold maxLen; omega) (by omega) (by simp; omega) (wr.heap.size + 1) (by simp) ?_; intro gg cap w1 hown1 hgrow hat hlt1; rw [HW.out] at hown1; have HM2 := Lib.hid (HM.out.push ((below_alloc wr _).drew) (by simp) hown1 hgrow hlt1 ⟨p3, p4⟩ HE.out); have HKK := Lib.hid (And.intro (Keep.below HM2.out.below _ _ (HX.out k hlt)) (Keep.below HM2.out.below _ _ (HY.out l hll))); clear hown1 hgrow hat hlt1 HM))
          clear c1 c2 c4
          go_wp2
          go_roundw
          case rel => exact ⟨l + 1, _, by omega, by go_num, Lib.hid (by first | exact HM2.out | exact HM2.out.qu ⟨1, rfl⟩ | exact HM2.out.qu ⟨_, rfl⟩)⟩
          case measure => simp [intOf]; omega
        · obtain rfl : l = m := by omega
          have HN := Lib.hid (HM.out.next hm3)
          go_wp2
          go_roundw
          case rel => exact ⟨k + 1, _, by omega, by go_num, HN⟩
          case measure => simp [intOf]; omega
    · obtain rfl : k = n := by omega
      have hL := HM.out.len
      have hxy : 1 ≤ tot x * tot y ∧ tot x * tot y ≤ 9000000 := by
        have h1 : 1 * 1 ≤ tot x * tot y := Int.mul_le_mul (by omega) (by omega) (by omega) (by omega)
        have h2 : tot x * tot y ≤ 3000 * 3000 := Int.mul_le_mul hbx.2 hby.2 hby.1 (by omega)
        omega
      obtain ⟨xy1, xy2⟩ := hxy
      have hpu := payU_bd HP.out hm3 (Nat.le_refl k)
      have HSM : Hid (tot L = payU a x y m k) := Lib.hid (by rw [HM.out.sum, payR]; omega)
      have HC1 := Lib.hid (sumOf_any _ _ _ _ _ (HM.out.ints (by omega)) (HM.out.sumOk (by omega)))
      go_wp2_with fail
      refine HC1.out.mono ?_
      rintro e w2 ⟨rfl, hq⟩
      have HM2 := Lib.hid (HM.out.qu hq)
      clear hq HC1 HM
      rw [HSM.out]
      have HC1 := Lib.hid (sumOf_any _ _ _ _ _ (HIX.out.keep (Keep.below HM2.out.below)) HSX.out)
      go_wp2_with fail
      refine HC1.out.mono ?_
      rintro e w3 ⟨rfl, hq⟩
      have HM3 := Lib.hid (HM2.out.qu hq)
      clear hq HC1 HM2
      have HC1 := Lib.hid (sumOf_any _ _ _ _ _ (HIY.out.keep (Keep.below HM3.out.below)) HSY.out)
      go_wp2_with fail
      refine HC1.out.mono ?_
      rintro e w4 ⟨rfl, hq⟩
      have HM4 := Lib.hid (HM3.out.qu hq)
      clear hq HC1 HM3
      have HC1 := Lib.hid (fracOf_any (payU a x y m k) (tot x * tot y) w4 (by unfold Mid; omega) (by unfold Mid; omega) xy1)
      go_wp2_with fail
      refine HC1.out.mono ?_
      rintro e w5 ⟨rfl, hb⟩
      have b0 := blk_below HM4.out.box hb
      have HBW := Lib.hid (below_up HM4.out.below hb)
      clear hb HC1 HM4
      have HFV : Hid (frV (payU a x y m k) (tot x * tot y) = .agg #[.int .i64 (frU (payU a x y m k) (tot x * tot y)), .int .i64 (frD (payU a x y m k) (tot x * tot y))]) := Lib.hid rfl
      rw [HFV.out]
      generalize frU (payU a x y m k) (tot x * tot y) = U at *
      generalize frD (payU a x y m k) (tot x * tot y) = D at *
      have c0 := blk_cell b0 (i := 0) rfl
      have c1 := blk_cell b0 (i := 1) rfl
      have f0 := blk_frozen b0 0
      have f1 := blk_frozen b0 1
      go_wp2
      clear c0 c1 f0 f1
      have B1 := blk_set (blk_set b0 0 (.int .i64 U)) 1 (.int .i64 D)
      have r0 := blk_cell B1 (i := 0) (v := .int .i64 U) rfl
      have r1 := blk_cell B1 (i := 1) (v := .int .i64 D) rfl
      have HBX := Lib.hid ((HBW.out.setCell (p := ⟨w.heap.size, 0, none⟩) (Nat.le_refl _) (.int .i64 U)).setCell (p := ⟨w.heap.size, 1, none⟩) (Nat.le_refl _) (.int .i64 D))
      clear B1 b0 HBW
      generalize (w5.setCell ⟨w.heap.size, 0, none⟩ (.int .i64 U)).setCell ⟨w.heap.size, 1, none⟩ (.int .i64 D) = W3 at *
      refine bodyPost_ret (v := .agg #[.int .i64 U, .int .i64 D]) (by simp [results, Try.results68, go_sem, r0, r1]) rfl ?_
      exact ⟨by rw [HFV.out], HBX.out⟩
end Go.Proofs.Ytoekpbcdgmejcaa

/- Numbers of a table, by the program. -/
namespace Go.Proofs.Ytoekpbcdgmejcaa
open Go.RowKit

theorem isPay_any (x : Int) (w : World) : Calls Try.prog 103 #[.int .i64 x] w fun e w' => e = .returned (.bool (pb (InR x (-9) 9))) ∧ w = w' := by
  by_cases h1 : -9 ≤ x
  · by_cases h2 : x ≤ 9
    · have h := Lib.hid (pb_true (p := InR x (-9) 9) ⟨h1, h2⟩)
      go_enter Try.func103, Try.ntmps103
      go_wp2
      go_ret
      exact ⟨ret_bool (by rw [h.out]), rfl⟩
    · have h := Lib.hid (pb_false (p := InR x (-9) 9) (fun h => h2 h.2))
      have h2' : decide (x ≤ 9) = false := by simpa using h2
      go_enter Try.func103, Try.ntmps103
      go_wp2
      go_ret
      exact ⟨ret_bool (by rw [h.out]), rfl⟩
  · have h := Lib.hid (pb_false (p := InR x (-9) 9) (fun h => h1 h.1))
    have h1' : decide (-9 ≤ x) = false := by simpa using h1
    go_enter Try.func103, Try.ntmps103
    go_wp2
    go_ret
    exact ⟨ret_bool (by rw [h.out]), rfl⟩
end Go.Proofs.Ytoekpbcdgmejcaa

/- Valid tables by the program. -/
namespace Go.Proofs.Ytoekpbcdgmejcaa
open Go.RowKit

set_option maxHeartbeats 400000 in
theorem validRow_any (A : Option Addr) (n c : Nat) (r : List Int) (w : World) (hx : Ints w A n c r) :
    Calls Try.prog 94 #[.slice A n c] w fun e w' => e = .returned (.bool (pb (RowV r))) ∧ Quiet w w' := by
  obtain ⟨lx, cx, mx, _, hx⟩ := hx
  have Lx := Lib.hid lx
  clear lx
  by_cases h1 : n < 1
  · have HV := Lib.hid (pb_false (p := RowV r) fun v => by have := v.1; rw [Lx.out] at this; omega)
    go_enter Try.func94, Try.ntmps94
    go_wp2
    go_ret
    exact ⟨ret_bool HV.out.symm, Quiet.refl _⟩
  by_cases h3 : 3 < n
  · have HV := Lib.hid (pb_false (p := RowV r) fun v => by have := v.2.1; rw [Lx.out] at this; omega)
    go_enter Try.func94, Try.ntmps94
    go_wp2
    go_ret
    exact ⟨ret_bool HV.out.symm, Quiet.refl _⟩
  obtain ⟨b, o, rfl, hc⟩ := hx (by omega)
  go_enter Try.func94, Try.ntmps94
  go_wp2
  go_loopw [15] (fun i wr => ∃ k : Nat, k ≤ n ∧ i = .int .i64 k ∧ Hid (∀ j, j < k → InR (gi r j) (-9) 9) ∧ Quiet w wr) (fun i _ => n - (intOf i).toNat)
  case atStart => exact ⟨0, Nat.zero_le _, rfl, Lib.hid (fun _ h => absurd h (by omega)), Quiet.refl _⟩
  case round =>
    obtain ⟨k, hk, rfl, HALL, q, rfl⟩ := hrel
    by_cases hlt : k < n
    · have c1 := hc k hlt
      clear hc
      have HK := Lib.hid (show k < r.length by rw [Lx.out]; exact hlt)
      by_cases hin : InR (gi r k) (-9) 9
      · have HI := Lib.hid hin
        have HP := Lib.hid (fun (W : World) => (pb_true hin) ▸ isPay_any (gi r k) W)
        clear hin
        go_wp2_with (go_at_call 103; refine (HP.out _).mono ?_; rintro e w' ⟨rfl, rfl⟩)
        go_roundw
        case rel => exact ⟨k + 1, by omega, by go_num, Lib.hid (fun j hj => by
          by_cases hjk : j < k
          · exact HALL.out j hjk
          · obtain rfl : j = k := by omega
            exact HI.out), by first | exact ⟨_, rfl⟩ | exact Quiet.two _ _ _⟩
        case measure => simp [intOf]; omega
      · have HV := Lib.hid (RowV_no HK.out hin)
        have HP := Lib.hid (fun (W : World) => (pb_false hin) ▸ isPay_any (gi r k) W)
        clear hin
        go_wp2_with (go_at_call 103; refine (HP.out _).mono ?_; rintro e w' ⟨rfl, rfl⟩)
        go_ret
        exact ⟨ret_bool HV.out.symm, by first | exact ⟨_, rfl⟩ | exact Quiet.two _ _ _⟩
    · obtain rfl : k = n := by omega
      go_wp2
      go_ret
      exact ⟨ret_bool (pb_true ⟨by rw [Lx.out]; omega, by rw [Lx.out]; omega, fun j hj => HALL.out j (by rw [Lx.out] at hj; exact hj)⟩).symm, ⟨_, rfl⟩⟩

set_option maxHeartbeats 1000000 in
theorem ValidTable_impl (A : Option Addr) (n c : Nat) (a : List (List Int)) (w : World) (hx : IntRows w A n c a) :
    Calls Try.prog 56 #[.slice A n c] w fun e w' => e = .returned (.bool (pb (VT a))) ∧ Quiet w w' := by
  obtain ⟨lx, cx, mx, hx⟩ := hx
  have Lx := Lib.hid lx
  clear lx
  by_cases h1 : n < 1
  · have HV := Lib.hid (pb_false (p := VT a) fun v => by have := v.n1; rw [Lx.out] at this; omega)
    go_enter Try.func56, Try.ntmps56
    go_wp2
    go_ret
    exact ⟨ret_bool HV.out.symm, Quiet.refl _⟩
  by_cases h3 : 3 < n
  · have HV := Lib.hid (pb_false (p := VT a) fun v => by have := v.n3; rw [Lx.out] at this; omega)
    go_enter Try.func56, Try.ntmps56
    go_wp2
    go_ret
    exact ⟨ret_bool HV.out.symm, Quiet.refl _⟩
  obtain ⟨b, o, rfl, hc⟩ := hx (by omega)
  obtain ⟨R0, cc0, c0, hR0⟩ := hc 0 (by omega)
  have hL0 : (gr a 0).length ≤ 17592186044416 := hR0.max
  simp only [Nat.add_zero] at c0
  go_enter Try.func56, Try.ntmps56
  go_wp2
  go_loopw [15] (fun i wr => ∃ k : Nat, k ≤ n ∧ i = .int .i64 k ∧ Hid (∀ i, i < k → (gr a i).length = (gr a 0).length ∧ RowV (gr a i)) ∧ Quiet w wr) (fun i _ => n - (intOf i).toNat)
  case atStart => exact ⟨0, Nat.zero_le _, rfl, Lib.hid (fun _ h => absurd h (by omega)), Quiet.refl _⟩
  case round =>
    obtain ⟨k, hk, rfl, HALL, q, rfl⟩ := hrel
    by_cases hlt : k < n
    · obtain ⟨R, cc, c1, hR⟩ := hc k hlt
      have hL1 : (gr a k).length ≤ 17592186044416 := hR.max
      have hn0 : 0 < n := by omega
      clear hc
      have HK := Lib.hid (show k < a.length by rw [Lx.out]; exact hlt)
      by_cases hlen : (gr a k).length = (gr a 0).length
      · have hlen' : (((gr a k).length : Int) != ((gr a 0).length : Int)) = false := by simp [hlen]
        have HLEN := Lib.hid hlen
        clear hlen
        by_cases hv : RowV (gr a k)
        · have HI := Lib.hid hv
          have hq := fun W (hW : Quiet w W) => (pb_true hv ▸ validRow_any _ _ _ _ W (hR.keep (Keep.quiet hW)))
          clear hv
          go_wp2_with fail
          refine (hq _ ⟨_, rfl⟩).mono ?_
          rintro e w' ⟨rfl, q2, rfl⟩
          go_wp2
          go_roundw
          case rel => exact ⟨k + 1, by omega, by go_num, Lib.hid (fun j hj => by
            by_cases hjk : j < k
            · exact HALL.out j hjk
            · obtain rfl : j = k := by omega
              exact ⟨HLEN.out, HI.out⟩), ⟨_, rfl⟩⟩
          case measure => simp [intOf]; omega
        · have HV := Lib.hid (pb_false (p := VT a) fun v => hv (VT_rowV v HK.out))
          have hq := fun W (hW : Quiet w W) => (pb_false hv ▸ validRow_any _ _ _ _ W (hR.keep (Keep.quiet hW)))
          clear hv
          go_wp2_with fail
          refine (hq _ ⟨_, rfl⟩).mono ?_
          rintro e w' ⟨rfl, q2, rfl⟩
          go_wp2
          go_ret
          exact ⟨ret_bool HV.out.symm, by first | exact ⟨_, rfl⟩ | exact Quiet.two _ _ _⟩
      · have HV := Lib.hid (pb_false (p := VT a) fun v => hlen (v.rows k HK.out).1)
        have hlen' : (((gr a k).length : Int) != ((gr a 0).length : Int)) = true := by simp; omega
        clear hlen
        go_wp2
        go_ret
        exact ⟨ret_bool HV.out.symm, ⟨_, rfl⟩⟩
    · obtain rfl : k = n := by omega
      go_wp2
      go_ret
      exact ⟨ret_bool (pb_true (VT_of (by rw [Lx.out]; omega) (by rw [Lx.out]; omega) fun j hj => HALL.out j (by rw [Lx.out] at hj; exact hj))).symm, ⟨_, rfl⟩⟩
end Go.Proofs.Ytoekpbcdgmejcaa

/- Means of a table with shares, by both programs. -/
namespace Go.Proofs.Ytoekpbcdgmejcaa
open Go.RowKit

/-- The box of a fraction that a function returns, at its start. -/
structure PF (w W : World) : Prop where
  box : Blk W w.heap.size 37 #[.int .i64 0, .int .i64 0]
  below : Below w.heap.size w W
theorem PF.start (w : World) : PF w (w.alloc (.cells #[.int .i64 0, .int .i64 0] 37)) := ⟨blk_new _ _ _, below_alloc _ _⟩
theorem PF.up {w W W' : World} (h : PF w W) (k : Below W.heap.size W W') : PF w W' := ⟨blk_below h.box k, below_up h.below k⟩
theorem PF.keep {w W : World} (h : PF w W) : Keep w W := Keep.below h.below

theorem VT.vsn {a : List (List Int)} (v : VT a) (x : List Int) : pb (VSn x a.length) = pb (VS x a.length) :=
  pb_congr ⟨fun h => h.2.2, fun h => ⟨by have := v.n1; omega, by have := v.n3; omega, h⟩⟩
theorem VT.vsm {a : List (List Int)} (v : VT a) (x : List Int) : pb (VSn x (gr a 0).length) = pb (VS x (gr a 0).length) :=
  pb_congr ⟨fun h => h.2.2, fun h => ⟨by have := v.m1; omega, by have := v.m3; omega, h⟩⟩
theorem VT.pb_ {a : List (List Int)} {x y : List Int} (v : VT a) (hx : VS x a.length) (hy : VS y (gr a 0).length) : PB a x y a.length (gr a 0).length :=
  ⟨fun i j hi hj => v.bd hi hj, fun i hi => hx.2.1 i (by have := hx.1; omega), fun j hj => hy.2.1 j (by have := hy.1; omega)⟩
structure POk (a : List (List Int)) (x y : List Int) : Prop where
  v : VT a
  x : VS x a.length
  y : VS y (gr a 0).length
noncomputable def payF (a : List (List Int)) (x y : List Int) : Value := if pb (POk a x y) = true then frV (payU a x y (gr a 0).length a.length) (tot x * tot y) else .agg #[.int .i64 0, .int .i64 0]
theorem payF_yes {a x y} (h : POk a x y) : payF a x y = frV (payU a x y (gr a 0).length a.length) (tot x * tot y) := by rw [payF, if_pos (pb_true h)]
theorem payF_no {a x y} (h : ¬ POk a x y) : payF a x y = .agg #[.int .i64 0, .int .i64 0] := by rw [payF, if_neg (by rw [pb_false h]; decide)]

theorem validShares_any' (A : Option Addr) (n c : Nat) (xs : List Int) (m : Int) (w : World) (hx : Ints w A n c xs) (hm : m ≤ 3) :
    Calls Try.prog 74 #[.slice A n c, .int .i64 m] w fun e w' => e = .returned (.bool (pb (VS xs m))) ∧ Quiet w w' := validShares_any A n c xs m w hx hm
theorem ValidShares_any' (A : Option Addr) (n c : Nat) (xs : List Int) (m : Int) (w : World) (hx : Ints w A n c xs) (_ : m ≤ 3) :
    Calls Try.prog 61 #[.slice A n c, .int .i64 m] w fun e w' => e = .returned (.bool (pb (VSn xs m))) ∧ Quiet w w' := ValidShares_impl A n c xs m w hx

set_option maxRecDepth 100000 in
set_option maxHeartbeats 2000000 in
theorem PayOf_impl (A X Y : Option Addr) (n c nx cx ny cy : Nat) (a : List (List Int)) (x y : List Int) (w : World) (ha : IntRows w A n c a) (hx : Ints w X nx cx x) (hy : Ints w Y ny cy y) :
    Calls Try.prog 28 #[.slice A n c, .slice X nx cx, .slice Y ny cy] w (Ret (.tuple #[payF a x y, .bool (pb (POk a x y))]) w) := by
  have HA := Lib.hid ha
  have HX := Lib.hid hx
  have HY := Lib.hid hy
  have HPF := Lib.hid (PF.start w)
  clear ha hx hy
  by_cases hv : VT a
  · have HV := Lib.hid hv
    have hn1 := hv.n1
    have hn3 := hv.n3
    have hm1 := hv.m1
    have hm3 := hv.m3
    rw [HA.out.len] at hn1 hn3
    have HC := Lib.hid (pb_true hv ▸ ValidTable_impl _ _ _ _ _ (HA.out.keep HPF.out.keep))
    clear hv
    have HLEN := Lib.hid HA.out.len
    by_cases hvx : VS x a.length
    · have HVX := Lib.hid hvx
      have hq := fun W (k : Keep w W) => ValidShares_any' _ _ _ _ (n : Int) W (HX.out.keep k) (by omega)
      rw [show pb (VSn x (n : Int)) = true by rw [← HLEN.out]; rw [HV.out.vsn]; exact pb_true hvx] at hq
      have HQ := Lib.hid hq
      clear hvx hq
      by_cases hvy : VS y (gr a 0).length
      · have HVY := Lib.hid hvy
        have hq := fun W (k : Keep w W) => ValidShares_any' _ _ _ _ ((gr a 0).length : Int) W (HY.out.keep k) (by omega)
        rw [show pb (VSn y ((gr a 0).length : Int)) = true by rw [HV.out.vsm]; exact pb_true hvy] at hq
        have HQ2 := Lib.hid hq
        have HP := Lib.hid (POk.mk HV.out HVX.out HVY.out)
        have HPB := Lib.hid (HV.out.pb_ HVX.out HVY.out)
        have tx := HVX.out.2.2
        have ty := HVY.out.2.2
        have h1 : n = nx := by have := HVX.out.1; have := HX.out.len; have := HLEN.out; omega
        have h2 : (gr a 0).length = ny := by have := HVY.out.1; have := HY.out.len; omega
        subst h1
        clear hvy hq
        obtain ⟨b, o, rb, ro, cc, rfl, tab⟩ := HA.out.tab HV.out
        have HT := Lib.hid tab
        have HM := Lib.hid h2
        clear tab h2
        have HN2 := Lib.hid HLEN.out
        rw [payF_yes HP.out, pb_true HP.out, HLEN.out, HM.out]
        rw [HM.out] at HT HPB
        rw [HLEN.out] at HPB
        rw [HM.out] at HQ2 hm1 hm3
        have hrow := HT.out.row 0 (by omega)
        simp only [Nat.add_zero] at hrow
        have HROW := Lib.hid hrow
        clear hrow
        go_enter Try.func28, Try.ntmps28
        go_wp2_with fail
        refine HC.out.mono ?_
        rintro e w1 ⟨rfl, hq⟩
        have HPF1 := Lib.hid (HPF.out.up hq.below)
        clear hq HC HPF
        go_wp2_with fail
        refine (HQ.out _ HPF1.out.keep).mono ?_
        rintro e w2 ⟨rfl, hq⟩
        have HPF := Lib.hid (HPF1.out.up hq.below)
        have hrow := HPF.out.keep _ _ HROW.out
        clear hq HQ HPF1
        go_wp2_with fail
        refine (HQ2.out _ HPF.out.keep).mono ?_
        rintro e w3 ⟨rfl, hq⟩
        have HPF1 := Lib.hid (HPF.out.up hq.below)
        clear hq HQ2 HPF hrow
        go_wp2_with fail
        have HMP := Lib.hid (meanPay_any b o rb ro cc n ny c cx cy X Y a x y w3 (HT.out.keep HPF1.out.keep) (HX.out.keep HPF1.out.keep) (HY.out.keep HPF1.out.keep) HPB.out tx ty)
        refine HMP.out.mono ?_
        rintro e w7 ⟨rfl, hb⟩
        have HPF := Lib.hid (HPF1.out.up hb)
        clear hb HMP HPF1
        have HFV : Hid (frV (payU a x y ny n) (tot x * tot y) = .agg #[.int .i64 (frU (payU a x y ny n) (tot x * tot y)), .int .i64 (frD (payU a x y ny n) (tot x * tot y))]) := Lib.hid rfl
        rw [HFV.out]
        generalize frU (payU a x y ny n) (tot x * tot y) = U at *
        generalize frD (payU a x y ny n) (tot x * tot y) = D at *
        have c0 := blk_cell HPF.out.box (i := 0) rfl
        have c1 := blk_cell HPF.out.box (i := 1) rfl
        have f0 := blk_frozen HPF.out.box 0
        have f1 := blk_frozen HPF.out.box 1
        go_wp2
        clear c0 c1 f0 f1
        have B1 := blk_set (blk_set HPF.out.box 0 (.int .i64 U)) 1 (.int .i64 D)
        have r0 := blk_cell B1 (i := 0) (v := .int .i64 U) rfl
        have r1 := blk_cell B1 (i := 1) (v := .int .i64 D) rfl
        have HBX := Lib.hid ((HPF.out.below.setCell (p := ⟨w.heap.size, 0, none⟩) (Nat.le_refl _) (.int .i64 U)).setCell (p := ⟨w.heap.size, 1, none⟩) (Nat.le_refl _) (.int .i64 D))
        clear B1 HPF
        generalize (w7.setCell ⟨w.heap.size, 0, none⟩ (.int .i64 U)).setCell ⟨w.heap.size, 1, none⟩ (.int .i64 D) = WE at *
        refine bodyPost_ret (v := .tuple #[.agg #[.int .i64 U, .int .i64 D], .bool true]) (by simp [results, Try.results28, go_sem, r0, r1]) rfl ?_
        exact ⟨by rw [HFV.out], HBX.out⟩
      · have hq := fun W (k : Keep w W) => ValidShares_any' _ _ _ _ ((gr a 0).length : Int) W (HY.out.keep k) (by omega)
        rw [show pb (VSn y ((gr a 0).length : Int)) = false by rw [HV.out.vsm]; exact pb_false hvy] at hq
        have HQ2 := Lib.hid hq
        have HNO := Lib.hid (show payF a x y = .agg #[.int .i64 0, .int .i64 0] ∧ pb (POk a x y) = false from ⟨payF_no fun h => hvy h.y, pb_false fun h => hvy h.y⟩)
        clear hvy hq
        obtain ⟨b, o, rfl, hr⟩ := HA.out.at_ (by omega)
        obtain ⟨R, c', hrow, -⟩ := hr 0 (by omega)
        simp only [Nat.add_zero] at hrow
        have HROW := Lib.hid hrow
        clear hr hrow
        go_enter Try.func28, Try.ntmps28
        go_wp2_with fail
        refine HC.out.mono ?_
        rintro e w1 ⟨rfl, hq⟩
        have HPF1 := Lib.hid (HPF.out.up hq.below)
        clear hq HC HPF
        go_wp2_with fail
        refine (HQ.out _ HPF1.out.keep).mono ?_
        rintro e w2 ⟨rfl, hq⟩
        have HPF := Lib.hid (HPF1.out.up hq.below)
        have hrow := HPF.out.keep _ _ HROW.out
        clear hq HQ HPF1
        go_wp2_with fail
        refine (HQ2.out _ HPF.out.keep).mono ?_
        rintro e w3 ⟨rfl, hq⟩
        have HPF1 := Lib.hid (HPF.out.up hq.below)
        clear hq HQ2 HPF hrow
        have HPF := HPF1
        clear HPF1
        have c0 := blk_cell HPF.out.box (i := 0) rfl
        have c1 := blk_cell HPF.out.box (i := 1) rfl
        have f0 := blk_frozen HPF.out.box 0
        have f1 := blk_frozen HPF.out.box 1
        go_wp2
        clear c0 c1 f0 f1
        have B1 := blk_set (blk_set HPF.out.box 0 (.int .i64 0)) 1 (.int .i64 0)
        have r0 := blk_cell B1 (i := 0) (v := .int .i64 0) rfl
        have r1 := blk_cell B1 (i := 1) (v := .int .i64 0) rfl
        have HBX := Lib.hid ((HPF.out.below.setCell (p := ⟨w.heap.size, 0, none⟩) (Nat.le_refl _) (.int .i64 0)).setCell (p := ⟨w.heap.size, 1, none⟩) (Nat.le_refl _) (.int .i64 0))
        clear B1 HPF
        generalize (w3.setCell ⟨w.heap.size, 0, none⟩ (.int .i64 0)).setCell ⟨w.heap.size, 1, none⟩ (.int .i64 0) = WE at *
        refine bodyPost_ret (v := .tuple #[.agg #[.int .i64 0, .int .i64 0], .bool false]) (by simp [results, Try.results28, go_sem, r0, r1]) rfl ?_
        exact ⟨by rw [HNO.out.1, HNO.out.2], HBX.out⟩
    · have hq := fun W (k : Keep w W) => ValidShares_any' _ _ _ _ (n : Int) W (HX.out.keep k) (by omega)
      rw [show pb (VSn x (n : Int)) = false by rw [← HLEN.out]; rw [HV.out.vsn]; exact pb_false hvx] at hq
      have HQ := Lib.hid hq
      have HNO := Lib.hid (show payF a x y = .agg #[.int .i64 0, .int .i64 0] ∧ pb (POk a x y) = false from ⟨payF_no fun h => hvx h.x, pb_false fun h => hvx h.x⟩)
      clear hvx hq
      go_enter Try.func28, Try.ntmps28
      go_wp2_with fail
      refine HC.out.mono ?_
      rintro e w1 ⟨rfl, hq⟩
      have HPF1 := Lib.hid (HPF.out.up hq.below)
      clear hq HC HPF
      go_wp2_with fail
      refine (HQ.out _ HPF1.out.keep).mono ?_
      rintro e w2 ⟨rfl, hq⟩
      have HPF := Lib.hid (HPF1.out.up hq.below)
      clear hq HQ HPF1
      have c0 := blk_cell HPF.out.box (i := 0) rfl
      have c1 := blk_cell HPF.out.box (i := 1) rfl
      have f0 := blk_frozen HPF.out.box 0
      have f1 := blk_frozen HPF.out.box 1
      go_wp2
      clear c0 c1 f0 f1
      have B1 := blk_set (blk_set HPF.out.box 0 (.int .i64 0)) 1 (.int .i64 0)
      have r0 := blk_cell B1 (i := 0) (v := .int .i64 0) rfl
      have r1 := blk_cell B1 (i := 1) (v := .int .i64 0) rfl
      have HBX := Lib.hid ((HPF.out.below.setCell (p := ⟨w.heap.size, 0, none⟩) (Nat.le_refl _) (.int .i64 0)).setCell (p := ⟨w.heap.size, 1, none⟩) (Nat.le_refl _) (.int .i64 0))
      clear B1 HPF
      generalize (w2.setCell ⟨w.heap.size, 0, none⟩ (.int .i64 0)).setCell ⟨w.heap.size, 1, none⟩ (.int .i64 0) = WE at *
      refine bodyPost_ret (v := .tuple #[.agg #[.int .i64 0, .int .i64 0], .bool false]) (by simp [results, Try.results28, go_sem, r0, r1]) rfl ?_
      exact ⟨by rw [HNO.out.1, HNO.out.2], HBX.out⟩
  · have HC := Lib.hid (pb_false hv ▸ ValidTable_impl _ _ _ _ _ (HA.out.keep HPF.out.keep))
    have HNO := Lib.hid (show payF a x y = .agg #[.int .i64 0, .int .i64 0] ∧ pb (POk a x y) = false from ⟨payF_no fun h => hv h.v, pb_false fun h => hv h.v⟩)
    clear hv
    go_enter Try.func28, Try.ntmps28
    go_wp2_with fail
    refine HC.out.mono ?_
    rintro e w1 ⟨rfl, hq⟩
    have HPF1 := Lib.hid (HPF.out.up hq.below)
    clear hq HC HPF
    have HPF := HPF1
    clear HPF1
    have c0 := blk_cell HPF.out.box (i := 0) rfl
    have c1 := blk_cell HPF.out.box (i := 1) rfl
    have f0 := blk_frozen HPF.out.box 0
    have f1 := blk_frozen HPF.out.box 1
    go_wp2
    clear c0 c1 f0 f1
    have B1 := blk_set (blk_set HPF.out.box 0 (.int .i64 0)) 1 (.int .i64 0)
    have r0 := blk_cell B1 (i := 0) (v := .int .i64 0) rfl
    have r1 := blk_cell B1 (i := 1) (v := .int .i64 0) rfl
    have HBX := Lib.hid ((HPF.out.below.setCell (p := ⟨w.heap.size, 0, none⟩) (Nat.le_refl _) (.int .i64 0)).setCell (p := ⟨w.heap.size, 1, none⟩) (Nat.le_refl _) (.int .i64 0))
    clear B1 HPF
    generalize (w1.setCell ⟨w.heap.size, 0, none⟩ (.int .i64 0)).setCell ⟨w.heap.size, 1, none⟩ (.int .i64 0) = WE at *
    refine bodyPost_ret (v := .tuple #[.agg #[.int .i64 0, .int .i64 0], .bool false]) (by simp [results, Try.results28, go_sem, r0, r1]) rfl ?_
    exact ⟨by rw [HNO.out.1, HNO.out.2], HBX.out⟩

theorem frV_form (u d : Int) : ∃ U D, frV u d = .agg #[.int .i64 U, .int .i64 D] := ⟨_, _, rfl⟩
theorem payF_form (a : List (List Int)) (x y : List Int) : ∃ U D, payF a x y = .agg #[.int .i64 U, .int .i64 D] := by
  unfold payF
  split
  · exact frV_form _ _
  · exact ⟨_, _, rfl⟩

end Go.Proofs.Ytoekpbcdgmejcaa

/- Ints compared by the library's cmp.Compare. -/
namespace Go.Proofs.Ytoekpbcdgmejcaa
open Go.RowKit

end Go.Proofs.Ytoekpbcdgmejcaa

/- Fractions compared by the harness; less, by both programs. -/
namespace Go.Proofs.Ytoekpbcdgmejcaa
open Go.RowKit


def lessB (u d v e : Int) : Bool := decide (u * e < v * d)
theorem less_bd {u v : Int} (hu : -1000000000 ≤ u ∧ u ≤ 1000000000) (hv : 0 ≤ v ∧ v ≤ 1000000000) : -1000000000000000000 ≤ u * v ∧ u * v ≤ 1000000000000000000 := by
  have h1 : u * v ≤ 1000000000 * v := Int.mul_le_mul_of_nonneg_right hu.2 hv.1
  have h2 : -1000000000 * v ≤ u * v := Int.mul_le_mul_of_nonneg_right hu.1 hv.1
  omega


end Go.Proofs.Ytoekpbcdgmejcaa

/- Shares of one alone; the worst mean: by both programs. -/
namespace Go.Proofs.Ytoekpbcdgmejcaa
open Go.RowKit

theorem alloc_set (w : World) (cs : Array Value) (t : TypeId) (i : Nat) (v : Value) : (w.alloc (.cells cs t)).setCell ⟨w.heap.size, i, none⟩ v = w.alloc (.cells (cs.setIfInBounds i v) t) := by
  unfold World.setCell World.alloc
  congr 1
  apply Array.ext
  · simp
  · intro j h1 h2
    simp only [Array.size_modify, Array.size_push] at h1
    rw [Array.getElem_modify]
    by_cases e : w.heap.size = j
    · subst e; simp
    · rw [if_neg e, Array.getElem_push_lt (by omega), Array.getElem_push_lt (by omega)]
def MadeO (w : World) (n i : Nat) (e : Ending) (w' : World) : Prop :=
  e = .returned (.slice (some ⟨w.heap.size, 0, none⟩) n n) ∧ OwnI w.heap.size w'.heap.size w' w.heap.size (some ⟨w.heap.size, 0, none⟩) n n (onl n i) ∧ Below w.heap.size w w'
theorem onl_own (w w1 : World) (n i : Nat) (hn : n ≤ 100) (hr : w1.rowIs w.heap.size 3 n (fun j => if j = i then .int .i64 1 else .int .i64 0)) :
    OwnI w.heap.size w1.heap.size w1 w.heap.size (some ⟨w.heap.size, 0, none⟩) n n (onl n i) :=
  OwnI.of_rowIs (onl_len n i) (by omega) (fun x hx => by
    obtain ⟨k, hk, rfl⟩ := List.mem_iff_getElem.1 hx
    rw [onl_len] at hk
    have := onl_bd (n := n) (i := i) hk
    rw [gi_get (by rw [onl_len]; exact hk)] at this
    omega) (Nat.le_refl _) hr.lt hr fun k hk => by
      show (if k = i then Value.int .i64 1 else Value.int .i64 0) = _
      rw [gi_onl hk]; split <;> rfl

set_option maxHeartbeats 400000 in
theorem onlyOne_any (n i : Nat) (w : World) (hn : n ≤ 100) (hi : i < n) : Calls Try.prog 19 #[.int .i64 n, .int .i64 i] w (MadeO w n i) := by
  have hmk := run_make_row' (P := Try.prog) 26 3 (.int .i64 0) 8 Try.underlying26 Try.info3 rfl .i64 .i64 n (by omega) (by omega)
  have hrow := World.rowIs_made w (.int .i64 0) n 3
  have c1 := hrow.cell hi
  have c2 := hrow.frozen i
  have hb := below_alloc w (.cells (madeCells #[.int .i64 0] n) 3)
  have HR := Lib.hid ((hrow.set i (.int .i64 1)).congr (g := fun j => if j = i then .int .i64 1 else .int .i64 0) fun j _ => rfl)
  have HB := Lib.hid (hb.setCell (p := ⟨w.heap.size, i, none⟩) (Nat.le_refl _) (.int .i64 1))
  have HE := Lib.hid (alloc_set w (madeCells #[.int .i64 0] n) 3 i (.int .i64 1))
  clear hrow hb
  go_enter Try.func19, Try.ntmps19
  go_wp2
  go_ret
  exact ⟨rfl, onl_own w _ n i hn (by rw [← HE.out]; exact HR.out), by rw [← HE.out]; exact HB.out⟩
set_option maxHeartbeats 400000 in
theorem alone_spec (n i : Nat) (w : World) (hn : n ≤ 100) (hi : i < n) : Calls Try.prog 84 #[.int .i64 n, .int .i64 i] w (MadeO w n i) := by
  have hmk := run_make_row' (P := Try.prog) 26 3 (.int .i64 0) 8 Try.underlying26 Try.info3 rfl .i64 .i64 n (by omega) (by omega)
  have hrow := World.rowIs_made w (.int .i64 0) n 3
  have c1 := hrow.cell hi
  have c2 := hrow.frozen i
  have hb := below_alloc w (.cells (madeCells #[.int .i64 0] n) 3)
  have HR := Lib.hid ((hrow.set i (.int .i64 1)).congr (g := fun j => if j = i then .int .i64 1 else .int .i64 0) fun j _ => rfl)
  have HB := Lib.hid (hb.setCell (p := ⟨w.heap.size, i, none⟩) (Nat.le_refl _) (.int .i64 1))
  have HE := Lib.hid (alloc_set w (madeCells #[.int .i64 0] n) 3 i (.int .i64 1))
  clear hrow hb
  go_enter Try.func84, Try.ntmps84
  go_wp2
  go_ret
  exact ⟨rfl, onl_own w _ n i hn (by rw [← HE.out]; exact HR.out), by rw [← HE.out]; exact HB.out⟩
set_option maxHeartbeats 400000 in
theorem alone_impl (n i : Nat) (w : World) (hn : n ≤ 100) (hi : i < n) : Calls Try.prog 76 #[.int .i64 i, .int .i64 n] w (MadeO w n i) := by
  have hmk := run_make_row' (P := Try.prog) 26 3 (.int .i64 0) 8 Try.underlying26 Try.info3 rfl .i64 .i64 n (by omega) (by omega)
  have hrow := World.rowIs_made w (.int .i64 0) n 3
  have c1 := hrow.cell hi
  have c2 := hrow.frozen i
  have hb := below_alloc w (.cells (madeCells #[.int .i64 0] n) 3)
  have HR := Lib.hid ((hrow.set i (.int .i64 1)).congr (g := fun j => if j = i then .int .i64 1 else .int .i64 0) fun j _ => rfl)
  have HB := Lib.hid (hb.setCell (p := ⟨w.heap.size, i, none⟩) (Nat.le_refl _) (.int .i64 1))
  have HE := Lib.hid (alloc_set w (madeCells #[.int .i64 0] n) 3 i (.int .i64 1))
  clear hrow hb
  go_enter Try.func76, Try.ntmps76
  go_wp2
  go_ret
  exact ⟨rfl, onl_own w _ n i hn (by rw [← HE.out]; exact HR.out), by rw [← HE.out]; exact HB.out⟩
end Go.Proofs.Ytoekpbcdgmejcaa

/- The least mean over columns alone, by the model. -/
namespace Go.Proofs.Ytoekpbcdgmejcaa
open Go.RowKit

theorem PB.onl {a x y n m} (h : PB a x y n m) (j : Nat) : PB a x (onl m j) n m :=
  ⟨h.a, h.x, fun k hk => by have := onl_bd (n := m) (i := j) hk; omega⟩
theorem col_bd {a x y n m} (h : PB a x y n m) (hn : n ≤ 3) (hm : m ≤ 3) (j : Nat) : -81000000 ≤ colU a x n m j ∧ colU a x n m j ≤ 81000000 := by
  have := payU_bd (h.onl j) hm (Nat.le_refl n)
  unfold colU
  omega
theorem wst_bd {a x y n m} (h : PB a x y n m) (hn : n ≤ 3) (hm : m ≤ 3) (tx : 0 < tot x) (tx3 : tot x ≤ 3000) : ∀ k, (-81000000 ≤ (wst a x n m k).1 ∧ (wst a x n m k).1 ≤ 81000000) ∧ 1 ≤ (wst a x n m k).2 ∧ (wst a x n m k).2 ≤ 3000
  | 0 => ⟨frU_bd tx (col_bd h hn hm 0), frD_bd tx tx3⟩
  | k + 1 => by
    simp only [wst]
    split
    · exact ⟨frU_bd tx (col_bd h hn hm (k + 1)), frD_bd tx tx3⟩
    · exact wst_bd h hn hm tx tx3 k
theorem wst_yes {a x n m k} (h : lessB (frU (colU a x n m (k + 1)) (tot x)) (frD (colU a x n m (k + 1)) (tot x)) (wst a x n m k).1 (wst a x n m k).2 = true) :
    wst a x n m (k + 1) = (frU (colU a x n m (k + 1)) (tot x), frD (colU a x n m (k + 1)) (tot x)) := by
  unfold lessB at h
  simp only [decide_eq_true_eq] at h
  simp only [wst]
  rw [if_pos h]
theorem wst_no {a x n m k} (h : lessB (frU (colU a x n m (k + 1)) (tot x)) (frD (colU a x n m (k + 1)) (tot x)) (wst a x n m k).1 (wst a x n m k).2 = false) : wst a x n m (k + 1) = wst a x n m k := by
  unfold lessB at h
  simp only [decide_eq_false_iff_not] at h
  simp only [wst]
  rw [if_neg h]

/-- The boxes of the result and of what is the least so far. -/
structure WO (w W : World) (U D : Int) : Prop where
  b0 : Blk W w.heap.size 37 #[.int .i64 0, .int .i64 0]
  b1 : Blk W (w.heap.size + 1) 37 #[.int .i64 U, .int .i64 D]
  below : Below w.heap.size w W
theorem WO.up {w W W' U D} (h : WO w W U D) (k : Below W.heap.size W W') : WO w W' U D := ⟨blk_below h.b0 k, blk_below h.b1 k, below_up h.below k⟩
theorem WO.keep {w W U D} (h : WO w W U D) : Keep w W := Keep.below h.below
theorem WO.start (w : World) : WO w ((w.alloc (.cells #[.int .i64 0, .int .i64 0] 37)).alloc (.cells #[.int .i64 0, .int .i64 0] 37)) 0 0 := by
  have h := blk_new (w.alloc (.cells #[.int .i64 0, .int .i64 0] 37)) 37 #[.int .i64 0, .int .i64 0]
  rw [World.size_alloc] at h
  exact ⟨blk_old (blk_new _ _ _) _, h, below_up (below_alloc _ _) (below_alloc _ _)⟩
theorem WO.set {w W U D} (h : WO w W U D) (U' D' : Int) : WO w ((W.setCell ⟨w.heap.size + 1, 0, none⟩ (.int .i64 U')).setCell ⟨w.heap.size + 1, 1, none⟩ (.int .i64 D')) U' D' :=
  ⟨blk_other (blk_other h.b0 (p := ⟨w.heap.size + 1, 0, none⟩) (by show w.heap.size ≠ w.heap.size + 1; omega) _) (p := ⟨w.heap.size + 1, 1, none⟩) (by show w.heap.size ≠ w.heap.size + 1; omega) _,
   blk_set (blk_set h.b1 0 (.int .i64 U')) 1 (.int .i64 D'),
   (h.below.setCell (p := ⟨w.heap.size + 1, 0, none⟩) (by show w.heap.size ≤ w.heap.size + 1; omega) _).setCell (p := ⟨w.heap.size + 1, 1, none⟩) (by show w.heap.size ≤ w.heap.size + 1; omega) _⟩

end Go.Proofs.Ytoekpbcdgmejcaa

/- The worst mean of shares, by both programs. -/
namespace Go.Proofs.Ytoekpbcdgmejcaa
open Go.RowKit

structure WOk (a : List (List Int)) (x : List Int) : Prop where
  v : VT a
  x : VS x a.length
def wstV (p : Int × Int) : Value := .agg #[.int .i64 p.1, .int .i64 p.2]
def wlast (a : List (List Int)) (x : List Int) : Int × Int := wst a x a.length (gr a 0).length ((gr a 0).length - 1)
noncomputable def worF (a : List (List Int)) (x : List Int) : Int × Int := if pb (WOk a x) = true then wlast a x else (0, 0)
theorem worF_yes {a x} (h : WOk a x) : worF a x = wlast a x := by rw [worF, if_pos (pb_true h)]
theorem worF_no {a x} (h : ¬ WOk a x) : worF a x = (0, 0) := by rw [worF, if_neg (by rw [pb_false h]; decide)]
theorem wstV_form (p : Int × Int) : ∃ U D, wstV p = .agg #[.int .i64 U, .int .i64 D] := ⟨_, _, rfl⟩
theorem VT.pbx {a : List (List Int)} {x : List Int} (v : VT a) (hx : VS x a.length) : PB a x (onl (gr a 0).length 0) a.length (gr a 0).length :=
  ⟨fun i j hi hj => v.bd hi hj, fun i hi => hx.2.1 i (by have := hx.1; omega), fun j hj => by have := onl_bd (n := (gr a 0).length) (i := 0) hj; omega⟩

/-- The boxes of the result and of what is the least so far, at h. -/
structure WP (w W : World) (h : Nat) (U D : Int) : Prop where
  b0 : Blk W w.heap.size 37 #[.int .i64 0, .int .i64 0]
  b1 : Blk W h 37 #[.int .i64 U, .int .i64 D]
  lt : w.heap.size < h
  below : Below w.heap.size w W
theorem WP.up {w W W' h U D} (p : WP w W h U D) (k : Below W.heap.size W W') : WP w W' h U D := ⟨blk_below p.b0 k, blk_below p.b1 k, p.lt, below_up p.below k⟩
theorem WP.keep {w W h U D} (p : WP w W h U D) : Keep w W := Keep.below p.below
theorem WP.start {w W : World} (p : PF w W) (U D : Int) : WP w (W.alloc (.cells #[.int .i64 U, .int .i64 D] 37)) W.heap.size U D :=
  ⟨blk_old p.box _, blk_new _ _ _, blk_lt p.box, below_up p.below (below_alloc _ _)⟩
theorem WP.set {w W h U D} (p : WP w W h U D) (U' D' : Int) : WP w ((W.setCell ⟨h, 0, none⟩ (.int .i64 U')).setCell ⟨h, 1, none⟩ (.int .i64 D')) h U' D' := by
  have hl := p.lt
  exact ⟨blk_other (blk_other p.b0 (p := ⟨h, 0, none⟩) (by show w.heap.size ≠ h; omega) _) (p := ⟨h, 1, none⟩) (by show w.heap.size ≠ h; omega) _,
   blk_set (blk_set p.b1 0 (.int .i64 U')) 1 (.int .i64 D'), hl,
   (p.below.setCell (p := ⟨h, 0, none⟩) (by show w.heap.size ≤ h; omega) _).setCell (p := ⟨h, 1, none⟩) (by show w.heap.size ≤ h; omega) _⟩
theorem frV_onl (u : Int) (x : List Int) {m j : Nat} (h : j < m) : frV u (tot x * tot (onl m j)) = .agg #[.int .i64 (frU u (tot x)), .int .i64 (frD u (tot x))] := by
  rw [tot_onl h, Int.mul_one]; rfl

end Go.Proofs.Ytoekpbcdgmejcaa

/- Best shares, by the model. -/
namespace Go.Proofs.Ytoekpbcdgmejcaa
open Go.RowKit

theorem VT.small {a : List (List Int)} (v : VT a) : Small a := by
  have h3 := v.n3
  refine ⟨by omega, fun r hr => ?_⟩
  obtain ⟨k, hk, rfl⟩ := List.mem_iff_getElem.1 hr
  have h1 := v.rows k hk
  rw [← gr_get hk]
  have h2 := h1.1
  have h4 := v.m3
  refine ⟨by omega, fun x hx => ?_⟩
  obtain ⟨j, hj, rfl⟩ := List.mem_iff_getElem.1 hx
  have := h1.2 j hj
  unfold InR at this
  rw [gi_get hj] at this
  omega
/-- The table as the second player has it. -/
def ntab (a : List (List Int)) : List (List Int) := mtab (flip a a.length (gr a 0).length) (flip a a.length (gr a 0).length).length
theorem ntab_len (a : List (List Int)) : (ntab a).length = (gr a 0).length := by unfold ntab; rw [mtab_len, flip_len]
theorem VT.ntab {a : List (List Int)} (v : VT a) : VT (ntab a) := v.flip.minus
theorem VT.ntab_m {a : List (List Int)} (v : VT a) : (gr (Go.Proofs.Ytoekpbcdgmejcaa.ntab a) 0).length = a.length := by
  have h0 := v.m1
  have h1 := flip_len a a.length (gr a 0).length
  unfold Go.Proofs.Ytoekpbcdgmejcaa.ntab
  rw [gr_get (by rw [mtab_len, h1]; exact h0)]
  simp only [mtab, List.getElem_map, List.getElem_range, mrow_len]
  rw [gr_flip h0]; simp
/-- Shares that are best for both. -/
structure BestP (a : List (List Int)) (x y : List Int) : Prop where
  ok : POk a x y
  eq : wlast a x = (- (wlast (ntab a) y).1, (wlast (ntab a) y).2)
theorem wlast_bd {a : List (List Int)} {x : List Int} (v : VT a) (hx : VS x a.length) : (-81000000 ≤ (wlast a x).1 ∧ (wlast a x).1 ≤ 81000000) ∧ 1 ≤ (wlast a x).2 ∧ (wlast a x).2 ≤ 3000 := by
  have h := VT.pbx v hx
  have n3 := v.n3
  have := tot_bd (x := x) (n := a.length) n3 (by have := hx.1; omega) h.x
  exact wst_bd h n3 v.m3 hx.2.2 this.2 _

end Go.Proofs.Ytoekpbcdgmejcaa

/- A square without a row and a column, by the model. -/
namespace Go.Proofs.Ytoekpbcdgmejcaa
open Go.RowKit

theorem Small.rowW_bd {xss : List (List Int)} (h : Small xss) {k c j : Nat} (hk : k < xss.length) (hj : j ≤ (gr xss k).length) : ∀ x ∈ rowW (gr xss k) c j, -1000 ≤ x ∧ x ≤ 1000 :=
  fun x hx => (h.rows _ (gr_mem hk)).2 x (rowW_mem _ _ hj hx)
theorem eqi_true {a b : Nat} (h : a = b) : ((a : Int) == (b : Int)) = true := by subst h; simp
theorem eqi_false {a b : Nat} (h : a ≠ b) : ((a : Int) == (b : Int)) = false := by simp; omega
theorem nei_true {a b : Nat} (h : a ≠ b) : ((a : Int) != (b : Int)) = true := by simp; omega
theorem nei_false {a b : Nat} (h : a = b) : ((a : Int) != (b : Int)) = false := by subst h; simp

set_option maxHeartbeats 1000000 in
theorem minor_any (A : Option Addr) (n c : Nat) (xss : List (List Int)) (r q : Nat) (w : World) (hx : IntRows w A n c xss) (hs : Small xss) (he : Even xss n) (hr : r ≤ 100) (hq : q ≤ 100) :
    Calls Try.prog 106 #[.slice A n c, .int .i64 r, .int .i64 q] w (NewT w (minW xss r q n n)) := by
  have HS := Lib.hid hs
  have HS0 := Lib.hid (TM.start w)
  have HE := Lib.hid he
  have hn8 := hs.n
  have HX := Lib.hid hx
  have LX := Lib.hid hx.len
  have hnx : n ≤ 8 := by rw [← hx.len]; exact hn8
  clear hx hs he
  go_enter Try.func106, Try.ntmps106
  go_wp2
  go_loopw [7, 8] (fun v i wr => ∃ (k : Nat) (vs : List Value), k ≤ n ∧ i = .int .i64 k ∧ Hid (TM w v vs (minW xss r q n k) wr)) (fun _ i _ => n - (intOf i).toNat)
  case atStart => exact ⟨0, [], Nat.zero_le _, rfl, HS0⟩
  case round =>
    clear HS0
    obtain ⟨k, vs, hk, rfl, HT⟩ := hrel
    obtain ⟨Av, cv, rfl⟩ := HT.out.bo.form
    by_cases hlt : k < n
    · by_cases hkr : k = r
      · have ht := eqi_true hkr
        have HR := Lib.hid hkr
        clear hkr
        go_wp2
        go_roundw
        case rel => exact ⟨k + 1, vs, by omega, by go_num, Lib.hid (by have := HR.out; subst this; rw [minW_at]; exact HT.out)⟩
        case measure => simp [intOf]; omega
      have ht := eqi_false hkr
      have HMS := Lib.hid (minW_ne (a := xss) (c := q) (n := n) hkr)
      clear hkr
      have HI := Lib.hid HT.out.row
      have hkx : k < xss.length := by rw [LX.out]; exact hlt
      have hrl : (gr xss k).length = n := HE.out k hkx
      have HRL := Lib.hid hrl
      clear HT hrl
      obtain ⟨b, o, rfl, hc⟩ := HX.out.at_ (by omega)
      have HC := Lib.hid (hc k hlt)
      clear hc
      go_wp2
      clear ht
      generalize wr.heap.size = N at *
      go_loopw [9, 10] (fun u i wi => ∃ (j : Nat), j ≤ n ∧ i = .int .i64 j ∧ Hid (TN w N (.slice Av (minW xss r q n k).length cv) vs (minW xss r q n k) u (rowW (gr xss k) q j) wi)) (fun _ i _ => n - (intOf i).toNat)
      case atStart => exact ⟨0, Nat.zero_le _, rfl, HI⟩
      case round =>
        clear HI
        obtain ⟨j, hj, rfl, HI⟩ := hrel
        obtain ⟨Au, cu, rfl⟩ := HI.out.bi.form
        by_cases hlm : j < n
        · by_cases hjq : j = q
          · have ht := nei_false hjq
            have HR := Lib.hid hjq
            clear hjq
            go_wp2
            go_roundw
            case rel => exact ⟨j + 1, by omega, by go_num, Lib.hid (by have := HR.out; subst this; rw [rowW_at]; exact HI.out)⟩
            case measure => simp [intOf]; omega
          have ht := nei_true hjq
          have HRS := Lib.hid (rowW_ne (xs := gr xss k) hjq)
          clear hjq
          obtain ⟨R, cc, c1, hR⟩ := HC.out
          have c2 := HI.out.up.cell (p := ⟨b, o + k, none⟩) (World.block_lt_of_cell? _ _ c1)
          rw [c1] at c2
          have hR2 := hR.keep (Keep.below HI.out.up)
          rw [HRL.out] at c1 c2 hR2
          obtain ⟨b', o', rfl, hc'⟩ := hR2.at_ (by omega)
          have c3 := hc' j hlm
          have hbd := HS.out.gi hkx (show j < (gr xss k).length by rw [HRL.out]; exact hlm)
          clear hc' hR hR2
          generalize hval : gi (gr xss k) j = x at *
          have HV := Lib.hid hval
          clear hval
          have hb := below_alloc wr (.cells #[iv x] 3)
          have HB4 := Lib.hid (HI.out.bi.below hb).own
          have HN := Lib.hid (cell_one_new wr (iv x) 3)
          have hHs := HI.out.hs
          have hlh := HI.out.lh
          have HML := Lib.hid (rowW_le (gr xss k) q j)
          generalize hys : rowW (gr xss k) q j = ys at *
          have HYS := Lib.hid hys
          clear hb hys
          obtain ⟨i0, hi0, hz0, hz1, hz2⟩ := info_parts Try.info_int
          go_wp2_with (at_builtin; refine wpList_append_own_at _ rfl _ _ 26 rfl N 3 i0 (.int .i64 0) 1 8 Try.underlying26 hi0 hz0 hz1 hz2 rfl (by decide) _ ys.length (ys.map iv) rfl HB4.out ⟨wr.heap.size, 0, none⟩ 1 1 [iv x] rfl rfl ?c1 ?c2 ?c3 ?c4 ?c5 ?_)
          case c1 => exact HN.out
          case c2 => intro u hu; simp at hu; subst hu; rfl
          case c3 => have := HML.out; unfold maxLen; omega
          case c4 => have := HML.out; omega
          case c5 => simp; omega
          intro v' w5 hown' hgrow _ hat
          have HI5 := Lib.hid (HI.out.push hown' hgrow (by simpa using hat))
          clear HB4 HN hown' hgrow hat HI
          go_wp2
          go_roundw
          case rel => exact ⟨j + 1, by omega, by go_num, Lib.hid (by rw [HRS.out]; exact HI5.out)⟩
          case measure => simp [intOf]; omega
        · obtain rfl : j = n := by omega
          have HBD := Lib.hid (HS.out.rowW_bd (c := q) hkx (Nat.le_of_eq HRL.out.symm))
          obtain ⟨Ar, nr, cr, gg, e, rfl, ho, _⟩ := HI.out.bi.owns (by have := rowW_le (gr xss k) q j; omega) (fun x hx => by have := HBD.out x hx; omega)
          injection e with e1 _ e3
          subst e1
          subst e3
          have HO := Lib.hid ho
          have HML := Lib.hid (rowW_le (gr xss k) q j)
          have HTL := Lib.hid (minW_le xss r q j k)
          have hb := below_alloc wr (.cells #[.slice Au (rowW (gr xss k) q j).length cu] 26)
          have HB4 := Lib.hid (HI.out.bo.below hb).own
          have HN := Lib.hid (cell_one_new wr (.slice Au (rowW (gr xss k) q j).length cu) 26)
          have hHs := HI.out.hs
          have hlh := HI.out.lh
          clear hb ho HBD HC
          generalize rowW (gr xss k) q j = ys at *
          generalize minW xss r q j k = ms at *
          obtain ⟨i0, hi0, hz0, hz1, hz2⟩ := info_parts Try.info_row
          go_wp2_with (at_builtin; refine wpList_append_own_at _ rfl _ _ 23 rfl w.heap.size 26 i0 (.slice none 0 0) 1 24 Try.underlying23 hi0 hz0 hz1 hz2 rfl (by decide) _ ms.length vs rfl HB4.out ⟨wr.heap.size, 0, none⟩ 1 1 [.slice Au ys.length cu] rfl rfl ?d1 ?d2 ?d3 ?d4 ?d5 ?_)
          case d2 => rfl
          case d3 => have := HTL.out; unfold maxLen; omega
          case d4 => have := HTL.out; omega
          case d5 => omega
          intro v' w5 hown' hgrow _ hat
          have HT5 := Lib.hid (HI.out.done HO.out hown' hgrow (by simpa using hat))
          clear HB4 HN hown' hgrow hat HI HO
          go_wp2
          go_roundw
          case rel => exact ⟨k + 1, _, by omega, by go_num, Lib.hid (by rw [HMS.out]; exact HT5.out)⟩
          case measure => simp [intOf]; omega
    · obtain rfl : k = n := by omega
      obtain ⟨A', n', c', gg, e, hn', hown⟩ := HT.out.bo.owns (by have := minW_le xss r q k k; omega)
      injection e with e1 e2 e3
      subst e1
      subst e2
      subst e3
      have HO := Lib.hid hown
      have HB := Lib.hid HT.out.up
      clear hown HT
      go_wp2
      go_ret
      exact ⟨_, _, _, gg, rfl, rfl, HO.out, HB.out⟩
end Go.Proofs.Ytoekpbcdgmejcaa

/- The determinant of a square, by the model. -/
namespace Go.Proofs.Ytoekpbcdgmejcaa
open Go.RowKit
open V (sumN detN rowC colC cofN minorN skip sgn)

theorem sgn_succ (j : Nat) : sgn (j + 1) = - sgn j := by unfold sgn; split <;> split <;> omega
theorem Sq.small {k : Nat} {xss : List (List Int)} {f : Nat → Nat → Int} (h : Sq k xss f) (hk : k ≤ 3) (ha : Ab k f) : Small xss := by
  refine ⟨by have := h.len; omega, fun r hr => ?_⟩
  obtain ⟨p, hp, rfl⟩ := List.mem_iff_getElem.1 hr
  rw [← gr_get hp]
  have hpk : p < k := by have := h.len; omega
  have hl := h.row p hpk
  refine ⟨by omega, fun x hx => ?_⟩
  obtain ⟨q, hq, rfl⟩ := List.mem_iff_getElem.1 hx
  rw [← gi_get hq]
  have := h.eq p q hpk (by omega)
  unfold g2 at this
  have := ha p q hpk (by omega)
  omega
theorem Sq.even {k : Nat} {xss : List (List Int)} {f : Nat → Nat → Int} (h : Sq k xss f) : Even xss k := fun p hp => h.row p (by rw [← h.len]; exact hp)
theorem wrapIn {x : Int} (h : -1000000000000000 ≤ x ∧ x ≤ 1000000000000000) : IntKind.i64.wrap x = x := wrap_in64 ⟨by omega, by omega⟩

set_option maxRecDepth 100000 in
set_option maxHeartbeats 2000000 in
theorem det_any : ∀ (n : Nat), n ≤ 3 → ∀ (A : Option Addr) (c : Nat) (xss : List (List Int)) (f : Nat → Nat → Int) (w : World), IntRows w A n c xss → Sq n xss f → Ab n f →
    Calls Try.prog 105 #[.slice A n c] w (Ret (.int .i64 (detN n f)) w) := by
  intro n
  induction n with
  | zero =>
    intro _ A c xss f w hx hq ha
    clear hx hq ha
    go_enter Try.func105, Try.ntmps105
    go_wp2
    go_ret
    exact ⟨rfl, Below.refl _ _⟩
  | succ k ih =>
    intro hk3 A c xss f w hx hq ha
    have IH := Lib.hid ih
    have HX := Lib.hid hx
    have HQ := Lib.hid hq
    have HAB := Lib.hid ha
    have HSM := Lib.hid (hq.small hk3 ha)
    obtain ⟨b, o, rfl, hc⟩ := hx.at_ (by omega)
    obtain ⟨R, cc, c1, hR⟩ := hc 0 (by omega)
    rw [hq.row 0 (by omega)] at c1 hR
    obtain ⟨b', o', rfl, hc'⟩ := hR.at_ (by omega)
    simp only [Nat.add_zero] at c1
    have HC1 := Lib.hid c1
    have HC' := Lib.hid hc'
    clear hx hq ha hc hR hc' c1 ih
    have HKN : Hid (k + 1 = k + 1) := Lib.hid rfl
    have HL := Lib.hid (detS_all k f)
    generalize hkn : k + 1 = n at hk3 HX HQ HAB HSM HC1 HC' HL HKN ⊢
    have HN := Lib.hid hkn
    have hn0 : 0 < n := by omega
    clear hkn HKN
    have hn0' : (0 : Int) < (n : Int) := by omega
    have hnz : ((n : Int) == 0) = false := by simp; omega
    go_enter Try.func105, Try.ntmps105
    go_wp2
    go_loopw [3, 4, 5] (fun s g i wr => ∃ j : Nat, j ≤ n ∧ i = .int .i64 j ∧ g = .int .i64 (sgn j) ∧ s = .int .i64 (detS k f j) ∧ Hid (Below w.heap.size w wr)) (fun _ _ i _ => n - (intOf i).toNat)
    case atStart => exact ⟨0, Nat.zero_le _, rfl, rfl, rfl, Lib.hid (Below.refl _ _)⟩
    case round =>
      obtain ⟨j, hj, rfl, rfl, rfl, HB⟩ := hrel
      by_cases hlt : j < n
      · have c2 := Keep.below HB.out _ _ HC1.out
        have c3 := Keep.below HB.out _ _ (HC'.out j hlt)
        have HK2 := Lib.hid c2
        have HK3 := Lib.hid c3
        obtain ⟨g1, g2⟩ := sgn_bd j
        have hsx : Hid (gi (gr xss 0) j = f 0 j) := Lib.hid (HQ.out.eq 0 j hn0 hlt)
        have HAB' : Hid (Ab (k + 1) f) := Lib.hid (by rw [HN.out]; exact HAB.out)
        have HD := Lib.hid (det_small (k := k) (f := minorN f 0 j) (by have := HN.out; omega) (HAB'.out.minor 0 j))
        have HT := Lib.hid (term_bd HAB'.out (j := j) (by have := HN.out; omega) HD.out)
        have HSB := Lib.hid (detS_bd (k := k) (by have := HN.out; omega) HAB'.out (j := j) (by have := HN.out; omega))
        have hxb := HAB.out 0 j hn0 hlt
        have HMB := Lib.hid (mulbd ⟨g1, g2⟩ hxb)
        rw [← hsx.out] at hxb HT HMB
        have HSS := Lib.hid (detS_succ k f j)
        rw [← hsx.out] at HSS
        generalize gi (gr xss 0) j = x at *
        have HMI : Hid (Sq k (minW xss 0 j n n) (minorN f 0 j)) := Lib.hid (by have h := HQ.out; rw [← HN.out] at h ⊢; exact h.minor (by omega) (by have := HN.out; omega))
        have HSG := Lib.hid (sgn_succ j)
        generalize hd : detN k (minorN f 0 j) = d at *
        have HDD := Lib.hid hd
        have HMS : Hid (sgn j * (x * d) = sgn j * x * d) := Lib.hid (Int.mul_assoc _ _ _).symm
        generalize hs0 : sgn j = s at *
        have HS0 := Lib.hid hs0
        generalize hS : detS k f j = S at *
        have HSE := Lib.hid hS
        clear hd hs0 hS
        have HW : Hid (IntKind.i64.wrap (S + IntKind.i64.wrap (IntKind.i64.wrap (s * x) * d)) = S + s * (x * d)) := Lib.hid (by
          have h1 := HMB.out
          have h2 := HT.out
          have h3 := HSB.out
          have h4 := HMS.out
          rw [wrapIn (x := s * x) (by omega), wrapIn (x := s * x * d) (by rw [← h4]; omega), ← h4, wrapIn (by omega)])
        go_wp2
        go_region_held3 (fun W => W.cell? ⟨b, o, none⟩ = some (.slice (some ⟨b', o', none⟩) n cc) ∧ W.cell? ⟨b', o' + j, none⟩ = some (.int .i64 x)) (first | exact HKK.out | exact HKL.out | exact And.intro HK2.out HK3.out | go_keep)
          (first
          | (go_at_call 106; refine (minor_any _ n c xss 0 j _ (HX.out.keep (Keep.below HB.out.drew)) HSM.out HQ.out.even (by omega) (by omega)).mono ?_; rintro e w8 ⟨A2, n2, c2', g2', rfl, hn2, ho, hb⟩; have HB8 := Lib.hid (below_up HB.out.drew hb); have HO := Lib.hid ho.rows; have HKK := Lib.hid (And.intro (Keep.below hb _ _ HK2.out) (Keep.below hb _ _ HK3.out)); obtain rfl : n2 = k := (hn2.trans (HMI.out.len)); clear hn2 ho hb HB)
          | (go_at_call 105; refine (HDD.out ▸ IH.out (by have := HN.out; omega) _ _ _ (minorN f 0 j) _ HO.out HMI.out (HAB'.out.minor 0 j)).mono ?_; rintro e w9 ⟨rfl, hb⟩; have HB9 := Lib.hid (below_up HB8.out hb); have HKL := Lib.hid (And.intro (Keep.below hb _ _ HKK.out.1) (Keep.below hb _ _ HKK.out.2)); clear HKK hb HB8 HO))
        all_goals
          go_wp2
          go_roundw
          case rel => exact ⟨j + 1, by omega, by go_num, by rw [HSG.out], by rw [HW.out, HSS.out], HB9⟩
          case measure => simp [intOf]; omega
      · obtain rfl : j = n := by omega
        go_wp2
        go_ret
        exact ⟨ret_int HL.out, HB.out⟩
end Go.Proofs.Ytoekpbcdgmejcaa

/- Slices of ints under way; the sums of cofactors of each row of a square, by the model. -/
namespace Go.Proofs.Ytoekpbcdgmejcaa
open Go.RowKit
open V (sumN detN rowC colC cofN minorN skip sgn)

/-- Ints under way: a slice made by append, alone. -/
structure IU (wb : World) (v : Value) (ys : List Int) (w : World) : Prop where
  bi : BldI wb.heap.size w.heap.size w v ys
  up : Below wb.heap.size wb w
theorem IU.start (wb : World) : IU wb (.slice (some ⟨wb.heap.size, 0, none⟩) 0 0) [] (wb.alloc (.cells #[] 3)) :=
  ⟨by rw [World.size_alloc]; exact BldI.make (Nat.le_refl _), below_alloc _ _⟩
theorem IU.nil (wb : World) : IU wb (.slice none 0 0) [] wb := ⟨BldI.nil _ _ _, Below.refl _ _⟩
theorem IU.next {wb v ys w w'} (h : IU wb v ys w) (k : Below w.heap.size w w') : IU wb v ys w' := ⟨(h.bi.below k).mono k.size, below_up h.up k⟩
theorem IU.push {wb v v' ys w w' x} (h : IU wb v ys w) (hown : w'.ownsRow wb.heap.size 3 1 v' (ys.length + 1) (ys.map iv ++ [iv x]))
    (hgrow : (w.alloc (.cells #[iv x] 3)).grownBy w' v.ownBlock) (hat : v'.ownBlock = v.ownBlock ∨ v'.ownBlock = some (w.heap.size + 1)) : IU wb v' (ys ++ [x]) w' := by
  have hsz := hgrow.size
  simp only [World.size_alloc] at hsz
  have hu : ∀ k, v.ownBlock = some k → wb.heap.size ≤ k := fun k hk => (h.bi.own.lt k hk).1
  have hbelow : ∀ k, k < wb.heap.size → w'.heap[k]? = w.heap[k]? := fun k hk => by
    have := h.up.size
    exact (hgrow.block k (by simp; omega) (fun e => by have := hu k e.symm; omega)).trans (Below.heap_alloc _ _ _ (by omega))
  refine ⟨⟨by rw [List.length_append, List.length_singleton, List.map_append]; exact hown, fun k hk => ?_⟩, ?_⟩
  · rcases hat with hat | hat
    · have := h.bi.hi_ k (by rw [← hat]; exact hk); omega
    · have := (hown.lt k hk).2; omega
  · exact ⟨hgrow.os.trans h.up.os, hgrow.tape.trans h.up.tape, hgrow.output.trans h.up.output, by have := h.up.size; omega, fun k hk => (hbelow k hk).trans (h.up.block k hk)⟩
/-- A new slice of ints. -/
def NewI (w : World) (ys : List Int) (e : Ending) (w' : World) : Prop :=
  ∃ Av n c gg, e = .returned (.slice Av n c) ∧ n = ys.length ∧ OwnI w.heap.size w'.heap.size w' gg Av n c ys ∧ Below w.heap.size w w'
theorem IU.new {wb ys w} {A : Option Addr} {c : Nat} (h : IU wb (.slice A ys.length c) ys w) (hm : ys.length ≤ 100) (hb : ∀ y ∈ ys, -1000000000000000 ≤ y ∧ y ≤ 1000000000000000) :
    NewI wb ys (.returned (.slice A ys.length c)) w := by
  obtain ⟨A', n', c', g, e, hn, ho, _⟩ := h.bi.owns (by omega) (fun t ht => by have := hb t ht; omega)
  injection e with e1 e2 e3
  subst e1
  subst e2
  subst e3
  exact ⟨_, _, _, g, rfl, rfl, ho, h.up⟩

theorem Sq.minor' {n : Nat} {xss : List (List Int)} {f : Nat → Nat → Int} (h : Sq n xss f) {r c : Nat} (hr : r < n) (hc : c < n) : Sq (n - 1) (minW xss r c n n) (minorN f r c) := by
  obtain ⟨l, rfl⟩ : ∃ l, n = l + 1 := ⟨n - 1, by omega⟩
  exact h.minor (by omega) (by omega)
theorem Ab.minor' {n : Nat} {f : Nat → Nat → Int} (h : Ab n f) (hn : 0 < n) (r c : Nat) : Ab (n - 1) (minorN f r c) := by
  obtain ⟨l, rfl⟩ : ∃ l, n = l + 1 := ⟨n - 1, by omega⟩
  exact h.minor r c
/-- The sums of cofactors of the first i rows. -/
def cofL (k : Nat) (f : Nat → Nat → Int) (i : Nat) : List Int := (List.range i).map (rowC k f)
theorem cofL_succ (k : Nat) (f : Nat → Nat → Int) (i : Nat) : cofL k f (i + 1) = cofL k f i ++ [rowC k f i] := by simp [cofL, List.range_succ]
theorem cofL_len (k : Nat) (f : Nat → Nat → Int) (i : Nat) : (cofL k f i).length = i := by simp [cofL]
theorem cofL_bd {k : Nat} {f : Nat → Nat → Int} (hk : k ≤ 3) (h : Ab k f) {i : Nat} (hi : i ≤ k) : ∀ x ∈ cofL k f i, -1000000 ≤ x ∧ x ≤ 1000000 := fun x hx => by
  obtain ⟨j, hj, rfl⟩ := List.mem_map.1 hx
  have := List.mem_range.1 hj
  exact cofS_bd hk h (by omega) (Nat.le_refl k)

theorem cofS_odd {k : Nat} {f : Nat → Nat → Int} {i j : Nat} (h : (i + j) % 2 = 1) : cofS k f i (j + 1) = cofS k f i j + -(detN (k - 1) (minorN f i j)) := by
  rw [cofS_succ, cofN, sgn, if_pos h]; omega
theorem cofS_even {k : Nat} {f : Nat → Nat → Int} {i j : Nat} (h : ¬ (i + j) % 2 = 1) : cofS k f i (j + 1) = cofS k f i j + detN (k - 1) (minorN f i j) := by
  rw [cofS_succ, cofN, sgn, if_neg h]; omega

end Go.Proofs.Ytoekpbcdgmejcaa

/- Members of sets, by the model. -/
namespace Go.Proofs.Ytoekpbcdgmejcaa
open Go.RowKit

theorem div_pow_succ (x i : Nat) : x / 2 ^ (i + 1) = x / 2 ^ i / 2 := by rw [Nat.pow_succ, Nat.div_div_eq_div_mul]
set_option maxHeartbeats 400000 in
theorem bit_any (x j : Nat) (w : World) (hx : x ≤ 1000) (hj : j ≤ 1000) : Calls Try.prog 104 #[.int .i64 x, .int .i64 j] w fun e w' => e = .returned (.int .i64 ((x / 2 ^ j % 2 : Nat) : Int)) ∧ w = w' := by
  go_enter Try.func104, Try.ntmps104
  go_wp2
  go_loop [0, 1] (fun s t => ∃ i k : Nat, i + k = j ∧ t = .int .i64 k ∧ s = .int .i64 ((x / 2 ^ i : Nat) : Int)) (fun _ t => (intOf t).toNat)
  case atStart => exact ⟨0, j, by omega, rfl, by simp⟩
  case round =>
    obtain ⟨i, k, hik, rfl, rfl⟩ := hrel
    have hb : x / 2 ^ i ≤ 1000 := Nat.le_trans (Nat.div_le_self _ _) hx
    have HS := Lib.hid (div_pow_succ x i)
    have hk1 : k ≤ 1000 := by omega
    have HI := Lib.hid hik
    generalize hy : x / 2 ^ i = y at *
    have HY := Lib.hid hy
    clear hy hik
    by_cases hk : 0 < k
    · have hk' : (0 : Int) < (k : Int) := by omega
      go_wp2
      go_round
      case rel => exact ⟨i + 1, k - 1, by have := HI.out; omega, by go_num, by rw [HS.out]; go_num⟩
      case measure => simp [intOf]; omega
    · obtain rfl : k = 0 := by omega
      go_wp2
      go_ret
      exact ⟨ret_int (by
        have h1 := HI.out
        have h2 := HY.out
        obtain rfl : j = i := by omega
        have h3 : ((x / 2 ^ j % 2 : Nat) : Int) = ((y : Nat) : Int) % 2 := by rw [h2]; omega
        first | exact h3.symm | (rw [← h3]; simp)), rfl⟩

theorem memb_bd (s j : Nat) (hj : j ≤ 100) : ∀ y ∈ memL s j, -1000000000000000 ≤ y ∧ y ≤ 1000000000000000 := fun y hy => by have := memL_bd s j y hy; omega
set_option maxHeartbeats 1000000 in
theorem members_any (s n : Nat) (w : World) (hs : s ≤ 1000) (hn : n ≤ 100) : Calls Try.prog 98 #[.int .i64 s, .int .i64 n] w (NewI w (memL s n)) := by
  have HS0 := Lib.hid (IU.start w)
  go_enter Try.func98, Try.ntmps98
  go_wp2
  go_loopw [5, 6] (fun v i wr => ∃ k : Nat, k ≤ n ∧ i = .int .i64 k ∧ Hid (IU w v (memL s k) wr)) (fun _ i _ => n - (intOf i).toNat)
  case atStart => exact ⟨0, Nat.zero_le _, rfl, HS0⟩
  case round =>
    clear HS0
    obtain ⟨k, hk, rfl, HI⟩ := hrel
    obtain ⟨Av, cv, rfl⟩ := HI.out.bi.form
    by_cases hlt : k < n
    · have HB := Lib.hid (bit_any s k wr hs (by omega))
      by_cases hp : s / 2 ^ k % 2 = 1
      · have HCS := Lib.hid (memL_yes hp)
        have HML := Lib.hid (memL_le s k)
        rw [hp] at HB
        clear hp
        have hb := below_alloc wr (.cells #[iv (k : Int)] 3)
        have HB4 := Lib.hid (HI.out.bi.below hb).own
        have HN := Lib.hid (cell_one_new wr (iv (k : Int)) 3)
        have hwz := HI.out.up.size
        clear hb
        generalize memL s k = ys at *
        obtain ⟨i0, hi0, hz0, hz1, hz2⟩ := info_parts Try.info_int
        go_wp2_with fail
        refine HB.out.mono ?_
        rintro e w1 ⟨rfl, rfl⟩
        go_wp2_with (at_builtin; refine wpList_append_own_at _ rfl _ _ 26 rfl w.heap.size 3 i0 (.int .i64 0) 1 8 Try.underlying26 hi0 hz0 hz1 hz2 rfl (by decide) _ ys.length (ys.map iv) rfl HB4.out ⟨wr.heap.size, 0, none⟩ 1 1 [iv (k : Int)] rfl rfl ?c1 ?c2 ?c3 ?c4 ?c5 ?_)
        case c1 => exact HN.out
        case c2 => intro u hu; simp at hu; subst hu; rfl
        case c3 => have := HML.out; unfold maxLen; omega
        case c4 => have := HML.out; omega
        case c5 => simp; omega
        intro v' w5 hown' hgrow _ hat
        have HI5 := Lib.hid (HI.out.push hown' hgrow (by simpa using hat))
        clear HB4 HN hown' hgrow hat HI
        go_wp2
        go_roundw
        case rel => exact ⟨k + 1, by omega, by go_num, Lib.hid (by rw [HCS.out]; exact HI5.out)⟩
        case measure => simp [intOf]; omega
      · have HCS := Lib.hid (memL_no hp)
        have hp0 : s / 2 ^ k % 2 = 0 := by omega
        rw [hp0] at HB
        clear hp hp0
        go_wp2_with fail
        refine HB.out.mono ?_
        rintro e w1 ⟨rfl, rfl⟩
        go_wp2
        go_roundw
        case rel => exact ⟨k + 1, by omega, by go_num, Lib.hid (by rw [HCS.out]; exact HI.out)⟩
        case measure => simp [intOf]; omega
    · obtain rfl : k = n := by omega
      have HNW := Lib.hid (HI.out.new (by have := memL_le s k; omega) (memb_bd s k (by omega)))
      go_wp2
      go_ret
      exact HNW.out
end Go.Proofs.Ytoekpbcdgmejcaa

/- Some rows and columns of a table, by the model. -/
namespace Go.Proofs.Ytoekpbcdgmejcaa
open Go.RowKit

/-- One number more, appended in a region that draws its order. -/
theorem IU.push2 {wb v ys w w2 w1 x} {gg cap : Nat} (h : IU wb v ys w) (hb : Below w.heap.size w w2)
    (hown : w1.ownsRow wb.heap.size 3 1 (.slice (some ⟨gg, 0, none⟩) (ys.length + 1) cap) (ys.length + 1) (ys.map iv ++ [iv x])) (hgrow : w2.grownBy w1 v.ownBlock) (hlt : gg < w1.heap.size) :
    IU wb (.slice (some ⟨gg, 0, none⟩) (ys.length + 1) cap) (ys ++ [x]) w1 := by
  have hu : ∀ k, v.ownBlock = some k → wb.heap.size ≤ k := fun k hk => (h.bi.own.lt k hk).1
  have hz := h.up.size
  have hz2 := hb.size
  refine ⟨⟨by rw [List.length_append, List.length_singleton, List.map_append]; exact hown, fun k hk => ?_⟩, ?_⟩
  · have : gg = k := by simpa [Value.ownBlock] using hk
    omega
  · exact (below_up h.up hb).grown hgrow (by omega) fun k hk => hu k hk
theorem TN.push2 {wb H v vs xss u ys w w2 w1 x} {gg cap : Nat} (h : TN wb H v vs xss u ys w) (hb : Below w.heap.size w w2)
    (hown : w1.ownsRow H 3 1 (.slice (some ⟨gg, 0, none⟩) (ys.length + 1) cap) (ys.length + 1) (ys.map iv ++ [iv x])) (hgrow : w2.grownBy w1 u.ownBlock) (hlt : gg < w1.heap.size) :
    TN wb H v vs xss (.slice (some ⟨gg, 0, none⟩) (ys.length + 1) cap) (ys ++ [x]) w1 := by
  have hu : ∀ k, u.ownBlock = some k → H ≤ k := fun k hk => (h.bi.own.lt k hk).1
  have hz := h.up.size
  have hz2 := hb.size
  have hlh := h.lh
  have hhs := h.hs
  have hsz := hgrow.size
  have hbelow : ∀ k, k < H → w1.heap[k]? = w.heap[k]? := fun k hk =>
    (hgrow.block k (by omega) (fun e => by have := hu k e.symm; omega)).trans (hb.block k (by omega))
  refine ⟨h.bo.of_blocks fun k _ hk _ => hbelow k hk, ⟨by rw [List.length_append, List.length_singleton, List.map_append]; exact hown, fun k hk => ?_⟩, hlh, by omega, ?_⟩
  · have : gg = k := by simpa [Value.ownBlock] using hk
    omega
  · exact (below_up h.up hb).grown hgrow (by omega) fun k hk => by have := hu k hk; omega
theorem IU.qu {wb v ys w w'} (h : IU wb v ys w) (k : Quiet w w') : IU wb v ys w' := h.next k.below
theorem TN.next {wb H v vs xss u ys w w'} (h : TN wb H v vs xss u ys w) (k : Below w.heap.size w w') : TN wb H v vs xss u ys w' := by
  have hhs := h.hs
  have hz := k.size
  exact ⟨h.bo.of_blocks fun g _ hg _ => k.block g (by omega), (h.bi.below k).mono k.size, h.lh, by omega, below_up h.up k⟩
theorem TN.qu {wb H v vs xss u ys w w'} (h : TN wb H v vs xss u ys w) (k : Quiet w w') : TN wb H v vs xss u ys w' := h.next k.below

/-- Places of a table in a list. -/
structure Pl (w : World) (X : Option Addr) (k c : Nat) (r : Nat → Nat) (n : Nat) : Prop where
  ints : Ints w X k c (lstN r k)
  lt : ∀ p, p < k → r p < n

end Go.Proofs.Ytoekpbcdgmejcaa

