/- Texts merged: Turn R10 R11 T1 Math3 Math4 Math5 Simplex Math6 Math7 Math8 V1 S1 S2 S3 S4 V2 V3 LO1 LO2 C9 E9. -/
import Derived.Test.YtjmfkodbilknlaaQ2
import Derived.Deep.LoopGhost
/- A table turned, by the program: make, make, store. -/
namespace Go.Proofs.Ytjmfkodbilknlaa
open Go.RowKit

def flip (a : List (List Int)) (n m : Nat) : List (List Int) := (List.range m).map fun j => (List.range n).map fun i => g2 a i j
theorem gr_flip {a : List (List Int)} {n m j : Nat} (h : j < m) : gr (flip a n m) j = (List.range n).map fun i => g2 a i j := by
  rw [gr_get (by simpa [flip] using h)]; simp [flip]
theorem gi_col {a : List (List Int)} {n i j : Nat} (h : i < n) : gi ((List.range n).map fun i => g2 a i j) i = g2 a i j := by
  rw [gi_get (by simpa using h)]; simp

def ttop (B n c : Nat) : Nat → Value := fun j => if j < c then .slice (some ⟨B + 1 + j, 0, none⟩) n n else .slice none 0 0
structure TurnO (w wr : World) (n m c : Nat) (xs : List (List Int)) : Prop where
  below : Below w.heap.size w wr
  size : wr.heap.size = w.heap.size + 1 + c
  top : wr.rowIs w.heap.size 36 m (ttop w.heap.size n c)
  done : ∀ j, j < c → wr.rowIs (w.heap.size + 1 + j) 3 n (fun i => .int .i64 (g2 xs i j))
structure TurnI (w wi : World) (n m c r : Nat) (xs : List (List Int)) : Prop where
  below : Below w.heap.size w wi
  size : wi.heap.size = w.heap.size + 1 + c + 1
  top : wi.rowIs w.heap.size 36 m (ttop w.heap.size n (c + 1))
  done : ∀ j, j < c → wi.rowIs (w.heap.size + 1 + j) 3 n (fun i => .int .i64 (g2 xs i j))
  cur : wi.rowIs (w.heap.size + 1 + c) 3 n (fun i => if i < r then .int .i64 (g2 xs i c) else .int .i64 0)
theorem turnO_start (w : World) (n m : Nat) (xs : List (List Int)) : TurnO w (w.alloc (.cells (madeCells #[.slice none 0 0] m) 36)) n m 0 xs :=
  ⟨below_alloc _ _, by simp, (World.rowIs_made w _ m 36).congr (fun j _ => by simp [ttop]), fun j hj => absurd hj (Nat.not_lt_zero _)⟩
theorem turnI_start {w wr : World} {n m c : Nat} {xs : List (List Int)} (h : TurnO w wr n m c xs) :
    TurnI w ((wr.alloc (.cells (madeCells #[.int .i64 0] n) 3)).setCell ⟨w.heap.size, c, none⟩ (.slice (some ⟨wr.heap.size, 0, none⟩) n n)) n m c 0 xs := by
  have hnew := World.rowIs_made wr (.int .i64 0) n 3
  have hs := h.size
  rw [hs] at hnew ⊢
  refine ⟨(h.below.alloc (by rw [hs]; omega) _).setCell (Nat.le_refl _) _, by simp [hs], ((h.top.alloc _).set c _).congr (fun j _ => ?_), fun j hj => ((h.done j hj).alloc _).setOther (by show w.heap.size + 1 + j ≠ w.heap.size; omega) _,
    (hnew.setOther (by show w.heap.size + 1 + c ≠ w.heap.size; omega) _).congr (fun i _ => by simp)⟩
  unfold ttop
  by_cases e : j = c
  · subst e; simp
  · rw [if_neg e]
    by_cases hlt : j < c
    · rw [if_pos hlt, if_pos (by omega)]
    · rw [if_neg hlt, if_neg (by omega)]
theorem turnI_step {w wi wd : World} {n m c r : Nat} {xs : List (List Int)} (h : TurnI w wi n m c r xs) (hq : Quiet wi wd) :
    TurnI w (wd.setCell ⟨w.heap.size + 1 + c, r, none⟩ (.int .i64 (g2 xs r c))) n m c (r + 1) xs := by
  obtain ⟨q, rfl⟩ := hq
  have hs := h.size
  refine ⟨(below_drewN h.below q).setCell (by show w.heap.size ≤ w.heap.size + 1 + c; omega) _, by simp [World.setCell]; exact hs, (World.rowIs.setOther (w := wi.drewN q) h.top (by show w.heap.size ≠ w.heap.size + 1 + c; omega) _),
    fun j hj => (World.rowIs.setOther (w := wi.drewN q) (h.done j hj) (by show w.heap.size + 1 + j ≠ w.heap.size + 1 + c; omega) _), (World.rowIs.set (w := wi.drewN q) h.cur r _).congr (fun i _ => ?_)⟩
  by_cases e : i = r
  · subst e; simp
  · rw [if_neg e]
    by_cases hlt : i < r
    · rw [if_pos hlt, if_pos (by omega)]
    · rw [if_neg hlt, if_neg (by omega)]
theorem TurnI.drew {w wi : World} {n m c r : Nat} {xs : List (List Int)} (h : TurnI w wi n m c r xs) : TurnI w wi.drew n m c r xs :=
  ⟨h.below.drew, h.size, h.top.drew, fun j hj => (h.done j hj).drew, h.cur.drew⟩
theorem turnI_done {w wi : World} {n m c : Nat} {xs : List (List Int)} (h : TurnI w wi n m c n xs) : TurnO w wi n m (c + 1) xs :=
  ⟨h.below, by rw [h.size]; omega, h.top, fun j hj => by
    by_cases e : j = c
    · subst e
      exact h.cur.congr (fun i hi => by rw [if_pos hi])
    · exact h.done j (by omega)⟩
theorem turnO_own {w wr : World} {n m : Nat} {xs : List (List Int)} (h : TurnO w wr n m m xs) (hn : n ≤ 3) (hm : m ≤ 3) (hbd : ∀ i j, i < n → j < m → -9 ≤ g2 xs i j ∧ g2 xs i j ≤ 9) :
    OwnR w.heap.size wr.heap.size wr w.heap.size (some ⟨w.heap.size, 0, none⟩) m m (flip xs n m) := by
  have hs := h.size
  refine ⟨by simp [flip], Nat.le_refl _, by omega, fun _ => ⟨0, fun k => w.heap.size + 1 + k, fun k => some ⟨w.heap.size + 1 + k, 0, none⟩, fun _ => n, rfl, Nat.le_refl _, h.top.lt, fun k hk => ?_, fun j k hj _ _ _ => by show w.heap.size + 1 + j ≠ w.heap.size + 1 + k; omega⟩⟩
  have hl : ((List.range n).map fun i => g2 xs i k).length = n := by simp
  rw [gr_flip hk, hl]
  refine ⟨by rw [Nat.zero_add]; exact h.top.frozen k, by rw [Nat.zero_add, h.top.cell hk, ttop, if_pos hk], OwnI.of_rowIs hl (by omega) ?_ (by show w.heap.size ≤ w.heap.size + 1 + k; omega) (by show w.heap.size + 1 + k < _; omega) (h.done k hk) (fun i hi => by rw [gi_col hi]), fun _ => by show w.heap.size + 1 + k ≠ w.heap.size; omega⟩
  intro x hx
  obtain ⟨i, hi, rfl⟩ := List.mem_map.1 hx
  have := hbd i k (List.mem_range.1 hi) hk
  omega

def MadeT (w : World) (n m : Nat) (xs : List (List Int)) (e : Ending) (w' : World) : Prop :=
  e = .returned (.slice (some ⟨w.heap.size, 0, none⟩) m m) ∧ OwnR w.heap.size w'.heap.size w' w.heap.size (some ⟨w.heap.size, 0, none⟩) m m (flip xs n m) ∧ Below w.heap.size w w' ∧ w.heap.size < w'.heap.size

set_option maxHeartbeats 1000000 in
theorem turned_any (b o : Nat) (rb ro cc : Nat → Nat) (n m c : Nat) (xs : List (List Int)) (w : World) (h : Tab w b o rb ro cc n m xs) :
    Calls Try.prog 63 #[.slice (some ⟨b, o, none⟩) n c] w (MadeT w n m xs) := by
  have HT := Lib.hid h
  have hn3 := h.n3
  have hn1 := h.n1
  have hm3 := h.m3
  have r0 := h.row 0 (by omega)
  simp only [Nat.add_zero] at r0
  clear h
  have hmk := run_make_row' (P := Try.prog) 22 36 (.slice none 0 0) 24 Try.underlying22 Try.info36 rfl .i64 .i64 m (by omega) (by omega)
  go_enter Try.func63, Try.ntmps63
  go_wp2
  clear hmk
  go_loopw [13] (fun s wr => ∃ k : Nat, k ≤ m ∧ s = .int .i64 k ∧ Hid (TurnO w wr n m k xs)) (fun s _ => m - (intOf s).toNat)
  case atStart => exact ⟨0, Nat.zero_le _, rfl, Lib.hid (turnO_start w n m xs)⟩
  case round =>
    obtain ⟨k, hk, rfl, HO⟩ := hrel
    by_cases hlt : k < m
    · have hmk2 := run_make_row' (P := Try.prog) 36 3 (.int .i64 0) 8 Try.underlying36 Try.info3 rfl .i64 .i64 n (by omega) (by omega)
      have c1 := (HO.out.top.alloc (.cells (madeCells #[.int .i64 0] n) 3)).cell hlt
      simp only [ttop, if_neg (Nat.lt_irrefl k)] at c1
      have c2 := (HO.out.top.alloc (.cells (madeCells #[.int .i64 0] n) 3)).frozen k
      have HI := Lib.hid (turnI_start HO.out)
      clear HO
      go_wp2
      clear hmk2 c1 c2
      go_loopw [24] (fun s wi => ∃ r : Nat, r ≤ n ∧ s = .int .i64 r ∧ Hid (TurnI w wi n m k r xs)) (fun s _ => n - (intOf s).toNat)
      case atStart => exact ⟨0, Nat.zero_le _, rfl, HI⟩
      case round =>
        clear HI
        obtain ⟨r, hr, rfl, HI⟩ := hrel
        by_cases hrn : r < n
        · have c1 := HI.out.top.cell hlt
          simp only [ttop, if_pos (Nat.lt_succ_self k)] at c1
          have hsrc := (HT.out.keep (Keep.below HI.out.below)).row r hrn
          have hel := (HT.out.keep (Keep.below HI.out.below)).cell r k hrn hlt
          have c3 := HI.out.cur.cell hrn
          simp only [if_neg (Nat.lt_irrefl r)] at c3
          have c4 := HI.out.cur.frozen r
          have HN := Lib.hid ((turnI_step HI.out (Quiet.refl _)).drew)
          go_wp2
          go_region
          all_goals
            clear c1 hsrc hel c3 c4 HI
            go_wp2
            go_roundw
            case rel => exact ⟨r + 1, by omega, by go_num, HN⟩
            case measure => simp [intOf]; omega
        · go_wp2
          go_roundw
          case rel => exact ⟨k + 1, by omega, by go_num, Lib.hid (turnI_done (by have h := HI.out; rw [show r = n by omega] at h; exact h))⟩
          case measure => simp [intOf]; omega
    · go_wp2
      go_ret
      obtain rfl : k = m := by omega
      exact ⟨rfl, turnO_own HO.out hn3 hm3 HT.out.bd, HO.out.below, HO.out.top.lt⟩
end Go.Proofs.Ytjmfkodbilknlaa

/- Tables made of tables. -/
namespace Go.Proofs.Ytjmfkodbilknlaa
open Go.RowKit

/-- A table under way. -/
structure TM (wb : World) (v : Value) (vs : List Value) (xss : List (List Int)) (w : World) : Prop where
  bo : Bld wb.heap.size w.heap.size w v vs xss
  up : Below wb.heap.size wb w
/-- .. and the row that is begun. -/
structure TN (wb : World) (H : Nat) (v : Value) (vs : List Value) (xss : List (List Int)) (u : Value) (ys : List Int) (w : World) : Prop where
  bo : Bld wb.heap.size H w v vs xss
  bi : BldI H w.heap.size w u ys
  lh : wb.heap.size ≤ H
  hs : H ≤ w.heap.size
  up : Below wb.heap.size wb w
theorem TM.start (wb : World) : TM wb (.slice (some ⟨wb.heap.size, 0, none⟩) 0 0) [] [] (wb.alloc (.cells #[] 36)) :=
  ⟨by rw [World.size_alloc]; exact Bld.make (Nat.le_refl _), below_alloc _ _⟩
theorem TM.row {wb v vs xss w} (h : TM wb v vs xss w) : TN wb w.heap.size v vs xss (.slice (some ⟨w.heap.size, 0, none⟩) 0 0) [] (w.alloc (.cells #[] 3)) :=
  ⟨h.bo.below (below_alloc _ _), by rw [World.size_alloc]; exact BldI.make (Nat.le_refl _), h.up.size, by simp, below_up h.up (below_alloc _ _)⟩
theorem TN.push {wb H v vs xss u u' ys w w' x} (h : TN wb H v vs xss u ys w)
    (hown : w'.ownsRow H 3 1 u' (ys.length + 1) (ys.map iv ++ [iv x])) (hgrow : (w.alloc (.cells #[iv x] 3)).grownBy w' u.ownBlock)
    (hat : u'.ownBlock = u.ownBlock ∨ u'.ownBlock = some (w.heap.size + 1)) : TN wb H v vs xss u' (ys ++ [x]) w' := by
  have hlh := h.lh
  have hhs := h.hs
  have hsz := hgrow.size
  simp only [World.size_alloc] at hsz
  have hu : ∀ k, u.ownBlock = some k → H ≤ k := fun k hk => (h.bi.own.lt k hk).1
  have hbelow : ∀ k, k < H → w'.heap[k]? = w.heap[k]? := fun k hk =>
    (hgrow.block k (by simp; omega) (fun e => by have := hu k e.symm; omega)).trans (Below.heap_alloc _ _ _ (by omega))
  refine ⟨h.bo.of_blocks fun k _ hk _ => hbelow k hk, ⟨by rw [List.length_append, List.length_singleton, List.map_append]; exact hown, fun k hk => ?_⟩, h.lh, by omega, ?_⟩
  · rcases hat with hat | hat
    · have := h.bi.hi_ k (by rw [← hat]; exact hk); omega
    · have := (hown.lt k hk).2; omega
  · exact ⟨hgrow.os.trans h.up.os, hgrow.tape.trans h.up.tape, hgrow.output.trans h.up.output, by have := h.up.size; omega, fun k hk => (hbelow k (by omega)).trans (h.up.block k hk)⟩
theorem TN.done {wb H v v' vs xss ys w w' Ar cr gr_} (h : TN wb H v vs xss (.slice Ar ys.length cr) ys w) (ho : OwnI H w.heap.size w gr_ Ar ys.length cr ys)
    (hown : w'.ownsRow wb.heap.size 36 1 v' (xss.length + 1) (vs ++ [.slice Ar ys.length cr])) (hgrow : (w.alloc (.cells #[.slice Ar ys.length cr] 36)).grownBy w' v.ownBlock)
    (hat : v'.ownBlock = v.ownBlock ∨ v'.ownBlock = some (w.heap.size + 1)) : TM wb v' (vs ++ [.slice Ar ys.length cr]) (xss ++ [ys]) w' := by
  have hlh := h.lh
  have hhs := h.hs
  have hsz := hgrow.size
  simp only [World.size_alloc] at hsz
  have hv : ∀ k, v.ownBlock = some k → wb.heap.size ≤ k := fun k hk => (h.bo.own.lt k hk).1
  have hbelow : ∀ k, k < wb.heap.size → w'.heap[k]? = w.heap[k]? := fun k hk =>
    (hgrow.block k (by simp; omega) (fun e => by have := hv k e.symm; omega)).trans (Below.heap_alloc _ _ _ (by omega))
  have hb := below_alloc w (.cells #[.slice Ar ys.length cr] 36)
  refine ⟨?_, ?_⟩
  · have hbo : Bld wb.heap.size H w v vs xss := h.bo
    exact Bld.push (hi := H) (w := w) hbo hb ((ho.below hb).mono (Nat.le_refl _) (by simp)) hown hgrow (by simpa using hat) hlh hhs
  · exact ⟨hgrow.os.trans h.up.os, hgrow.tape.trans h.up.tape, hgrow.output.trans h.up.output, by have := h.up.size; omega, fun k hk => (hbelow k hk).trans (h.up.block k hk)⟩

/-- A new table. -/
def NewT (w : World) (yss : List (List Int)) (e : Ending) (w' : World) : Prop :=
  ∃ Av n c gg, e = .returned (.slice Av n c) ∧ n = yss.length ∧ OwnR w.heap.size w'.heap.size w' gg Av n c yss ∧ Below w.heap.size w w'

def mrow (r : List Int) (j : Nat) : List Int := (List.range j).map fun k => - gi r k
def mtab (xss : List (List Int)) (i : Nat) : List (List Int) := (List.range i).map fun k => mrow (gr xss k) (gr xss k).length
theorem mrow_succ (r : List Int) (j : Nat) : mrow r (j + 1) = mrow r j ++ [- gi r j] := by simp [mrow, List.range_succ]
theorem mtab_succ (xss : List (List Int)) (i : Nat) : mtab xss (i + 1) = mtab xss i ++ [mrow (gr xss i) (gr xss i).length] := by simp [mtab, List.range_succ]
theorem mrow_len (r : List Int) (j : Nat) : (mrow r j).length = j := by simp [mrow]
theorem mtab_len (xss : List (List Int)) (j : Nat) : (mtab xss j).length = j := by simp [mtab]
theorem Small.gi {xss : List (List Int)} (h : Small xss) {k j : Nat} (hk : k < xss.length) (hj : j < (gr xss k).length) : -1000 ≤ gi (gr xss k) j ∧ gi (gr xss k) j ≤ 1000 :=
  (h.rows _ (gr_mem hk)).2 _ (gi_mem hj)
theorem Small.mrow_bd {xss : List (List Int)} (h : Small xss) {k j : Nat} (hk : k < xss.length) (hj : j ≤ (gr xss k).length) : ∀ x ∈ mrow (gr xss k) j, -1000 ≤ x ∧ x ≤ 1000 := fun x hx => by
  obtain ⟨i, hi, rfl⟩ := List.mem_map.1 hx
  have := h.gi hk (show i < _ by have := List.mem_range.1 hi; omega)
  omega
theorem Small.mtab {xss : List (List Int)} (h : Small xss) : Small (mtab xss xss.length) :=
  ⟨by rw [mtab_len]; exact h.n, fun r hr => by
    obtain ⟨i, hi, rfl⟩ := List.mem_map.1 hr
    have hi := List.mem_range.1 hi
    exact ⟨by rw [mrow_len]; exact (h.rows _ (gr_mem hi)).1, h.mrow_bd hi (Nat.le_refl _)⟩⟩

end Go.Proofs.Ytjmfkodbilknlaa

/- Tables turned, by the laws. -/
namespace Go.Proofs.Ytjmfkodbilknlaa
open Go.RowKit

def fcol (xss : List (List Int)) (j i : Nat) : List Int := (List.range i).map fun k => g2 xss k j
theorem fcol_succ (xss : List (List Int)) (j i : Nat) : fcol xss j (i + 1) = fcol xss j i ++ [g2 xss i j] := by simp [fcol, List.range_succ]
theorem flip_succ (xss : List (List Int)) (n j : Nat) : flip xss n (j + 1) = flip xss n j ++ [fcol xss j n] := by simp [flip, fcol, List.range_succ]
theorem fcol_len (xss : List (List Int)) (j i : Nat) : (fcol xss j i).length = i := by simp [fcol]
theorem flip_len (xss : List (List Int)) (n j : Nat) : (flip xss n j).length = j := by simp [flip]
/-- Rows of m numbers. -/
def Even (xss : List (List Int)) (m : Nat) : Prop := ∀ k, k < xss.length → (gr xss k).length = m
theorem Small.fcol_bd {xss : List (List Int)} (h : Small xss) {m : Nat} (he : Even xss m) {i j : Nat} (hi : i ≤ xss.length) (hj : j < m) : ∀ x ∈ fcol xss j i, -1000 ≤ x ∧ x ≤ 1000 := fun x hx => by
  obtain ⟨k, hk, rfl⟩ := List.mem_map.1 hx
  have hk := List.mem_range.1 hk
  exact h.gi (show k < _ by omega) (by rw [he k (by omega)]; exact hj)
theorem Small.m {xss : List (List Int)} (h : Small xss) {m : Nat} (he : Even xss m) (h0 : 0 < xss.length) : m ≤ 8 := by
  rw [← he 0 h0]; exact (h.rows _ (gr_mem h0)).1
theorem Small.flip {xss : List (List Int)} (h : Small xss) {m : Nat} (he : Even xss m) (h0 : 0 < xss.length) : Small (flip xss xss.length m) :=
  ⟨by rw [flip_len]; exact h.m he h0, fun r hr => by
    obtain ⟨j, hj, rfl⟩ := List.mem_map.1 hr
    have hj := List.mem_range.1 hj
    exact ⟨by simp; exact h.n, h.fcol_bd he (Nat.le_refl _) hj⟩⟩

theorem VT.even {a : List (List Int)} (v : VT a) : Even a (gr a 0).length := fun k hk => (v.rows k hk).1
theorem VT.flip {a : List (List Int)} (v : VT a) : VT (flip a a.length (gr a 0).length) := by
  have h0 := v.m1
  refine VT_of (by rw [flip_len]; exact v.m1) (by rw [flip_len]; exact v.m3) fun i hi => ?_
  rw [flip_len] at hi
  rw [gr_flip hi, gr_flip h0]
  refine ⟨by simp, by simp; exact v.n1, by simp; exact v.n3, fun j hj => ?_⟩
  simp at hj
  rw [gi_col hj]
  exact v.bd hj hi
theorem VT.minus {a : List (List Int)} (v : VT a) : VT (mtab a a.length) := by
  have hg : ∀ i, i < a.length → gr (mtab a a.length) i = mrow (gr a i) (gr a i).length := fun i hi => by
    rw [gr_get (by rw [mtab_len]; exact hi)]; simp [mtab]
  have h0 : 0 < a.length := v.n1
  refine VT_of (by rw [mtab_len]; exact v.n1) (by rw [mtab_len]; exact v.n3) fun i hi => ?_
  rw [mtab_len] at hi
  have hr := v.rows i hi
  rw [hg i hi, hg 0 h0, RowV, mrow_len, mrow_len]
  refine ⟨hr.1, by rw [hr.1]; exact v.m1, by rw [hr.1]; exact v.m3, fun j hj => ?_⟩
  have := hr.2 j hj
  rw [gi_get (by rw [mrow_len]; exact hj)]
  simp only [mrow, List.getElem_map, List.getElem_range]
  unfold InR at *
  omega

set_option maxHeartbeats 1000000 in
theorem flipped_any (A : Option Addr) (n c m : Nat) (xss : List (List Int)) (w : World) (hx : IntRows w A n c xss) (hs : Small xss) (h0 : 0 < n) (he : Even xss m) :
    Calls Try.prog 30 #[.slice A n c] w (NewT w (flip xss n m)) := by
  have HS := Lib.hid hs
  have HS0 := Lib.hid (TM.start w)
  have HE := Lib.hid he
  have hn8 := hs.n
  have HX := Lib.hid hx
  have LX := Lib.hid hx.len
  have hnx : n ≤ 8 := by rw [← hx.len]; exact hn8
  have hm8 : m ≤ 8 := hs.m he (by rw [hx.len]; exact h0)
  clear hx hs he
  obtain ⟨b, o, rfl, hc⟩ := HX.out.at_ h0
  have HC := Lib.hid hc
  clear hc
  go_enter Try.func30, Try.ntmps30
  go_wp2
  go_loopw [3, 4] (fun v i wr => ∃ (k : Nat) (vs : List Value), k ≤ m ∧ i = .int .i64 k ∧ Hid (TM w v vs (flip xss n k) wr)) (fun _ i _ => m - (intOf i).toNat)
  case atStart => exact ⟨0, [], Nat.zero_le _, rfl, HS0⟩
  case round =>
    clear HS0
    obtain ⟨k, vs, hk, rfl, HT⟩ := hrel
    obtain ⟨Av, cv, rfl⟩ := HT.out.bo.form
    obtain ⟨R0, cc0, c0, _⟩ := HC.out 0 h0
    rw [HE.out 0 (by rw [LX.out]; exact h0)] at c0
    have d0 := HT.out.up.cell (p := ⟨b, o + 0, none⟩) (World.block_lt_of_cell? _ _ c0)
    rw [c0] at d0
    simp only [Nat.add_zero] at d0 c0
    by_cases hlt : k < m
    · have HI := Lib.hid HT.out.row
      clear HT
      go_wp2
      clear d0
      generalize wr.heap.size = N at *
      go_loopw [5, 6] (fun u i wi => ∃ (j : Nat), j ≤ n ∧ i = .int .i64 j ∧ Hid (TN w N (.slice Av (flip xss n k).length cv) vs (flip xss n k) u (fcol xss k j) wi)) (fun _ i _ => n - (intOf i).toNat)
      case atStart => exact ⟨0, Nat.zero_le _, rfl, HI⟩
      case round =>
        clear HI
        obtain ⟨j, hj, rfl, HI⟩ := hrel
        obtain ⟨Au, cu, rfl⟩ := HI.out.bi.form
        by_cases hlm : j < n
        · have hjx : j < xss.length := by rw [LX.out]; exact hlm
          obtain ⟨R, cc, c1, hR⟩ := HC.out j hlm
          have c2 := HI.out.up.cell (p := ⟨b, o + j, none⟩) (World.block_lt_of_cell? _ _ c1)
          rw [c1] at c2
          have hR2 := hR.keep (Keep.below HI.out.up)
          have hbd := HS.out.gi hjx (show k < (gr xss j).length by rw [HE.out j hjx]; exact hlt)
          rw [HE.out j hjx] at c1 c2 hR2
          obtain ⟨b', o', rfl, hc'⟩ := hR2.at_ (by omega)
          have c3 := hc' k hlt
          clear hc' hR hR2
          generalize hval : gi (gr xss j) k = x at *
          have HV := Lib.hid (show g2 xss j k = x from hval)
          clear hval
          have hb := below_alloc wr (.cells #[iv x] 3)
          have HB4 := Lib.hid (HI.out.bi.below hb).own
          have HN := Lib.hid (cell_one_new wr (iv x) 3)
          have hHs := HI.out.hs
          have hlh := HI.out.lh
          have HML := Lib.hid (fcol_len xss k j)
          generalize hys : fcol xss k j = ys at *
          have HYS := Lib.hid hys
          clear hb hys
          obtain ⟨i0, hi0, hz0, hz1, hz2⟩ := info_parts Try.info_int
          go_wp2_with (at_builtin; refine wpList_append_own_at _ rfl _ _ 36 rfl N 3 i0 (.int .i64 0) 1 8 Try.underlying36 hi0 hz0 hz1 hz2 rfl (by decide) _ ys.length (ys.map iv) rfl HB4.out ⟨wr.heap.size, 0, none⟩ 1 1 [iv x] rfl rfl ?c1 ?c2 ?c3 ?c4 ?c5 ?_)
          case c1 => exact HN.out
          case c2 => intro u hu; simp at hu; subst hu; rfl
          case c3 => have := HML.out; unfold maxLen; omega
          case c4 => have := HML.out; omega
          case c5 => simp; omega
          intro v' w5 hown' hgrow _ hat
          have HI5 := Lib.hid (HI.out.push hown' hgrow (by simpa using hat))
          clear HB4 HN hown' hgrow hat HI
          go_wp2
          go_roundw
          case rel => exact ⟨j + 1, by omega, by go_num, Lib.hid (by rw [fcol_succ, HYS.out, HV.out]; exact HI5.out)⟩
          case measure => simp [intOf]; omega
        · obtain rfl : j = n := by omega
          have HBD := Lib.hid (HS.out.fcol_bd HE.out (Nat.le_of_eq LX.out.symm) hlt)
          obtain ⟨Ar, nr, cr, gg, e, rfl, ho, _⟩ := HI.out.bi.owns (by rw [fcol_len]; omega) (fun x hx => by have := HBD.out x hx; omega)
          injection e with e1 _ e3
          subst e1
          subst e3
          have HO := Lib.hid ho
          have HML := Lib.hid (fcol_len xss k j)
          have HTL := Lib.hid (flip_len xss j k)
          have HMS := Lib.hid (flip_succ xss j k)
          have hb := below_alloc wr (.cells #[.slice Au (fcol xss k j).length cu] 36)
          have HB4 := Lib.hid (HI.out.bo.below hb).own
          have HN := Lib.hid (cell_one_new wr (.slice Au (fcol xss k j).length cu) 36)
          have hHs := HI.out.hs
          have hlh := HI.out.lh
          clear hb ho HBD
          generalize fcol xss k j = ys at *
          generalize flip xss j k = ms at *
          obtain ⟨i0, hi0, hz0, hz1, hz2⟩ := info_parts Try.info_row
          go_wp2_with (at_builtin; refine wpList_append_own_at _ rfl _ _ 22 rfl w.heap.size 36 i0 (.slice none 0 0) 1 24 Try.underlying22 hi0 hz0 hz1 hz2 rfl (by decide) _ ms.length vs rfl HB4.out ⟨wr.heap.size, 0, none⟩ 1 1 [.slice Au ys.length cu] rfl rfl ?d1 ?d2 ?d3 ?d4 ?d5 ?_)
          case d2 => rfl
          case d3 => have := HTL.out; unfold maxLen; omega
          case d4 => have := HTL.out; omega
          case d5 => omega
          intro v' w5 hown' hgrow _ hat
          have HT5 := Lib.hid (HI.out.done HO.out hown' hgrow (by simpa using hat))
          clear HB4 HN hown' hgrow hat HI HO
          go_wp2
          go_roundw
          case rel => exact ⟨k + 1, _, by omega, by go_num, Lib.hid (by rw [HMS.out]; exact HT5.out)⟩
          case measure => simp [intOf]; omega
    · obtain rfl : k = m := by omega
      obtain ⟨A', n', c', gg, e, hn', hown⟩ := HT.out.bo.owns (by rw [flip_len]; omega)
      injection e with e1 e2 e3
      subst e1
      subst e2
      subst e3
      have HO := Lib.hid hown
      have HB := Lib.hid HT.out.up
      clear hown HT
      go_wp2
      go_ret
      exact ⟨_, _, _, gg, rfl, rfl, HO.out, HB.out⟩
end Go.Proofs.Ytjmfkodbilknlaa

/- A table turned, by the model. -/
namespace Go.Proofs.Ytjmfkodbilknlaa
open Go.RowKit

end Go.Proofs.Ytjmfkodbilknlaa

/- Chapter 2 as plain functions: sums, shares, fractions, means, the worst. -/
namespace Go.Proofs.Ytjmfkodbilknlaa

/-- The sum of the first k numbers; of all. -/
def sm (xs : List Int) : Nat → Int
  | 0 => 0
  | k + 1 => sm xs k + gi xs k
def tot (xs : List Int) : Int := sm xs xs.length
theorem sm_bd {xs : List Int} {lo hi : Int} : ∀ {k : Nat}, (∀ j, j < k → lo ≤ gi xs j ∧ gi xs j ≤ hi) → lo * (k : Int) ≤ sm xs k ∧ sm xs k ≤ hi * (k : Int)
  | 0, _ => by simp [sm]
  | k + 1, h => by
    have h1 := sm_bd (k := k) fun j hj => h j (by omega)
    have h2 := h k (by omega)
    have e1 : lo * ((k + 1 : Nat) : Int) = lo * (k : Int) + lo := by rw [show ((k + 1 : Nat) : Int) = (k : Int) + 1 by omega, Int.mul_add, Int.mul_one]
    have e2 : hi * ((k + 1 : Nat) : Int) = hi * (k : Int) + hi := by rw [show ((k + 1 : Nat) : Int) = (k : Int) + 1 by omega, Int.mul_add, Int.mul_one]
    simp only [sm]
    omega
theorem sm_snoc {xs : List Int} {x : Int} : ∀ {k : Nat}, k ≤ xs.length → sm (xs ++ [x]) k = sm xs k
  | 0, _ => rfl
  | k + 1, h => by
    have h1 := sm_snoc (xs := xs) (x := x) (k := k) (by omega)
    have h2 : gi (xs ++ [x]) k = gi xs k := by rw [gi_get (by simp; omega), gi_get (by omega), List.getElem_append_left (by omega)]
    simp only [sm, h1, h2]
theorem tot_snoc (xs : List Int) (x : Int) : tot (xs ++ [x]) = tot xs + x := by
  unfold tot
  rw [List.length_append, List.length_singleton]
  have h2 : gi (xs ++ [x]) xs.length = x := by rw [gi_get (by simp), List.getElem_append_right (Nat.le_refl _)]; simp
  simp only [sm, sm_snoc (Nat.le_refl _), h2]

/-- Shares of n things. -/
def VS (w : List Int) (n : Int) : Prop := (w.length : Int) = n ∧ (∀ j, j < w.length → InR (gi w j) 0 1000) ∧ 0 < tot w
def VSn (w : List Int) (n : Int) : Prop := 1 ≤ n ∧ n ≤ 3 ∧ VS w n
theorem VS.bd {w : List Int} {n : Int} (v : VS w n) (hn : n ≤ 3) : 0 < tot w ∧ tot w ≤ 3000 := by
  obtain ⟨h1, h2, h3⟩ := v
  have := (sm_bd (xs := w) (lo := 0) (hi := 1000) (k := w.length) h2).2
  unfold tot at *
  omega

/-- The sum of payoffs with both weights: of the first i rows; in row i, of the first j columns. -/
def payR (a : List (List Int)) (x y : List Int) (i : Nat) : Nat → Int
  | 0 => 0
  | j + 1 => payR a x y i j + gi x i * gi y j * g2 a i j
def payU (a : List (List Int)) (x y : List Int) (m : Nat) : Nat → Int
  | 0 => 0
  | i + 1 => payU a x y m i + payR a x y i m

theorem mul_bd {x y a : Int} (hx : 0 ≤ x ∧ x ≤ 1000) (hy : 0 ≤ y ∧ y ≤ 1000) (ha : -9 ≤ a ∧ a ≤ 9) : -9000000 ≤ x * y * a ∧ x * y * a ≤ 9000000 := by
  have h1 : 0 ≤ x * y := Int.mul_nonneg hx.1 hy.1
  have h2 : x * y ≤ 1000 * 1000 := Int.mul_le_mul hx.2 hy.2 hy.1 (by omega)
  have h3 : x * y * a ≤ x * y * 9 := Int.mul_le_mul_of_nonneg_left ha.2 h1
  have h4 : x * y * -9 ≤ x * y * a := Int.mul_le_mul_of_nonneg_left ha.1 h1
  omega
theorem mul_bd2 {x y : Int} (hx : 0 ≤ x ∧ x ≤ 1000) (hy : 0 ≤ y ∧ y ≤ 1000) : 0 ≤ x * y ∧ x * y ≤ 1000000 := by
  have h1 : 0 ≤ x * y := Int.mul_nonneg hx.1 hy.1
  have h2 : x * y ≤ 1000 * 1000 := Int.mul_le_mul hx.2 hy.2 hy.1 (by omega)
  omega
theorem mul_bd3 {x a : Int} (hx : 0 ≤ x ∧ x ≤ 1000) (ha : -9 ≤ a ∧ a ≤ 9) : -9000 ≤ a * x ∧ a * x ≤ 9000 := by
  have h3 : a * x ≤ 9 * x := Int.mul_le_mul_of_nonneg_right ha.2 hx.1
  have h4 : -9 * x ≤ a * x := Int.mul_le_mul_of_nonneg_right ha.1 hx.1
  omega

/-- Shares and a table of which a mean is taken: bounds of all that is read. -/
structure PB (a : List (List Int)) (x y : List Int) (n m : Nat) : Prop where
  a : ∀ i j, i < n → j < m → -9 ≤ g2 a i j ∧ g2 a i j ≤ 9
  x : ∀ i, i < n → 0 ≤ gi x i ∧ gi x i ≤ 1000
  y : ∀ j, j < m → 0 ≤ gi y j ∧ gi y j ≤ 1000
theorem payR_bd {a x y n m} (h : PB a x y n m) {i : Nat} (hi : i < n) : ∀ {j : Nat}, j ≤ m → -9000000 * (j : Int) ≤ payR a x y i j ∧ payR a x y i j ≤ 9000000 * (j : Int)
  | 0, _ => by simp [payR]
  | j + 1, hj => by
    have h1 := payR_bd h hi (j := j) (by omega)
    have h2 := mul_bd (h.x i hi) (h.y j (by omega)) (h.a i j hi (by omega))
    simp only [payR]
    omega
theorem payU_bd {a x y n m} (h : PB a x y n m) (hm : m ≤ 3) : ∀ {i : Nat}, i ≤ n → -27000000 * (i : Int) ≤ payU a x y m i ∧ payU a x y m i ≤ 27000000 * (i : Int)
  | 0, _ => by simp [payU]
  | i + 1, hi => by
    have h1 := payU_bd h hm (i := i) (by omega)
    have h2 := payR_bd h (i := i) (by omega) (j := m) (Nat.le_refl _)
    simp only [payU]
    omega
theorem payP_bd {a x y n m} (h : PB a x y n m) (hm : m ≤ 3) (hn : n ≤ 3) {i j : Nat} (hi : i < n) (hj : j ≤ m) : -108000000 ≤ payU a x y m i + payR a x y i j ∧ payU a x y m i + payR a x y i j ≤ 108000000 := by
  have h1 := payU_bd h hm (i := i) (by omega)
  have h2 := payR_bd h hi hj
  omega

/-- The greatest common divisor, and what Go's loop does to it. -/
def gcdI (a b : Int) : Int := (Int.gcd a b : Int)
theorem gcdI_zero (a : Int) : gcdI a 0 = max a (-a) := by
  unfold gcdI; rw [Int.gcd_zero_right]; omega
theorem gcdI_zero_left (a : Int) : gcdI 0 a = max a (-a) := by
  unfold gcdI; rw [Int.gcd_zero_left]; omega
theorem gcdI_step (a b : Int) : gcdI b (a.tmod b) = gcdI a b := by
  have h : Nat.gcd b.natAbs (a.tmod b).natAbs = Nat.gcd a.natAbs b.natAbs := by
    rw [Int.natAbs_tmod, Nat.gcd_comm, ← Nat.gcd_rec, Nat.gcd_comm]
  exact congrArg Int.ofNat h
theorem gcdI_abs (a b : Int) : gcdI (max a (-a)) b = gcdI a b := by
  have h : Nat.gcd (max a (-a)).natAbs b.natAbs = Nat.gcd a.natAbs b.natAbs := by
    congr 1
    omega
  exact congrArg Int.ofNat h
theorem gcdI_pos {a b : Int} (h : b ≠ 0) : 1 ≤ gcdI a b := by
  unfold gcdI
  have := Int.gcd_pos_of_ne_zero_right a h
  omega
theorem gcdI_pos_left {a b : Int} (h : a ≠ 0) : 1 ≤ gcdI a b := by
  unfold gcdI
  have := Int.gcd_pos_of_ne_zero_left b h
  omega
theorem gcdI_nonneg (a b : Int) : 0 ≤ gcdI a b := by unfold gcdI; omega
theorem gcdI_dvd_left (a b : Int) : gcdI a b ∣ a := Int.gcd_dvd_left a b
theorem gcdI_dvd_right (a b : Int) : gcdI a b ∣ b := Int.gcd_dvd_right a b
theorem gcdI_le {a b : Int} (h : 0 < b) : gcdI a b ≤ b := Int.le_of_dvd h (gcdI_dvd_right a b)
theorem tmod_abs {a b : Int} (h : b ≠ 0) : (a.tmod b).natAbs < b.natAbs := by
  rw [Int.natAbs_tmod]; exact Nat.mod_lt _ (by omega)

/-- A fraction in lowest terms, as a pair of numbers. -/
def frU (u d : Int) : Int := u.tdiv (gcdI u d)
def frD (u d : Int) : Int := d.tdiv (gcdI u d)
theorem tdiv_bd {u g B : Int} (_ : 1 ≤ g) (h : -B ≤ u ∧ u ≤ B) : -B ≤ u.tdiv g ∧ u.tdiv g ≤ B := by
  have h1 : (u.tdiv g).natAbs ≤ u.natAbs := by rw [Int.natAbs_tdiv]; exact Nat.div_le_self _ _
  omega
theorem frU_bd {u d B : Int} (hd : 0 < d) (h : -B ≤ u ∧ u ≤ B) : -B ≤ frU u d ∧ frU u d ≤ B := tdiv_bd (gcdI_pos (by omega)) h
theorem frD_bd {u d B : Int} (hd : 0 < d) (h : d ≤ B) : 1 ≤ frD u d ∧ frD u d ≤ B := by
  have hg := gcdI_pos (a := u) (b := d) (by omega)
  have h1 := tdiv_bd (u := d) (g := gcdI u d) (B := B) hg (by omega)
  have h2 := gcdI_le (a := u) hd
  have h3 : 1 ≤ d / gcdI u d := by rw [Int.le_ediv_iff_mul_le (by omega)]; omega
  rw [Int.tdiv_eq_ediv_of_nonneg (by omega)] at h1
  unfold frD
  rw [Int.tdiv_eq_ediv_of_nonneg (by omega)]
  omega
theorem frU_mul (u d : Int) : frU u d * gcdI u d = u := Int.tdiv_mul_cancel (gcdI_dvd_left u d)
theorem frD_mul (u d : Int) : frD u d * gcdI u d = d := Int.tdiv_mul_cancel (gcdI_dvd_right u d)

/-- Less, of fractions with a positive number below. -/
def ltF (u d v e : Int) : Prop := u * e < v * d

/-- The shares of one of n alone. -/
def onl (n i : Nat) : List Int := (List.range n).map fun k => if k = i then 1 else 0
theorem onl_len (n i : Nat) : (onl n i).length = n := by simp [onl]
theorem gi_onl {n i k : Nat} (h : k < n) : gi (onl n i) k = if k = i then 1 else 0 := by
  rw [gi_get (by rw [onl_len]; exact h)]; simp [onl]
theorem sm_onl {n i : Nat} : ∀ {k : Nat}, k ≤ n → sm (onl n i) k = if i < k then 1 else 0
  | 0, _ => by simp [sm]
  | k + 1, h => by
    have h1 := sm_onl (n := n) (i := i) (k := k) (by omega)
    rw [sm, h1, gi_onl (by omega)]
    split <;> split <;> split <;> omega
theorem tot_onl {n i : Nat} (h : i < n) : tot (onl n i) = 1 := by
  unfold tot; rw [sm_onl (by rw [onl_len]; exact Nat.le_refl _), onl_len, if_pos h]
theorem onl_bd {n i k : Nat} (h : k < n) : 0 ≤ gi (onl n i) k ∧ gi (onl n i) k ≤ 1 := by
  rw [gi_onl h]; split <;> omega

/-- The mean against column j alone, above the line; the least of the first k + 1 of these. -/
def colU (a : List (List Int)) (x : List Int) (n m j : Nat) : Int := payU a x (onl m j) m n
def wst (a : List (List Int)) (x : List Int) (n m : Nat) : Nat → Int × Int
  | 0 => (frU (colU a x n m 0) (tot x), frD (colU a x n m 0) (tot x))
  | k + 1 =>
    let p := (frU (colU a x n m (k + 1)) (tot x), frD (colU a x n m (k + 1)) (tot x))
    if p.1 * (wst a x n m k).2 < (wst a x n m k).1 * p.2 then p else wst a x n m k

end Go.Proofs.Ytjmfkodbilknlaa

/- Fractions in lowest terms; the least mean, as the fraction of a least sum. -/
namespace Go.Proofs.Ytjmfkodbilknlaa

theorem fr_unique {a b c f : Int} (hb : 0 < b) (hf : 0 < f) (h : a * f = c * b) (g1 : Int.gcd a b = 1) (g2 : Int.gcd c f = 1) : a = c ∧ b = f := by
  have hN : a.natAbs * f.natAbs = c.natAbs * b.natAbs := by rw [← Int.natAbs_mul, ← Int.natAbs_mul, h]
  have c1 : Nat.Coprime b.natAbs a.natAbs := by unfold Nat.Coprime; rw [Nat.gcd_comm]; exact g1
  have c2 : Nat.Coprime f.natAbs c.natAbs := by unfold Nat.Coprime; rw [Nat.gcd_comm]; exact g2
  have d1 : b.natAbs ∣ f.natAbs := c1.dvd_of_dvd_mul_left (by rw [hN]; exact Nat.dvd_mul_left _ _)
  have d2 : f.natAbs ∣ b.natAbs := c2.dvd_of_dvd_mul_left (by rw [← hN]; exact Nat.dvd_mul_left _ _)
  have e := Nat.dvd_antisymm d1 d2
  have hbf : b = f := by omega
  subst hbf
  exact ⟨Int.eq_of_mul_eq_mul_right (by omega) h, rfl⟩
theorem fr_coprime (u d : Int) (hd : 0 < d) : Int.gcd (frU u d) (frD u d) = 1 := by
  have hg := gcdI_pos (a := u) (b := d) (by omega)
  have h := Int.gcd_mul_right (frU u d) (gcdI u d) (frD u d)
  rw [frU_mul, frD_mul] at h
  have e : (gcdI u d).natAbs = Int.gcd u d := by unfold gcdI; simp
  rw [e] at h
  have hp : 0 < Int.gcd u d := by unfold gcdI at hg; omega
  exact Nat.eq_of_mul_eq_mul_right hp (by omega)
theorem frD_pos {u d : Int} (hd : 0 < d) : 0 < frD u d := by
  have hg := gcdI_pos (a := u) (b := d) (by omega)
  have h := frD_mul u d
  apply Classical.byContradiction
  intro hn
  have h1 : 0 ≤ (- frD u d) * gcdI u d := Int.mul_nonneg (by omega) (by omega)
  rw [Int.neg_mul, h] at h1
  omega
/-- Fractions that are the same number are the same. -/
theorem fr_eq {u d v e : Int} (hd : 0 < d) (he : 0 < e) (h : u * e = v * d) : frU u d = frU v e ∧ frD u d = frD v e := by
  refine fr_unique (frD_pos hd) (frD_pos he) ?_ (fr_coprime u d hd) (fr_coprime v e he)
  have g1 := gcdI_pos (a := u) (b := d) (by omega)
  have g2 := gcdI_pos (a := v) (b := e) (by omega)
  have k1 := frU_mul u d
  have k2 := frD_mul u d
  have k3 := frU_mul v e
  have k4 := frD_mul v e
  generalize frU u d = a at *
  generalize frD u d = b at *
  generalize frU v e = c at *
  generalize frD v e = f at *
  generalize gcdI u d = g at *
  generalize gcdI v e = k at *
  have : (a * f) * (g * k) = (c * b) * (g * k) := by grind
  exact Int.eq_of_mul_eq_mul_right (by have := Int.mul_pos (a := g) (b := k) (by omega) (by omega); omega) this
/-- .. and the other way round. -/
theorem fr_ratio (u d : Int) : frU u d * d = u * frD u d := by
  have k1 := frU_mul u d
  have k2 := frD_mul u d
  generalize frU u d = a at *
  generalize frD u d = b at *
  generalize gcdI u d = g at *
  grind
theorem fr_lt {u d v e : Int} (hd : 0 < d) (he : 0 < e) : frU u d * frD v e < frU v e * frD u d ↔ u * e < v * d := by
  have g1 := gcdI_pos (a := u) (b := d) (by omega)
  have g2 := gcdI_pos (a := v) (b := e) (by omega)
  have k1 := frU_mul u d
  have k2 := frD_mul u d
  have k3 := frU_mul v e
  have k4 := frD_mul v e
  generalize frU u d = a at *
  generalize frD u d = b at *
  generalize frU v e = c at *
  generalize frD v e = f at *
  generalize gcdI u d = g at *
  generalize gcdI v e = k at *
  have hp : 0 < g * k := Int.mul_pos (by omega) (by omega)
  have e1 : u * e = (a * f) * (g * k) := by grind
  have e2 : v * d = (c * b) * (g * k) := by grind
  rw [e1, e2]
  exact ⟨fun h => Int.mul_lt_mul_of_pos_right h hp, fun h => Int.lt_of_mul_lt_mul_right h (by omega)⟩

/-- The sum of a column with the shares of the rows. -/
def dotc (a : List (List Int)) (x : List Int) (j : Nat) : Nat → Int
  | 0 => 0
  | i + 1 => dotc a x j i + gi x i * g2 a i j
theorem payR_onl (a : List (List Int)) (x : List Int) (m j i : Nat) : ∀ {k : Nat}, k ≤ m → payR a x (onl m j) i k = if j < k then gi x i * g2 a i j else 0
  | 0, _ => by simp [payR]
  | k + 1, h => by
    rw [payR, payR_onl a x m j i (by omega), gi_onl (by omega)]
    by_cases e : k = j
    · subst e; rw [if_neg (by omega), if_pos rfl, if_pos (by omega)]; simp
    · rw [if_neg e]
      by_cases h2 : j < k
      · rw [if_pos h2, if_pos (by omega)]; simp
      · rw [if_neg h2, if_neg (by omega)]; simp
theorem colU_dotc (a : List (List Int)) (x : List Int) (n m j : Nat) (h : j < m) : colU a x n m j = dotc a x j n := by
  unfold colU
  have : ∀ i, payU a x (onl m j) m i = dotc a x j i := fun i => by
    induction i with
    | zero => rfl
    | succ i ih => rw [payU, dotc, ih, payR_onl a x m j i (Nat.le_refl m), if_pos h]
  exact this n
/-- The least mean is the fraction of the least sum. -/
theorem wst_least (a : List (List Int)) (x : List Int) (n m : Nat) (tx : 0 < tot x) : ∀ k, ∃ j, j ≤ k ∧ wst a x n m k = (frU (colU a x n m j) (tot x), frD (colU a x n m j) (tot x)) ∧ ∀ i, i ≤ k → colU a x n m j ≤ colU a x n m i
  | 0 => ⟨0, Nat.le_refl _, rfl, fun i hi => by obtain rfl : i = 0 := by omega
                                                exact Int.le_refl _⟩
  | k + 1 => by
    obtain ⟨j, hj, e, hm⟩ := wst_least a x n m tx k
    simp only [wst]
    rw [e]
    by_cases h : frU (colU a x n m (k + 1)) (tot x) * frD (colU a x n m j) (tot x) < frU (colU a x n m j) (tot x) * frD (colU a x n m (k + 1)) (tot x)
    · rw [if_pos h]
      have h2 := (fr_lt tx tx).1 h
      have h3 : colU a x n m (k + 1) < colU a x n m j := Int.lt_of_mul_lt_mul_right h2 (by omega)
      refine ⟨k + 1, Nat.le_refl _, rfl, fun i hi => ?_⟩
      by_cases e : i = k + 1
      · subst e; exact Int.le_refl _
      · have := hm i (by omega); omega
    · rw [if_neg h]
      have h3 : ¬ colU a x n m (k + 1) < colU a x n m j := fun hlt => h ((fr_lt tx tx).2 (Int.mul_lt_mul_of_pos_right hlt tx))
      refine ⟨j, by omega, rfl, fun i hi => ?_⟩
      by_cases e : i = k + 1
      · subst e; omega
      · exact hm i (by omega)
end Go.Proofs.Ytjmfkodbilknlaa

/- Shares that make the same sure from both sides. -/
namespace Go.Proofs.Ytjmfkodbilknlaa

theorem gcdI_neg (u d : Int) : gcdI (-u) d = gcdI u d := by unfold gcdI; rw [Int.neg_gcd]
theorem frU_neg (u d : Int) : frU (-u) d = - frU u d := by unfold frU; rw [gcdI_neg, Int.neg_tdiv]
theorem frD_neg (u d : Int) : frD (-u) d = frD u d := by unfold frD; rw [gcdI_neg]

/-- The least sum of columns, where it is known with a factor. -/
theorem wst_is (a : List (List Int)) (x : List Int) (n m : Nat) (hm : 1 ≤ m) (tx : 0 < tot x) (G V : Int) (hG : 0 < G) (ha : ∀ j, j < m → V ≤ dotc a x j n * G) (h0 : ∃ j, j < m ∧ dotc a x j n * G = V) :
    ∃ L, L * G = V ∧ wst a x n m (m - 1) = (frU L (tot x), frD L (tot x)) := by
  obtain ⟨j, hj, e, hl⟩ := wst_least a x n m tx (m - 1)
  refine ⟨colU a x n m j, ?_, e⟩
  have h1 := ha j (by omega)
  rw [colU_dotc a x n m j (by omega)]
  obtain ⟨i, hi, h2⟩ := h0
  have h3 := hl i (by omega)
  rw [colU_dotc a x n m j (by omega), colU_dotc a x n m i hi] at h3
  have h4 := Int.mul_le_mul_of_nonneg_right h3 (Int.le_of_lt hG)
  omega

theorem best_of (a b : List (List Int)) (x y : List Int) (n m : Nat) (hn : 1 ≤ n) (hm : 1 ≤ m) (tx : 0 < tot x) (ty : 0 < tot y) (S V G H : Int) (hG : 0 < G) (hH : 0 < H) (hx : tot x * G = S) (hy : tot y * H = S)
    (ha : ∀ j, j < m → V ≤ dotc a x j n * G) (ha0 : ∃ j, j < m ∧ dotc a x j n * G = V) (hb : ∀ i, i < n → -V ≤ dotc b y i m * H) (hb0 : ∃ i, i < n ∧ dotc b y i m * H = -V) :
    wst a x n m (m - 1) = (- (wst b y m n (n - 1)).1, (wst b y m n (n - 1)).2) := by
  obtain ⟨L, h1, e1⟩ := wst_is a x n m hm tx G V hG ha ha0
  obtain ⟨L', h2, e2⟩ := wst_is b y m n hn ty H (-V) hH hb hb0
  rw [e1, e2]
  have h : L * tot y = (-L') * tot x := by
    have : (L * tot y) * (G * H) = ((-L') * tot x) * (G * H) := by grind
    exact Int.eq_of_mul_eq_mul_right (by have := Int.mul_pos hG hH; omega) this
  have := fr_eq tx ty h
  rw [frU_neg, frD_neg] at this
  exact Prod.ext this.1 this.2
/-- No shares make more sure than others let through: the value is one. -/
theorem dotc_mix (a : List (List Int)) (x : List Int) (n : Nat) (hx : ∀ i, i < n → 0 ≤ gi x i) (j : Nat) (B : Int) (h : ∀ i, i < n → g2 a i j ≤ B) : ∀ {k : Nat}, k ≤ n → dotc a x j k ≤ B * sm x k
  | 0, _ => by simp [dotc, sm]
  | k + 1, hk => by
    have h1 := dotc_mix a x n hx j B h (k := k) (by omega)
    have h2 := Int.mul_le_mul_of_nonneg_left (h k (by omega)) (hx k (by omega))
    simp only [dotc, sm]
    rw [Int.mul_add, Int.mul_comm B (gi x k)]
    omega
end Go.Proofs.Ytjmfkodbilknlaa

/- Some part of every table tells best shares: the best dictionary of a programme, by simplex steps in the order of words, and what its basis says. Plain. -/
namespace Go.Proofs.Ytjmfkodbilknlaa.V
def lp (a b c d : Rat) : Prop := 0 < a ∨ (a = 0 ∧ (0 < b ∨ (b = 0 ∧ (0 < c ∨ (c = 0 ∧ 0 < d)))))
/-- A row with its sum is greater than 0, in the order of words. -/
def LP (r : Nat → Rat) : Prop := lp (r 0 + r 1 + r 2) (r 0) (r 1) (r 2)
theorem LP.add {r s : Nat → Rat} (h : LP r) (k : LP s) : LP (fun i => r i + s i) := by
  unfold LP lp at *; grind
theorem LP.congr {r s : Nat → Rat} (h : LP r) (e : ∀ i, i < 3 → s i = r i) : LP s := by
  unfold LP at *; rw [e 0 (by omega), e 1 (by omega), e 2 (by omega)]; exact h
theorem mulpos {t x : Rat} (ht : 0 < t) (hx : 0 < x) : 0 < t * x := Rat.mul_pos ht hx
theorem LP.smul {r : Nat → Rat} {t : Rat} (h : LP r) (ht : 0 < t) : LP (fun i => t * r i) := by
  unfold LP lp at *
  have p := fun {x : Rat} (hx : 0 < x) => mulpos ht hx
  grind
theorem LP.irr {r : Nat → Rat} (h : LP r) (e : ∀ i, i < 3 → r i = 0) : False := by
  unfold LP lp at h
  rw [e 0 (by omega), e 1 (by omega), e 2 (by omega)] at h
  grind
theorem LP.tri (r : Nat → Rat) : LP r ∨ (∀ i, i < 3 → r i = 0) ∨ LP (fun i => - r i) := by
  by_cases e : r 0 = 0 ∧ r 1 = 0 ∧ r 2 = 0
  · refine .inr (.inl fun i hi => ?_)
    have : i = 0 ∨ i = 1 ∨ i = 2 := by omega
    rcases this with rfl | rfl | rfl
    · exact e.1
    · exact e.2.1
    · exact e.2.2
  · unfold LP lp; grind
theorem exists_min {α : Type} (lt : α → α → Prop) (irr : ∀ a, ¬ lt a a) (tr : ∀ a b c, lt a b → lt b c → lt a c) : ∀ l : List α, l ≠ [] → ∃ a, a ∈ l ∧ ∀ b, b ∈ l → ¬ lt b a
  | [], h => absurd rfl h
  | [a], _ => ⟨a, by simp, fun b hb => by simp at hb; subst hb; exact irr _⟩
  | a :: b :: l, _ => by
    obtain ⟨m, hm, h⟩ := exists_min lt irr tr (b :: l) (by simp)
    by_cases e : lt a m
    · refine ⟨a, by simp, fun x hx hxa => ?_⟩
      rcases List.mem_cons.1 hx with rfl | hx
      · exact irr _ hxa
      · exact h x hx (tr _ _ _ hxa e)
    · refine ⟨m, by simp at hm ⊢; exact .inr hm, fun x hx => ?_⟩
      rcases List.mem_cons.1 hx with rfl | hx
      · exact e
      · exact h x hx

def dot (f g : Nat → Rat) : Rat := f 0 * g 0 + f 1 * g 1 + f 2 * g 2
def col (M : Nat → Nat → Rat) (v i : Nat) : Rat := if v < 3 then M i v else if v = i + 3 then 1 else 0
def cst (c : Nat → Rat) (v : Nat) : Rat := if v < 3 then c v else 0
structure Dict (M : Nat → Nat → Rat) (b : Nat → Nat) (P : Nat → Nat → Rat) : Prop where
  pb : ∀ k l, k < 3 → l < 3 → dot (P k) (col M (b l)) = if k = l then 1 else 0
  bp : ∀ i j, i < 3 → j < 3 → col M (b 0) i * P 0 j + col M (b 1) i * P 1 j + col M (b 2) i * P 2 j = if i = j then 1 else 0
  lex : ∀ k, k < 3 → LP (P k)
  bv : ∀ k, k < 3 → b k < 6
/-- The prices. -/
def prc (c : Nat → Rat) (b : Nat → Nat) (P : Nat → Nat → Rat) (i : Nat) : Rat := cst c (b 0) * P 0 i + cst c (b 1) * P 1 i + cst c (b 2) * P 2 i
structure Prob (M : Nat → Nat → Rat) (c : Nat → Rat) : Prop where
  nn : ∀ i j, i < 3 → j < 3 → 0 ≤ M i j
  pos : ∀ j, j < 3 → (∃ i, i < 3 ∧ 0 < M i j) ∨ (c j = 0 ∧ ∀ i, i < 3 → M i j = 0)
theorem lt3 {i : Nat} (h : i < 3) : i = 0 ∨ i = 1 ∨ i = 2 := by omega

theorem Prob.col_nn {M c} (h : Prob M c) {v i : Nat} (hi : i < 3) : 0 ≤ col M v i := by
  unfold col
  split
  · exact h.nn i v hi (by omega)
  · split <;> grind
theorem mulnn {x y : Rat} (hx : 0 ≤ x) (hy : 0 ≤ y) : 0 ≤ x * y := Rat.mul_nonneg hx hy

theorem some_up {M c b P} (h : Prob M c) (D : Dict M b P) {q : Nat} (hq : q < 6) (hr : dot (prc c b P) (col M q) < cst c q) : ∃ k, k < 3 ∧ 0 < dot (P k) (col M q) := by
  apply Classical.byContradiction
  intro hno
  have hd : ∀ k, k < 3 → dot (P k) (col M q) ≤ 0 := fun k hk => by
    apply Classical.byContradiction
    intro hlt
    exact hno ⟨k, hk, by grind⟩
  have hpos : ∃ i, i < 3 ∧ 0 < col M q i := by
    by_cases h3 : q < 3
    · rcases h.pos q h3 with ⟨i, hi, hp⟩ | ⟨hc, hz⟩
      · exact ⟨i, hi, by unfold col; rw [if_pos h3]; exact hp⟩
      · exfalso
        have z0 : col M q 0 = 0 := by unfold col; rw [if_pos h3]; exact hz 0 (by omega)
        have z1 : col M q 1 = 0 := by unfold col; rw [if_pos h3]; exact hz 1 (by omega)
        have z2 : col M q 2 = 0 := by unfold col; rw [if_pos h3]; exact hz 2 (by omega)
        unfold dot at hr
        rw [z0, z1, z2] at hr
        unfold cst at hr
        rw [if_pos h3, hc] at hr
        grind
    · refine ⟨q - 3, by omega, ?_⟩
      unfold col
      rw [if_neg h3, if_pos (by omega)]
      grind
  obtain ⟨i, hi, hp⟩ := hpos
  have e0 := D.bp i 0 hi (by omega)
  have e1 := D.bp i 1 hi (by omega)
  have e2 := D.bp i 2 hi (by omega)
  have hsum : col M (b 0) i * dot (P 0) (col M q) + col M (b 1) i * dot (P 1) (col M q) + col M (b 2) i * dot (P 2) (col M q) = col M q i := by
    unfold dot
    rcases lt3 hi with rfl | rfl | rfl <;> simp at e0 e1 e2 <;> grind
  have n0 := mulnn (h.col_nn (v := b 0) hi) (show 0 ≤ - dot (P 0) (col M q) by have := hd 0 (by omega); grind)
  have n1 := mulnn (h.col_nn (v := b 1) hi) (show 0 ≤ - dot (P 1) (col M q) by have := hd 1 (by omega); grind)
  have n2 := mulnn (h.col_nn (v := b 2) hi) (show 0 ≤ - dot (P 2) (col M q) by have := hd 2 (by omega); grind)
  grind

/-- The row that leaves. -/
theorem some_row {M b P} (D : Dict M b P) {q : Nat} (hk : ∃ k, k < 3 ∧ 0 < dot (P k) (col M q)) :
    ∃ r, r < 3 ∧ 0 < dot (P r) (col M q) ∧ ∀ k, k < 3 → k ≠ r → 0 < dot (P k) (col M q) → LP (fun i => P k i * dot (P r) (col M q) - P r i * dot (P k) (col M q)) := by
  let d := fun k => dot (P k) (col M q)
  let lt := fun (k l : Nat) => 0 < d k ∧ 0 < d l ∧ LP (fun i => P l i * d k - P k i * d l)
  have irr : ∀ k, ¬ lt k k := fun k ⟨_, _, h⟩ => h.irr fun i _ => by grind
  have tr : ∀ k l m, lt k l → lt l m → lt k m := fun k l m ⟨h1, h2, h3⟩ ⟨_, h5, h6⟩ => by
    refine ⟨h1, h5, ?_⟩
    have := ((h6.smul h1).add (h3.smul h5))
    have hx : LP (fun i => d l * (P m i * d k - P k i * d m)) := this.congr fun i _ => by grind
    refine (hx.smul (t := (d l)⁻¹) (by rw [Rat.inv_pos]; exact h2)).congr fun i _ => ?_
    grind
  obtain ⟨r, hr, hmin⟩ := exists_min lt irr tr ([0, 1, 2].filter fun k => decide (0 < d k)) (by
    obtain ⟨k, hk3, hk⟩ := hk
    intro e
    have := List.filter_eq_nil_iff.1 e k (by simp; omega)
    simp at this
    exact absurd hk (by grind))
  simp only [List.mem_filter, decide_eq_true_eq] at hr hmin
  refine ⟨r, by have := hr.1; simp at this; omega, hr.2, fun k hk3 hkr hkp => ?_⟩
  have hr3 : r < 3 := by have := hr.1; simp at this; omega
  rcases LP.tri (fun i => P k i * d r - P r i * d k) with h | h | h
  · exact h
  · exfalso
    have a := D.pb k k hk3 hk3
    have b' := D.pb r k hr3 hk3
    have h0 := h 0 (by omega)
    have h1 := h 1 (by omega)
    have h2 := h 2 (by omega)
    rw [if_pos rfl] at a
    rw [if_neg (Ne.symm hkr)] at b'
    unfold dot at a b'
    have : d r = 0 := by grind
    have hr2 : 0 < d r := hr.2
    rw [this] at hr2
    exact absurd hr2 (by grind)
  · exfalso
    refine hmin k ⟨by simp; omega, hkp⟩ ⟨hkp, hr.2, h.congr fun i _ => by grind⟩
def upd (b : Nat → Nat) (r q : Nat) : Nat → Nat := fun k => if k = r then q else b k
def piv (P : Nat → Nat → Rat) (d : Nat → Rat) (r : Nat) : Nat → Nat → Rat := fun k i => if k = r then P r i * (d r)⁻¹ else P k i - d k * (d r)⁻¹ * P r i

theorem pivot {M c b P} (D : Dict M b P) {q r : Nat} (hq : q < 6) (hr : r < 3) (hd : 0 < dot (P r) (col M q))
    (hmin : ∀ k, k < 3 → k ≠ r → 0 < dot (P k) (col M q) → LP (fun i => P k i * dot (P r) (col M q) - P r i * dot (P k) (col M q)))
    (hred : dot (prc c b P) (col M q) < cst c q) :
    ∃ P', Dict M (upd b r q) P' ∧ LP (fun i => prc c (upd b r q) P' i - prc c b P i) := by
  have he : (dot (P r) (col M q))⁻¹ * dot (P r) (col M q) = 1 := by grind
  have hep : 0 < (dot (P r) (col M q))⁻¹ := by rw [Rat.inv_pos]; exact hd
  refine ⟨piv P (fun k => dot (P k) (col M q)) r, ⟨?_, ?_, ?_, ?_⟩, ?_⟩
  · intro k l hk hl
    have h1 := D.pb k l hk hl
    have h2 := D.pb r l hr hl
    by_cases el : l = r
    · have hb : upd b r q l = q := by simp [upd, el]
      rw [hb]
      by_cases ek : k = r
      · rw [if_pos (by rw [ek, el])]
        subst ek
        simp only [piv, if_true, dot] at *
        grind
      · rw [if_neg (by rw [el]; exact ek)]
        simp only [piv, if_neg ek, dot] at *
        grind
    · have hb : upd b r q l = b l := by simp [upd, el]
      rw [hb]
      rw [if_neg (Ne.symm el)] at h2
      by_cases ek : k = r
      · rw [if_neg (by rw [ek]; exact Ne.symm el)]
        subst ek
        simp only [piv, if_true, dot] at *
        grind
      · rw [← h1]
        simp only [dot, piv, if_neg ek] at *
        grind
  · intro i j hi hj
    have h1 := D.bp i j hi hj
    rw [← h1]
    have e0 := D.bp i 0 hi (by omega)
    have e1 := D.bp i 1 hi (by omega)
    have e2 := D.bp i 2 hi (by omega)
    have hsum : col M (b 0) i * dot (P 0) (col M q) + col M (b 1) i * dot (P 1) (col M q) + col M (b 2) i * dot (P 2) (col M q) = col M q i := by
      unfold dot
      rcases lt3 hi with rfl | rfl | rfl <;> simp at e0 e1 e2 <;> grind
    clear h1 e0 e1 e2 hmin hred hep
    generalize hdd : (fun k => dot (P k) (col M q)) = d at *
    have hd0 : dot (P 0) (col M q) = d 0 := by rw [← hdd]
    have hd1 : dot (P 1) (col M q) = d 1 := by rw [← hdd]
    have hd2 : dot (P 2) (col M q) = d 2 := by rw [← hdd]
    have hdr : dot (P r) (col M q) = d r := by rw [← hdd]
    rw [hd0, hd1, hd2] at hsum
    rw [hdr] at he
    rcases lt3 hr with rfl | rfl | rfl <;> simp [piv, upd] <;> grind
  · intro k hk
    by_cases ek : k = r
    · refine ((D.lex r hr).smul hep).congr fun i _ => ?_
      simp only [piv, if_pos ek]
      grind
    · by_cases hp : 0 < dot (P k) (col M q)
      · refine ((hmin k hk ek hp).smul hep).congr fun i _ => ?_
        simp only [piv, if_neg ek]
        grind
      · by_cases hz : dot (P k) (col M q) = 0
        · refine (D.lex k hk).congr fun i _ => ?_
          simp only [piv, if_neg ek, hz]
          grind
        · have hneg : 0 < - dot (P k) (col M q) * (dot (P r) (col M q))⁻¹ := mulpos (by grind) hep
          refine ((D.lex k hk).add ((D.lex r hr).smul hneg)).congr fun i _ => ?_
          simp only [piv, if_neg ek]
          grind
  · intro k hk
    unfold upd
    split
    · exact hq
    · exact D.bv k hk
  · have hpos : 0 < (cst c q - dot (prc c b P) (col M q)) * (dot (P r) (col M q))⁻¹ := mulpos (by grind) hep
    refine ((D.lex r hr).smul hpos).congr fun i _ => ?_
    have hx : dot (prc c b P) (col M q) = cst c (b 0) * dot (P 0) (col M q) + cst c (b 1) * dot (P 1) (col M q) + cst c (b 2) * dot (P 2) (col M q) := by
      simp only [dot, prc]; grind
    rw [hx]
    clear hx hpos hmin hred hep
    generalize hdd : (fun k => dot (P k) (col M q)) = d at *
    have hd0 : dot (P 0) (col M q) = d 0 := by rw [← hdd]
    have hd1 : dot (P 1) (col M q) = d 1 := by rw [← hdd]
    have hd2 : dot (P 2) (col M q) = d 2 := by rw [← hdd]
    have hdr : dot (P r) (col M q) = d r := by rw [← hdd]
    rw [hd0, hd1, hd2, hdr]
    rw [hdr] at he
    rcases lt3 hr with rfl | rfl | rfl <;> simp [piv, upd, prc] <;> grind

theorem dict_start (M : Nat → Nat → Rat) : Dict M (fun k => k + 3) (fun k i => if k = i then 1 else 0) := by
  refine ⟨fun k l hk hl => ?_, fun i j hi hj => ?_, fun k hk => ?_, fun k hk => ?_⟩
  · rcases lt3 hk with rfl | rfl | rfl <;> rcases lt3 hl with rfl | rfl | rfl <;> simp [dot, col] <;> grind
  · rcases lt3 hi with rfl | rfl | rfl <;> rcases lt3 hj with rfl | rfl | rfl <;> simp [col] <;> grind
  · rcases lt3 hk with rfl | rfl | rfl <;> simp [LP, lp] <;> grind
  · show k + 3 < 6; omega

/-- The best dictionary. -/
theorem best {M c} (h : Prob M c) : ∃ b P, Dict M b P ∧ ∀ q, q < 6 → cst c q ≤ dot (prc c b P) (col M q) := by
  let all : List (Nat × Nat × Nat) := (List.range 6).flatMap fun x => (List.range 6).flatMap fun y => (List.range 6).map fun z => (x, y, z)
  let bo : Nat × Nat × Nat → Nat → Nat := fun t k => if k = 0 then t.1 else if k = 1 then t.2.1 else t.2.2
  have uniq : ∀ {b P P'}, Dict M b P → Dict M b P' → ∀ k i, k < 3 → i < 3 → P k i = P' k i := by
    intro b P P' D D' k i hk hi
    have a0 := D.pb k 0 hk (by omega)
    have a1 := D.pb k 1 hk (by omega)
    have a2 := D.pb k 2 hk (by omega)
    have c0 := D'.bp 0 i (by omega) hi
    have c1 := D'.bp 1 i (by omega) hi
    have c2 := D'.bp 2 i (by omega) hi
    unfold dot at a0 a1 a2
    have key : P k 0 * (if 0 = i then 1 else 0) + P k 1 * (if 1 = i then 1 else 0) + P k 2 * (if 2 = i then 1 else 0) = (if k = 0 then 1 else 0) * P' 0 i + (if k = 1 then 1 else 0) * P' 1 i + (if k = 2 then 1 else 0) * P' 2 i := by
      rw [← c0, ← c1, ← c2, ← a0, ← a1, ← a2]; grind
    rcases lt3 hk with rfl | rfl | rfl <;> rcases lt3 hi with rfl | rfl | rfl <;> simp at key <;> grind
  have prc_eq : ∀ {b P P'}, Dict M b P → Dict M b P' → ∀ i, i < 3 → prc c b P i = prc c b P' i := by
    intro b P P' D D' i hi
    unfold prc
    rw [uniq D D' 0 i (by omega) hi, uniq D D' 1 i (by omega) hi, uniq D D' 2 i (by omega) hi]
  have ext : ∀ {b b' P}, (∀ k, k < 3 → b k = b' k) → Dict M b P → Dict M b' P := by
    intro b b' P e D
    refine ⟨fun k l hk hl => by rw [← e l hl]; exact D.pb k l hk hl, fun i j hi hj => by rw [← e 0 (by omega), ← e 1 (by omega), ← e 2 (by omega)]; exact D.bp i j hi hj, D.lex, fun k hk => by rw [← e k hk]; exact D.bv k hk⟩
  have prc_ext : ∀ {b b' P}, (∀ k, k < 3 → b k = b' k) → ∀ i, prc c b P i = prc c b' P i := by
    intro b b' P e i
    unfold prc
    rw [e 0 (by omega), e 1 (by omega), e 2 (by omega)]
  let lt : Nat × Nat × Nat → Nat × Nat × Nat → Prop := fun s t => ∃ P Q, Dict M (bo s) P ∧ Dict M (bo t) Q ∧ LP (fun i => prc c (bo s) P i - prc c (bo t) Q i)
  have irr : ∀ s, ¬ lt s s := fun s ⟨P, Q, D, E, hl⟩ => hl.irr fun i hi => by rw [prc_eq D E i hi]; grind
  have tr : ∀ s t u, lt s t → lt t u → lt s u := fun s t u ⟨P, Q, D, E, hl⟩ ⟨P', Q', D', E', hl'⟩ =>
    ⟨P, Q', D, E', (hl.add hl').congr fun i hi => by rw [prc_eq E D' i hi]; grind⟩
  have mem : ∀ b : Nat → Nat, (∀ k, k < 3 → b k < 6) → (b 0, b 1, b 2) ∈ all := by
    intro b hb
    have h0 := hb 0 (by omega)
    have h1 := hb 1 (by omega)
    have h2 := hb 2 (by omega)
    simp only [all, List.mem_flatMap, List.mem_map, List.mem_range]
    exact ⟨b 0, h0, b 1, h1, b 2, h2, rfl⟩
  have bo_eq : ∀ b : Nat → Nat, ∀ k, k < 3 → bo (b 0, b 1, b 2) k = b k := by
    intro b k hk
    rcases lt3 hk with rfl | rfl | rfl <;> simp [bo]
  have step : ∃ t P, Dict M (bo t) P ∧ ∀ s, s ∈ all → ¬ lt s t := by
    have ⟨t, ht, hm⟩ := exists_min lt irr tr (all.filter fun t => @decide (∃ P, Dict M (bo t) P) (Classical.propDecidable _)) (by
      intro e
      have hs := mem (fun k => k + 3) (fun k hk => by show k + 3 < 6; omega)
      have := List.filter_eq_nil_iff.1 e _ hs
      refine this (@decide_eq_true _ (Classical.propDecidable _) ⟨_, ext (fun k hk => (bo_eq (fun k => k + 3) k hk).symm) (dict_start M)⟩))
    have ht2 := List.mem_filter.1 ht
    obtain ⟨P, D⟩ := @of_decide_eq_true _ (Classical.propDecidable _) ht2.2
    refine ⟨t, P, D, fun s hs hl => ?_⟩
    obtain ⟨P', Q', D', E', hl'⟩ := hl
    exact hm s (List.mem_filter.2 ⟨hs, @decide_eq_true _ (Classical.propDecidable _) ⟨P', D'⟩⟩) ⟨P', Q', D', E', hl'⟩
  obtain ⟨t, P, D, hmax⟩ := step
  refine ⟨bo t, P, D, fun q hq => ?_⟩
  apply Classical.byContradiction
  intro hno
  have hred : dot (prc c (bo t) P) (col M q) < cst c q := by grind
  obtain ⟨r, hr, hd, hmin⟩ := some_row D (some_up h D hq hred)
  obtain ⟨P', D', hl⟩ := pivot D hq hr hd hmin hred
  let b' := upd (bo t) r q
  have hb' := fun k hk => (bo_eq b' k hk).symm
  exact hmax _ (mem b' D'.bv) ⟨P', P, ext hb' D', D, hl.congr fun i _ => by rw [← prc_ext hb' i]⟩
/-- Sums, determinants and cofactors of squares that are functions. -/
def sumN (f : Nat → Int) : Nat → Int
  | 0 => 0
  | k + 1 => sumN f k + f k
def skip (i p : Nat) : Nat := if p < i then p else p + 1
def minorN (f : Nat → Nat → Int) (i j : Nat) : Nat → Nat → Int := fun p q => f (skip i p) (skip j q)
def sgn (i : Nat) : Int := if i % 2 = 1 then -1 else 1
def detN : Nat → (Nat → Nat → Int) → Int
  | 0, _ => 1
  | k + 1, f => sumN (fun j => sgn j * (f 0 j * detN k (minorN f 0 j))) (k + 1)
def cofN (k : Nat) (f : Nat → Nat → Int) (i j : Nat) : Int := sgn (i + j) * detN (k - 1) (minorN f i j)
def rowC (k : Nat) (f : Nat → Nat → Int) (i : Nat) : Int := sumN (fun j => cofN k f i j) k
def colC (k : Nat) (f : Nat → Nat → Int) (j : Nat) : Int := sumN (fun i => cofN k f i j) k

/-- The part with rows R and columns C tells best shares (of numbers M): its sums of cofactors have one sign, make the value sure and let no more through. -/
structure Kern (M : Nat → Nat → Int) (n m k : Nat) (r c : Nat → Nat) : Prop where
  det : detN k (fun p q => M (r p) (c q)) ≠ 0
  tot : sumN (rowC k fun p q => M (r p) (c q)) k ≠ 0
  eq : sumN (colC k fun p q => M (r p) (c q)) k = sumN (rowC k fun p q => M (r p) (c q)) k
  x : ∀ p, p < k → 0 ≤ sumN (rowC k fun p q => M (r p) (c q)) k * rowC k (fun p q => M (r p) (c q)) p
  y : ∀ q, q < k → 0 ≤ sumN (rowC k fun p q => M (r p) (c q)) k * colC k (fun p q => M (r p) (c q)) q
  xj : ∀ j, j < m → sumN (rowC k fun p q => M (r p) (c q)) k * detN k (fun p q => M (r p) (c q)) ≤ sumN (rowC k fun p q => M (r p) (c q)) k * sumN (fun p => rowC k (fun p q => M (r p) (c q)) p * M (r p) j) k
  yi : ∀ i, i < n → sumN (rowC k fun p q => M (r p) (c q)) k * sumN (fun q => M i (c q) * colC k (fun p q => M (r p) (c q)) q) k ≤ sumN (rowC k fun p q => M (r p) (c q)) k * detN k (fun p q => M (r p) (c q))
  xc : ∀ q, q < k → sumN (fun p => rowC k (fun p q => M (r p) (c q)) p * M (r p) (c q)) k = detN k (fun p q => M (r p) (c q))
  yr : ∀ p, p < k → sumN (fun q => M (r p) (c q) * colC k (fun p q => M (r p) (c q)) q) k = detN k (fun p q => M (r p) (c q))

/-- Best prices and amounts, with bases of as many rows as columns. -/
structure Opt (M : Nat → Nat → Int) (n m : Nat) (u w : Nat → Rat) : Prop where
  u0 : ∀ i, i < n → 0 ≤ u i
  w0 : ∀ j, j < m → 0 ≤ w j
  us : 0 < u 0 + u 1 + u 2
  uj : ∀ j, j < m → 1 ≤ u 0 * M 0 j + u 1 * M 1 j + u 2 * M 2 j
  wi : ∀ i, i < n → M i 0 * w 0 + M i 1 * w 1 + M i 2 * w 2 ≤ 1


def sumQ (f : Nat → Rat) : Nat → Rat
  | 0 => 0
  | k + 1 => sumQ f k + f k
theorem cast_sumN (f : Nat → Int) : ∀ k, ((sumN f k : Int) : Rat) = sumQ (fun p => (f p : Rat)) k
  | 0 => by simp [sumN, sumQ]
  | k + 1 => by rw [sumN, sumQ, Rat.intCast_add, cast_sumN f k]
theorem sumQ_mul (D : Rat) (g : Nat → Rat) : ∀ k, sumQ (fun p => D * g p) k = D * sumQ g k
  | 0 => by simp [sumQ]
  | k + 1 => by rw [sumQ, sumQ, sumQ_mul D g k]; grind
theorem sumQ_congr {f g : Nat → Rat} : ∀ {k}, (∀ p, p < k → f p = g p) → sumQ f k = sumQ g k
  | 0, _ => rfl
  | k + 1, h => by rw [sumQ, sumQ, sumQ_congr (k := k) fun p hp => h p (by omega), h k (by omega)]
theorem mulnn' {x y : Rat} (hx : 0 ≤ x) (hy : 0 ≤ y) : 0 ≤ x * y := Rat.mul_nonneg hx hy
theorem sq_pos' {x : Rat} (h : x ≠ 0) : 0 < x * x := by
  rcases Rat.le_total (a := 0) (b := x) with h0 | h0
  · exact Rat.mul_pos (by grind) (by grind)
  · have := Rat.mul_pos (a := -x) (b := -x) (by grind) (by grind); grind
theorem toInt_le {a b : Int} (h : (a : Rat) ≤ (b : Rat)) : a ≤ b := Rat.intCast_le_intCast.1 h
theorem toInt_eq {a b : Int} (h : (a : Rat) = (b : Rat)) : a = b := Rat.intCast_inj.1 h

theorem kern_of (M : Nat → Nat → Int) (n m k : Nat) (r c : Nat → Nat) (x y : Nat → Rat) (U : Rat) (hD : detN k (fun p q => M (r p) (c q)) ≠ 0)
    (hX : ∀ p, p < k → ((rowC k (fun p q => M (r p) (c q)) p : Int) : Rat) = (detN k (fun p q => M (r p) (c q)) : Int) * x p)
    (hY : ∀ q, q < k → ((colC k (fun p q => M (r p) (c q)) q : Int) : Rat) = (detN k (fun p q => M (r p) (c q)) : Int) * y q)
    (hU : 0 < U) (ux : sumQ x k = U) (uy : sumQ y k = U) (x0 : ∀ p, p < k → 0 ≤ x p) (y0 : ∀ q, q < k → 0 ≤ y q)
    (hx : ∀ j, j < m → 1 ≤ sumQ (fun p => x p * (M (r p) j : Int)) k) (hxc : ∀ q, q < k → sumQ (fun p => x p * (M (r p) (c q) : Int)) k = 1)
    (hy : ∀ i, i < n → sumQ (fun q => (M i (c q) : Int) * y q) k ≤ 1) (hyr : ∀ p, p < k → sumQ (fun q => (M (r p) (c q) : Int) * y q) k = 1) : Kern M n m k r c := by
  generalize hf : (fun p q => M (r p) (c q)) = f at *
  generalize hdd : detN k f = D at *
  have hs : ((sumN (rowC k f) k : Int) : Rat) = (D : Rat) * U := by
    rw [cast_sumN, sumQ_congr hX, sumQ_mul, ux]
  have ht : ((sumN (colC k f) k : Int) : Rat) = (D : Rat) * U := by
    rw [cast_sumN, sumQ_congr hY, sumQ_mul, uy]
  have hDR : (D : Rat) ≠ 0 := by
    intro e
    have : ((D : Int) : Rat) = ((0 : Int) : Rat) := by rw [e]; rfl
    exact hD (toInt_eq this)
  have hDD := sq_pos' hDR
  have hDU : 0 < (D : Rat) * D * U := Rat.mul_pos hDD hU
  have hXs : ∀ j, ((sumN (fun p => rowC k f p * M (r p) j) k : Int) : Rat) = (D : Rat) * sumQ (fun p => x p * (M (r p) j : Int)) k := fun j => by
    rw [cast_sumN, ← sumQ_mul]
    exact sumQ_congr fun p hp => by rw [Rat.intCast_mul, hX p hp]; grind
  have hYs : ∀ i, ((sumN (fun q => M i (c q) * colC k f q) k : Int) : Rat) = (D : Rat) * sumQ (fun q => (M i (c q) : Int) * y q) k := fun i => by
    rw [cast_sumN, ← sumQ_mul]
    exact sumQ_congr fun q hq => by rw [Rat.intCast_mul, hY q hq]; grind
  refine ⟨by rw [hf, hdd]; exact hD, ?_, ?_, fun p hp => ?_, fun q hq => ?_, fun j hj => ?_, fun i hi => ?_, fun q hq => ?_, fun p hp => ?_⟩ <;> rw [hf]
  · intro e
    rw [e] at hs
    have h0 : (D : Rat) * U = 0 := by rw [← hs]; rfl
    rcases Rat.mul_eq_zero.1 h0 with h0 | h0
    · exact hDR h0
    · rw [h0] at hU; exact absurd hU (by grind)
  · exact toInt_eq (by rw [hs, ht])
  · apply toInt_le
    rw [Rat.intCast_mul, hs, hX p hp]
    have := mulnn' (show 0 ≤ (D : Rat) * D * U by grind) (x0 p hp)
    have e : ((0 : Int) : Rat) = 0 := rfl
    rw [e]; grind
  · apply toInt_le
    rw [Rat.intCast_mul, hs, hY q hq]
    have := mulnn' (show 0 ≤ (D : Rat) * D * U by grind) (y0 q hq)
    have e : ((0 : Int) : Rat) = 0 := rfl
    rw [e]; grind
  · apply toInt_le
    rw [hdd, Rat.intCast_mul, Rat.intCast_mul, hs, hXs]
    have := mulnn' (show 0 ≤ (D : Rat) * D * U by grind) (show 0 ≤ sumQ (fun p => x p * (M (r p) j : Int)) k - 1 by have := hx j hj; grind)
    grind
  · apply toInt_le
    rw [hdd, Rat.intCast_mul, Rat.intCast_mul, hs, hYs]
    have := mulnn' (show 0 ≤ (D : Rat) * D * U by grind) (show 0 ≤ 1 - sumQ (fun q => (M i (c q) : Int) * y q) k by have := hy i hi; grind)
    grind
  · apply toInt_eq
    rw [hdd, hXs, hxc q hq]; grind
  · apply toInt_eq
    rw [hdd, hYs, hyr p hp]; grind
/-- What the best dictionary says, without its order. -/
structure Fin3 (M : Nat → Nat → Int) (n m : Nat) (u w : Nat → Rat) (B : Nat → Prop) : Prop where
  n3 : n ≤ 3
  m3 : m ≤ 3
  pos : ∀ i j, i < n → j < m → 0 < M i j
  u0 : ∀ i, i < 3 → 0 ≤ u i
  w0 : ∀ j, j < 3 → 0 ≤ w j
  uj : ∀ j, j < m → 1 ≤ u 0 * M 0 j + u 1 * M 1 j + u 2 * M 2 j
  ub : ∀ j, j < m → B j → u 0 * M 0 j + u 1 * M 1 j + u 2 * M 2 j = 1
  uz : ∀ i, i < 3 → B (i + 3) → u i = 0
  wi : ∀ i, i < n → M i 0 * w 0 + M i 1 * w 1 + M i 2 * w 2 ≤ 1
  wb : ∀ i, i < n → ¬ B (i + 3) → M i 0 * w 0 + M i 1 * w 1 + M i 2 * w 2 = 1
  wz : ∀ j, j < 3 → ¬ B j → w j = 0
  bn : ∀ i, i < 3 → ¬ B (i + 3) → i < n
  bm : ∀ j, j < 3 → B j → j < m
  non : ∀ z : Nat → Rat, (∀ j, j < 3 → ¬ B j → z j = 0) → (∀ i, i < n → ¬ B (i + 3) → M i 0 * z 0 + M i 1 * z 1 + M i 2 * z 2 = 0) → ∀ j, j < 3 → z j = 0

/-- Three numbers in some order. -/
def Prm (i j k : Nat) : Prop := ∀ f : Nat → Rat, f 0 + f 1 + f 2 = f i + f j + f k
theorem rat_pos {a : Int} (h : 0 < a) : (0 : Rat) < (a : Rat) := by
  have : ((0 : Int) : Rat) < (a : Rat) := Rat.intCast_lt_intCast.2 h
  exact this

theorem one_ok {M n m u w B} (h : Fin3 M n m u w B) (i i' i'' j j' j'' : Nat) (pi : Prm i i' i'') (pj : Prm j j' j'') (hi : i < 3) (hj : j < 3) (hi' : i' < 3) (hi'' : i'' < 3) (hj' : j' < 3) (hj'' : j'' < 3)
    (bi : ¬ B (i + 3)) (bi' : B (i' + 3)) (bi'' : B (i'' + 3)) (bj : B j) (bj' : ¬ B j') (bj'' : ¬ B j'') : Kern M n m 1 (fun _ => i) (fun _ => j) := by
  have hin := h.bn i hi bi
  have hjm := h.bm j hj bj
  have hp := h.pos i j hin hjm
  have hpr := rat_pos hp
  have zi' := h.uz i' hi' bi'
  have zi'' := h.uz i'' hi'' bi''
  have zj' := h.wz j' hj' bj'
  have zj'' := h.wz j'' hj'' bj''
  have eu := h.ub j hjm bj
  have ew := h.wb i hin bi
  rw [pi (fun v => u v * M v j), zi', zi''] at eu
  rw [pj (fun v => M i v * w v), zj', zj''] at ew
  have ue : u i * M i j = 1 := by grind
  have we : M i j * w j = 1 := by grind
  have uw : u i = w j := by
    have : u i * M i j * w j = w j := by rw [ue]; grind
    grind
  have up : 0 < u i := by
    have := h.u0 i hi
    by_cases e : u i = 0
    · rw [e] at ue; grind
    · grind
  refine kern_of M n m 1 _ _ (fun _ => u i) (fun _ => w j) (u i) ?_ ?_ ?_ up ?_ ?_ ?_ ?_ ?_ ?_ ?_ ?_
  · simp [detN, sumN, sgn]; omega
  · intro p hp; obtain rfl : p = 0 := by omega
    simp [detN, sumN, sgn, rowC, cofN]; grind
  · intro p hp; obtain rfl : p = 0 := by omega
    simp [detN, sumN, sgn, colC, cofN]; grind
  · simp [sumQ]; grind
  · simp [sumQ]; grind
  · intro p _; exact h.u0 i hi
  · intro p _; exact h.w0 j hj
  · intro k hk
    have := h.uj k hk
    rw [pi (fun v => u v * M v k), zi', zi''] at this
    simp [sumQ]; grind
  · intro q _; simp [sumQ]; grind
  · intro k hk
    have := h.wi k hk
    rw [pj (fun v => M k v * w v), zj', zj''] at this
    simp [sumQ]; grind
  · intro q _; simp [sumQ]; grind

def two (i j : Nat) (p : Nat) : Nat := if p = 0 then i else j
theorem two_ok {M n m u w B} (h : Fin3 M n m u w B) (i i' i'' j j' j'' : Nat) (pi : Prm i i' i'') (pj : Prm j j' j'') (hi : i < 3) (hj : j < 3) (hi' : i' < 3) (hi'' : i'' < 3) (hj' : j' < 3) (hj'' : j'' < 3)
    (nj : j ≠ j') (nj2 : j'' ≠ j) (nj3 : j'' ≠ j') (ni : ∀ k, k < 3 → k = i ∨ k = i' ∨ k = i'') (bi : ¬ B (i + 3)) (bi' : ¬ B (i' + 3)) (bi'' : B (i'' + 3)) (bj : B j) (bj' : B j') (bj'' : ¬ B j'') : Kern M n m 2 (two i i') (two j j') := by
  have hin := h.bn i hi bi
  have hin' := h.bn i' hi' bi'
  have hjm := h.bm j hj bj
  have hjm' := h.bm j' hj' bj'
  have hp := rat_pos (h.pos i' j' hin' hjm')
  have zi'' := h.uz i'' hi'' bi''
  have zj'' := h.wz j'' hj'' bj''
  have eu := h.ub j hjm bj
  have eu' := h.ub j' hjm' bj'
  have ew := h.wb i hin bi
  have ew' := h.wb i' hin' bi'
  rw [pi (fun v => u v * M v j), zi''] at eu
  rw [pi (fun v => u v * M v j'), zi''] at eu'
  rw [pj (fun v => M i v * w v), zj''] at ew
  rw [pj (fun v => M i' v * w v), zj''] at ew'
  have hD : (M i j : Rat) * M i' j' - M i j' * M i' j ≠ 0 := by
    intro e
    have hz := h.non (fun v => if v = j then (M i' j' : Rat) else if v = j' then - (M i' j : Rat) else 0) (fun v hv hb => by
        have h1 : v ≠ j := fun e => hb (e ▸ bj)
        have h2 : v ≠ j' := fun e => hb (e ▸ bj')
        show (if v = j then (M i' j' : Rat) else if v = j' then - (M i' j : Rat) else 0) = 0
        rw [if_neg h1, if_neg h2]) (fun k hk hb => by
        have hp := pj (fun v => (M k v : Rat) * (if v = j then (M i' j' : Rat) else if v = j' then - (M i' j : Rat) else 0))
        rw [hp, if_pos rfl, if_neg (Ne.symm nj), if_pos rfl, if_neg nj2, if_neg nj3]
        rcases ni k (by have := h.n3; omega) with rfl | rfl | rfl
        · grind
        · grind
        · exact absurd bi'' hb) j hj
    simp at hz
    rw [hz] at hp
    exact absurd hp (by grind)
  have hU : u i + u i' = w j + w j' := by grind
  have u0 := h.u0 i hi
  have u0' := h.u0 i' hi'
  have w0 := h.w0 j hj
  have w0' := h.w0 j' hj'
  have hUp : 0 < u i + u i' := by
    by_cases e : u i + u i' = 0
    · have e1 : u i = 0 := by grind
      have e2 : u i' = 0 := by grind
      rw [e1, e2] at eu; grind
    · grind
  have hDI : M i j * M i' j' - M i j' * M i' j ≠ 0 := by
    intro e
    apply hD
    have : (((M i j * M i' j' - M i j' * M i' j : Int)) : Rat) = ((0 : Int) : Rat) := by rw [e]
    rw [Rat.intCast_sub, Rat.intCast_mul, Rat.intCast_mul] at this
    exact this
  have dd : detN 2 (fun p q => M (two i i' p) (two j j' q)) = M i j * M i' j' - M i j' * M i' j := by
    simp [detN, sumN, sgn, minorN, skip, two]; grind
  refine kern_of M n m 2 _ _ (fun p => u (two i i' p)) (fun q => w (two j j' q)) (u i + u i') (by rw [dd]; exact hDI) ?_ ?_ hUp ?_ ?_ ?_ ?_ ?_ ?_ ?_ ?_
  · intro p hp
    rw [dd, Rat.intCast_sub, Rat.intCast_mul, Rat.intCast_mul]
    have : p = 0 ∨ p = 1 := by omega
    rcases this with rfl | rfl <;> simp [detN, sumN, sgn, rowC, cofN, minorN, skip, two] <;> (try simp [Rat.intCast_add, Rat.intCast_neg, Rat.intCast_mul]) <;> grind
  · intro p hp
    rw [dd, Rat.intCast_sub, Rat.intCast_mul, Rat.intCast_mul]
    have : p = 0 ∨ p = 1 := by omega
    rcases this with rfl | rfl <;> simp [detN, sumN, sgn, colC, cofN, minorN, skip, two] <;> (try simp [Rat.intCast_add, Rat.intCast_neg, Rat.intCast_mul]) <;> grind
  · simp [sumQ, two]; grind
  · simp [sumQ, two]; grind
  · intro p _; unfold two; split
    · exact u0
    · exact u0'
  · intro p _; unfold two; split
    · exact w0
    · exact w0'
  · intro k hk
    have := h.uj k hk
    rw [pi (fun v => u v * M v k), zi''] at this
    simp [sumQ, two]; grind
  · intro q hq
    have : q = 0 ∨ q = 1 := by omega
    rcases this with rfl | rfl <;> simp [sumQ, two] <;> grind
  · intro k hk
    have := h.wi k hk
    rw [pj (fun v => M k v * w v), zj''] at this
    simp [sumQ, two]; grind
  · intro q hq
    have : q = 0 ∨ q = 1 := by omega
    rcases this with rfl | rfl <;> simp [sumQ, two] <;> grind
theorem det3 (f : Nat → Nat → Int) : detN 3 f = f 0 0 * (f 1 1 * f 2 2 - f 1 2 * f 2 1) - f 0 1 * (f 1 0 * f 2 2 - f 1 2 * f 2 0) + f 0 2 * (f 1 0 * f 2 1 - f 1 1 * f 2 0) := by
  simp [detN, sumN, sgn, minorN, skip]; grind
theorem rowC3 (f : Nat → Nat → Int) : rowC 3 f 0 = (f 1 1 * f 2 2 - f 1 2 * f 2 1) - (f 1 0 * f 2 2 - f 1 2 * f 2 0) + (f 1 0 * f 2 1 - f 1 1 * f 2 0) ∧
    rowC 3 f 1 = - (f 0 1 * f 2 2 - f 0 2 * f 2 1) + (f 0 0 * f 2 2 - f 0 2 * f 2 0) - (f 0 0 * f 2 1 - f 0 1 * f 2 0) ∧
    rowC 3 f 2 = (f 0 1 * f 1 2 - f 0 2 * f 1 1) - (f 0 0 * f 1 2 - f 0 2 * f 1 0) + (f 0 0 * f 1 1 - f 0 1 * f 1 0) := by
  refine ⟨?_, ?_, ?_⟩ <;> simp [detN, sumN, sgn, minorN, skip, rowC, cofN] <;> grind
theorem colC3 (f : Nat → Nat → Int) : colC 3 f 0 = (f 1 1 * f 2 2 - f 1 2 * f 2 1) - (f 0 1 * f 2 2 - f 0 2 * f 2 1) + (f 0 1 * f 1 2 - f 0 2 * f 1 1) ∧
    colC 3 f 1 = - (f 1 0 * f 2 2 - f 1 2 * f 2 0) + (f 0 0 * f 2 2 - f 0 2 * f 2 0) - (f 0 0 * f 1 2 - f 0 2 * f 1 0) ∧
    colC 3 f 2 = (f 1 0 * f 2 1 - f 1 1 * f 2 0) - (f 0 0 * f 2 1 - f 0 1 * f 2 0) + (f 0 0 * f 1 1 - f 0 1 * f 1 0) := by
  refine ⟨?_, ?_, ?_⟩ <;> simp [detN, sumN, sgn, minorN, skip, colC, cofN] <;> grind

theorem three_ok {M n m u w B} (h : Fin3 M n m u w B) (bi : ∀ i, i < 3 → ¬ B (i + 3)) (bj : ∀ j, j < 3 → B j) : Kern M n m 3 (fun p => p) (fun q => q) := by
  have hn := fun i hi => h.bn i hi (bi i hi)
  have hm := fun j hj => h.bm j hj (bj j hj)
  have hp := rat_pos (h.pos 0 0 (hn 0 (by omega)) (hm 0 (by omega)))
  have u0 := h.ub 0 (hm 0 (by omega)) (bj 0 (by omega))
  have u1 := h.ub 1 (hm 1 (by omega)) (bj 1 (by omega))
  have u2 := h.ub 2 (hm 2 (by omega)) (bj 2 (by omega))
  have w0 := h.wb 0 (hn 0 (by omega)) (bi 0 (by omega))
  have w1 := h.wb 1 (hn 1 (by omega)) (bi 1 (by omega))
  have w2 := h.wb 2 (hn 2 (by omega)) (bi 2 (by omega))
  have p0 := h.u0 0 (by omega)
  have p1 := h.u0 1 (by omega)
  have p2 := h.u0 2 (by omega)
  have q0 := h.w0 0 (by omega)
  have q1 := h.w0 1 (by omega)
  have q2 := h.w0 2 (by omega)
  have hnon : ∀ z : Nat → Rat, (M 0 0 * z 0 + M 0 1 * z 1 + M 0 2 * z 2 = 0) → (M 1 0 * z 0 + M 1 1 * z 1 + M 1 2 * z 2 = 0) → (M 2 0 * z 0 + M 2 1 * z 1 + M 2 2 * z 2 = 0) → ∀ j, j < 3 → z j = 0 := by
    intro z h0 h1 h2
    refine h.non z (fun j hj hb => absurd (bj j hj) hb) fun i hi _ => ?_
    rcases lt3 (show i < 3 by have := h.n3; omega) with rfl | rfl | rfl
    · exact h0
    · exact h1
    · exact h2
  let f : Nat → Nat → Rat := fun i j => (M i j : Rat)
  let v3 : Rat → Rat → Rat → Nat → Rat := fun a b c k => if k = 0 then a else if k = 1 then b else c
  have e0 : ∀ a b c, v3 a b c 0 = a := fun _ _ _ => rfl
  have e1 : ∀ a b c, v3 a b c 1 = b := fun _ _ _ => rfl
  have e2 : ∀ a b c, v3 a b c 2 = c := fun _ _ _ => rfl
  have cast : ((detN 3 M : Int) : Rat) = f 0 0 * (f 1 1 * f 2 2 - f 1 2 * f 2 1) - f 0 1 * (f 1 0 * f 2 2 - f 1 2 * f 2 0) + f 0 2 * (f 1 0 * f 2 1 - f 1 1 * f 2 0) := by
    rw [det3]; simp only [Rat.intCast_add, Rat.intCast_sub, Rat.intCast_mul]; rfl
  have hD : ((detN 3 M : Int) : Rat) ≠ 0 := by
    intro e
    rw [cast] at e
    have a2 := hnon (v3 (f 0 1 * f 1 2 - f 0 2 * f 1 1) (- (f 0 0 * f 1 2 - f 0 2 * f 1 0)) (f 0 0 * f 1 1 - f 0 1 * f 1 0)) (by rw [e0, e1, e2]; grind) (by rw [e0, e1, e2]; grind) (by rw [e0, e1, e2]; grind) 2 (by omega)
    have a1 := hnon (v3 (- (f 0 1 * f 2 2 - f 0 2 * f 2 1)) (f 0 0 * f 2 2 - f 0 2 * f 2 0) (- (f 0 0 * f 2 1 - f 0 1 * f 2 0))) (by rw [e0, e1, e2]; grind) (by rw [e0, e1, e2]; grind) (by rw [e0, e1, e2]; grind) 2 (by omega)
    rw [e2] at a1 a2
    have a0 := hnon (v3 (f 0 1) (- f 0 0) 0) (by rw [e0, e1, e2]; grind) (by rw [e0, e1, e2]; grind) (by rw [e0, e1, e2]; grind) 1 (by omega)
    rw [e1] at a0
    have : f 0 0 = 0 := by grind
    rw [show (M 0 0 : Rat) = f 0 0 from rfl, this] at hp
    exact absurd hp (by grind)
  have hDI : detN 3 M ≠ 0 := fun e => hD (by rw [e]; rfl)
  have hU : u 0 + u 1 + u 2 = w 0 + w 1 + w 2 := by
    have : u 0 * (M 0 0 * w 0 + M 0 1 * w 1 + M 0 2 * w 2) + u 1 * (M 1 0 * w 0 + M 1 1 * w 1 + M 1 2 * w 2) + u 2 * (M 2 0 * w 0 + M 2 1 * w 1 + M 2 2 * w 2) =
      w 0 * (u 0 * M 0 0 + u 1 * M 1 0 + u 2 * M 2 0) + w 1 * (u 0 * M 0 1 + u 1 * M 1 1 + u 2 * M 2 1) + w 2 * (u 0 * M 0 2 + u 1 * M 1 2 + u 2 * M 2 2) := by grind
    rw [u0, u1, u2, w0, w1, w2] at this
    grind
  have hUp : 0 < u 0 + u 1 + u 2 := by
    by_cases e : u 0 + u 1 + u 2 = 0
    · have z0 : u 0 = 0 := by grind
      have z1 : u 1 = 0 := by grind
      have z2 : u 2 = 0 := by grind
      rw [z0, z1, z2] at u0; grind
    · grind
  have X0 : ((rowC 3 M 0 : Int) : Rat) = (detN 3 M : Int) * u 0 := by
    rw [cast, (rowC3 M).1]; simp only [Rat.intCast_add, Rat.intCast_sub, Rat.intCast_mul]
    have : (f 1 1 * f 2 2 - f 1 2 * f 2 1) * (u 0 * f 0 0 + u 1 * f 1 0 + u 2 * f 2 0) - (f 1 0 * f 2 2 - f 1 2 * f 2 0) * (u 0 * f 0 1 + u 1 * f 1 1 + u 2 * f 2 1) + (f 1 0 * f 2 1 - f 1 1 * f 2 0) * (u 0 * f 0 2 + u 1 * f 1 2 + u 2 * f 2 2) =
      (f 0 0 * (f 1 1 * f 2 2 - f 1 2 * f 2 1) - f 0 1 * (f 1 0 * f 2 2 - f 1 2 * f 2 0) + f 0 2 * (f 1 0 * f 2 1 - f 1 1 * f 2 0)) * u 0 := by grind
    rw [← this, u0, u1, u2]; grind
  have X1 : ((rowC 3 M 1 : Int) : Rat) = (detN 3 M : Int) * u 1 := by
    rw [cast, (rowC3 M).2.1]; simp only [Rat.intCast_add, Rat.intCast_sub, Rat.intCast_mul, Rat.intCast_neg]
    have : - (f 0 1 * f 2 2 - f 0 2 * f 2 1) * (u 0 * f 0 0 + u 1 * f 1 0 + u 2 * f 2 0) + (f 0 0 * f 2 2 - f 0 2 * f 2 0) * (u 0 * f 0 1 + u 1 * f 1 1 + u 2 * f 2 1) - (f 0 0 * f 2 1 - f 0 1 * f 2 0) * (u 0 * f 0 2 + u 1 * f 1 2 + u 2 * f 2 2) =
      (f 0 0 * (f 1 1 * f 2 2 - f 1 2 * f 2 1) - f 0 1 * (f 1 0 * f 2 2 - f 1 2 * f 2 0) + f 0 2 * (f 1 0 * f 2 1 - f 1 1 * f 2 0)) * u 1 := by grind
    rw [← this, u0, u1, u2]; grind
  have X2 : ((rowC 3 M 2 : Int) : Rat) = (detN 3 M : Int) * u 2 := by
    rw [cast, (rowC3 M).2.2]; simp only [Rat.intCast_add, Rat.intCast_sub, Rat.intCast_mul]
    have : (f 0 1 * f 1 2 - f 0 2 * f 1 1) * (u 0 * f 0 0 + u 1 * f 1 0 + u 2 * f 2 0) - (f 0 0 * f 1 2 - f 0 2 * f 1 0) * (u 0 * f 0 1 + u 1 * f 1 1 + u 2 * f 2 1) + (f 0 0 * f 1 1 - f 0 1 * f 1 0) * (u 0 * f 0 2 + u 1 * f 1 2 + u 2 * f 2 2) =
      (f 0 0 * (f 1 1 * f 2 2 - f 1 2 * f 2 1) - f 0 1 * (f 1 0 * f 2 2 - f 1 2 * f 2 0) + f 0 2 * (f 1 0 * f 2 1 - f 1 1 * f 2 0)) * u 2 := by grind
    rw [← this, u0, u1, u2]; grind
  have Y0 : ((colC 3 M 0 : Int) : Rat) = (detN 3 M : Int) * w 0 := by
    rw [cast, (colC3 M).1]; simp only [Rat.intCast_add, Rat.intCast_sub, Rat.intCast_mul]
    have : (f 1 1 * f 2 2 - f 1 2 * f 2 1) * (f 0 0 * w 0 + f 0 1 * w 1 + f 0 2 * w 2) - (f 0 1 * f 2 2 - f 0 2 * f 2 1) * (f 1 0 * w 0 + f 1 1 * w 1 + f 1 2 * w 2) + (f 0 1 * f 1 2 - f 0 2 * f 1 1) * (f 2 0 * w 0 + f 2 1 * w 1 + f 2 2 * w 2) =
      (f 0 0 * (f 1 1 * f 2 2 - f 1 2 * f 2 1) - f 0 1 * (f 1 0 * f 2 2 - f 1 2 * f 2 0) + f 0 2 * (f 1 0 * f 2 1 - f 1 1 * f 2 0)) * w 0 := by grind
    rw [← this, w0, w1, w2]; grind
  have Y1 : ((colC 3 M 1 : Int) : Rat) = (detN 3 M : Int) * w 1 := by
    rw [cast, (colC3 M).2.1]; simp only [Rat.intCast_add, Rat.intCast_sub, Rat.intCast_mul, Rat.intCast_neg]
    have : - (f 1 0 * f 2 2 - f 1 2 * f 2 0) * (f 0 0 * w 0 + f 0 1 * w 1 + f 0 2 * w 2) + (f 0 0 * f 2 2 - f 0 2 * f 2 0) * (f 1 0 * w 0 + f 1 1 * w 1 + f 1 2 * w 2) - (f 0 0 * f 1 2 - f 0 2 * f 1 0) * (f 2 0 * w 0 + f 2 1 * w 1 + f 2 2 * w 2) =
      (f 0 0 * (f 1 1 * f 2 2 - f 1 2 * f 2 1) - f 0 1 * (f 1 0 * f 2 2 - f 1 2 * f 2 0) + f 0 2 * (f 1 0 * f 2 1 - f 1 1 * f 2 0)) * w 1 := by grind
    rw [← this, w0, w1, w2]; grind
  have Y2 : ((colC 3 M 2 : Int) : Rat) = (detN 3 M : Int) * w 2 := by
    rw [cast, (colC3 M).2.2]; simp only [Rat.intCast_add, Rat.intCast_sub, Rat.intCast_mul]
    have : (f 1 0 * f 2 1 - f 1 1 * f 2 0) * (f 0 0 * w 0 + f 0 1 * w 1 + f 0 2 * w 2) - (f 0 0 * f 2 1 - f 0 1 * f 2 0) * (f 1 0 * w 0 + f 1 1 * w 1 + f 1 2 * w 2) + (f 0 0 * f 1 1 - f 0 1 * f 1 0) * (f 2 0 * w 0 + f 2 1 * w 1 + f 2 2 * w 2) =
      (f 0 0 * (f 1 1 * f 2 2 - f 1 2 * f 2 1) - f 0 1 * (f 1 0 * f 2 2 - f 1 2 * f 2 0) + f 0 2 * (f 1 0 * f 2 1 - f 1 1 * f 2 0)) * w 2 := by grind
    rw [← this, w0, w1, w2]; grind
  refine kern_of M n m 3 _ _ u w (u 0 + u 1 + u 2) hDI ?_ ?_ hUp ?_ ?_ (fun p hp => h.u0 p hp) (fun p hp => h.w0 p hp) ?_ ?_ ?_ ?_
  · intro p hp; rcases lt3 hp with rfl | rfl | rfl
    · exact X0
    · exact X1
    · exact X2
  · intro p hp; rcases lt3 hp with rfl | rfl | rfl
    · exact Y0
    · exact Y1
    · exact Y2
  · simp [sumQ]; grind
  · simp [sumQ]; grind
  · intro j hj
    have := h.uj j hj
    simp [sumQ]; grind
  · intro q hq
    rcases lt3 hq with rfl | rfl | rfl <;> simp [sumQ] <;> grind
  · intro i hi
    have := h.wi i hi
    simp [sumQ]; grind
  · intro q hq
    rcases lt3 hq with rfl | rfl | rfl <;> simp [sumQ] <;> grind
theorem col_split (M : Nat → Nat → Rat) (v : Nat) (hv : v < 6) (i : Nat) (hi : i < 3) (t : Rat) :
    col M v i * t = M i 0 * (if v = 0 then t else 0) + M i 1 * (if v = 1 then t else 0) + M i 2 * (if v = 2 then t else 0) + (if v = i + 3 then t else 0) := by
  have : v = 0 ∨ v = 1 ∨ v = 2 ∨ v = 3 ∨ v = 4 ∨ v = 5 := by omega
  rcases this with rfl | rfl | rfl | rfl | rfl | rfl <;> rcases lt3 hi with rfl | rfl | rfl <;> simp [col] <;> grind

theorem fin3_of (M : Nat → Nat → Int) (n m : Nat) (hn : n ≤ 3) (hm : m ≤ 3) (hp : ∀ i j, i < n → j < m → 0 < M i j) (hz : ∀ i j, ¬ (i < n ∧ j < m) → M i j = 0) (h0 : 1 ≤ n) :
    ∃ (b : Nat → Nat) (u w : Nat → Rat), (∀ k, k < 3 → b k < 6) ∧ (∀ k l, k < 3 → l < 3 → k ≠ l → b k ≠ b l) ∧ Fin3 M n m u w (fun v => b 0 = v ∨ b 1 = v ∨ b 2 = v) := by
  let Q : Nat → Nat → Rat := fun i j => (M i j : Rat)
  let c : Nat → Rat := fun j => if j < m then 1 else 0
  have hQ : Prob Q c := by
    refine ⟨fun i j hi hj => ?_, fun j hj => ?_⟩
    · by_cases h : i < n ∧ j < m
      · have := rat_pos (hp i j h.1 h.2); show 0 ≤ (M i j : Rat); grind
      · show 0 ≤ (M i j : Rat); rw [hz i j h]; decide
    · by_cases h : j < m
      · exact .inl ⟨0, by omega, rat_pos (hp 0 j (by omega) h)⟩
      · refine .inr ⟨by simp only [c]; rw [if_neg h], fun i _ => ?_⟩
        show (M i j : Rat) = 0
        rw [hz i j (fun x => h x.2)]; rfl
  obtain ⟨b, P, D, hopt⟩ := best hQ
  let t : Nat → Rat := fun k => P k 0 + P k 1 + P k 2
  let w : Nat → Rat := fun v => (if b 0 = v then t 0 else 0) + (if b 1 = v then t 1 else 0) + (if b 2 = v then t 2 else 0)
  have ht : ∀ k, k < 3 → 0 ≤ t k := fun k hk => by
    have := D.lex k hk
    unfold LP lp at this
    show 0 ≤ P k 0 + P k 1 + P k 2
    grind
  have ht0 := ht 0 (by omega)
  have ht1 := ht 1 (by omega)
  have ht2 := ht 2 (by omega)
  have hdist : ∀ k l, k < 3 → l < 3 → k ≠ l → b k ≠ b l := fun k l hk hl hkl e => by
    have h1 := D.pb k l hk hl
    have h2 := D.pb k k hk hk
    rw [if_neg hkl, ← e] at h1
    rw [if_pos rfl, h1] at h2
    exact absurd h2 (by decide)
  have row : ∀ i, i < 3 → Q i 0 * w 0 + Q i 1 * w 1 + Q i 2 * w 2 + w (i + 3) = 1 := fun i hi => by
    have e0 := D.bp i 0 hi (by omega)
    have e1 := D.bp i 1 hi (by omega)
    have e2 := D.bp i 2 hi (by omega)
    have s0 := col_split Q (b 0) (D.bv 0 (by omega)) i hi (t 0)
    have s1 := col_split Q (b 1) (D.bv 1 (by omega)) i hi (t 1)
    have s2 := col_split Q (b 2) (D.bv 2 (by omega)) i hi (t 2)
    have hs : col Q (b 0) i * t 0 + col Q (b 1) i * t 1 + col Q (b 2) i * t 2 = 1 := by
      simp only [t]
      rcases lt3 hi with rfl | rfl | rfl <;> simp at e0 e1 e2 <;> grind
    rw [s0, s1, s2] at hs
    simp only [w]
    grind
  have red : ∀ k, k < 3 → dot (prc c b P) (col Q (b k)) = cst c (b k) := fun k hk => by
    have h0 := D.pb 0 k (by omega) hk
    have h1 := D.pb 1 k (by omega) hk
    have h2 := D.pb 2 k (by omega) hk
    have : dot (prc c b P) (col Q (b k)) = cst c (b 0) * dot (P 0) (col Q (b k)) + cst c (b 1) * dot (P 1) (col Q (b k)) + cst c (b 2) * dot (P 2) (col Q (b k)) := by
      simp only [dot, prc]; grind
    rw [this, h0, h1, h2]
    rcases lt3 hk with rfl | rfl | rfl <;> simp <;> grind
  have dotS : ∀ i, i < 3 → dot (prc c b P) (col Q (i + 3)) = prc c b P i := fun i hi => by
    rcases lt3 hi with rfl | rfl | rfl <;> simp [dot, col] <;> grind
  have dotC : ∀ j, j < 3 → dot (prc c b P) (col Q j) = prc c b P 0 * M 0 j + prc c b P 1 * M 1 j + prc c b P 2 * M 2 j := fun j hj => by
    simp only [dot, col, if_pos hj]; rfl
  have csS : ∀ i, cst c (i + 3) = 0 := fun i => by unfold cst; rw [if_neg (by omega)]
  have csC : ∀ j, j < 3 → cst c j = c j := fun j hj => by unfold cst; rw [if_pos hj]
  have inb : ∀ v, (b 0 = v ∨ b 1 = v ∨ b 2 = v) → ∃ k, k < 3 ∧ b k = v := fun v h => by
    rcases h with h | h | h
    · exact ⟨0, by omega, h⟩
    · exact ⟨1, by omega, h⟩
    · exact ⟨2, by omega, h⟩
  have w0 : ∀ v, 0 ≤ w v := fun v => by simp only [w]; grind
  have wz : ∀ v, ¬ (b 0 = v ∨ b 1 = v ∨ b 2 = v) → w v = 0 := fun v h => by
    simp only [w]
    rw [if_neg (fun e => h (.inl e)), if_neg (fun e => h (.inr (.inl e))), if_neg (fun e => h (.inr (.inr e)))]
    grind
  refine ⟨b, prc c b P, w, D.bv, hdist, ⟨hn, hm, hp, fun i hi => ?_, fun j _ => w0 j, fun j hj => ?_, fun j hj hb => ?_, fun i hi hb => ?_, fun i hi => ?_, fun i hi hb => ?_, fun j _ hb => wz j hb, fun i hi hb => ?_, fun j hj hb => ?_, fun z hz1 hz2 j hj => ?_⟩⟩
  · have := hopt (i + 3) (by omega)
    rw [csS, dotS i hi] at this
    exact this
  · have := hopt j (by omega)
    rw [csC j (by omega), dotC j (by omega)] at this
    simp only [c, if_pos hj] at this
    exact this
  · obtain ⟨k, hk, e⟩ := inb j hb
    have := red k hk
    rw [e, csC j (by omega), dotC j (by omega)] at this
    simp only [c, if_pos hj] at this
    exact this
  · obtain ⟨k, hk, e⟩ := inb _ hb
    have := red k hk
    rw [e, csS, dotS i hi] at this
    exact this
  · have := row i (by omega)
    have h1 := w0 (i + 3)
    show Q i 0 * w 0 + Q i 1 * w 1 + Q i 2 * w 2 ≤ 1
    grind
  · have := row i (by omega)
    have h1 := wz (i + 3) hb
    show Q i 0 * w 0 + Q i 1 * w 1 + Q i 2 * w 2 = 1
    grind
  · apply Classical.byContradiction
    intro hni
    have := row i hi
    have z0 : Q i 0 = 0 := by show (M i 0 : Rat) = 0; rw [hz i 0 (by omega)]; rfl
    have z1 : Q i 1 = 0 := by show (M i 1 : Rat) = 0; rw [hz i 1 (by omega)]; rfl
    have z2 : Q i 2 = 0 := by show (M i 2 : Rat) = 0; rw [hz i 2 (by omega)]; rfl
    rw [z0, z1, z2, wz (i + 3) hb] at this
    exact absurd this (by grind)
  · apply Classical.byContradiction
    intro hnj
    obtain ⟨k, hk, e⟩ := inb j hb
    have h1 := D.pb k k hk hk
    rw [if_pos rfl, e] at h1
    have z : ∀ i, i < 3 → col Q j i = 0 := fun i _ => by
      unfold col; rw [if_pos hj]; show (M i j : Rat) = 0; rw [hz i j (by omega)]; rfl
    unfold dot at h1
    rw [z 0 (by omega), z 1 (by omega), z 2 (by omega)] at h1
    exact absurd h1 (by grind)
  · -- z on the columns of the basis, the rest of it by the rows
    let y : Nat → Rat := fun v => if v < 3 then z v else - (Q (v - 3) 0 * z 0 + Q (v - 3) 1 * z 1 + Q (v - 3) 2 * z 2)
    have yz : ∀ v, v < 6 → ¬ (b 0 = v ∨ b 1 = v ∨ b 2 = v) → y v = 0 := fun v hv hb => by
      by_cases h3 : v < 3
      · simp only [y, if_pos h3]; exact hz1 v h3 hb
      · simp only [y, if_neg h3]
        have e : v - 3 + 3 = v := by omega
        by_cases hvn : v - 3 < n
        · have := hz2 (v - 3) hvn (by rw [e]; exact hb)
          show - ((M (v - 3) 0 : Rat) * z 0 + (M (v - 3) 1 : Rat) * z 1 + (M (v - 3) 2 : Rat) * z 2) = 0
          rw [this]; grind
        · have z0 : Q (v - 3) 0 = 0 := by show (M (v - 3) 0 : Rat) = 0; rw [hz _ 0 (by omega)]; rfl
          have z1 : Q (v - 3) 1 = 0 := by show (M (v - 3) 1 : Rat) = 0; rw [hz _ 1 (by omega)]; rfl
          have z2 : Q (v - 3) 2 = 0 := by show (M (v - 3) 2 : Rat) = 0; rw [hz _ 2 (by omega)]; rfl
          rw [z0, z1, z2]; grind
    have hb01 := hdist 0 1 (by omega) (by omega) (by omega)
    have hb02 := hdist 0 2 (by omega) (by omega) (by omega)
    have hb12 := hdist 1 2 (by omega) (by omega) (by omega)
    have hsum : ∀ i, i < 3 → col Q (b 0) i * y (b 0) + col Q (b 1) i * y (b 1) + col Q (b 2) i * y (b 2) = 0 := fun i hi => by
      have s0 := col_split Q (b 0) (D.bv 0 (by omega)) i hi (y (b 0))
      have s1 := col_split Q (b 1) (D.bv 1 (by omega)) i hi (y (b 1))
      have s2 := col_split Q (b 2) (D.bv 2 (by omega)) i hi (y (b 2))
      have yv : ∀ v, v < 6 → (if b 0 = v then y (b 0) else 0) + (if b 1 = v then y (b 1) else 0) + (if b 2 = v then y (b 2) else 0) = y v := fun v hv => by
        by_cases h : b 0 = v ∨ b 1 = v ∨ b 2 = v
        · rcases h with h | h | h
          · rw [if_pos h, if_neg (by omega), if_neg (by omega), h]; grind
          · rw [if_neg (by omega), if_pos h, if_neg (by omega), h]; grind
          · rw [if_neg (by omega), if_neg (by omega), if_pos h, h]; grind
        · rw [yz v hv h, if_neg (fun e => h (.inl e)), if_neg (fun e => h (.inr (.inl e))), if_neg (fun e => h (.inr (.inr e)))]; grind
      have y0 := yv 0 (by omega)
      have y1 := yv 1 (by omega)
      have y2 := yv 2 (by omega)
      have y3 := yv (i + 3) (by omega)
      have q0 : y 0 = z 0 := rfl
      have q1 : y 1 = z 1 := rfl
      have q2 : y 2 = z 2 := rfl
      have q3 : y (i + 3) = - (Q i 0 * z 0 + Q i 1 * z 1 + Q i 2 * z 2) := by simp only [y]; rw [if_neg (by omega)]; simp
      rw [q0] at y0
      rw [q1] at y1
      rw [q2] at y2
      rw [q3] at y3
      rw [s0, s1, s2]
      grind
    have yb : ∀ k, k < 3 → y (b k) = 0 := fun k hk => by
      have a0 := hsum 0 (by omega)
      have a1 := hsum 1 (by omega)
      have a2 := hsum 2 (by omega)
      have c0 := D.pb k 0 hk (by omega)
      have c1 := D.pb k 1 hk (by omega)
      have c2 := D.pb k 2 hk (by omega)
      have key : dot (P k) (col Q (b 0)) * y (b 0) + dot (P k) (col Q (b 1)) * y (b 1) + dot (P k) (col Q (b 2)) * y (b 2) =
        P k 0 * (col Q (b 0) 0 * y (b 0) + col Q (b 1) 0 * y (b 1) + col Q (b 2) 0 * y (b 2)) + P k 1 * (col Q (b 0) 1 * y (b 0) + col Q (b 1) 1 * y (b 1) + col Q (b 2) 1 * y (b 2)) + P k 2 * (col Q (b 0) 2 * y (b 0) + col Q (b 1) 2 * y (b 1) + col Q (b 2) 2 * y (b 2)) := by
        unfold dot; grind
      rw [a0, a1, a2, c0, c1, c2] at key
      rcases lt3 hk with rfl | rfl | rfl <;> simp at key <;> grind
    have : y j = z j := by simp only [y, if_pos hj]
    rw [← this]
    by_cases h : b 0 = j ∨ b 1 = j ∨ b 2 = j
    · obtain ⟨k, hk, e⟩ := inb j h
      rw [← e]; exact yb k hk
    · exact yz j (by omega) h

/-- Ascending numbers below n. -/
def Asc (n k : Nat) (r : Nat → Nat) : Prop := (∀ p, p < k → r p < n) ∧ ∀ p, p + 1 < k → r p < r (p + 1)
theorem prm (i j k : Nat) (h : (i = 0 ∧ j = 1 ∧ k = 2) ∨ (i = 1 ∧ j = 0 ∧ k = 2) ∨ (i = 2 ∧ j = 0 ∧ k = 1) ∨ (i = 0 ∧ j = 2 ∧ k = 1) ∨ (i = 1 ∧ j = 2 ∧ k = 0) ∨ (i = 2 ∧ j = 1 ∧ k = 0)) : Prm i j k := by
  intro f
  rcases h with ⟨rfl, rfl, rfl⟩ | ⟨rfl, rfl, rfl⟩ | ⟨rfl, rfl, rfl⟩ | ⟨rfl, rfl, rfl⟩ | ⟨rfl, rfl, rfl⟩ | ⟨rfl, rfl, rfl⟩ <;> grind

/-- Some part of the table tells best shares. -/
theorem kern_exists (M : Nat → Nat → Int) (n m : Nat) (h0 : 1 ≤ n) (m0 : 1 ≤ m) (hn : n ≤ 3) (hm : m ≤ 3) (hp : ∀ i j, i < n → j < m → 0 < M i j) (hz : ∀ i j, ¬ (i < n ∧ j < m) → M i j = 0) :
    ∃ k r c, 1 ≤ k ∧ k ≤ 3 ∧ Asc n k r ∧ Asc m k c ∧ Kern M n m k r c := by
  obtain ⟨b, u, w, hb, hd, F⟩ := fin3_of M n m hn hm hp hz h0
  have b0 := hb 0 (by omega)
  have b1 := hb 1 (by omega)
  have b2 := hb 2 (by omega)
  have d01 := hd 0 1 (by omega) (by omega) (by omega)
  have d02 := hd 0 2 (by omega) (by omega) (by omega)
  have d12 := hd 1 2 (by omega) (by omega) (by omega)
  have one : ∀ i i' i'' j j' j'', Prm i i' i'' → Prm j j' j'' → i < 3 → j < 3 → i' < 3 → i'' < 3 → j' < 3 → j'' < 3 → ¬ (b 0 = i + 3 ∨ b 1 = i + 3 ∨ b 2 = i + 3) → (b 0 = i' + 3 ∨ b 1 = i' + 3 ∨ b 2 = i' + 3) → (b 0 = i'' + 3 ∨ b 1 = i'' + 3 ∨ b 2 = i'' + 3) →
      (b 0 = j ∨ b 1 = j ∨ b 2 = j) → ¬ (b 0 = j' ∨ b 1 = j' ∨ b 2 = j') → ¬ (b 0 = j'' ∨ b 1 = j'' ∨ b 2 = j'') → ∃ k r c, 1 ≤ k ∧ k ≤ 3 ∧ Asc n k r ∧ Asc m k c ∧ Kern M n m k r c := by
    intro i i' i'' j j' j'' pi pj hi hj hi' hi'' hj' hj'' q1 q2 q3 q4 q5 q6
    exact ⟨1, _, _, by omega, by omega, ⟨fun p _ => F.bn i hi q1, fun p h => by omega⟩, ⟨fun p _ => F.bm j hj q4, fun p h => by omega⟩, one_ok F i i' i'' j j' j'' pi pj hi hj hi' hi'' hj' hj'' q1 q2 q3 q4 q5 q6⟩
  have twoK : ∀ i i' i'' j j' j'', Prm i i' i'' → Prm j j' j'' → i < i' → j < j' → i' < 3 → i'' < 3 → j' < 3 → j'' < 3 → j'' ≠ j → j'' ≠ j' → (∀ k, k < 3 → k = i ∨ k = i' ∨ k = i'') → ¬ (b 0 = i + 3 ∨ b 1 = i + 3 ∨ b 2 = i + 3) → ¬ (b 0 = i' + 3 ∨ b 1 = i' + 3 ∨ b 2 = i' + 3) → (b 0 = i'' + 3 ∨ b 1 = i'' + 3 ∨ b 2 = i'' + 3) →
      (b 0 = j ∨ b 1 = j ∨ b 2 = j) → (b 0 = j' ∨ b 1 = j' ∨ b 2 = j') → ¬ (b 0 = j'' ∨ b 1 = j'' ∨ b 2 = j'') → ∃ k r c, 1 ≤ k ∧ k ≤ 3 ∧ Asc n k r ∧ Asc m k c ∧ Kern M n m k r c := by
    intro i i' i'' j j' j'' pi pj hi hj hi' hi'' hj' hj'' n1 n2 ni q1 q2 q3 q4 q5 q6
    have two_asc : ∀ {n i i'}, i < n → i' < n → i < i' → Asc n 2 (two i i') := fun {n i i'} h1 h2 h3 => ⟨fun p hp => by unfold two; split <;> assumption, fun p hp => by
      obtain rfl : p = 0 := by omega
      simpa [two] using h3⟩
    exact ⟨2, _, _, by omega, by omega, two_asc (F.bn i (by omega) q1) (F.bn i' hi' q2) hi, two_asc (F.bm j (by omega) q4) (F.bm j' hj' q5) hj, two_ok F i i' i'' j j' j'' pi pj (by omega) (by omega) hi' hi'' hj' hj'' (by omega) n1 n2 ni q1 q2 q3 q4 q5 q6⟩
  by_cases c0 : b 0 = 0 ∨ b 1 = 0 ∨ b 2 = 0 <;> by_cases c1 : b 0 = 1 ∨ b 1 = 1 ∨ b 2 = 1 <;> by_cases c2 : b 0 = 2 ∨ b 1 = 2 ∨ b 2 = 2 <;>
    by_cases c3 : b 0 = 0 + 3 ∨ b 1 = 0 + 3 ∨ b 2 = 0 + 3 <;> by_cases c4 : b 0 = 1 + 3 ∨ b 1 = 1 + 3 ∨ b 2 = 1 + 3 <;> by_cases c5 : b 0 = 2 + 3 ∨ b 1 = 2 + 3 ∨ b 2 = 2 + 3
  all_goals first
    | (exfalso; omega)
    | skip
  all_goals first
    | exact one 0 1 2 0 1 2 (prm _ _ _ (by omega)) (prm _ _ _ (by omega)) (by omega) (by omega) (by omega) (by omega) (by omega) (by omega) c3 c4 c5 c0 c1 c2
    | exact one 0 1 2 1 0 2 (prm _ _ _ (by omega)) (prm _ _ _ (by omega)) (by omega) (by omega) (by omega) (by omega) (by omega) (by omega) c3 c4 c5 c1 c0 c2
    | exact one 0 1 2 2 0 1 (prm _ _ _ (by omega)) (prm _ _ _ (by omega)) (by omega) (by omega) (by omega) (by omega) (by omega) (by omega) c3 c4 c5 c2 c0 c1
    | exact one 1 0 2 0 1 2 (prm _ _ _ (by omega)) (prm _ _ _ (by omega)) (by omega) (by omega) (by omega) (by omega) (by omega) (by omega) c4 c3 c5 c0 c1 c2
    | exact one 1 0 2 1 0 2 (prm _ _ _ (by omega)) (prm _ _ _ (by omega)) (by omega) (by omega) (by omega) (by omega) (by omega) (by omega) c4 c3 c5 c1 c0 c2
    | exact one 1 0 2 2 0 1 (prm _ _ _ (by omega)) (prm _ _ _ (by omega)) (by omega) (by omega) (by omega) (by omega) (by omega) (by omega) c4 c3 c5 c2 c0 c1
    | exact one 2 0 1 0 1 2 (prm _ _ _ (by omega)) (prm _ _ _ (by omega)) (by omega) (by omega) (by omega) (by omega) (by omega) (by omega) c5 c3 c4 c0 c1 c2
    | exact one 2 0 1 1 0 2 (prm _ _ _ (by omega)) (prm _ _ _ (by omega)) (by omega) (by omega) (by omega) (by omega) (by omega) (by omega) c5 c3 c4 c1 c0 c2
    | exact one 2 0 1 2 0 1 (prm _ _ _ (by omega)) (prm _ _ _ (by omega)) (by omega) (by omega) (by omega) (by omega) (by omega) (by omega) c5 c3 c4 c2 c0 c1
    | exact twoK 0 1 2 0 1 2 (prm _ _ _ (by omega)) (prm _ _ _ (by omega)) (by omega) (by omega) (by omega) (by omega) (by omega) (by omega) (by omega) (by omega) (fun k hk => by omega) c3 c4 c5 c0 c1 c2
    | exact twoK 0 1 2 0 2 1 (prm _ _ _ (by omega)) (prm _ _ _ (by omega)) (by omega) (by omega) (by omega) (by omega) (by omega) (by omega) (by omega) (by omega) (fun k hk => by omega) c3 c4 c5 c0 c2 c1
    | exact twoK 0 1 2 1 2 0 (prm _ _ _ (by omega)) (prm _ _ _ (by omega)) (by omega) (by omega) (by omega) (by omega) (by omega) (by omega) (by omega) (by omega) (fun k hk => by omega) c3 c4 c5 c1 c2 c0
    | exact twoK 0 2 1 0 1 2 (prm _ _ _ (by omega)) (prm _ _ _ (by omega)) (by omega) (by omega) (by omega) (by omega) (by omega) (by omega) (by omega) (by omega) (fun k hk => by omega) c3 c5 c4 c0 c1 c2
    | exact twoK 0 2 1 0 2 1 (prm _ _ _ (by omega)) (prm _ _ _ (by omega)) (by omega) (by omega) (by omega) (by omega) (by omega) (by omega) (by omega) (by omega) (fun k hk => by omega) c3 c5 c4 c0 c2 c1
    | exact twoK 0 2 1 1 2 0 (prm _ _ _ (by omega)) (prm _ _ _ (by omega)) (by omega) (by omega) (by omega) (by omega) (by omega) (by omega) (by omega) (by omega) (fun k hk => by omega) c3 c5 c4 c1 c2 c0
    | exact twoK 1 2 0 0 1 2 (prm _ _ _ (by omega)) (prm _ _ _ (by omega)) (by omega) (by omega) (by omega) (by omega) (by omega) (by omega) (by omega) (by omega) (fun k hk => by omega) c4 c5 c3 c0 c1 c2
    | exact twoK 1 2 0 0 2 1 (prm _ _ _ (by omega)) (prm _ _ _ (by omega)) (by omega) (by omega) (by omega) (by omega) (by omega) (by omega) (by omega) (by omega) (fun k hk => by omega) c4 c5 c3 c0 c2 c1
    | exact twoK 1 2 0 1 2 0 (prm _ _ _ (by omega)) (prm _ _ _ (by omega)) (by omega) (by omega) (by omega) (by omega) (by omega) (by omega) (by omega) (by omega) (fun k hk => by omega) c4 c5 c3 c1 c2 c0
    | (exfalso; have e := F.uj 0 (by omega); rw [F.uz 0 (by omega) c3, F.uz 1 (by omega) c4, F.uz 2 (by omega) c5] at e; exact absurd e (by grind))
    | (have q : ∀ i, i < 3 → ¬ (b 0 = i + 3 ∨ b 1 = i + 3 ∨ b 2 = i + 3) := (fun i hi => by rcases lt3 hi with rfl | rfl | rfl <;> first | exact c3 | exact c4 | exact c5); have q' : ∀ i, i < 3 → (b 0 = i ∨ b 1 = i ∨ b 2 = i) := (fun i hi => by rcases lt3 hi with rfl | rfl | rfl <;> first | exact c0 | exact c1 | exact c2); exact ⟨3, _, _, by omega, by omega, ⟨fun p hp => F.bn p hp (q p hp), fun p hp => by show p < p + 1; omega⟩, ⟨fun p hp => F.bm p hp (q' p hp), fun p hp => by show p < p + 1; omega⟩, three_ok F q q'⟩)
end Go.Proofs.Ytjmfkodbilknlaa.V

/- From a part of the table that tells best shares to shares that make the same sure from both sides. -/
namespace Go.Proofs.Ytjmfkodbilknlaa
open V (sumN detN rowC colC Kern)

theorem dotc_sum (a : List (List Int)) (x : List Int) (j : Nat) : ∀ n, dotc a x j n = sumN (fun i => gi x i * g2 a i j) n
  | 0 => rfl
  | n + 1 => by rw [dotc, sumN, dotc_sum a x j n]
theorem sm_sum (x : List Int) : ∀ n, sm x n = sumN (gi x) n
  | 0 => rfl
  | n + 1 => by rw [sm, sumN, sm_sum x n]
theorem sumN_congr {f g : Nat → Int} : ∀ {n}, (∀ i, i < n → f i = g i) → sumN f n = sumN g n
  | 0, _ => rfl
  | n + 1, h => by rw [sumN, sumN, sumN_congr (n := n) fun i hi => h i (by omega), h n (by omega)]
theorem sumN_add (f g : Nat → Int) : ∀ n, sumN (fun i => f i + g i) n = sumN f n + sumN g n
  | 0 => rfl
  | n + 1 => by rw [sumN, sumN, sumN, sumN_add f g n]; omega
theorem sumN_mul (f : Nat → Int) (z : Int) : ∀ n, sumN (fun i => z * f i) n = z * sumN f n
  | 0 => by simp [sumN]
  | n + 1 => by rw [sumN, sumN, sumN_mul f z n, Int.mul_add]
theorem sumN_zero : ∀ n, sumN (fun _ => 0) n = 0
  | 0 => rfl
  | n + 1 => by rw [sumN, sumN_zero n]; rfl
theorem sumN_at (v : Int) (w : Nat → Int) (r : Nat) : ∀ {n}, sumN (fun i => (if r = i then v else 0) * w i) n = if r < n then v * w r else 0
  | 0 => by simp [sumN]
  | n + 1 => by
    rw [sumN, sumN_at v w r (n := n)]
    by_cases e : r = n
    · subst e; rw [if_neg (by omega), if_pos rfl, if_pos (by omega)]; omega
    · rw [if_neg e]
      by_cases h : r < n
      · rw [if_pos h, if_pos (by omega)]; simp
      · rw [if_neg h, if_neg (by omega)]; simp
/-- Numbers put to their places, weighed. -/
theorem sumN_put (X : Nat → Int) (r : Nat → Nat) (w : Nat → Int) (n : Nat) : ∀ {k}, (∀ p, p < k → r p < n) → sumN (fun i => sumN (fun p => if r p = i then X p else 0) k * w i) n = sumN (fun p => X p * w (r p)) k
  | 0, _ => by simp [sumN, sumN_zero]
  | k + 1, h => by
    have e : ∀ i, sumN (fun p => if r p = i then X p else 0) (k + 1) * w i = sumN (fun p => if r p = i then X p else 0) k * w i + (if r k = i then X k else 0) * w i := fun i => by rw [sumN, Int.add_mul]
    rw [sumN_congr fun i _ => e i, sumN_add, sumN_put X r w n (k := k) fun p hp => h p (by omega), sumN_at, if_pos (h k (by omega)), sumN]

/-- The table raised above 0, and 0 outside. -/
def up18 (a : List (List Int)) (n m i j : Nat) : Int := if i < n ∧ j < m then g2 a i j + 18 else 0
theorem up18_in {a : List (List Int)} {n m i j : Nat} (hi : i < n) (hj : j < m) : up18 a n m i j = g2 a i j + 18 := if_pos ⟨hi, hj⟩

/-- Shares that are the part's sums of cofactors but for a factor: their sum with a column. -/
theorem spread_dot (a : List (List Int)) (x : List Int) (n m k : Nat) (r : Nat → Nat) (X : Nat → Int) (G z : Int) (hr : ∀ p, p < k → r p < n) (hl : x.length = n)
    (hx : ∀ i, i < n → gi x i * G = z * sumN (fun p => if r p = i then X p else 0) k) :
    tot x * G = z * sumN X k ∧ ∀ j, j < m → dotc a x j n * G = z * sumN (fun p => X p * up18 a n m (r p) j) k - 18 * (z * sumN X k) := by
  have key : ∀ w : Nat → Int, sumN (fun i => gi x i * w i) n * G = z * sumN (fun p => X p * w (r p)) k := fun w => by
    have e : ∀ i, i < n → G * (gi x i * w i) = z * (sumN (fun p => if r p = i then X p else 0) k * w i) := fun i hi => by
      have := hx i hi
      generalize sumN (fun p => if r p = i then X p else 0) k = s at *
      grind
    rw [Int.mul_comm, ← sumN_mul, sumN_congr e, sumN_mul, sumN_put X r w n hr]
  have h1 := key fun _ => 1
  simp only [Int.mul_one] at h1
  have ht : tot x * G = z * sumN X k := by
    unfold tot
    rw [hl, sm_sum]
    exact h1
  refine ⟨ht, fun j hj => ?_⟩
  have h2 := key fun i => g2 a i j
  have h3 : sumN (fun p => X p * up18 a n m (r p) j) k = sumN (fun p => X p * g2 a (r p) j) k + 18 * sumN X k := by
    rw [← sumN_mul, ← sumN_add]
    exact sumN_congr fun p hp => by rw [up18_in (hr p hp) hj, Int.mul_add, Int.mul_comm (X p) 18]
  rw [dotc_sum, h2, h3, Int.mul_add]
  grind
theorem spread_key (x : List Int) (n k : Nat) (r : Nat → Nat) (X w : Nat → Int) (G z : Int) (hr : ∀ p, p < k → r p < n)
    (hx : ∀ i, i < n → gi x i * G = z * sumN (fun p => if r p = i then X p else 0) k) : sumN (fun i => gi x i * w i) n * G = z * sumN (fun p => X p * w (r p)) k := by
  have e : ∀ i, i < n → G * (gi x i * w i) = z * (sumN (fun p => if r p = i then X p else 0) k * w i) := fun i hi => by
    have := hx i hi
    generalize sumN (fun p => if r p = i then X p else 0) k = s at *
    grind
  rw [Int.mul_comm, ← sumN_mul, sumN_congr e, sumN_mul, sumN_put X r w n hr]
theorem spread_dot_neg (a b : List (List Int)) (y : List Int) (n m k : Nat) (c : Nat → Nat) (Y : Nat → Int) (H z : Int) (hc : ∀ q, q < k → c q < m) (hb : ∀ i j, i < n → j < m → g2 b j i = - g2 a i j)
    (hy : ∀ j, j < m → gi y j * H = z * sumN (fun q => if c q = j then Y q else 0) k) :
    ∀ i, i < n → dotc b y i m * H = - (z * sumN (fun q => up18 a n m i (c q) * Y q) k - 18 * (z * sumN Y k)) := by
  intro i hi
  have h2 := spread_key y m k c Y (fun j => g2 b j i) H z hc hy
  have h3 : sumN (fun q => up18 a n m i (c q) * Y q) k = sumN (fun q => (-1) * (Y q * g2 b (c q) i)) k + 18 * sumN Y k := by
    rw [← sumN_mul, ← sumN_add]
    exact sumN_congr fun q hq => by
      rw [up18_in hi (hc q hq), hb i (c q) hi (hc q hq)]
      grind
  rw [sumN_mul] at h3
  rw [dotc_sum, h2, h3]
  grind
theorem le_of_sign {z s D X : Int} (hz : z = 1 ∨ z = -1) (hs : 0 < z * s) (h : s * D ≤ s * X) : z * D ≤ z * X := by
  rcases hz with rfl | rfl
  · have := Int.le_of_mul_le_mul_left h (by omega)
    omega
  · have : (-s) * X ≤ (-s) * D := by rw [Int.neg_mul, Int.neg_mul]; omega
    have := Int.le_of_mul_le_mul_left this (by omega)
    omega

/-- Shares that are the sums of cofactors of a part that tells best ones, without their sign and a factor, are best. -/
theorem kern_best (a b : List (List Int)) (x y : List Int) (n m k : Nat) (r c : Nat → Nat) (hn : 1 ≤ n) (hm : 1 ≤ m) (hk : 1 ≤ k) (K : Kern (up18 a n m) n m k r c) (hr : ∀ p, p < k → r p < n) (hc : ∀ q, q < k → c q < m)
    (hb : ∀ i j, i < n → j < m → g2 b j i = - g2 a i j) (hlx : x.length = n) (hly : y.length = m) (G H z : Int) (hG : 0 < G) (hH : 0 < H) (hz : z = 1 ∨ z = -1)
    (hs : 0 < z * sumN (rowC k fun p q => up18 a n m (r p) (c q)) k)
    (hx : ∀ i, i < n → gi x i * G = z * sumN (fun p => if r p = i then rowC k (fun p q => up18 a n m (r p) (c q)) p else 0) k)
    (hy : ∀ j, j < m → gi y j * H = z * sumN (fun q => if c q = j then colC k (fun p q => up18 a n m (r p) (c q)) q else 0) k) :
    wst a x n m (m - 1) = (- (wst b y m n (n - 1)).1, (wst b y m n (n - 1)).2) := by
  obtain ⟨ht, hd⟩ := spread_dot a x n m k r _ G z hr hlx hx
  have hdn := spread_dot_neg a b y n m k c _ H z hc hb hy
  have hty : tot y * H = z * sumN (rowC k fun p q => up18 a n m (r p) (c q)) k := by
    have := spread_key y m k c _ (fun _ => 1) H z hc hy
    simp only [Int.mul_one] at this
    rw [K.eq] at this
    unfold tot
    rw [hly, sm_sum]
    exact this
  have tx : 0 < tot x := by
    apply Classical.byContradiction; intro h
    have : tot x * G ≤ 0 * G := Int.mul_le_mul_of_nonneg_right (by omega) (by omega)
    omega
  have ty : 0 < tot y := by
    apply Classical.byContradiction; intro h
    have : tot y * H ≤ 0 * H := Int.mul_le_mul_of_nonneg_right (by omega) (by omega)
    omega
  refine best_of a b x y n m hn hm tx ty _ (z * detN k (fun p q => up18 a n m (r p) (c q)) - 18 * (z * sumN (rowC k fun p q => up18 a n m (r p) (c q)) k)) G H hG hH ht hty (fun j hj => ?_) ⟨c 0, hc 0 (by omega), ?_⟩ (fun i hi => ?_) ⟨r 0, hr 0 (by omega), ?_⟩
  · rw [hd j hj]
    have := le_of_sign hz hs (K.xj j hj)
    omega
  · rw [hd _ (hc 0 (by omega)), K.xc 0 (by omega)]
  · rw [hdn i hi, K.eq]
    have := le_of_sign hz hs (K.yi i hi)
    omega
  · rw [hdn _ (hr 0 (by omega)), K.eq, K.yr 0 (by omega)]
end Go.Proofs.Ytjmfkodbilknlaa

/- What one side makes sure is no more than what the other lets through; so the value is one. -/
namespace Go.Proofs.Ytjmfkodbilknlaa
open V (sumN)

theorem sumN_swap (f : Nat → Nat → Int) (n m : Nat) : sumN (fun i => sumN (fun j => f i j) m) n = sumN (fun j => sumN (fun i => f i j) n) m := by
  induction n with
  | zero => simp [sumN, sumN_zero]
  | succ n ih => rw [sumN, ih, ← sumN_add]; exact sumN_congr fun j _ => rfl
theorem sumN_le {f g : Nat → Int} : ∀ {n}, (∀ i, i < n → f i ≤ g i) → sumN f n ≤ sumN g n
  | 0, _ => Int.le_refl _
  | n + 1, h => by
    have h1 := sumN_le (f := f) (g := g) (n := n) fun i hi => h i (by omega)
    have h2 := h n (by omega)
    rw [sumN, sumN]; omega

/-- Of a table and of it as the other side has it. -/
structure Duo (a b : List (List Int)) (x y : List Int) (n m : Nat) : Prop where
  n1 : 1 ≤ n
  m1 : 1 ≤ m
  neg : ∀ i j, i < n → j < m → g2 b j i = - g2 a i j
  lx : x.length = n
  ly : y.length = m
  x0 : ∀ i, i < n → 0 ≤ gi x i
  y0 : ∀ j, j < m → 0 ≤ gi y j
  tx : 0 < tot x
  ty : 0 < tot y
theorem Duo.weak {a b x y n m} (d : Duo a b x y n m) : (wst a x n m (m - 1)).1 * (wst b y m n (n - 1)).2 ≤ - (wst b y m n (n - 1)).1 * (wst a x n m (m - 1)).2 := by
  have hn1 := d.n1
  have hm1 := d.m1
  obtain ⟨j, hj, e1, hl⟩ := wst_least a x n m d.tx (m - 1)
  obtain ⟨i, hi, e2, hk⟩ := wst_least b y m n d.ty (n - 1)
  have h1 : colU a x n m j * tot y ≤ sumN (fun l => gi y l * dotc a x l n) m := by
    unfold tot
    rw [d.ly, sm_sum, ← sumN_mul]
    refine sumN_le fun l hl' => ?_
    have := hl l (by omega)
    rw [colU_dotc a x n m l hl'] at this
    rw [Int.mul_comm (gi y l)]
    exact Int.mul_le_mul_of_nonneg_right this (d.y0 l hl')
  have h2 : colU b y m n i * tot x ≤ sumN (fun l => gi x l * dotc b y l m) n := by
    unfold tot
    rw [d.lx, sm_sum, ← sumN_mul]
    refine sumN_le fun l hl' => ?_
    have := hk l (by omega)
    rw [colU_dotc b y m n l hl'] at this
    rw [Int.mul_comm (gi x l)]
    exact Int.mul_le_mul_of_nonneg_right this (d.x0 l hl')
  have h3 : sumN (fun l => gi x l * dotc b y l m) n = - sumN (fun l => gi y l * dotc a x l n) m := by
    have e : ∀ l, l < n → gi x l * dotc b y l m = sumN (fun q => (-1) * (gi y q * (gi x l * g2 a l q))) m := fun l hl' => by
      rw [dotc_sum, ← sumN_mul]
      exact sumN_congr fun q hq => by rw [d.neg l q hl' hq]; grind
    rw [sumN_congr e, sumN_swap]
    have e' : ∀ q, q < m → sumN (fun l => (-1) * (gi y q * (gi x l * g2 a l q))) n = (-1) * (gi y q * dotc a x q n) := fun q _ => by
      rw [sumN_mul, sumN_mul, ← dotc_sum]
    rw [sumN_congr e', sumN_mul]
    omega
  have h4 : ¬ (- colU b y m n i) * tot x < colU a x n m j * tot y := by rw [Int.neg_mul]; omega
  have h5 := mt (fr_lt (u := - colU b y m n i) (v := colU a x n m j) d.ty d.tx).1 h4
  rw [frU_neg, frD_neg] at h5
  rw [e1, e2]
  exact Int.not_lt.1 h5
theorem wst_frac (a : List (List Int)) (x : List Int) (n m : Nat) (tx : 0 < tot x) (k : Nat) : Int.gcd (wst a x n m k).1 (wst a x n m k).2 = 1 ∧ 0 < (wst a x n m k).2 := by
  obtain ⟨j, _, e, _⟩ := wst_least a x n m tx k
  rw [e]
  exact ⟨fr_coprime _ _ tx, frD_pos tx⟩
/-- What is sure from both sides is the most that any shares make sure. -/
theorem Duo.most {a b x y n m} (h : wst a x n m (m - 1) = (- (wst b y m n (n - 1)).1, (wst b y m n (n - 1)).2)) {x2 : List Int} (d2 : Duo a b x2 y n m) :
    (wst a x2 n m (m - 1)).1 * (wst a x n m (m - 1)).2 ≤ (wst a x n m (m - 1)).1 * (wst a x2 n m (m - 1)).2 := by
  have := d2.weak
  rw [h]
  exact this
/-- So it is the same, whatever shares are best. -/
theorem Duo.same {a b x y n m} (d : Duo a b x y n m) (h : wst a x n m (m - 1) = (- (wst b y m n (n - 1)).1, (wst b y m n (n - 1)).2)) {x2 y2 : List Int} (d2 : Duo a b x2 y2 n m)
    (h2 : wst a x2 n m (m - 1) = (- (wst b y2 m n (n - 1)).1, (wst b y2 m n (n - 1)).2)) : wst a x n m (m - 1) = wst a x2 n m (m - 1) := by
  have d12 : Duo a b x2 y n m := ⟨d.n1, d.m1, d.neg, d2.lx, d.ly, d2.x0, d.y0, d2.tx, d.ty⟩
  have d21 : Duo a b x y2 n m := ⟨d.n1, d.m1, d.neg, d.lx, d2.ly, d.x0, d2.y0, d.tx, d2.ty⟩
  have k1 := Duo.most h d12
  have k2 := Duo.most h2 d21
  have f1 := wst_frac a x n m d.tx (m - 1)
  have f2 := wst_frac a x2 n m d2.tx (m - 1)
  have := fr_unique f1.2 f2.2 (by omega) f1.1 f2.1
  exact Prod.ext this.1 this.2
end Go.Proofs.Ytjmfkodbilknlaa

/- Squares in lists: a row without a column, a square without a row and a column; determinants and cofactors of squares with small numbers; transposed squares. Plain. -/
namespace Go.Proofs.Ytjmfkodbilknlaa
open V (sumN detN rowC colC cofN minorN skip sgn)

theorem gi_snoc_lt {xs : List Int} {x : Int} {k : Nat} (h : k < xs.length) : gi (xs ++ [x]) k = gi xs k := by
  rw [gi_get h, gi_get (by simp; omega), List.getElem_append_left h]
theorem gi_snoc_eq {xs : List Int} {x : Int} : gi (xs ++ [x]) xs.length = x := by
  rw [gi_get (by simp), List.getElem_append_right (Nat.le_refl _)]; simp

/-- The first j numbers of a row, without that of column c. -/
def rowW (xs : List Int) (c : Nat) : Nat → List Int
  | 0 => []
  | j + 1 => if j = c then rowW xs c j else rowW xs c j ++ [gi xs j]
theorem rowW_at {xs : List Int} {c : Nat} : rowW xs c (c + 1) = rowW xs c c := by rw [rowW, if_pos rfl]
theorem rowW_ne {xs : List Int} {c j : Nat} (h : j ≠ c) : rowW xs c (j + 1) = rowW xs c j ++ [gi xs j] := by rw [rowW, if_neg h]
theorem rowW_len (xs : List Int) (c : Nat) : ∀ j, (rowW xs c j).length = if c < j then j - 1 else j
  | 0 => by simp [rowW]
  | j + 1 => by
    have := rowW_len xs c j
    by_cases e : j = c
    · subst e; rw [rowW_at, this, if_neg (by omega), if_pos (by omega)]; omega
    · rw [rowW_ne e, List.length_append, List.length_singleton, this]
      split <;> split <;> omega
theorem gi_rowW (xs : List Int) (c : Nat) : ∀ j p, p < (rowW xs c j).length → gi (rowW xs c j) p = gi xs (skip c p)
  | 0, p, h => by simp [rowW] at h
  | j + 1, p, h => by
    by_cases e : j = c
    · subst e; rw [rowW_at] at h ⊢; exact gi_rowW xs j j p h
    · rw [rowW_ne e] at h ⊢
      have hl := rowW_len xs c j
      by_cases hp : p < (rowW xs c j).length
      · rw [gi_snoc_lt hp]; exact gi_rowW xs c j p hp
      · rw [List.length_append, List.length_singleton] at h
        obtain rfl : p = (rowW xs c j).length := by omega
        rw [gi_snoc_eq]
        congr 1
        unfold skip
        split at hl <;> split <;> omega
theorem rowW_mem (xs : List Int) (c : Nat) {j : Nat} (hj : j ≤ xs.length) {x : Int} (h : x ∈ rowW xs c j) : x ∈ xs := by
  induction j with
  | zero => simp [rowW] at h
  | succ j ih =>
    rw [rowW] at h
    split at h
    · exact ih (by omega) h
    · rcases List.mem_append.1 h with h | h
      · exact ih (by omega) h
      · simp at h; subst h; exact gi_mem (by omega)

/-- The first i rows of a square of n, without row r, each without column c. -/
def minW (a : List (List Int)) (r c n : Nat) : Nat → List (List Int)
  | 0 => []
  | i + 1 => if i = r then minW a r c n i else minW a r c n i ++ [rowW (gr a i) c n]
theorem minW_at {a : List (List Int)} {r c n : Nat} : minW a r c n (r + 1) = minW a r c n r := by rw [minW, if_pos rfl]
theorem minW_ne {a : List (List Int)} {r c n i : Nat} (h : i ≠ r) : minW a r c n (i + 1) = minW a r c n i ++ [rowW (gr a i) c n] := by rw [minW, if_neg h]
theorem minW_len (a : List (List Int)) (r c n : Nat) : ∀ i, (minW a r c n i).length = if r < i then i - 1 else i
  | 0 => by simp [minW]
  | i + 1 => by
    have := minW_len a r c n i
    by_cases e : i = r
    · subst e; rw [minW_at, this, if_neg (by omega), if_pos (by omega)]; omega
    · rw [minW_ne e, List.length_append, List.length_singleton, this]
      split <;> split <;> omega
theorem minW_le (a : List (List Int)) (r c n : Nat) (i : Nat) : (minW a r c n i).length ≤ i := by rw [minW_len]; split <;> omega
theorem rowW_le (xs : List Int) (c : Nat) (j : Nat) : (rowW xs c j).length ≤ j := by rw [rowW_len]; split <;> omega
theorem gr_minW (a : List (List Int)) (r c n : Nat) : ∀ i p, p < (minW a r c n i).length → gr (minW a r c n i) p = rowW (gr a (skip r p)) c n
  | 0, p, h => by simp [minW] at h
  | i + 1, p, h => by
    by_cases e : i = r
    · subst e; rw [minW_at] at h ⊢; exact gr_minW a i c n i p h
    · rw [minW_ne e] at h ⊢
      have hl := minW_len a r c n i
      by_cases hp : p < (minW a r c n i).length
      · rw [gr_snoc_lt hp]; exact gr_minW a r c n i p hp
      · rw [List.length_append, List.length_singleton] at h
        obtain rfl : p = (minW a r c n i).length := by omega
        rw [gr_snoc_eq]
        congr 2
        unfold skip
        split at hl <;> split <;> omega

/-- A square of k rows in a list, whose numbers are f's. -/
structure Sq (k : Nat) (xss : List (List Int)) (f : Nat → Nat → Int) : Prop where
  len : xss.length = k
  row : ∀ p, p < k → (gr xss p).length = k
  eq : ∀ p q, p < k → q < k → g2 xss p q = f p q
theorem skip_lt {k i p : Nat} (h : p < k) : skip i p < k + 1 := by unfold skip; split <;> omega
theorem Sq.minor {k : Nat} {xss : List (List Int)} {f : Nat → Nat → Int} (h : Sq (k + 1) xss f) {r c : Nat} (hr : r ≤ k) (hc : c ≤ k) :
    Sq k (minW xss r c (k + 1) (k + 1)) (minorN f r c) := by
  have hl : (minW xss r c (k + 1) (k + 1)).length = k := by rw [minW_len, if_pos (by omega)]; rfl
  have hrl : ∀ p, p < k → (gr (minW xss r c (k + 1) (k + 1)) p).length = k := fun p hp => by
    rw [gr_minW _ _ _ _ _ _ (by omega), rowW_len, if_pos (by omega)]; rfl
  refine ⟨hl, hrl, fun p q hp hq => ?_⟩
  have h1 := hrl p hp
  unfold g2
  rw [gr_minW _ _ _ _ _ _ (by omega)] at h1 ⊢
  rw [gi_rowW _ _ _ _ (by omega)]
  exact h.eq _ _ (skip_lt hp) (skip_lt hq)

theorem sumN_congr' {f g : Nat → Int} {n : Nat} (h : ∀ i, i < n → f i = g i) : sumN f n = sumN g n := sumN_congr h
theorem detN_congr : ∀ (k : Nat) {f g : Nat → Nat → Int}, (∀ p q, p < k → q < k → f p q = g p q) → detN k f = detN k g
  | 0, _, _, _ => rfl
  | k + 1, f, g, h => by
    rw [detN, detN]
    refine sumN_congr fun j hj => ?_
    rw [h 0 j (by omega) hj, detN_congr k (f := minorN f 0 j) (g := minorN g 0 j) fun p q hp hq => h _ _ (skip_lt hp) (skip_lt hq)]
theorem cofN_congr {k : Nat} {f g : Nat → Nat → Int} (h : ∀ p q, p < k → q < k → f p q = g p q) {i j : Nat} (_ : i < k) : cofN k f i j = cofN k g i j := by
  unfold cofN
  rw [detN_congr (k - 1) (f := minorN f i j) (g := minorN g i j) fun p q hp hq => h _ _ (by have := skip_lt (i := i) hp; omega) (by have := skip_lt (i := j) hq; omega)]
theorem rowC_congr {k : Nat} {f g : Nat → Nat → Int} (h : ∀ p q, p < k → q < k → f p q = g p q) {i : Nat} (hi : i < k) : rowC k f i = rowC k g i :=
  sumN_congr fun _ _ => cofN_congr h hi
theorem colC_congr {k : Nat} {f g : Nat → Nat → Int} (h : ∀ p q, p < k → q < k → f p q = g p q) {j : Nat} : colC k f j = colC k g j :=
  sumN_congr fun _ hi => cofN_congr h hi

/-- Small numbers. -/
def Ab (k : Nat) (f : Nat → Nat → Int) : Prop := ∀ p q, p < k → q < k → -27 ≤ f p q ∧ f p q ≤ 27
theorem Ab.minor {k : Nat} {f : Nat → Nat → Int} (h : Ab (k + 1) f) (r c : Nat) : Ab k (minorN f r c) := fun _ _ hp hq => h _ _ (skip_lt hp) (skip_lt hq)
theorem mulbd {x y A B : Int} (hx : -A ≤ x ∧ x ≤ A) (hy : -B ≤ y ∧ y ≤ B) : -(A * B) ≤ x * y ∧ x * y ≤ A * B := by
  have h : (x * y).natAbs ≤ A.natAbs * B.natAbs := by
    rw [Int.natAbs_mul]; exact Nat.mul_le_mul (by omega) (by omega)
  have e : ((A.natAbs * B.natAbs : Nat) : Int) = A * B := by
    rw [Int.natCast_mul]; rw [show ((A.natAbs : Nat) : Int) = A by omega, show ((B.natAbs : Nat) : Int) = B by omega]
  omega
theorem sgn_bd (i : Nat) : -1 ≤ sgn i ∧ sgn i ≤ 1 := by unfold sgn; split <;> omega
theorem sumN_bd {f : Nat → Int} {B : Int} : ∀ {n : Nat}, (∀ i, i < n → -B ≤ f i ∧ f i ≤ B) → -(B * (n : Int)) ≤ sumN f n ∧ sumN f n ≤ B * (n : Int)
  | 0, _ => by simp [sumN]
  | n + 1, h => by
    have h1 := sumN_bd (f := f) (B := B) (n := n) fun i hi => h i (by omega)
    have h2 := h n (by omega)
    rw [sumN, show ((n + 1 : Nat) : Int) = (n : Int) + 1 by omega, Int.mul_add, Int.mul_one]
    omega
/-- The greatest determinant of a square of k with small numbers. -/
def dB : Nat → Int
  | 0 => 1
  | k + 1 => 27 * dB k * ((k + 1 : Nat) : Int)
theorem term_bd {k : Nat} {f : Nat → Nat → Int} (h : Ab (k + 1) f) {j : Nat} (hj : j < k + 1) {d D : Int} (hd : -D ≤ d ∧ d ≤ D) : -(27 * D) ≤ sgn j * (f 0 j * d) ∧ sgn j * (f 0 j * d) ≤ 27 * D := by
  have h1 := mulbd (h 0 j (by omega) hj) hd
  have h2 := mulbd (sgn_bd j) h1
  omega
theorem det_bd : ∀ (k : Nat) {f : Nat → Nat → Int}, Ab k f → -(dB k) ≤ detN k f ∧ detN k f ≤ dB k
  | 0, _, _ => by simp [detN, dB]
  | k + 1, f, h => by
    rw [detN, dB]
    exact sumN_bd fun j hj => term_bd h hj (det_bd k (h.minor 0 j))
theorem dB_le {k : Nat} (h : k ≤ 3) : dB k ≤ 118098 := by
  have : k = 0 ∨ k = 1 ∨ k = 2 ∨ k = 3 := by omega
  rcases this with rfl | rfl | rfl | rfl <;> simp [dB]
theorem det_small {k : Nat} {f : Nat → Nat → Int} (hk : k ≤ 3) (h : Ab k f) : -118098 ≤ detN k f ∧ detN k f ≤ 118098 := by
  have := det_bd k h; have := dB_le hk; omega
/-- The sum of the first j terms of a determinant. -/
def detS (k : Nat) (f : Nat → Nat → Int) (j : Nat) : Int := sumN (fun j => sgn j * (f 0 j * detN k (minorN f 0 j))) j
theorem detS_all (k : Nat) (f : Nat → Nat → Int) : detS k f (k + 1) = detN (k + 1) f := by rw [detS, detN]
theorem detS_succ (k : Nat) (f : Nat → Nat → Int) (j : Nat) : detS k f (j + 1) = detS k f j + sgn j * (f 0 j * detN k (minorN f 0 j)) := rfl
theorem detS_bd {k : Nat} {f : Nat → Nat → Int} (hk : k + 1 ≤ 3) (h : Ab (k + 1) f) {j : Nat} (hj : j ≤ k + 1) : -10000000 ≤ detS k f j ∧ detS k f j ≤ 10000000 := by
  have h1 := sumN_bd (f := fun j => sgn j * (f 0 j * detN k (minorN f 0 j))) (B := 27 * 118098) (n := j) fun i hi => term_bd h (by omega) (det_small (by omega) (h.minor 0 i))
  unfold detS
  have : (27 * 118098 : Int) * (j : Int) ≤ 27 * 118098 * 3 := by omega
  omega
/-- The sum of the first j cofactors of row i. -/
def cofS (k : Nat) (f : Nat → Nat → Int) (i j : Nat) : Int := sumN (fun j => cofN k f i j) j
theorem cofS_all (k : Nat) (f : Nat → Nat → Int) (i : Nat) : cofS k f i k = rowC k f i := rfl
theorem cofS_succ (k : Nat) (f : Nat → Nat → Int) (i j : Nat) : cofS k f i (j + 1) = cofS k f i j + cofN k f i j := rfl
theorem cof_bd {k : Nat} {f : Nat → Nat → Int} (hk : k ≤ 3) (h : Ab k f) {i j : Nat} (hi : i < k) (_ : j < k) : -118098 ≤ cofN k f i j ∧ cofN k f i j ≤ 118098 := by
  obtain ⟨k, rfl⟩ : ∃ l, k = l + 1 := ⟨k - 1, by omega⟩
  have h1 := det_small (k := k) (by omega) (h.minor i j)
  unfold cofN
  rw [Nat.add_sub_cancel]
  have h2 := mulbd (sgn_bd (i + j)) h1
  omega
theorem cofS_bd {k : Nat} {f : Nat → Nat → Int} (hk : k ≤ 3) (h : Ab k f) {i : Nat} (hi : i < k) {j : Nat} (hj : j ≤ k) : -1000000 ≤ cofS k f i j ∧ cofS k f i j ≤ 1000000 := by
  have h1 := sumN_bd (f := fun j => cofN k f i j) (B := 118098) (n := j) fun l hl => cof_bd hk h hi (by omega)
  unfold cofS
  omega

/-- The square turned. -/
def trN (f : Nat → Nat → Int) : Nat → Nat → Int := fun p q => f q p
theorem det_tr2 (k : Nat) (hk : k ≤ 2) (f : Nat → Nat → Int) : detN k (trN f) = detN k f := by
  have : k = 0 ∨ k = 1 ∨ k = 2 := by omega
  rcases this with rfl | rfl | rfl
  · rfl
  · simp [detN, sumN, trN, sgn]
  · simp [detN, sumN, trN, sgn, minorN, skip]; grind
theorem cof_tr {k : Nat} (hk : k ≤ 3) (f : Nat → Nat → Int) (i j : Nat) : cofN k (trN f) i j = cofN k f j i := by
  unfold cofN
  rw [show minorN (trN f) i j = trN (minorN f j i) from rfl, det_tr2 (k - 1) (by omega), Nat.add_comm]
theorem rowC_tr {k : Nat} (hk : k ≤ 3) (f : Nat → Nat → Int) (i : Nat) : rowC k (trN f) i = colC k f i := sumN_congr fun j _ => cof_tr hk f i j
theorem Ab.tr {k : Nat} {f : Nat → Nat → Int} (h : Ab k f) : Ab k (trN f) := fun p q hp hq => h q p hq hp
end Go.Proofs.Ytjmfkodbilknlaa

/- A square without a row and a column, by the model. -/
namespace Go.Proofs.Ytjmfkodbilknlaa
open Go.RowKit

theorem Small.rowW_bd {xss : List (List Int)} (h : Small xss) {k c j : Nat} (hk : k < xss.length) (hj : j ≤ (gr xss k).length) : ∀ x ∈ rowW (gr xss k) c j, -1000 ≤ x ∧ x ≤ 1000 :=
  fun x hx => (h.rows _ (gr_mem hk)).2 x (rowW_mem _ _ hj hx)
theorem eqi_true {a b : Nat} (h : a = b) : ((a : Int) == (b : Int)) = true := by subst h; simp
theorem eqi_false {a b : Nat} (h : a ≠ b) : ((a : Int) == (b : Int)) = false := by simp; omega
theorem nei_true {a b : Nat} (h : a ≠ b) : ((a : Int) != (b : Int)) = true := by simp; omega
theorem nei_false {a b : Nat} (h : a = b) : ((a : Int) != (b : Int)) = false := by subst h; simp

end Go.Proofs.Ytjmfkodbilknlaa

/- Sums of numbers; shares: by both programs and the laws. -/
namespace Go.Proofs.Ytjmfkodbilknlaa
open Go.RowKit

def Fit (x : Int) : Prop := -9223372036854775808 ≤ x ∧ x ≤ 9223372036854775807
/-- Numbers whose sums fit. -/
structure SumOk (xs : List Int) : Prop where
  n : xs.length ≤ 1000
  bd : ∀ j, j < xs.length → -1000000000000 ≤ gi xs j ∧ gi xs j ≤ 1000000000000
theorem SumOk.sm {xs : List Int} (h : SumOk xs) {k : Nat} (hk : k ≤ xs.length) : -1000000000000000 ≤ sm xs k ∧ sm xs k ≤ 1000000000000000 := by
  have h1 := sm_bd (xs := xs) (k := k) (lo := -1000000000000) (hi := 1000000000000) fun j hj => h.bd j (by omega)
  have h2 := h.n
  omega
theorem SumOk.of_small {xs : List Int} {B : Int} (hn : xs.length ≤ 1000) (h : ∀ j, j < xs.length → -B ≤ gi xs j ∧ gi xs j ≤ B) (hB : B ≤ 1000000000000) : SumOk xs :=
  ⟨hn, fun j hj => by have := h j hj; omega⟩
theorem VS.sumOk {xs : List Int} {n : Int} (h : VS xs n) (hn : n ≤ 3) : SumOk xs :=
  ⟨by have := h.1; omega, fun j hj => by have := h.2.1 j hj; unfold InR at this; omega⟩

theorem VS_no {xs : List Int} {n : Int} {k : Nat} (hk : k < xs.length) (h : ¬ InR (gi xs k) 0 1000) : pb (VS xs n) = false := pb_false fun v => h (v.2.1 k hk)

end Go.Proofs.Ytjmfkodbilknlaa

/- Greatest common divisors and fractions, by both programs. -/
namespace Go.Proofs.Ytjmfkodbilknlaa
open Go.RowKit

def Mid (x : Int) : Prop := -1000000000000000 ≤ x ∧ x ≤ 1000000000000000
theorem Mid.tmod {x y : Int} (hx : Mid x) : Mid (x.tmod y) := by
  have h : (x.tmod y).natAbs ≤ x.natAbs := by rw [Int.natAbs_tmod]; exact Nat.mod_le _ _
  unfold Mid at *
  omega

set_option maxHeartbeats 400000 in
theorem gcd_any (a b : Int) (w : World) (ha : Mid a) (hb : Mid b) :
    Calls Try.prog 65 #[.int .i64 a, .int .i64 b] w fun e w' => e = .returned (.int .i64 (gcdI a b)) ∧ Quiet w w' := by
  have HA := Lib.hid ha
  have HB := Lib.hid hb
  clear ha hb
  go_enter Try.func65, Try.ntmps65
  go_wp2
  go_loopw [0, 1] (fun s t wr => ∃ x y : Int, s = .int .i64 x ∧ t = .int .i64 y ∧ Hid (Mid x) ∧ Hid (Mid y) ∧ Hid (gcdI x y = gcdI a b) ∧ Quiet w wr) (fun _ t _ => (intOf t).natAbs)
  case atStart => exact ⟨a, b, rfl, rfl, HA, HB, Lib.hid rfl, Quiet.refl _⟩
  case round =>
    obtain ⟨x, y, rfl, rfl, HX, HY, HG, q, rfl⟩ := hrel
    obtain ⟨x1, x2⟩ := HX.out
    obtain ⟨y1, y2⟩ := HY.out
    by_cases hy : y = 0
    · subst hy
      have hg := Lib.hid (gcdI_zero x)
      go_wp2
      all_goals go_ret
      all_goals exact ⟨ret_int (by rw [← HG.out, hg.out]; omega), ⟨_, rfl⟩⟩
    · have hy' : (y != 0) = true := by simpa using hy
      have HM := Lib.hid (HX.out.tmod (y := y))
      have HS := Lib.hid (gcdI_step x y)
      have HT := Lib.hid (tmod_abs (a := x) hy)
      go_wp2
      go_roundw
      case rel => exact ⟨y, x.tmod y, rfl, rfl, HY, HM, Lib.hid (HS.out.trans HG.out), ⟨_, rfl⟩⟩
      case measure => have := HT.out; simpa [intOf] using this

/-- The greatest common divisor of the first k numbers. -/
def gcdL (xs : List Int) : Nat → Int
  | 0 => 0
  | k + 1 => gcdI (gcdL xs k) (gi xs k)
theorem gcdL_nn (xs : List Int) : ∀ k, 0 ≤ gcdL xs k
  | 0 => Int.le_refl _
  | _ + 1 => gcdI_nonneg _ _
theorem gcdL_mid {xs : List Int} (h : ∀ j, j < xs.length → Mid (gi xs j)) : ∀ {k : Nat}, k ≤ xs.length → Mid (gcdL xs k)
  | 0, _ => by simp [gcdL, Mid]
  | k + 1, hk => by
    have h1 := gcdL_mid h (k := k) (by omega)
    have h2 := h k (by omega)
    have h3 := gcdI_nonneg (gcdL xs k) (gi xs k)
    simp only [gcdL]
    by_cases e : gi xs k = 0
    · rw [e, gcdI_zero]; unfold Mid at *; omega
    · have h4 : gcdI (gcdL xs k) (gi xs k) ≤ max (gi xs k) (- gi xs k) := by
        rw [← gcdI_zero]
        have h5 : gcdI (gi xs k) 0 = (gi xs k).natAbs := by unfold gcdI; simp
        rw [h5]
        have : gcdI (gcdL xs k) (gi xs k) ∣ ((gi xs k).natAbs : Int) := Int.dvd_natAbs.2 (gcdI_dvd_right _ _)
        exact Int.le_of_dvd (by omega) this
      unfold Mid at *
      omega

set_option maxHeartbeats 1000000 in
theorem commonFactor_any (A : Option Addr) (n c : Nat) (xs : List Int) (w : World) (hx : Ints w A n c xs) (hm : ∀ j, j < xs.length → Mid (gi xs j)) :
    Calls Try.prog 69 #[.slice A n c] w fun e w' => e = .returned (.int .i64 (gcdL xs n)) ∧ Quiet w w' := by
  have HX := Lib.hid hx
  have HL := Lib.hid hx.len
  have hmx := hx.max
  have HM := Lib.hid hm
  clear hx hm
  go_enter Try.func69, Try.ntmps69
  go_wp2
  go_loopw [3, 8] (fun f i wr => ∃ (k : Nat) (x : Int), k ≤ n ∧ i = .int .i64 k ∧ f = .int .i64 x ∧ Hid (Mid x) ∧ Hid (gcdI x 0 = gcdL xs k) ∧ Quiet w wr) (fun _ i _ => n - (intOf i).toNat)
  case atStart => exact ⟨0, 0, Nat.zero_le _, rfl, rfl, Lib.hid (by unfold Mid; omega), Lib.hid (by rw [gcdI_zero]; rfl), Quiet.refl _⟩
  case round =>
    obtain ⟨k, x, hk, rfl, rfl, HF, HG, q, rfl⟩ := hrel
    by_cases hlt : k < n
    · obtain ⟨b, o, rfl, hc⟩ := HX.out.at_ (by omega)
      have c1 := hc k hlt
      have HZ := Lib.hid (HM.out k (by rw [HL.out]; exact hlt))
      have HG2 : Hid (gcdI x (gi xs k) = gcdL xs (k + 1)) := Lib.hid (by
        rw [gcdL]
        have := HG.out
        rw [gcdI_zero] at this
        rw [← this, gcdI_abs])
      clear hc
      go_wp2
      clear c1
      go_loopw [3, 5] (fun f v wi => ∃ (s t : Int), f = .int .i64 s ∧ v = .int .i64 t ∧ Hid (Mid s) ∧ Hid (Mid t) ∧ Hid (gcdI s t = gcdL xs (k + 1)) ∧ Quiet w wi) (fun _ v _ => (intOf v).natAbs)
      case atStart => exact ⟨x, gi xs k, rfl, rfl, HF, HZ, HG2, by first | exact ⟨_, rfl⟩ | exact Quiet.two _ _ _⟩
      case round =>
        clear HF HG HG2 HZ
        obtain ⟨s, t, rfl, rfl, HS, HT, HG, q2, rfl⟩ := hrel
        obtain ⟨s1, s2⟩ := HS.out
        obtain ⟨t1, t2⟩ := HT.out
        by_cases hy : t = 0
        · subst hy
          go_wp2
          go_roundw
          case rel => exact ⟨k + 1, s, by omega, by go_num, rfl, HS, HG, by first | exact ⟨_, rfl⟩ | exact Quiet.two _ _ _⟩
          case measure => simp [intOf]; omega
        · have hy' : (t != 0) = true := by simpa using hy
          have HM2 := Lib.hid (HS.out.tmod (y := t))
          have HS2 := Lib.hid (gcdI_step s t)
          have HT2 := Lib.hid (tmod_abs (a := s) hy)
          go_wp2
          go_quiet (fail)
          go_wp2
          go_roundw
          case rel => exact ⟨t, s.tmod t, rfl, rfl, HT, HM2, Lib.hid (HS2.out.trans HG.out), by first | exact ⟨_, rfl⟩ | exact Quiet.two _ _ _⟩
          case measure => have := HT2.out; simpa [intOf] using this
    · obtain rfl : k = n := by omega
      obtain ⟨x1, x2⟩ := HF.out
      have hg := Lib.hid (gcdI_zero x)
      go_wp2
      all_goals go_ret
      all_goals exact ⟨ret_int (by rw [← HG.out, hg.out]; omega), ⟨_, rfl⟩⟩

/-- A fraction as both programs have it. -/
def frV (u d : Int) : Value := .agg #[.int .i64 (frU u d), .int .i64 (frD u d)]

set_option maxHeartbeats 1000000 in
theorem frac_any (u d : Int) (w : World) (hu : Mid u) (hd : Mid d) (h1 : 1 ≤ d) :
    Calls Try.prog 34 #[.int .i64 u, .int .i64 d] w (Ret (frV u d) w) := by
  have HQ := Lib.hid (fun W => gcd_any u d W hu hd)
  have hg1 := gcdI_pos (a := u) (b := d) (by omega)
  have hg2 := gcdI_le (a := u) (b := d) (by omega)
  have HUB := Lib.hid (frU_bd (u := u) (d := d) (B := 1000000000000000) (by omega) hu)
  have HDB := Lib.hid (frD_bd (u := u) (d := d) (B := 1000000000000000) (by omega) hd.2)
  obtain ⟨u1, u2⟩ := hu
  obtain ⟨d1, d2⟩ := hd
  have hB := Lib.hid (below_alloc w (.cells #[.int .i64 0, .int .i64 0] 25))
  go_enter Try.func34, Try.ntmps34
  go_wp2_with fail
  refine (HQ.out _).mono ?_
  rintro e w2 ⟨rfl, q2, rfl⟩
  have HFU : Hid (frU u d = u.tdiv (gcdI u d)) := Lib.hid rfl
  have HFD : Hid (frD u d = d / gcdI u d) := Lib.hid (by unfold frD; rw [Int.tdiv_eq_ediv_of_nonneg (by omega)])
  generalize gcdI u d = g at *
  have b0 : Blk ((w.alloc (.cells #[.int .i64 0, .int .i64 0] 25)).drewN q2) w.heap.size 25 #[.int .i64 0, .int .i64 0] := blk_new w _ _
  have c0 := blk_cell b0 (i := 0) rfl
  have c1 := blk_cell b0 (i := 1) rfl
  have f0 := blk_frozen b0 0
  have f1 := blk_frozen b0 1
  have g0 : (g == 0) = false := by simp; omega
  go_wp2
  go_region
  all_goals clear c0 c1 f0 f1
  all_goals go_wp2
  have B1 := blk_set (blk_set (show Blk ((w.alloc (.cells #[.int .i64 0, .int .i64 0] 25)).drewN (q2 + 1)) w.heap.size 25 #[.int .i64 0, .int .i64 0] from blk_new w _ _) 0 (.int .i64 (u.tdiv g))) 1 (.int .i64 (d / g))
  have r0 := blk_cell B1 (i := 0) (v := .int .i64 (u.tdiv g)) rfl
  have r1 := blk_cell B1 (i := 1) (v := .int .i64 (d / g)) rfl
  have HBW := Lib.hid (((below_drewN hB.out (q2 + 1)).setCell (p := ⟨w.heap.size, 0, none⟩) (Nat.le_refl _) (.int .i64 (u.tdiv g))).setCell (p := ⟨w.heap.size, 1, none⟩) (Nat.le_refl _) (.int .i64 (d / g)))
  clear B1 b0
  generalize (((w.alloc (.cells #[.int .i64 0, .int .i64 0] 25)).drewN (q2 + 1)).setCell ⟨w.heap.size, 0, none⟩ (.int .i64 (u.tdiv g))).setCell ⟨w.heap.size, 1, none⟩ (.int .i64 (d / g)) = W3 at *
  refine bodyPost_ret (v := .agg #[.int .i64 (u.tdiv g), .int .i64 (d / g)]) (by simp [results, Try.results34, go_sem, r0, r1]) rfl ?_
  exact ⟨by rw [frV, HFU.out, HFD.out], HBW.out⟩

set_option maxHeartbeats 1000000 in
theorem fracOf_any (u d : Int) (w : World) (hu : Mid u) (hd : Mid d) (h1 : 1 ≤ d) :
    Calls Try.prog 44 #[.int .i64 u, .int .i64 d] w (Ret (frV u d) w) := by
  have hg1 := gcdI_pos (a := u) (b := d) (by omega)
  have hg2 := gcdI_le (a := u) (b := d) (by omega)
  have HGL : Hid (gcdL [u, d] 2 = gcdI u d) := Lib.hid (by
    show gcdI (gcdI 0 u) d = gcdI u d
    rw [gcdI_zero_left, gcdI_abs])
  have HMID : Hid (∀ j, j < [u, d].length → Mid (gi [u, d] j)) := Lib.hid (fun j hj => by
    have h : j = 0 ∨ j = 1 := by simp at hj; omega
    rcases h with rfl | rfl
    · exact hu
    · exact hd)
  obtain ⟨u1, u2⟩ := hu
  obtain ⟨d1, d2⟩ := hd
  have hB := Lib.hid (below_alloc w (.cells #[.int .i64 0, .int .i64 0] 25))
  have HB2 := Lib.hid (below_alloc (w.alloc (.cells #[.int .i64 0, .int .i64 0] 25)) (.cells #[iv u, iv d] 3))
  have HI : Hid (Ints ((w.alloc (.cells #[.int .i64 0, .int .i64 0] 25)).alloc (.cells #[iv u, iv d] 3)) (some ⟨w.heap.size + 1, 0, none⟩) 2 2 [u, d]) := Lib.hid (by
    have h := Ints.two (w.alloc (.cells #[.int .i64 0, .int .i64 0] 25)) u d
    rw [World.size_alloc] at h
    exact h)
  go_enter Try.func44, Try.ntmps44
  go_wp2_with fail
  have HC := Lib.hid (commonFactor_any _ _ _ _ _ HI.out HMID.out)
  refine HC.out.mono ?_
  rintro e w2 ⟨rfl, hq⟩
  rw [HGL.out]
  have b0 := blk_quiet (blk_below (blk_new w 25 #[.int .i64 0, .int .i64 0]) HB2.out) hq
  have HBW := Lib.hid (below_quiet (below_up hB.out HB2.out) hq)
  have HFU : Hid (frU u d = u.tdiv (gcdI u d)) := Lib.hid rfl
  have HFD : Hid (frD u d = d / gcdI u d) := Lib.hid (by unfold frD; rw [Int.tdiv_eq_ediv_of_nonneg (by omega)])
  clear hq HGL HI HB2 hB HMID
  generalize gcdI u d = g at *
  have c0 := blk_cell b0 (i := 0) rfl
  have c1 := blk_cell b0 (i := 1) rfl
  have f0 := blk_frozen b0 0
  have f1 := blk_frozen b0 1
  have g0 : (g == 0) = false := by simp; omega
  go_wp2
  go_region
  all_goals clear c0 c1 f0 f1
  all_goals go_wp2
  have B1 := blk_set (blk_set b0 0 (.int .i64 (u.tdiv g))) 1 (.int .i64 (d / g))
  have r0 := blk_cell B1 (i := 0) (v := .int .i64 (u.tdiv g)) rfl
  have r1 := blk_cell B1 (i := 1) (v := .int .i64 (d / g)) rfl
  have HBX := Lib.hid ((HBW.out.setCell (p := ⟨w.heap.size, 0, none⟩) (Nat.le_refl _) (.int .i64 (u.tdiv g))).setCell (p := ⟨w.heap.size, 1, none⟩) (Nat.le_refl _) (.int .i64 (d / g))).drew
  replace r0 : ((w2.setCell ⟨w.heap.size, 0, none⟩ (.int .i64 (u.tdiv g))).setCell ⟨w.heap.size, 1, none⟩ (.int .i64 (d / g))).drew.cell? ⟨w.heap.size, 0, none⟩ = some (.int .i64 (u.tdiv g)) := r0
  replace r1 : ((w2.setCell ⟨w.heap.size, 0, none⟩ (.int .i64 (u.tdiv g))).setCell ⟨w.heap.size, 1, none⟩ (.int .i64 (d / g))).drew.cell? ⟨w.heap.size, 1, none⟩ = some (.int .i64 (d / g)) := r1
  clear B1 b0 HBW
  generalize ((w2.setCell ⟨w.heap.size, 0, none⟩ (.int .i64 (u.tdiv g))).setCell ⟨w.heap.size, 1, none⟩ (.int .i64 (d / g))).drew = W3 at *
  refine bodyPost_ret (v := .agg #[.int .i64 (u.tdiv g), .int .i64 (d / g)]) (by simp [results, Try.results44, go_sem, r0, r1]) rfl ?_
  exact ⟨by rw [frV, HFU.out, HFD.out], HBX.out⟩
end Go.Proofs.Ytjmfkodbilknlaa

/- Means of tables, by both programs. -/
namespace Go.Proofs.Ytjmfkodbilknlaa
open Go.RowKit

end Go.Proofs.Ytjmfkodbilknlaa

/- Means of tables, by the program: terms in a slice made by append. -/
namespace Go.Proofs.Ytjmfkodbilknlaa
open Go.RowKit

theorem wrap_in64 {x : Int} (h : -9223372036854775808 ≤ x ∧ x ≤ 9223372036854775807) : IntKind.i64.wrap x = x := by rw [IntKind.wrap_i64]; omega
theorem Try.infoI : (Try.prog.info? 3).map (fun i => (i.zero, i.size, i.bytes)) = some (some (.int .i64 0), 1, 8) := by kernel_rfl
/-- Terms under way. -/
structure MP (a : List (List Int)) (x y : List Int) (m : Nat) (w : World) (i j : Nat) (v : Value) (L : List Int) (wr : World) : Prop where
  bld : BldI (w.heap.size + 1) wr.heap.size wr v L
  box : Blk wr w.heap.size 25 #[.int .i64 0, .int .i64 0]
  below : Below w.heap.size w wr
  len : L.length ≤ 3 * i + j
  bd : ∀ t ∈ L, -9000000 ≤ t ∧ t ≤ 9000000
  sum : tot L = payU a x y m i + payR a x y i j
theorem MP.start (a : List (List Int)) (x y : List Int) (m : Nat) (w : World) : MP a x y m w 0 0 (.slice none 0 0) [] (w.alloc (.cells #[.int .i64 0, .int .i64 0] 25)) :=
  ⟨BldI.nil _ _ _, blk_new _ _ _, below_alloc _ _, by simp, fun t ht => by simp at ht, rfl⟩
theorem MP.qu {a x y m w i j v L wr wr'} (h : MP a x y m w i j v L wr) (k : Quiet wr wr') : MP a x y m w i j v L wr' := by
  obtain ⟨q, rfl⟩ := k
  exact ⟨h.bld.of_blocks fun _ _ _ _ => rfl, h.box, below_drewN h.below q, h.len, h.bd, h.sum⟩
theorem MP.next {a x y m w i v L wr} (h : MP a x y m w i m v L wr) (hm : m ≤ 3) : MP a x y m w (i + 1) 0 v L wr :=
  ⟨h.bld, h.box, h.below, by have := h.len; omega, h.bd, by rw [h.sum, payU, payR]; omega⟩
theorem MP.push {a x y m w i j v L wr w2 w1} {gg cap : Nat} {t : Int} (h : MP a x y m w i j v L wr) (hb : Below wr.heap.size wr w2) (hs : w2.heap.size = wr.heap.size + 1)
    (hown : w1.ownsRow (w.heap.size + 1) 3 1 (.slice (some ⟨gg, 0, none⟩) (L.length + 1) cap) (L.length + 1) (L.map iv ++ [iv t])) (hgrow : w2.grownBy w1 v.ownBlock) (hlt : gg < w1.heap.size)
    (ht : -9000000 ≤ t ∧ t ≤ 9000000) (he : payR a x y i (j + 1) = payR a x y i j + t) : MP a x y m w i (j + 1) (.slice (some ⟨gg, 0, none⟩) (L.length + 1) cap) (L ++ [t]) w1 := by
  have hz := h.below.size
  have hv : ∀ k, v.ownBlock = some k → w.heap.size + 1 ≤ k := fun k hk => (h.bld.own.lt k hk).1
  have hbl : w.heap.size < wr.heap.size := blk_lt h.box
  have hsz := hgrow.size
  refine ⟨⟨by rw [List.length_append, List.length_singleton, List.map_append]; exact hown, fun k hk => ?_⟩, ?_, ?_, ?_, fun u hu => ?_, ?_⟩
  · have : gg = k := by simpa [Value.ownBlock] using hk
    omega
  · exact (hgrow.block _ (by omega) (fun e => by have := hv _ e.symm; omega)).trans ((hb.block _ hbl).trans h.box)
  · exact ⟨hgrow.os.trans (hb.os.trans h.below.os), hgrow.tape.trans (hb.tape.trans h.below.tape), hgrow.output.trans (hb.output.trans h.below.output), by omega, fun k hk =>
      (hgrow.block k (by omega) (fun e => by have := hv k e.symm; omega)).trans ((hb.block k (by omega)).trans (h.below.block k hk))⟩
  · have := h.len; rw [List.length_append, List.length_singleton]; omega
  · rcases List.mem_append.1 hu with hu | hu
    · exact h.bd u hu
    · simp at hu; subst hu; exact ht
  · rw [tot_snoc, h.sum, he]; omega
theorem MP.ints {a x y m w i j L wr} {A : Option Addr} {c : Nat} (h : MP a x y m w i j (.slice A L.length c) L wr) (hl : L.length ≤ 100) : Ints wr A L.length c L := by
  obtain ⟨A', n', c', g, e, hn, ho, _⟩ := h.bld.owns (by omega) (fun t ht => by have := h.bd t ht; omega)
  injection e with e1 e2 e3
  subst e1
  subst e2
  subst e3
  exact ho.ints
theorem MP.sumOk {a x y m w i j v L wr} (h : MP a x y m w i j v L wr) (hl : L.length ≤ 100) : SumOk L :=
  ⟨by omega, fun j hj => by have := h.bd _ (gi_mem hj); omega⟩
theorem tot_bd {x : List Int} {n : Nat} (hn : n ≤ 3) (hl : x.length = n) (h : ∀ i, i < n → 0 ≤ gi x i ∧ gi x i ≤ 1000) : 0 ≤ tot x ∧ tot x ≤ 3000 := by
  have := sm_bd (xs := x) (k := x.length) (lo := 0) (hi := 1000) fun j hj => h j (by omega)
  unfold tot
  omega

end Go.Proofs.Ytjmfkodbilknlaa

/- The determinant of a square, by the model. -/
namespace Go.Proofs.Ytjmfkodbilknlaa
open Go.RowKit
open V (sumN detN rowC colC cofN minorN skip sgn)

theorem sgn_succ (j : Nat) : sgn (j + 1) = - sgn j := by unfold sgn; split <;> split <;> omega
theorem Sq.small {k : Nat} {xss : List (List Int)} {f : Nat → Nat → Int} (h : Sq k xss f) (hk : k ≤ 3) (ha : Ab k f) : Small xss := by
  refine ⟨by have := h.len; omega, fun r hr => ?_⟩
  obtain ⟨p, hp, rfl⟩ := List.mem_iff_getElem.1 hr
  rw [← gr_get hp]
  have hpk : p < k := by have := h.len; omega
  have hl := h.row p hpk
  refine ⟨by omega, fun x hx => ?_⟩
  obtain ⟨q, hq, rfl⟩ := List.mem_iff_getElem.1 hx
  rw [← gi_get hq]
  have := h.eq p q hpk (by omega)
  unfold g2 at this
  have := ha p q hpk (by omega)
  omega
theorem Sq.even {k : Nat} {xss : List (List Int)} {f : Nat → Nat → Int} (h : Sq k xss f) : Even xss k := fun p hp => h.row p (by rw [← h.len]; exact hp)
theorem wrapIn {x : Int} (h : -1000000000000000 ≤ x ∧ x ≤ 1000000000000000) : IntKind.i64.wrap x = x := wrap_in64 ⟨by omega, by omega⟩

end Go.Proofs.Ytjmfkodbilknlaa

/- Slices of ints under way; the sums of cofactors of each row of a square, by the model. -/
namespace Go.Proofs.Ytjmfkodbilknlaa
open Go.RowKit
open V (sumN detN rowC colC cofN minorN skip sgn)

/-- Ints under way: a slice made by append, alone. -/
structure IU (wb : World) (v : Value) (ys : List Int) (w : World) : Prop where
  bi : BldI wb.heap.size w.heap.size w v ys
  up : Below wb.heap.size wb w
theorem IU.start (wb : World) : IU wb (.slice (some ⟨wb.heap.size, 0, none⟩) 0 0) [] (wb.alloc (.cells #[] 3)) :=
  ⟨by rw [World.size_alloc]; exact BldI.make (Nat.le_refl _), below_alloc _ _⟩
theorem IU.nil (wb : World) : IU wb (.slice none 0 0) [] wb := ⟨BldI.nil _ _ _, Below.refl _ _⟩
theorem IU.next {wb v ys w w'} (h : IU wb v ys w) (k : Below w.heap.size w w') : IU wb v ys w' := ⟨(h.bi.below k).mono k.size, below_up h.up k⟩
theorem IU.push {wb v v' ys w w' x} (h : IU wb v ys w) (hown : w'.ownsRow wb.heap.size 3 1 v' (ys.length + 1) (ys.map iv ++ [iv x]))
    (hgrow : (w.alloc (.cells #[iv x] 3)).grownBy w' v.ownBlock) (hat : v'.ownBlock = v.ownBlock ∨ v'.ownBlock = some (w.heap.size + 1)) : IU wb v' (ys ++ [x]) w' := by
  have hsz := hgrow.size
  simp only [World.size_alloc] at hsz
  have hu : ∀ k, v.ownBlock = some k → wb.heap.size ≤ k := fun k hk => (h.bi.own.lt k hk).1
  have hbelow : ∀ k, k < wb.heap.size → w'.heap[k]? = w.heap[k]? := fun k hk => by
    have := h.up.size
    exact (hgrow.block k (by simp; omega) (fun e => by have := hu k e.symm; omega)).trans (Below.heap_alloc _ _ _ (by omega))
  refine ⟨⟨by rw [List.length_append, List.length_singleton, List.map_append]; exact hown, fun k hk => ?_⟩, ?_⟩
  · rcases hat with hat | hat
    · have := h.bi.hi_ k (by rw [← hat]; exact hk); omega
    · have := (hown.lt k hk).2; omega
  · exact ⟨hgrow.os.trans h.up.os, hgrow.tape.trans h.up.tape, hgrow.output.trans h.up.output, by have := h.up.size; omega, fun k hk => (hbelow k hk).trans (h.up.block k hk)⟩
/-- A new slice of ints. -/
def NewI (w : World) (ys : List Int) (e : Ending) (w' : World) : Prop :=
  ∃ Av n c gg, e = .returned (.slice Av n c) ∧ n = ys.length ∧ OwnI w.heap.size w'.heap.size w' gg Av n c ys ∧ Below w.heap.size w w'
theorem IU.new {wb ys w} {A : Option Addr} {c : Nat} (h : IU wb (.slice A ys.length c) ys w) (hm : ys.length ≤ 100) (hb : ∀ y ∈ ys, -1000000000000000 ≤ y ∧ y ≤ 1000000000000000) :
    NewI wb ys (.returned (.slice A ys.length c)) w := by
  obtain ⟨A', n', c', g, e, hn, ho, _⟩ := h.bi.owns (by omega) (fun t ht => by have := hb t ht; omega)
  injection e with e1 e2 e3
  subst e1
  subst e2
  subst e3
  exact ⟨_, _, _, g, rfl, rfl, ho, h.up⟩

theorem Sq.minor' {n : Nat} {xss : List (List Int)} {f : Nat → Nat → Int} (h : Sq n xss f) {r c : Nat} (hr : r < n) (hc : c < n) : Sq (n - 1) (minW xss r c n n) (minorN f r c) := by
  obtain ⟨l, rfl⟩ : ∃ l, n = l + 1 := ⟨n - 1, by omega⟩
  exact h.minor (by omega) (by omega)
theorem Ab.minor' {n : Nat} {f : Nat → Nat → Int} (h : Ab n f) (hn : 0 < n) (r c : Nat) : Ab (n - 1) (minorN f r c) := by
  obtain ⟨l, rfl⟩ : ∃ l, n = l + 1 := ⟨n - 1, by omega⟩
  exact h.minor r c
/-- The sums of cofactors of the first i rows. -/
def cofL (k : Nat) (f : Nat → Nat → Int) (i : Nat) : List Int := (List.range i).map (rowC k f)
theorem cofL_succ (k : Nat) (f : Nat → Nat → Int) (i : Nat) : cofL k f (i + 1) = cofL k f i ++ [rowC k f i] := by simp [cofL, List.range_succ]
theorem cofL_len (k : Nat) (f : Nat → Nat → Int) (i : Nat) : (cofL k f i).length = i := by simp [cofL]
theorem cofL_bd {k : Nat} {f : Nat → Nat → Int} (hk : k ≤ 3) (h : Ab k f) {i : Nat} (hi : i ≤ k) : ∀ x ∈ cofL k f i, -1000000 ≤ x ∧ x ≤ 1000000 := fun x hx => by
  obtain ⟨j, hj, rfl⟩ := List.mem_map.1 hx
  have := List.mem_range.1 hj
  exact cofS_bd hk h (by omega) (Nat.le_refl k)

theorem cofS_odd {k : Nat} {f : Nat → Nat → Int} {i j : Nat} (h : (i + j) % 2 = 1) : cofS k f i (j + 1) = cofS k f i j + -(detN (k - 1) (minorN f i j)) := by
  rw [cofS_succ, cofN, sgn, if_pos h]; omega
theorem cofS_even {k : Nat} {f : Nat → Nat → Int} {i j : Nat} (h : ¬ (i + j) % 2 = 1) : cofS k f i (j + 1) = cofS k f i j + detN (k - 1) (minorN f i j) := by
  rw [cofS_succ, cofN, sgn, if_neg h]; omega

end Go.Proofs.Ytjmfkodbilknlaa

/- What is left over, by the model: numbers up to n, beaten rows, rows that are kept. -/
namespace Go.Proofs.Ytjmfkodbilknlaa
open Go.RowKit

/-- Row r is more than row i in all of the first l columns told. -/
def BeatC (a : List (List Int)) (cols : List Int) (r i l : Nat) : Prop := ∀ y, y < l → g2 a i (gi cols y).toNat < g2 a r (gi cols y).toNat
theorem BeatC.zero (a : List (List Int)) (cols : List Int) (r i : Nat) : BeatC a cols r i 0 := fun _ h => absurd h (by omega)
theorem BeatC.succ {a : List (List Int)} {cols : List Int} {r i l : Nat} : BeatC a cols r i (l + 1) ↔ BeatC a cols r i l ∧ g2 a i (gi cols l).toNat < g2 a r (gi cols l).toNat := by
  constructor
  · exact fun h => ⟨fun j hj => h j (by omega), h l (by omega)⟩
  · rintro ⟨h1, h2⟩ j hj
    by_cases e : j = l
    · subst e; exact h2
    · exact h1 j (by omega)
def Beaten (a : List (List Int)) (rows cols : List Int) (i : Nat) : Prop := ∃ x, x < rows.length ∧ BeatC a cols (gi rows x).toNat i cols.length
/-- The rows before place k that are not beaten. -/
noncomputable def keepL (a : List (List Int)) (rows cols : List Int) : Nat → List Int
  | 0 => []
  | k + 1 => keepL a rows cols k ++ (if pb (Beaten a rows cols (gi rows k).toNat) = true then [] else [gi rows k])
theorem keepL_no {a : List (List Int)} {rows cols : List Int} {k : Nat} (h : Beaten a rows cols (gi rows k).toNat) : keepL a rows cols (k + 1) = keepL a rows cols k := by rw [keepL, if_pos (pb_true h), List.append_nil]
theorem keepL_yes {a : List (List Int)} {rows cols : List Int} {k : Nat} (h : ¬ Beaten a rows cols (gi rows k).toNat) : keepL a rows cols (k + 1) = keepL a rows cols k ++ [gi rows k] := by rw [keepL, if_neg (by rw [pb_false h]; decide)]
theorem keepL_len (a : List (List Int)) (rows cols : List Int) : ∀ k, (keepL a rows cols k).length ≤ k
  | 0 => by simp [keepL]
  | k + 1 => by
    have := keepL_len a rows cols k
    rw [keepL, List.length_append]
    split <;> simp <;> omega
theorem keepL_mem (a : List (List Int)) (rows cols : List Int) : ∀ k, ∀ y ∈ keepL a rows cols k, ∃ j, j < k ∧ y = gi rows j
  | 0, y, h => by simp [keepL] at h
  | k + 1, y, h => by
    rw [keepL, List.mem_append] at h
    rcases h with h | h
    · obtain ⟨j, hj, e⟩ := keepL_mem a rows cols k y h; exact ⟨j, by omega, e⟩
    · split at h
      · simp at h
      · simp only [List.mem_singleton] at h; exact ⟨k, by omega, h⟩
/-- The numbers before n. -/
def upL (n : Nat) : List Int := (List.range n).map fun (k : Nat) => (k : Int)
theorem upL_succ (n : Nat) : upL (n + 1) = upL n ++ [(n : Int)] := by simp [upL, List.range_succ]
theorem upL_len (n : Nat) : (upL n).length = n := by simp [upL]
theorem upL_bd (n : Nat) : ∀ y ∈ upL n, 0 ≤ y ∧ y < (n : Int) := fun y h => by
  simp only [upL, List.mem_map, List.mem_range] at h
  obtain ⟨k, hk, rfl⟩ := h
  omega

end Go.Proofs.Ytjmfkodbilknlaa

/- What is left over, as sets: f tells which of the first n numbers are left. Plain. -/
namespace Go.Proofs.Ytjmfkodbilknlaa

theorem keepL_filter (a : List (List Int)) (rows cols : List Int) : ∀ k, k ≤ rows.length → keepL a rows cols k = (rows.take k).filter fun y => !pb (Beaten a rows cols y.toNat)
  | 0, _ => by simp [keepL]
  | k + 1, h => by
    have hk : k < rows.length := by omega
    rw [keepL, keepL_filter a rows cols k (by omega), List.take_succ_eq_append_getElem hk, List.filter_append, gi_get hk]
    congr 1
    cases e : pb (Beaten a rows cols (rows[k].toNat)) <;> simp [e]
theorem keepL_all (a : List (List Int)) (rows cols : List Int) : keepL a rows cols rows.length = rows.filter fun y => !pb (Beaten a rows cols y.toNat) := by
  rw [keepL_filter a rows cols _ (Nat.le_refl _), List.take_length]
/-- The numbers before n that f tells, ascending. -/
def selL (f : Nat → Bool) (n : Nat) : List Int := ((List.range n).filter f).map fun (k : Nat) => (k : Int)
theorem selL_up (n : Nat) : selL (fun _ => true) n = upL n := by unfold selL upL; rw [List.filter_eq_self.2 (fun _ _ => rfl)]
theorem selL_mem {f : Nat → Bool} {n : Nat} {y : Int} : y ∈ selL f n ↔ ∃ k : Nat, k < n ∧ f k = true ∧ y = k := by
  simp only [selL, List.mem_map, List.mem_filter, List.mem_range]
  constructor
  · rintro ⟨k, ⟨h1, h2⟩, rfl⟩; exact ⟨k, h1, h2, rfl⟩
  · rintro ⟨k, h1, h2, rfl⟩; exact ⟨k, ⟨h1, h2⟩, rfl⟩
theorem selL_len (f : Nat → Bool) (n : Nat) : (selL f n).length ≤ n := by
  have := List.length_filter_le f (List.range n)
  simp [selL] at this ⊢; exact this
theorem selL_bd {f : Nat → Bool} {n x : Nat} (h : x < (selL f n).length) : 0 ≤ gi (selL f n) x ∧ gi (selL f n) x < n := by
  rw [gi_get h]
  obtain ⟨k, hk, _, e⟩ := selL_mem.1 (List.getElem_mem h)
  omega
/-- Row i is beaten among those that f tells, against the columns that h tells. -/
def BT (a : List (List Int)) (f h : Nat → Bool) (n m i : Nat) : Prop := ∃ r, r < n ∧ f r = true ∧ ∀ y, y < m → h y = true → g2 a i y < g2 a r y
theorem beaten_sel {a : List (List Int)} {f h : Nat → Bool} {n m i : Nat} : Beaten a (selL f n) (selL h m) i ↔ BT a f h n m i := by
  constructor
  · rintro ⟨x, hx, hb⟩
    obtain ⟨r, hr, hf, e⟩ := selL_mem.1 (List.getElem_mem hx)
    refine ⟨r, hr, hf, fun y hy hh => ?_⟩
    obtain ⟨l, hl, e2⟩ := List.mem_iff_getElem.1 (selL_mem.2 ⟨y, hy, hh, rfl⟩ : (y : Int) ∈ selL h m)
    have := hb l hl
    rw [gi_get hl, e2, gi_get hx, e] at this
    simpa using this
  · rintro ⟨r, hr, hf, hb⟩
    obtain ⟨x, hx, e⟩ := List.mem_iff_getElem.1 (selL_mem.2 ⟨r, hr, hf, rfl⟩ : (r : Int) ∈ selL f n)
    refine ⟨x, hx, fun l hl => ?_⟩
    obtain ⟨y, hy, hh, e2⟩ := selL_mem.1 (List.getElem_mem hl)
    rw [gi_get hl, e2, gi_get hx, e]
    simpa using hb y hy hh
/-- Those that stay. -/
noncomputable def stayF (a : List (List Int)) (f h : Nat → Bool) (n m : Nat) : Nat → Bool := fun i => f i && !pb (BT a f h n m i)
theorem keepL_sel (a : List (List Int)) (f h : Nat → Bool) (n m : Nat) : keepL a (selL f n) (selL h m) (selL f n).length = selL (stayF a f h n m) n := by
  rw [keepL_all]
  unfold selL stayF
  rw [List.filter_map, List.filter_filter]
  congr 1
  apply List.filter_congr
  intro k _
  have e : pb (Beaten a (selL f n) (selL h m) k) = pb (BT a f h n m k) := pb_congr beaten_sel
  unfold selL at e
  simp only [Function.comp, Int.toNat_natCast]
  rw [e, Bool.and_comm]
/-- One round: first the rows, then the columns against the rows that stay. -/
noncomputable def loStep (a b : List (List Int)) (n m : Nat) (s : (Nat → Bool) × (Nat → Bool)) : (Nat → Bool) × (Nat → Bool) :=
  (stayF a s.1 s.2 n m, stayF b s.2 (stayF a s.1 s.2 n m) m n)
noncomputable def loIt (a b : List (List Int)) (n m : Nat) : Nat → (Nat → Bool) × (Nat → Bool)
  | 0 => (fun _ => true, fun _ => true)
  | k + 1 => loStep a b n m (loIt a b n m k)
/-- The same numbers before n and before m. -/
def SameS (n m : Nat) (s t : (Nat → Bool) × (Nat → Bool)) : Prop := (∀ i, i < n → s.1 i = t.1 i) ∧ ∀ j, j < m → s.2 j = t.2 j
theorem BT_congr {a : List (List Int)} {f f' h h' : Nat → Bool} {n m : Nat} (hf : ∀ i, i < n → f i = f' i) (hh : ∀ j, j < m → h j = h' j) (i : Nat) : BT a f h n m i ↔ BT a f' h' n m i := by
  constructor
  · rintro ⟨r, h1, h2, h3⟩; exact ⟨r, h1, by rw [← hf r h1]; exact h2, fun y hy e => h3 y hy (by rw [hh y hy]; exact e)⟩
  · rintro ⟨r, h1, h2, h3⟩; exact ⟨r, h1, by rw [hf r h1]; exact h2, fun y hy e => h3 y hy (by rw [← hh y hy]; exact e)⟩
theorem stayF_congr {a : List (List Int)} {f f' h h' : Nat → Bool} {n m : Nat} (hf : ∀ i, i < n → f i = f' i) (hh : ∀ j, j < m → h j = h' j) (i : Nat) (hi : i < n) : stayF a f h n m i = stayF a f' h' n m i := by
  unfold stayF; rw [hf i hi, pb_congr (BT_congr hf hh i)]
theorem loStep_congr {a b : List (List Int)} {n m : Nat} {s t : (Nat → Bool) × (Nat → Bool)} (h : SameS n m s t) : SameS n m (loStep a b n m s) (loStep a b n m t) := by
  have h1 : ∀ i, i < n → stayF a s.1 s.2 n m i = stayF a t.1 t.2 n m i := fun i hi => stayF_congr h.1 h.2 i hi
  exact ⟨h1, fun j hj => stayF_congr h.2 h1 j hj⟩
theorem SameS.trans {n m s t u} (h : SameS n m s t) (k : SameS n m t u) : SameS n m s u := ⟨fun i hi => (h.1 i hi).trans (k.1 i hi), fun j hj => (h.2 j hj).trans (k.2 j hj)⟩
theorem SameS.symm {n m s t} (h : SameS n m s t) : SameS n m t s := ⟨fun i hi => (h.1 i hi).symm, fun j hj => (h.2 j hj).symm⟩
theorem SameS.refl (n m : Nat) (s : (Nat → Bool) × (Nat → Bool)) : SameS n m s s := ⟨fun _ _ => rfl, fun _ _ => rfl⟩
/-- Where a round changes nothing, none behind it does. -/
theorem loIt_fix {a b : List (List Int)} {n m k : Nat} (h : SameS n m (loIt a b n m (k + 1)) (loIt a b n m k)) : ∀ l, SameS n m (loIt a b n m (k + l)) (loIt a b n m k)
  | 0 => SameS.refl _ _ _
  | l + 1 => (show SameS n m (loStep a b n m (loIt a b n m (k + l))) (loIt a b n m k) from (loStep_congr (loIt_fix h l)).trans h)
/-- Two rounds that change nothing agree. -/
theorem loIt_one {a b : List (List Int)} {n m k l : Nat} (h : SameS n m (loIt a b n m (k + 1)) (loIt a b n m k)) (h' : SameS n m (loIt a b n m (l + 1)) (loIt a b n m l)) : SameS n m (loIt a b n m k) (loIt a b n m l) := by
  by_cases e : k ≤ l
  · obtain ⟨d, rfl⟩ := Nat.le.dest e; exact (loIt_fix h d).symm
  · obtain ⟨d, rfl⟩ := Nat.le.dest (show l ≤ k by omega); exact loIt_fix h' d
theorem selL_congr {f g : Nat → Bool} {n : Nat} (h : ∀ i, i < n → f i = g i) : selL f n = selL g n := by
  unfold selL; congr 1; exact List.filter_congr fun k hk => h k (List.mem_range.1 hk)
/-- What stays is all, if it is as many. -/
theorem sel_same {f g : Nat → Bool} {n : Nat} (hs : ∀ i, g i = true → f i = true) (h : (selL g n).length = (selL f n).length) : ∀ i, i < n → g i = f i := by
  have hl : (selL f n).filter (fun y => g y.toNat) = selL g n := by
    unfold selL
    rw [List.filter_map, List.filter_filter]
    congr 1
    apply List.filter_congr
    intro k _
    simp only [Function.comp, Int.toNat_natCast]
    cases e : g k
    · simp
    · rw [hs k e]; rfl
  have hall : ∀ y ∈ selL f n, g y.toNat = true := List.length_filter_eq_length_iff.1 (by rw [hl]; exact h)
  intro i hi
  cases e : f i
  · cases e2 : g i
    · rfl
    · rw [hs i e2] at e; cases e
  · simpa using hall i (selL_mem.2 ⟨i, hi, e, rfl⟩)
theorem stay_sub {a : List (List Int)} {f h : Nat → Bool} {n m i : Nat} (e : stayF a f h n m i = true) : f i = true := by
  unfold stayF at e; simp at e; exact e.1
theorem stay_le (a : List (List Int)) (f h : Nat → Bool) (n m : Nat) : (selL (stayF a f h n m) n).length ≤ (selL f n).length := by
  rw [← keepL_sel]; exact keepL_len a (selL f n) (selL h m) _
/-- As many as before: nothing was left out. -/
theorem lo_same {a b : List (List Int)} {n m : Nat} {s : (Nat → Bool) × (Nat → Bool)}
    (h : (selL (loStep a b n m s).1 n).length + (selL (loStep a b n m s).2 m).length = (selL s.1 n).length + (selL s.2 m).length) : SameS n m (loStep a b n m s) s := by
  have h1 := stay_le a s.1 s.2 n m
  have h2 := stay_le b s.2 (stayF a s.1 s.2 n m) m n
  simp only [loStep] at h
  exact ⟨sel_same (fun i => stay_sub) (by show (selL (stayF a s.1 s.2 n m) n).length = _; omega), sel_same (fun i => stay_sub) (by show (selL (stayF b s.2 (stayF a s.1 s.2 n m) m n) m).length = _; omega)⟩
theorem lo_less {a b : List (List Int)} {n m : Nat} {s : (Nat → Bool) × (Nat → Bool)}
    (h : (selL (loStep a b n m s).1 n).length + (selL (loStep a b n m s).2 m).length ≠ (selL s.1 n).length + (selL s.2 m).length) : (selL (loStep a b n m s).1 n).length + (selL (loStep a b n m s).2 m).length < (selL s.1 n).length + (selL s.2 m).length := by
  have h1 := stay_le a s.1 s.2 n m
  have h2 := stay_le b s.2 (stayF a s.1 s.2 n m) m n
  simp only [loStep] at h ⊢
  omega
end Go.Proofs.Ytjmfkodbilknlaa

/- Tables as arrays of nine numbers. -/
namespace Go.Proofs.Ytjmfkodbilknlaa
open Go.RowKit

/-- Nine cells, three rows one behind the other. -/
def cs9 (f : Nat → Nat → Int) : Array Value := #[.int .i64 (f 0 0), .int .i64 (f 0 1), .int .i64 (f 0 2), .int .i64 (f 1 0), .int .i64 (f 1 1), .int .i64 (f 1 2), .int .i64 (f 2 0), .int .i64 (f 2 1), .int .i64 (f 2 2)]
def upd9 (f : Nat → Nat → Int) (i j : Nat) (v : Int) : Nat → Nat → Int := fun r c => if r = i ∧ c = j then v else f r c
theorem lt3 {i : Nat} (h : i < 3) : i = 0 ∨ i = 1 ∨ i = 2 := by omega
theorem cs9_get (f : Nat → Nat → Int) {i j : Nat} (hi : i < 3) (hj : j < 3) : (cs9 f)[i * 3 + j]? = some (.int .i64 (f i j)) := by
  rcases lt3 hi with rfl | rfl | rfl <;> rcases lt3 hj with rfl | rfl | rfl <;> rfl
theorem cs9_congr {f g : Nat → Nat → Int} (h : ∀ r c, r < 3 → c < 3 → f r c = g r c) : cs9 f = cs9 g := by
  unfold cs9
  rw [h 0 0 (by omega) (by omega), h 0 1 (by omega) (by omega), h 0 2 (by omega) (by omega), h 1 0 (by omega) (by omega), h 1 1 (by omega) (by omega), h 1 2 (by omega) (by omega), h 2 0 (by omega) (by omega), h 2 1 (by omega) (by omega), h 2 2 (by omega) (by omega)]
theorem cs9_set (f : Nat → Nat → Int) {i j : Nat} (hi : i < 3) (hj : j < 3) (v : Int) : (cs9 f).setIfInBounds (i * 3 + j) (.int .i64 v) = cs9 (upd9 f i j v) := by
  rcases lt3 hi with rfl | rfl | rfl <;> rcases lt3 hj with rfl | rfl | rfl <;> rfl
/-- A table filled up to row i, column j. -/
def part9 (a : List (List Int)) (m i j : Nat) : Nat → Nat → Int := fun r c => if (r < i ∨ r = i ∧ c < j) ∧ c < m then g2 a r c else 0
def full9 (a : List (List Int)) (n m : Nat) : Nat → Nat → Int := fun r c => if r < n ∧ c < m then g2 a r c else 0
theorem part9_zero (a : List (List Int)) (m : Nat) : cs9 (part9 a m 0 0) = cs9 (fun _ _ => 0) := cs9_congr fun r c _ _ => by unfold part9; rw [if_neg (by omega)]
theorem part9_next (a : List (List Int)) (m i j : Nat) (hj : j < m) : cs9 (upd9 (part9 a m i j) i j (g2 a i j)) = cs9 (part9 a m i (j + 1)) := cs9_congr fun r c _ _ => by
  unfold upd9 part9
  by_cases e : r = i ∧ c = j
  · obtain ⟨rfl, rfl⟩ := e; rw [if_pos ⟨rfl, rfl⟩, if_pos (by omega)]
  · rw [if_neg e]
    by_cases h : (r < i ∨ r = i ∧ c < j) ∧ c < m
    · rw [if_pos h, if_pos (by omega)]
    · rw [if_neg h, if_neg (by omega)]
theorem part9_row (a : List (List Int)) (m i : Nat) : cs9 (part9 a m i m) = cs9 (part9 a m (i + 1) 0) := cs9_congr fun r c _ _ => by
  unfold part9
  by_cases h : (r < i ∨ r = i ∧ c < m) ∧ c < m
  · rw [if_pos h, if_pos (by omega)]
  · rw [if_neg h, if_neg (by omega)]
theorem part9_all (a : List (List Int)) (n m : Nat) : cs9 (part9 a m n 0) = cs9 (full9 a n m) := cs9_congr fun r c _ _ => by
  unfold part9 full9
  by_cases h : r < n ∧ c < m
  · rw [if_pos h, if_pos (by omega)]
  · rw [if_neg h, if_neg (by omega)]
abbrev agg9 (f : Nat → Nat → Int) : Value := .agg (cs9 f)
end Go.Proofs.Ytjmfkodbilknlaa

/- Arrays compared: three numbers, three bools, nine numbers. -/
namespace Go.Proofs.Ytjmfkodbilknlaa
open Go.RowKit

theorem info_i1 : (Try.prog.info? 3).map (·.size) = some 1 := by kernel_rfl
theorem run_sizeOf' {t : TypeId} {n : Nat} (h : (Try.prog.info? t).map (·.size) = some n) (w : World) : (sizeOf t).run Try.prog w = .ok n w := by
  cases hq : Try.prog.info? t with
  | none => simp [hq] at h
  | some i => simp [hq] at h; simp [sizeOf, typeInfo, hq, h]
theorem und_int : Try.prog.underlying 3 = some (.int .i64) := by kernel_rfl
theorem run_isAgg_no (w : World) : (isAgg 3).run Try.prog w = .ok false w := by
  unfold isAgg; rw [Sem.run_bind, run_underlying und_int w]; rfl
theorem run_part_int {cs : Array Value} {k : Nat} {v : Value} (h : cs[k]? = some v) (w : World) : (part 3 cs k).run Try.prog w = .ok v w := by
  unfold part; rw [Sem.run_bind, run_isAgg_no]; simp [h]
end Go.Proofs.Ytjmfkodbilknlaa

