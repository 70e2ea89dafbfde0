/- Texts merged: CO K7 Y3 Y5 H1 Y2 J7 Math42 J8. -/
import Derived.Test.YtamjiinhogmifaaQ10
import Derived.Laws.Tables
import Derived.Laws.Rows
/- A table as an array, by the program. -/
namespace Go.Proofs.Ytamjiinhogmifaa
open Go.RowKit

theorem blk_row {w g t cs} (h : Blk w g t cs) (c : Array Value) : Blk (w.setRow g c) g t c := setRow_heap w g cs c t (0, 0) h
theorem row_other (w : World) (g k : Nat) (c : Array Value) (h : k ≠ g) : (w.setRow g c).heap[k]? = w.heap[k]? := by
  simp only [World.setRow, Array.getElem?_modify, if_neg (Ne.symm h)]
theorem blk_row_other {w g k t cs} (h : Blk w k t cs) (c : Array Value) (hne : k ≠ g) : Blk (w.setRow g c) k t cs := (row_other w g k c hne).trans h
theorem below_row {B : Nat} {a w : World} (h : Below B a w) {g : Nat} (hg : B ≤ g) (c : Array Value) : Below B a (w.setRow g c) :=
  ⟨h.os, h.tape, h.output, by simpa [World.setRow] using h.size, fun k hk => (row_other w g k c (by omega)).trans (h.block k hk)⟩

end Go.Proofs.Ytamjiinhogmifaa

/- Even tables, by both programs. -/
namespace Go.Proofs.Ytamjiinhogmifaa
open Go.RowKit

theorem VQ.len2 {a : List (List Int)} {n : Nat} (v : VQ a) (hl : a.length = n) : (gr a 0).length = n := by have := v.2; omega
/-- A square that is the same with rows as columns. -/
structure EvP (a : List (List Int)) : Prop where
  q : VQ a
  e : ∀ i j, i < a.length → j < a.length → g2 a i j = g2 a j i


theorem g2_flipT {a : List (List Int)} {n m i j : Nat} (hi : i < m) (hj : j < n) : g2 (flip a n m) i j = g2 a j i := by
  unfold g2
  rw [gr_flip hi, gi_col hj]
  rfl

/-- The table is even just if the arrays of it and it turned are the same. -/
theorem even_cells {a : List (List Int)} (v : VQ a) : EvP a ↔ cs9 (full9 a a.length a.length) = cs9 (full9 (flip a a.length a.length) a.length a.length) := by
  constructor
  · intro h
    refine cs9_congr fun r c _ _ => ?_
    unfold full9
    by_cases e : r < a.length ∧ c < a.length
    · rw [if_pos e, if_pos e, g2_flipT e.1 e.2]; exact h.e r c e.1 e.2
    · rw [if_neg e, if_neg e]
  · intro h
    refine ⟨v, fun i j hi hj => ?_⟩
    have h3 := v.1.n3
    have e1 := cs9_get (full9 a a.length a.length) (i := i) (j := j) (by omega) (by omega)
    have e2 := cs9_get (full9 (flip a a.length a.length) a.length a.length) (i := i) (j := j) (by omega) (by omega)
    rw [h, e2] at e1
    injection e1 with e1
    injection e1 with _ e1
    unfold full9 at e1
    rw [if_pos ⟨hi, hj⟩, if_pos ⟨hi, hj⟩, g2_flipT hi hj] at e1
    exact e1.symm

end Go.Proofs.Ytamjiinhogmifaa

/- Rows compared, by the laws; squares turned. -/
namespace Go.Proofs.Ytamjiinhogmifaa
open Go.RowKit

set_option maxHeartbeats 400000 in
theorem equalRows_any (A B : Option Addr) (n c m d : Nat) (xs ys : List (List Int)) (w : World) (hx : IntRows w A n c xs) (hy : IntRows w B m d ys) :
    Calls Try.prog 15 #[.slice A n c, .slice B m d] w fun e w' => e = .returned (.bool (eqRR xs ys)) ∧ Quiet w w' := by
  obtain ⟨lx, cx, mx, hx⟩ := hx
  obtain ⟨ly, cy, my, hy⟩ := hy
  have Lx := Lib.hid lx
  have Ly := Lib.hid ly
  clear lx ly
  by_cases hnm : n = m
  · subst hnm
    go_enter Try.func15, Try.ntmps15
    go_wp2
    go_loopw [5] (fun i wr => ∃ k : Nat, k ≤ n ∧ i = .int .i64 k ∧ Hid (∀ j, j < k → eqI (gr xs j) (gr ys j) = true) ∧ Quiet w wr) (fun i _ => n - (intOf i).toNat)
    case atStart => exact ⟨0, Nat.zero_le _, rfl, Lib.hid (fun _ h => absurd h (by omega)), Quiet.refl _⟩
    case round =>
      obtain ⟨k, hk, rfl, HALL, q, rfl⟩ := hrel
      by_cases hlt : k < n
      · obtain ⟨b, o, rfl, hcx⟩ := hx (by omega)
        obtain ⟨b2, o2, rfl, hcy⟩ := hy (by omega)
        obtain ⟨R, cc, c1, hR⟩ := hcx k hlt
        obtain ⟨R2, cc2, c2, hR2⟩ := hcy k hlt
        clear hx hy hcx hcy
        cases he : eqI (gr xs k) (gr ys k) with
        | true =>
          have HE := Lib.hid he
          have hq := fun W (hW : Quiet w W) => (he ▸ equalInts_any _ _ _ _ _ _ _ _ W (hR.keep (Keep.quiet hW)) (hR2.keep (Keep.quiet hW)))
          clear he
          go_wp2
          go_quiet ((go_at_call 44; exact quiet_fit (hq _ (by first | exact ⟨_, rfl⟩ | exact Quiet.two _ _ _)) (fun m => by first | exact drewN_to1 _ _ _ | exact drewN_to2 _ _ _ _)))
          go_wp2
          go_roundw
          case rel => exact ⟨k + 1, by omega, by go_num, Lib.hid (fun j hj => by
            by_cases hjk : j < k
            · exact HALL.out j hjk
            · obtain rfl : j = k := by omega
              exact HE.out), ⟨_, rfl⟩⟩
          case measure => simp [intOf]; omega
        | false =>
          have HE := Lib.hid he
          have hq := fun W (hW : Quiet w W) => (he ▸ equalInts_any _ _ _ _ _ _ _ _ W (hR.keep (Keep.quiet hW)) (hR2.keep (Keep.quiet hW)))
          clear he
          go_wp2
          go_quiet ((go_at_call 44; exact quiet_fit (hq _ (by first | exact ⟨_, rfl⟩ | exact Quiet.two _ _ _)) (fun m => by first | exact drewN_to1 _ _ _ | exact drewN_to2 _ _ _ _)))
          go_wp2
          go_ret
          exact ⟨ret_bool (eqRR_no HE.out).symm, Quiet.two _ _ _⟩
      · obtain rfl : k = n := by omega
        go_wp2
        go_ret
        exact ⟨ret_bool (eqRR_yes (by rw [Lx.out, Ly.out]) fun j hj => HALL.out j (by rw [Lx.out] at hj; exact hj)).symm, ⟨_, rfl⟩⟩
  · go_enter Try.func15, Try.ntmps15
    go_wp2
    go_ret
    exact ⟨ret_bool (eqRR_len (by rw [Lx.out, Ly.out]; exact hnm)).symm, Quiet.refl _⟩
theorem VQ.m {a : List (List Int)} {k : Nat} (v : VQ a) (h : a.length = k) : (gr a 0).length = k := by have := v.2; omega
theorem VQ.flip {a : List (List Int)} {k : Nat} (v : VQ a) (h : a.length = k) : VQ (flip a k k) := by
  have h1 := v.1.flip
  rw [h, v.m h] at h1
  refine ⟨h1, ?_⟩
  have := v.1.n1
  rw [flip_len, gr_flip (by omega)]
  simp
theorem VQ.even {a : List (List Int)} {k : Nat} (v : VQ a) (h : a.length = k) : Even a k := by have h1 := v.1.even; rw [v.m h] at h1; exact h1
theorem VQ.evenP {a : List (List Int)} {k : Nat} (v : VQ a) (h : a.length = k) : EvP a ↔ Go.Proofs.Ytamjiinhogmifaa.flip a k k = a := by
  constructor
  · intro e
    refine gr_ext (by rw [flip_len, h]) fun i hi => ?_
    rw [flip_len] at hi
    refine gi_ext (by rw [gr_flip hi, (v.1.rows i (by omega)).1, v.m h]; simp) fun j hj => ?_
    rw [gr_flip hi] at hj
    have hj' : j < k := by simpa using hj
    have := g2_flipT (a := a) (n := k) (m := k) hi hj'
    unfold g2 at this
    rw [this]
    exact e.e j i (by omega) (by omega)
  · intro e
    refine ⟨v, fun i j hi hj => ?_⟩
    have := g2_flipT (a := a) (n := k) (m := k) (i := i) (j := j) (by omega) (by omega)
    rw [e] at this
    exact this

end Go.Proofs.Ytamjiinhogmifaa

/- Rows among rows, ascending lists, by the laws. -/
namespace Go.Proofs.Ytamjiinhogmifaa
open Go.RowKit

set_option maxHeartbeats 800000 in
theorem inRows_any (A B : Option Addr) (n c m d : Nat) (xs : List (List Int)) (ys : List Int) (w : World) (hx : IntRows w A n c xs) (hy : Ints w B m d ys) :
    Calls Try.prog 19 #[.slice A n c, .slice B m d] w fun e w' => e = .returned (.bool (pb (ys ∈ xs))) ∧ Quiet w w' := by
  have HL := Lib.hid hx.len
  have HX := Lib.hid hx
  have HY := Lib.hid hy
  have hmx := hx.max
  clear hx hy
  go_enter Try.func19, Try.ntmps19
  go_wp2
  go_loopw [5] (fun i wr => ∃ k : Nat, k ≤ n ∧ i = .int .i64 k ∧ Hid (∀ j, j < k → gr xs j ≠ ys) ∧ Quiet w wr) (fun i _ => n - (intOf i).toNat)
  case atStart => exact ⟨0, Nat.zero_le _, rfl, Lib.hid (fun _ h => absurd h (by omega)), Quiet.refl _⟩
  case round =>
    obtain ⟨k, hk, rfl, HALL, hq⟩ := hrel
    by_cases hlt : k < n
    · obtain ⟨b, o, rfl, hc⟩ := (HX.out.keep (Keep.quiet hq)).at_ (by omega)
      obtain ⟨R, cR, c1, hR⟩ := hc k hlt
      have HQ := Lib.hid hq
      have HC := Lib.hid (equalInts_any _ _ _ _ _ _ (gr xs k) ys wr hR (HY.out.keep (Keep.quiet hq)))
      clear hc hR hq
      by_cases he : gr xs k = ys
      · have HR := Lib.hid (pb_true (p := ys ∈ xs) (by rw [← he]; exact gr_mem (by rw [HL.out]; exact hlt)))
        rw [show eqI (gr xs k) ys = true by unfold eqI; exact decide_eq_true he] at HC
        clear he
        go_wp2_with fail
        refine HC.out.mono ?_
        rintro e w2 ⟨rfl, hq⟩
        have HQ2 := Lib.hid (HQ.out.trans hq)
        clear hq HC HQ c1
        go_wp2
        go_ret
        exact ⟨ret_bool HR.out.symm, HQ2.out⟩
      · rw [show eqI (gr xs k) ys = false by unfold eqI; exact decide_eq_false he] at HC
        have HN := Lib.hid (show ∀ j, j < k + 1 → gr xs j ≠ ys from fun j hj => by
          by_cases e : j = k
          · subst e; exact he
          · exact HALL.out j (by omega))
        clear he
        go_wp2_with fail
        refine HC.out.mono ?_
        rintro e w2 ⟨rfl, hq⟩
        have HQ2 := Lib.hid (HQ.out.trans hq)
        clear hq HC HQ c1
        go_wp2
        go_roundw
        case rel => exact ⟨k + 1, by omega, by go_num, HN, HQ2.out⟩
        case measure => simp [intOf]; omega
    · obtain rfl : k = n := by omega
      have HR := Lib.hid (pb_false (p := ys ∈ xs) (fun h => by
        obtain ⟨j, hj, e⟩ := List.mem_iff_getElem.1 h
        exact HALL.out j (by rw [← HL.out]; exact hj) (by rw [gr_get hj]; exact e)))
      have HQ2 := Lib.hid hq
      clear hq
      go_wp2
      go_ret
      exact ⟨ret_bool HR.out.symm, HQ2.out⟩

end Go.Proofs.Ytamjiinhogmifaa

/- A row under way: its numbers may be set; shares drawn. -/
namespace Go.Proofs.Ytamjiinhogmifaa
open Go.RowKit

theorem BldI.set {lo hi w v xs} (h : BldI lo hi w v xs) {j : Nat} (hj : j < xs.length) (x : Int) :
    ∃ b c, v = .slice (some ⟨b, 0, none⟩) xs.length c ∧ lo ≤ b ∧ b < hi ∧ w.cell? ⟨b, j, none⟩ = some (.int .i64 (gi xs j)) ∧ w.frozen? ⟨b, j, none⟩ = false ∧
      BldI lo hi (w.setCell ⟨b, j, none⟩ (.int .i64 x)) v (xs.set j x) := by
  have hh := h.hi_
  rcases h.own.2 with ⟨_, h0⟩ | ⟨g, cap, cur, rfl, hb, hg, hnc, hcm, hcs, htake⟩
  · omega
  · rw [Nat.mul_one] at htake hcs
    have hB : Blk w g 3 cur := hg
    have hc : cur[j]? = some (.int .i64 (gi xs j)) := by
      rw [← getElem_iv hj, ← htake, List.getElem?_take, if_pos hj]; simp
    refine ⟨g, cap, rfl, hb, hh g rfl, blk_cell hB hc, blk_frozen hB j, ⟨⟨by simp, .inr ⟨g, cap, cur.setIfInBounds j (.int .i64 x), by rw [List.length_set], hb, blk_set hB j _, by rw [List.length_set]; exact hnc, hcm, by simp [hcs], ?_⟩⟩, hh⟩⟩
    rw [List.length_set, Nat.mul_one, Array.toList_setIfInBounds, List.take_set, htake, List.map_set]
    rfl

/-- A row by itself, begun behind the world wb. -/
def SH (w0 wb : World) (g : Nat) (A : Option Addr) (l c p : Nat) (u : Value) (ys : List Int) (w : World) : Prop := TI w0 wb g A l c p wb.heap.size (.slice none 0 0) [] [] u ys w
theorem SH.start {w0 wb g A l c p} (h : Rdr w0 wb g A l c p) : SH w0 wb g A l c p (.slice (some ⟨wb.heap.size, 0, none⟩) 0 0) [] (wb.alloc (.cells #[] 3)) :=
  ⟨h.below_ (below_alloc _ _), Bld.nil _ _ _, by rw [World.size_alloc]; exact BldI.make (Nat.le_refl _), blk_lt h.box, Nat.le_refl _, by simp, grown_of_below (below_alloc _ _)⟩
theorem SH.below {w0 wb g A l c p u ys w w'} (h : SH w0 wb g A l c p u ys w) (k : Below w.heap.size w w') : SH w0 wb g A l c p u ys w' :=
  ⟨h.rd.below_ k, Bld.nil _ _ _, (h.bi.below k).mono k.size, h.gl, h.lh, Nat.le_trans h.hs k.size, grown_below h.up k⟩
theorem SH.one {w0 wb g A l c p p' u ys w w'} (h : SH w0 wb g A l c p u ys w) (hr : Rdr w0 w' g A l c p') (ho : One g w w') : SH w0 wb g A l c p' u ys w' := TI.one h hr ho
theorem SH.set {w0 wb g A l c p u ys w} (h : SH w0 wb g A l c p u ys w) {j : Nat} (hj : j < ys.length) (x : Int) :
    ∃ b cc, u = .slice (some ⟨b, 0, none⟩) ys.length cc ∧ w.cell? ⟨b, j, none⟩ = some (.int .i64 (gi ys j)) ∧ w.frozen? ⟨b, j, none⟩ = false ∧ SH w0 wb g A l c p u (ys.set j x) (w.setCell ⟨b, j, none⟩ (.int .i64 x)) := by
  obtain ⟨b, cc, e, h1, h2, h3, h4, h5⟩ := h.bi.set hj x
  have hgl := h.gl
  have hs : (w.setCell ⟨b, j, none⟩ (.int .i64 x)).heap.size = w.heap.size := by simp [World.setCell]
  refine ⟨b, cc, e, h3, h4, ⟨⟨blk_other h.rd.box (by show g ≠ b; omega) _, h.rd.bytes, h.rd.below.setCell (by show w0.heap.size ≤ b; have := h.rd.lt; omega) _, h.rd.lt, h.rd.small⟩, Bld.nil _ _ _, by rw [hs]; exact h5, h.gl, h.lh, by rw [hs]; exact h.hs, ?_⟩⟩
  exact ⟨h.up.os, h.up.tape, h.up.output, by rw [hs]; exact h.up.size, fun k hk hne => (Below.heap_setCell _ _ _ _ (by show k ≠ b; omega)).trans (h.up.block k hk hne)⟩
def SharesOut (w0 wb : World) (g : Nat) (A : Option Addr) (l c p n : Nat) (e : Ending) (w' : World) : Prop :=
  ∃ Av cv ys p', e = .returned (.slice Av ys.length cv) ∧ ys.length ≤ n + 1 ∧ (∀ x ∈ ys, -1 ≤ x ∧ x ≤ 1001) ∧ SH w0 wb g A l c p' (.slice Av ys.length cv) ys w' ∧ p' ≤ p + 3 * n + 3

end Go.Proofs.Ytamjiinhogmifaa

/- A table and shares, drawn from bytes. -/
namespace Go.Proofs.Ytamjiinhogmifaa
open Go.RowKit

theorem OwnR.grown {lo hi w w' b A n c xss} {g : Nat} (h : OwnR lo hi w b A n c xss) (k : w.grownBy w' (some g)) (hg : g < lo) : OwnR lo hi w' b A n c xss :=
  h.of_blocks fun i h1 _ h3 => k.block i h3 (fun e => by injection e with e; omega)
theorem OwnI.grown {lo hi w w' b A n c xs} {g : Nat} (h : OwnI lo hi w b A n c xs) (k : w.grownBy w' (some g)) (hg : g < lo) : OwnI lo hi w' b A n c xs :=
  h.of_block fun hn => k.block _ (h.lt hn) (fun e => by obtain ⟨_, _, q, _⟩ := h.own hn; injection e with e; omega)
theorem Picked.one {w0 g A l c p n w e w'} (h : Picked w0 g A l c p n w e w') : ∃ m : Int, e = .returned (.int .i64 m) ∧ (1 ≤ n → 0 ≤ m ∧ m < n) ∧ Rdr w0 w' g A l c (p + 1) ∧ w.grownBy w' (some g) := by
  obtain ⟨m, h1, h2, _, h4, q, rfl⟩ := h
  exact ⟨m, h1, h2, h4, ⟨rfl, rfl, rfl, by simp [World.setCell], fun k _ hne => Below.heap_setCell _ _ _ _ (fun e => hne (by rw [e]))⟩⟩

/-- A table and shares. -/
def DrawnTS (w : World) (e : Ending) (w' : World) : Prop :=
  ∃ Av n c gg xss Bv m cb ys, e = .returned (.tuple #[.slice Av n c, .slice Bv m cb]) ∧ Small xss ∧ OwnR w.heap.size w'.heap.size w' gg Av n c xss ∧ Ints w' Bv m cb ys ∧ Below w.heap.size w w'
/-- A table and shares of both players. -/
def DrawnTSS (w : World) (e : Ending) (w' : World) : Prop :=
  ∃ Av n c gg xss Bv m cb xs Cv l cc ys, e = .returned (.tuple #[.slice Av n c, .slice Bv m cb, .slice Cv l cc]) ∧ Small xss ∧ OwnR w.heap.size w'.heap.size w' gg Av n c xss ∧ Ints w' Bv m cb xs ∧ Ints w' Cv l cc ys ∧ Below w.heap.size w w'

end Go.Proofs.Ytamjiinhogmifaa

/- Sizes of kinds drawn from bytes. -/
namespace Go.Proofs.Ytamjiinhogmifaa
open Go.RowKit

/-- Sizes of kinds, or none. -/
def DPx (xs : List Int) : Prop := (∃ m : Nat, 1 ≤ m ∧ m ≤ 7 ∧ xs ∈ pts 7 m m) ∨ ¬ VPt xs
theorem DPx.all {xs : List Int} (h : DPx xs) (hv : VPt xs) : ∃ m : Nat, 1 ≤ m ∧ m ≤ 7 ∧ tot xs = (m : Int) ∧ xs ∈ pts 7 m m := by
  rcases h with ⟨m, h1, h7, hm⟩ | h
  · obtain ⟨k, hk, e⟩ := List.mem_iff_getElem.1 hm
    exact ⟨m, h1, h7, by have := (pts_facts h1 h7).sum k hk; rw [gr_get hk, e] at this; exact this, hm⟩
  · exact absurd hv h
theorem VPt_snoc_no {xs : List Int} {x : Int} (hx : x = 0 ∨ x = 8) : ¬ VPt (xs ++ [x]) := fun h => by
  have h1 := h.1 xs.length (by simp)
  have e : gi (xs ++ [x]) xs.length = x := by rw [gi_get (by simp), List.getElem_append_right (Nat.le_refl _)]; simp
  unfold PtOk at h1
  rw [e] at h1
  omega
theorem VPt_nil_no : ¬ VPt [] := fun h => by have := h.2.2; unfold InR at this; simp [tot, sm] at this
theorem VPt.mem_bd {xs : List Int} (h : VPt xs) : ∀ x ∈ xs, 1 ≤ x ∧ x ≤ 7 := fun x hx => by
  obtain ⟨k, hk, rfl⟩ := List.mem_iff_getElem.1 hx
  have := h.1 k hk
  unfold PtOk at this
  rw [gi_get hk] at this
  omega

theorem SH.pushs {w0 wb : World} {g l c p : Nat} {A : Option Addr} {u u' : Value} {ys zs : List Int} {w w' : World} (h : SH w0 wb g A l c p u ys w)
    (hown : w'.ownsRow wb.heap.size 3 1 u' (ys.length + zs.length) (ys.map iv ++ zs.map iv)) (hgrow : w.grownBy w' u.ownBlock)
    (hat : u'.ownBlock = u.ownBlock ∨ u'.ownBlock = some w.heap.size) : SH w0 wb g A l c p u' (ys ++ zs) w' := by
  have hgl := h.gl
  have hhs := h.hs
  have hsz := hgrow.size
  have hu : ∀ k, u.ownBlock = some k → wb.heap.size ≤ k := fun k hk => (h.bi.own.lt k hk).1
  have hbelow : ∀ k, k < wb.heap.size → w'.heap[k]? = w.heap[k]? := fun k hk =>
    hgrow.block k (by omega) (fun e => by have := hu k e.symm; omega)
  refine ⟨⟨(hbelow g (by omega)).trans h.rd.box, h.rd.bytes, ?_, h.rd.lt, h.rd.small⟩, Bld.nil _ _ _, ⟨by rw [List.length_append, List.map_append]; exact hown, fun k hk => ?_⟩, h.gl, h.lh, by omega, ?_⟩
  · exact ⟨hgrow.os.trans h.rd.below.os, hgrow.tape.trans h.rd.below.tape, hgrow.output.trans h.rd.below.output, by have := h.rd.below.size; omega, fun k hk => (hbelow k (by have := h.rd.lt; omega)).trans (h.rd.below.block k hk)⟩
  · rcases hat with hat | hat
    · have := h.bi.hi_ k (by rw [← hat]; exact hk); omega
    · have := (hown.lt k hk).2; omega
  · exact grown_app h.up hgrow fun k hk => hu k hk

/-- Sizes that the reader drew. -/
def SomeP (w0 : World) (g : Nat) (A : Option Addr) (l c p : Nat) (w : World) (e : Ending) (w' : World) : Prop :=
  ∃ Av cv gg xs p', e = .returned (.slice Av xs.length cv) ∧ DPx xs ∧ xs.length ≤ 8 ∧ OwnI w.heap.size w'.heap.size w' gg Av xs.length cv xs ∧ Rdr w0 w' g A l c p' ∧ p' ≤ p + 10 ∧ w.grownBy w' (some g)
theorem SH.some {w0 wb w w' : World} {g l c p p0 : Nat} {A Av : Option Addr} {cv : Nat} {ys : List Int} (h : SH w0 wb g A l c p (.slice Av ys.length cv) ys w') (hd : DPx ys) (hl : ys.length ≤ 8) (hb : ∀ x ∈ ys, -1 ≤ x ∧ x ≤ 8) (hp : p ≤ p0 + 10) (hg : w.grownBy wb (some g)) :
    SomeP w0 g A l c p0 w (.returned (.slice Av ys.length cv)) w' := by
  obtain ⟨A', n', c', gg, e, hn, ho, _⟩ := h.bi.owns (by omega) (fun x hx => by have := hb x hx; omega)
  injection e with e1 e2 e3
  subst e1 e2 e3
  exact ⟨_, _, gg, ys, p, rfl, hd, hl, ho.mono hg.size (Nat.le_refl _), h.rd, hp, grown_trans hg h.up⟩

set_option maxRecDepth 100000 in
set_option maxHeartbeats 1600000 in
theorem someParts_any (w0 w : World) (g : Nat) (A : Option Addr) (l c p : Nat) (h : Rdr w0 w g A l c p) (hp : p < 800000000) :
    Calls Try.prog 47 #[.pointer (some ⟨g, 0, none⟩)] w (SomeP w0 g A l c p w) := by
  have H1 := Lib.hid (one_lit w0 w _ g A l c p w.heap.size 7 [4, 5, 3, 6, 2, 1, 7] h (by omega) (below_alloc w (.cells #[iv 4, iv 5, iv 3, iv 6, iv 2, iv 1, iv 7] 3)) (Nat.le_refl _) (Ints.lit w [4, 5, 3, 6, 2, 1, 7] (by decide) (by decide)) (by omega))
  clear h
  obtain ⟨i0, hi0, hz0, hz1, hz2⟩ := info_parts Try.info_int
  go_enter Try.func47, Try.ntmps47
  go_wp2_with fail
  refine H1.out.mono ?_
  rintro e w1 ⟨x, rfl, hx, hr, hgr⟩
  obtain ⟨m, rfl⟩ : ∃ m : Nat, x = (m : Int) := ⟨x.toNat, by simp at hx; omega⟩
  have hm1 : 1 ≤ m := by simp at hx; omega
  have hm7 : m ≤ 7 := by simp at hx; omega
  have HR1 := Lib.hid hr
  have hgw1 : g < w1.heap.size := blk_lt hr.box
  have HG1 := Lib.hid hgr
  have HC := Lib.hid (PartsOf_spec m w1 (by unfold Fit; omega))
  rw [pt_yes (by unfold InR; omega)] at HC
  have HF := Lib.hid (pts_facts hm1 hm7)
  have HMM : Hid (∀ r ∈ pts 7 m m, DPx r) := Lib.hid (fun r hr => .inl ⟨m, hm1, hm7, hr⟩)
  generalize pts 7 m m = list at *
  clear hx hr hgr H1
  go_wp2_with fail
  refine HC.out.mono ?_
  rintro e w2 ⟨Al, nl, cl, gl, rfl, hnl, ho, hb⟩
  subst hnl
  have HR2 := Lib.hid (HR1.out.below_ hb)
  have HG2 := Lib.hid (grown_below HG1.out hb)
  have HO := Lib.hid ho
  have hl0 := HF.out.pos
  have hl40 := HF.out.le
  clear hb ho HR1 HG1 HC
  have HS := Lib.hid (SH.start HR2.out)
  have HO3 := Lib.hid (HO.out.below (below_alloc w2 (.cells #[] 3)))
  have HC := Lib.hid (pick_any w0 _ g A l c (p + 1) list.length HS.out.rd (by omega))
  clear HO HR2
  go_wp2_with fail
  generalize hw3 : w2.alloc (.cells #[] 3) = w3 at *
  clear hw3
  refine HC.out.mono ?_
  rintro e w4 ⟨k, rfl, hk1, _, hr, z, hw⟩
  have hone := Rdr.one (g := g) w3 (.int .i64 (p + 1 + 1 : Nat)) z
  rw [← hw] at hone
  obtain ⟨k0, k1⟩ := hk1 (by omega)
  obtain ⟨k, rfl⟩ := Int.eq_ofNat_of_zero_le k0
  have hkl : k < list.length := by omega
  have HS4 := Lib.hid (SH.one HS.out hr hone)
  have HO4 := Lib.hid (HO3.out.of_blocks (w' := w4) (fun q h1 _ _ => hone.block q (by omega)))
  clear hr hone hw hk1 HC HS HO3
  obtain ⟨b, ob, rfl, _⟩ := HO4.out.rows.at_ hl0
  obtain ⟨R, cc, c1, hR⟩ := HO4.out.rows.cell hkl
  have HMR := Lib.hid (HMM.out _ (gr_mem hkl))
  have HV := Lib.hid (HF.out.ok k hkl)
  have HRI := Lib.hid hR
  have hrl : (gr list k).length ≤ 7 := HV.out.2.1
  have hr0 : 0 < (gr list k).length := by
    have h := HV.out.2.2
    apply Classical.byContradiction
    intro hn
    have e : gr list k = [] := List.eq_nil_of_length_eq_zero (by omega)
    rw [e] at h; unfold InR at h; simp [tot, sm] at h
  generalize gr list k = row at *
  obtain ⟨b', o', rfl, hcr⟩ := hR.at_ hr0
  have HCR := Lib.hid hcr
  have HOW := Lib.hid (show w4.ownsRow w2.heap.size 3 1 (.slice (some ⟨w2.heap.size, 0, none⟩) 0 0) 0 [] from HS4.out.bi.own)
  have hwz := HS4.out.hs
  clear hcr hR HF HMM
  go_wp2_with (at_builtin; refine wpList_append_own_at _ rfl _ _ 28 rfl w2.heap.size 3 i0 (.int .i64 0) 1 8 Try.underlying28 hi0 hz0 hz1 hz2 rfl (by decide) _ 0 [] rfl HOW.out ⟨b', o', none⟩ row.length cc (row.map iv) rfl ?c1 ?c2 ?c3 ?c4 ?c5 ?c6 ?_)
  case c1 => simp
  case c2 => have := news_take (j := row.length) rfl HCR.out; rw [List.take_length] at this; exact this
  case c3 => exact ones_map _
  case c4 => unfold maxLen; omega
  case c5 => omega
  case c6 => exact hwz
  intro v' w5 hown' hgrow _ hat
  have HS5 := Lib.hid (SH.pushs (ys := []) (zs := row) HS4.out (by simpa using hown') hgrow hat)
  rw [List.nil_append] at HS5
  obtain ⟨Av, cv, rfl⟩ := HS5.out.bi.form
  clear HOW hown' hgrow hat HS4 HCR HRI c1 HO4
  have HRB := Lib.hid HV.out.mem_bd
  have HC := Lib.hid (pick_any w0 _ g A l c (p + 1 + 1) 30 HS5.out.rd (by omega))
  go_wp2_with fail
  refine HC.out.mono ?_
  rintro e w6 ⟨q, rfl, hk1, _, hr, z, hw⟩
  have hone := Rdr.one (g := g) w5 (.int .i64 (p + 1 + 1 + 1 : Nat)) z
  rw [← hw] at hone
  obtain ⟨q0, q1⟩ := hk1 (by omega)
  have HS6 := Lib.hid (SH.one HS5.out hr hone)
  clear hr hone hw hk1 HC HS5
  by_cases e0 : q = 0
  · subst e0
    have hgw : g < w6.heap.size := blk_lt HS6.out.rd.box
    have HS7 := Lib.hid (HS6.out.below (below_alloc w6 (.cells #[iv 0, iv 8] 3)))
    have HC := Lib.hid (one_any w0 (w6.alloc (.cells #[iv 0, iv 8] 3)) g A l c (p + 1 + 1 + 1) _ 2 2 [0, 8] HS7.out.rd (by omega) (Ints.lit w6 [0, 8] (by decide) (by decide)) (by omega) (fun b' o' e' => by injection e' with e'; injection e' with e' _ _; omega))
    clear HS6
    go_wp2_with fail
    refine HC.out.mono ?_
    rintro e w7 ⟨x, rfl, hx, hr, ho⟩
    have hx8 : x = 0 ∨ x = 8 := by simpa using hx
    have HS8 := Lib.hid (HS7.out.one hr ho)
    clear hx hr ho HC HS7
    have hb := below_alloc w7 (.cells #[iv x] 3)
    have HB4 := Lib.hid (HS8.out.bi.below hb).own
    have HN := Lib.hid (cell_one_new w7 (iv x) 3)
    have hHs := HS8.out.hs
    have HXB : Hid (∀ y ∈ row ++ [x], -1 ≤ y ∧ y ≤ 8) := Lib.hid (fun y hy => by
      rcases List.mem_append.1 hy with hy | hy
      · have := HRB.out y hy; omega
      · simp at hy; omega)
    have HXD : Hid (DPx (row ++ [x])) := Lib.hid (.inr (VPt_snoc_no hx8))
    clear hb
    go_wp2_with (at_builtin; refine wpList_append_own_at _ rfl _ _ 28 rfl w2.heap.size 3 i0 (.int .i64 0) 1 8 Try.underlying28 hi0 hz0 hz1 hz2 rfl (by decide) _ row.length (row.map iv) rfl HB4.out ⟨w7.heap.size, 0, none⟩ 1 1 [iv x] rfl rfl ?d1 ?d2 ?d3 ?d4 ?d5 ?_)
    case d1 => exact HN.out
    case d2 => intro u hu; simp at hu; subst hu; rfl
    case d3 => unfold maxLen; omega
    case d4 => omega
    case d5 => simp; omega
    intro v' w8 hown' hgrow _ hat
    have HS9 := Lib.hid (show SH w0 w2 g A l c (p + 1 + 1 + 1 + 1) v' (row ++ [x]) w8 from TI.push HS8.out hown' hgrow (by simpa using hat))
    clear HB4 HN hown' hgrow hat HS8
    obtain ⟨Au2, cu2, rfl⟩ := HS9.out.bi.form
    have HE := Lib.hid (HS9.out.some (w := w) (p0 := p) HXD.out (by simp; omega) HXB.out (by omega) HG2.out)
    clear HS9
    go_wp2
    go_ret
    exact HE.out
  · have e0' : (q == 0) = false := by simpa using e0
    by_cases e1 : q = 1
    · subst e1
      have HE := Lib.hid (SH.some (w := w) (p0 := p) (SH.start (HS6.out.rd)) (.inr VPt_nil_no) (by simp) (fun x hx => by simp at hx) (by omega) (grown_trans HG2.out HS6.out.up))
      clear HS6
      go_wp2
      go_ret
      exact HE.out
    · have e1' : (q == 1) = false := by simpa using e1
      have HE := Lib.hid (HS6.out.some (w := w) (p0 := p) HMR.out (by omega) (fun x hx => by have := HRB.out x hx; omega) (by omega) HG2.out)
      clear HS6
      go_wp2
      go_ret
      exact HE.out
/-- Drawn sizes; and a weight. -/
def DrawnP (w : World) (e : Ending) (w' : World) : Prop :=
  ∃ Av cv gg xs, e = .returned (.slice Av xs.length cv) ∧ DPx xs ∧ xs.length ≤ 8 ∧ OwnI w.heap.size w'.heap.size w' gg Av xs.length cv xs ∧ Below w.heap.size w w'
def DrawnPN (w : World) (e : Ending) (w' : World) : Prop :=
  ∃ Av cv gg xs, ∃ f : Int, e = .returned (.tuple #[.slice Av xs.length cv, .int .i64 f]) ∧ (0 ≤ f ∧ f ≤ 7) ∧ DPx xs ∧ xs.length ≤ 8 ∧ OwnI w.heap.size w'.heap.size w' gg Av xs.length cv xs ∧ Below w.heap.size w w'
set_option maxRecDepth 100000 in
set_option maxHeartbeats 1000000 in
theorem DrawValidParts_any (A : Option Addr) (n c : Nat) (w : World) (h : Bytes w A n c) :
    Calls Try.prog 20 #[.slice A n c] w (DrawnP w) := by
  have H0 := Lib.hid (newReader_any A n c w h)
  clear h
  go_enter Try.func20, Try.ntmps20
  go_wp2_with fail
  refine H0.out.mono ?_
  rintro e w1 ⟨A1, l, c1, rfl, hl, hr, hs⟩
  have hsz1 : w.heap.size ≤ w1.heap.size := by omega
  have hgz1 : w.heap.size < w1.heap.size := by omega
  have H1 := Lib.hid (someParts_any w w1 w.heap.size A1 l c1 0 hr (by omega))
  have HSZ := Lib.hid (And.intro hsz1 hgz1)
  clear hr hl hs H0 hsz1 hgz1
  go_wp2_with fail
  refine H1.out.mono ?_
  rintro e w2 ⟨Av, cv, gg, xs, p', rfl, hd, hl8, ho, hr, hp, hg⟩
  have HD := Lib.hid hd
  have HL := Lib.hid hl8
  have HO := Lib.hid (ho.mono HSZ.out.1 (Nat.le_refl _))
  have HB := Lib.hid hr.below
  clear hd ho hr hp hg H1 hl8
  generalize hN : xs.length = N at *
  have HNE := Lib.hid hN
  clear hN
  go_wp2
  go_ret
  exact ⟨Av, cv, gg, xs, by first | (rw [HNE.out]; done) | (rw [HNE.out]; rfl), HD.out, by rw [HNE.out]; exact HL.out, by rw [HNE.out]; exact HO.out, HB.out⟩

end Go.Proofs.Ytamjiinhogmifaa

/- Sizes of kinds are among all; chances by the product: plain. -/
namespace Go.Proofs.Ytamjiinhogmifaa

def Desc : Int → List Int → Prop
  | _, [] => True
  | b, x :: r => 1 ≤ x ∧ x ≤ b ∧ Desc x r
def sl : List Int → Int
  | [] => 0
  | x :: r => x + sl r
theorem sl_nn : ∀ {xs : List Int} {b : Int}, Desc b xs → 0 ≤ sl xs
  | [], _, _ => Int.le_refl _
  | x :: r, _, h => by have := sl_nn h.2.2; have := h.1; show 0 ≤ x + sl r; omega
theorem mem_ptsT {g : Nat → Nat → List (List Int)} {n M x : Nat} {r : List Int} (hM : x ≤ M) (hr : r ∈ g (n - x) x) : ∀ t, M - x < t → t ≤ M → ((x : Nat) : Int) :: r ∈ ptsT g n M t
  | 0, h, _ => absurd h (by omega)
  | t + 1, h, ht => by
    show _ ∈ ptsT g n M t ++ _
    by_cases e : M - x < t
    · exact List.mem_append_left _ (mem_ptsT hM hr t e (by omega))
    · refine List.mem_append_right _ ?_
      have e2 : M - t = x := by omega
      rw [e2]
      exact List.mem_map.2 ⟨r, hr, rfl⟩
theorem mem_pts : ∀ (xs : List Int) (F n most : Nat), Desc (most : Int) xs → sl xs = (n : Int) → n ≤ F → xs ∈ pts F n most
  | [], F, n, most, _, hs, _ => by
    obtain rfl : n = 0 := by simp only [sl] at hs; omega
    rw [pts_zero]; exact List.mem_singleton.2 rfl
  | x :: r, F, n, most, hd, hs, hF => by
    have h0 := sl_nn hd.2.2
    obtain ⟨h1, h2, h3⟩ := hd
    obtain ⟨k, rfl⟩ : ∃ k : Nat, x = (k : Int) := ⟨x.toNat, by omega⟩
    have hs' : (k : Int) + sl r = (n : Int) := hs
    obtain ⟨F', rfl⟩ : ∃ F', F = F' + 1 := ⟨F - 1, by omega⟩
    rw [pts_pos (by omega)]
    exact mem_ptsT (by omega) (mem_pts r F' (n - k) k h3 (by omega) (by omega)) _ (by omega) (Nat.le_refl _)
theorem pts_most {F n most : Nat} (h : n ≤ most) : pts F n most = pts F n n := by
  cases F with
  | zero => rfl
  | succ F =>
    by_cases h0 : n = 0
    · subst h0; rfl
    · rw [pts_pos (by omega), pts_pos (by omega), Nat.min_eq_left h, Nat.min_self]
theorem gi_cons (x : Int) (r : List Int) (k : Nat) : gi (x :: r) (k + 1) = gi r k := rfl
theorem sm_cons7 (x : Int) (r : List Int) : ∀ k, sm (x :: r) (k + 1) = x + sm r k
  | 0 => by simp [sm, gi]
  | k + 1 => by rw [sm, sm_cons7 x r k, gi_cons, sm]; omega
theorem tot_sl : ∀ xs : List Int, tot xs = sl xs
  | [] => rfl
  | x :: r => by
    show sm (x :: r) (r.length + 1) = x + sl r
    rw [sm_cons7, ← tot_sl r]; rfl
theorem Desc.of : ∀ (xs : List Int) (b : Int), (∀ i, i < xs.length → 1 ≤ gi xs i) → (∀ i, i + 1 < xs.length → gi xs (i + 1) ≤ gi xs i) → (0 < xs.length → gi xs 0 ≤ b) → Desc b xs
  | [], _, _, _, _ => trivial
  | x :: r, b, h1, h2, h3 => ⟨h1 0 (by simp), h3 (by simp), Desc.of r x (fun i hi => h1 (i + 1) (by simp; omega)) (fun i hi => h2 (i + 1) (by simp; omega)) (fun h => h2 0 (by simp; omega))⟩
/-- Sizes of kinds are one of all sizes of their sum. -/
theorem VPt.mem {xs : List Int} (h : VPt xs) : ∃ m : Nat, 1 ≤ m ∧ m ≤ 7 ∧ tot xs = (m : Int) ∧ xs ∈ pts 7 m m := by
  have ht := h.2.2
  unfold InR at ht
  refine ⟨(tot xs).toNat, by omega, by omega, by omega, ?_⟩
  have hd : Desc ((7 : Nat) : Int) xs := Desc.of xs 7 (fun i hi => (h.1 i hi).1) (fun i hi => (h.1 (i + 1) hi).2.2 (by omega)) (fun h0 => (h.1 0 h0).2.1)
  have hm := mem_pts xs 7 (tot xs).toNat 7 hd (by rw [← tot_sl]; omega) (by omega)
  rw [pts_most (by omega)] at hm
  exact hm

/-- How often a number is among the first k; in the list. -/
def cnI (xs : List Int) (s : Int) : Nat → Int
  | 0 => 0
  | k + 1 => if gi xs k = s then cnI xs s k + 1 else cnI xs s k
def cn (xs : List Int) (s : Int) : Int := cnI xs s xs.length
theorem cnI_bd (xs : List Int) (s : Int) : ∀ k : Nat, 0 ≤ cnI xs s k ∧ cnI xs s k ≤ (k : Int)
  | 0 => ⟨Int.le_refl _, Int.le_refl _⟩
  | k + 1 => by have := cnI_bd xs s k; rw [cnI]; split <;> omega
theorem cnI_in {xs : List Int} {s : Int} : ∀ {k : Nat}, cnI xs s k ≠ 0 → ∃ i, i < k ∧ gi xs i = s
  | 0, h => absurd rfl h
  | k + 1, h => by
    by_cases e : gi xs k = s
    · exact ⟨k, by omega, e⟩
    · rw [cnI, if_neg e] at h
      obtain ⟨i, hi, e'⟩ := cnI_in h
      exact ⟨i, by omega, e'⟩
/-- The model's way: the numerator, the run of the same sizes, the denominator. -/
def bfU (u f : Int) : Nat → Int
  | 0 => u
  | i + 1 => bfU u f i * f
def bfS (xs : List Int) : Nat → Int
  | 0 => 0
  | i + 1 => if 0 < i ∧ gi xs i = gi xs (i - 1) then bfS xs i + 1 else 1
def bfD (d : Int) (xs : List Int) : Nat → Int
  | 0 => d
  | i + 1 => bfD d xs i * gi xs i * bfS xs (i + 1)
/-- The program's way: the denominator by the sizes, then by how many there are of each. -/
def ipD (d : Int) (xs : List Int) : Nat → Int
  | 0 => d
  | i + 1 => ipD d xs i * gi xs i
def fa (c : Int → Int) (s : Int) : Int := mkD 1 (c s).toNat
def pd1 (c : Int → Int) (s : Int) (b : Bool) : Int := if b then 1 else fa c s
def PD7 (c : Int → Int) (b1 b2 b3 b4 b5 b6 b7 : Bool) : Int := pd1 c 1 b1 * pd1 c 2 b2 * pd1 c 3 b3 * pd1 c 4 b4 * pd1 c 5 b5 * pd1 c 6 b6 * pd1 c 7 b7
def BB : List Bool := [true, false]
theorem mem_BB (b : Bool) : b ∈ BB := by cases b <;> simp [BB]
theorem pd_all : ((List.range 8).all fun m => (pts 7 m m).all fun xs => BB.all fun b1 => BB.all fun b2 => BB.all fun b3 => BB.all fun b4 => BB.all fun b5 => BB.all fun b6 => BB.all fun b7 => decide (1 ≤ PD7 (cn xs) b1 b2 b3 b4 b5 b6 b7) && decide (PD7 (cn xs) b1 b2 b3 b4 b5 b6 b7 ≤ 5040)) = true := by decide +kernel
theorem pd_bd {xs : List Int} (h : VPt xs) (b1 b2 b3 b4 b5 b6 b7 : Bool) : 1 ≤ PD7 (cn xs) b1 b2 b3 b4 b5 b6 b7 ∧ PD7 (cn xs) b1 b2 b3 b4 b5 b6 b7 ≤ 5040 := by
  obtain ⟨m, _, h7, _, hm⟩ := h.mem
  have t := pd_all
  simp only [List.all_eq_true, List.mem_range, Bool.and_eq_true, decide_eq_true_eq] at t
  exact t m (by omega) xs hm b1 (mem_BB _) b2 (mem_BB _) b3 (mem_BB _) b4 (mem_BB _) b5 (mem_BB _) b6 (mem_BB _) b7 (mem_BB _)
def kpU (xs : List Int) (f : Int) : Int := bfU (mkD 1 (tot xs).toNat) f xs.length
def kpD (xs : List Int) (f : Int) : Int := bfD (mkD f (tot xs).toNat) xs xs.length
def f6 : List Int := [1, 2, 3, 4, 5, 6]
theorem mem_f6 {f : Int} (h1 : 1 ≤ f) (h6 : f ≤ 6) : f ∈ f6 := by
  have : f = 1 ∨ f = 2 ∨ f = 3 ∨ f = 4 ∨ f = 5 ∨ f = 6 := by omega
  rcases this with rfl | rfl | rfl | rfl | rfl | rfl <;> simp [f6]
theorem kp_all : ((List.range 8).all fun m => (pts 7 m m).all fun xs => f6.all fun f =>
    decide (ipD (mkD f m) xs xs.length * PD7 (cn xs) false false false false false false false = bfD (mkD f m) xs xs.length) && decide (1 ≤ bfD (mkD f m) xs xs.length) &&
    ((List.range 8).all fun i => decide (xs.length < i) || (decide (1 ≤ bfU (mkD 1 m) f i) && decide (bfU (mkD 1 m) f i ≤ 2000000000) && decide (1 ≤ bfD (mkD f m) xs i) && decide (bfD (mkD f m) xs i ≤ 100000000000) &&
      decide (0 ≤ bfS xs i) && decide (bfS xs i ≤ 7) && decide (1 ≤ ipD (mkD f m) xs i) && decide (ipD (mkD f m) xs i ≤ 100000000)))) = true := by decide +kernel
structure KpF (xs : List Int) (f : Int) (m : Nat) : Prop where
  tot : tot xs = (m : Int)
  m1 : 1 ≤ m
  m7 : m ≤ 7
  same : ipD (mkD f m) xs xs.length * PD7 (cn xs) false false false false false false false = bfD (mkD f m) xs xs.length
  u : ∀ i, i ≤ xs.length → 1 ≤ bfU (mkD 1 m) f i ∧ bfU (mkD 1 m) f i ≤ 2000000000
  d : ∀ i, i ≤ xs.length → 1 ≤ bfD (mkD f m) xs i ∧ bfD (mkD f m) xs i ≤ 100000000000
  s : ∀ i, i ≤ xs.length → 0 ≤ bfS xs i ∧ bfS xs i ≤ 7
  p : ∀ i, i ≤ xs.length → 1 ≤ ipD (mkD f m) xs i ∧ ipD (mkD f m) xs i ≤ 100000000
theorem kp_facts {xs : List Int} {f : Int} (h : VPt xs) (h1 : 1 ≤ f) (h6 : f ≤ 6) : ∃ m, KpF xs f m := by
  obtain ⟨m, hm1, h7, ht, hm⟩ := h.mem
  have t := kp_all
  simp only [List.all_eq_true, List.mem_range, Bool.and_eq_true, Bool.or_eq_true, decide_eq_true_eq] at t
  obtain ⟨⟨a, b⟩, c⟩ := t m (by omega) xs hm f (mem_f6 h1 h6)
  have hl := h.2.1
  have c' : ∀ i, i ≤ xs.length → _ := fun i hi => (c i (by omega)).resolve_left (by omega)
  exact ⟨m, ht, hm1, h7, a, fun i hi => (c' i hi).1.1.1.1.1.1.1 |> fun x => ⟨x, (c' i hi).1.1.1.1.1.1.2⟩, fun i hi => ⟨(c' i hi).1.1.1.1.1.2, (c' i hi).1.1.1.1.2⟩, fun i hi => ⟨(c' i hi).1.1.1.2, (c' i hi).1.1.2⟩, fun i hi => ⟨(c' i hi).1.2, (c' i hi).2⟩⟩
/-- What KindsByProduct is asked of, and answers. -/
def KQ (xs : List Int) (f : Int) : Prop := VPt xs ∧ InR f 1 6
noncomputable def kpV (xs : List Int) (f : Int) : Value := if pb (KQ xs f) = true then .agg #[.int .i64 (frU (kpU xs f) (kpD xs f)), .int .i64 (frD (kpU xs f) (kpD xs f))] else .agg #[.int .i64 0, .int .i64 0]
theorem kp_no {xs : List Int} {f : Int} (h : ¬ KQ xs f) : kpV xs f = .agg #[.int .i64 0, .int .i64 0] := by unfold kpV; rw [if_neg (by rw [pb_false h]; decide)]
theorem kp_yes {xs : List Int} {f : Int} (h : KQ xs f) : kpV xs f = .agg #[.int .i64 (frU (kpU xs f) (kpD xs f)), .int .i64 (frD (kpU xs f) (kpD xs f))] := by unfold kpV; rw [if_pos (pb_true h)]
theorem kp_form (xs : List Int) (f : Int) : ∃ U D, kpV xs f = .agg #[.int .i64 U, .int .i64 D] := by
  unfold kpV; split
  · exact ⟨_, _, rfl⟩
  · exact ⟨_, _, rfl⟩
end Go.Proofs.Ytamjiinhogmifaa

/- KindsByProduct, by the model. -/
namespace Go.Proofs.Ytamjiinhogmifaa
open Go.RowKit

set_option maxHeartbeats 400000 in
theorem factorial_any (n : Nat) (w : World) (h1 : 1 ≤ n) (h7 : n ≤ 7) : Calls Try.prog 68 #[.int .i64 n] w fun e w' => e = .returned (.int .i64 (mkD 1 n)) ∧ w = w' := by
  go_enter Try.func68, Try.ntmps68
  go_wp2
  go_loop [3, 4] (fun s i => ∃ k : Nat, 1 ≤ k ∧ k ≤ n ∧ i = .int .i64 ((k : Int) + 1) ∧ s = .int .i64 (mkD 1 k)) (fun _ i => n + 1 - (intOf i).toNat)
  case atStart => exact ⟨1, Nat.le_refl _, h1, rfl, rfl⟩
  case round =>
    obtain ⟨k, hk1, hk, rfl, rfl⟩ := hrel
    by_cases hlt : k < n
    · have hle : decide ((k : Int) + 1 ≤ (n : Int)) = true := decide_eq_true (by omega)
      have hle' : (k : Int) + 1 ≤ (n : Int) := by omega
      obtain ⟨b1, b2, _, _⟩ := mk_bd (f := 1) (by omega) (by omega) (k := k) (by omega)
      have HS : Hid (mkD 1 (k + 1) = mkD 1 k * ((k : Int) + 1)) := Lib.hid (by show mkD 1 k * (1 + (k : Int)) = _; rw [Int.add_comm])
      obtain ⟨p1, p2⟩ := mulbd (x := mkD 1 k) (y := (k : Int) + 1) (A := 20000000) (B := 8) (by omega) (by omega)
      generalize mkD 1 k = v at *
      go_wp2
      go_round
      case rel => exact ⟨k + 1, by omega, by omega, by go_num, by rw [HS.out]⟩
      case measure => simp [intOf]; omega
    · obtain rfl : k = n := by omega
      have hle : decide ((k : Int) + 1 ≤ (k : Int)) = false := decide_eq_false (by omega)
      have hle' : ¬ (k : Int) + 1 ≤ (k : Int) := by omega
      go_wp2
      go_ret
      exact ⟨rfl, rfl⟩
set_option maxRecDepth 100000 in
set_option maxHeartbeats 1600000 in
theorem byFormula_any (A : Option Addr) (n c : Nat) (xs : List Int) (f : Int) (w : World) (hx : Ints w A n c xs) (hv : VPt xs) (h1 : 1 ≤ f) (h6 : f ≤ 6) :
    Calls Try.prog 58 #[.slice A n c, .int .i64 f] w (Ret (frV (kpU xs f) (kpD xs f)) w) := by
  obtain ⟨m, hF⟩ := kp_facts hv h1 h6
  have HF := Lib.hid hF
  have HPF := Lib.hid (PF.start w)
  have HX := Lib.hid hx
  have HL := Lib.hid hx.len
  have hn7 : n ≤ 7 := by rw [← hx.len]; exact hv.2.1
  have HV := Lib.hid hv
  have hm1 := hF.m1
  have hm7 := hF.m7
  have HS := Lib.hid (hF.tot ▸ sum_any A n c xs _ (hx.keep HPF.out.keep) hv.so)
  have HFC := Lib.hid (fun W => factorial_any m W hm1 hm7)
  have HKU : Hid (kpU xs f = bfU (mkD 1 m) f n) := Lib.hid (by unfold kpU; rw [hF.tot, Int.toNat_natCast, hx.len])
  have HKD : Hid (kpD xs f = bfD (mkD f m) xs n) := Lib.hid (by unfold kpD; rw [hF.tot, Int.toNat_natCast, hx.len])
  have HU0 : Hid (bfU (mkD 1 m) f 0 = mkD 1 m) := Lib.hid rfl
  have HD0 : Hid (bfD (mkD f m) xs 0 = mkD f m) := Lib.hid rfl
  clear hx hF hv
  go_enter Try.func58, Try.ntmps58
  go_wp2_with fail
  refine HS.out.mono ?_
  rintro e w1 ⟨rfl, hq⟩
  have HP1 := Lib.hid (HPF.out.up hq.below)
  clear hq HS HPF
  go_wp2_with fail
  refine (HFC.out _).mono ?_
  rintro e w2 ⟨rfl, rfl⟩
  clear HFC
  rw [← HU0.out]
  go_wp2
  go_loop [7, 8] (fun s i => ∃ k : Nat, k ≤ m ∧ i = .int .i64 k ∧ s = .int .i64 (mkD f k)) (fun _ i => m - (intOf i).toNat)
  case atStart => exact ⟨0, Nat.zero_le _, rfl, rfl⟩
  case round =>
    obtain ⟨k, hk, rfl, rfl⟩ := hrel
    by_cases hlt : k < m
    · obtain ⟨b1, b2, _, _⟩ := mk_bd h1 h6 (k := k) (by omega)
      have HSS : Hid (mkD f (k + 1) = mkD f k * (f + (k : Int))) := Lib.hid rfl
      obtain ⟨p1, p2⟩ := mulbd (x := mkD f k) (y := f + (k : Int)) (A := 20000000) (B := 14) (by omega) (by omega)
      generalize mkD f k = v at *
      go_wp2
      go_round
      case rel => exact ⟨k + 1, by omega, by go_num, by rw [HSS.out]⟩
      case measure => simp [intOf]; omega
    · obtain rfl : k = m := by omega
      rw [← HD0.out]
      go_wp2
      go_loopw [6, 7, 9, 10] (fun u d s i wr => ∃ j : Nat, j ≤ n ∧ i = .int .i64 j ∧ u = .int .i64 (bfU (mkD 1 k) f j) ∧ d = .int .i64 (bfD (mkD f k) xs j) ∧ s = .int .i64 (bfS xs j) ∧ Hid (PF w wr)) (fun _ _ _ i _ => n - (intOf i).toNat)
      case atStart => exact ⟨0, Nat.zero_le _, rfl, rfl, rfl, rfl, HP1⟩
      case round =>
        clear HP1
        obtain ⟨j, hj, rfl, rfl, rfl, rfl, HP⟩ := hrel
        obtain ⟨u1, u2⟩ := HF.out.u j (by rw [HL.out]; exact hj)
        obtain ⟨d1, d2⟩ := HF.out.d j (by rw [HL.out]; exact hj)
        obtain ⟨s1, s2⟩ := HF.out.s j (by rw [HL.out]; exact hj)
        by_cases hlt2 : j < n
        · obtain ⟨b, ob, rfl, hc⟩ := (HX.out.keep HP.out.keep).at_ (by omega)
          have c1 := hc j hlt2
          have HXX := HV.out.1 j (by rw [HL.out]; exact hlt2)
          obtain ⟨x1, x7, _⟩ := HXX
          obtain ⟨t1, t2⟩ := HF.out.s (j + 1) (by rw [HL.out]; omega)
          obtain ⟨p1, p2⟩ := mulbd (x := bfU (mkD 1 k) f j) (y := f) (A := 2000000000) (B := 6) (by omega) (by omega)
          obtain ⟨p3, p4⟩ := mulbd (x := bfD (mkD f k) xs j) (y := gi xs j) (A := 100000000000) (B := 7) (by omega) (by omega)
          obtain ⟨p5, p6⟩ := mulbd (x := bfD (mkD f k) xs j * gi xs j) (y := bfS xs (j + 1)) (A := 700000000000) (B := 7) (by omega) (by omega)
          have HUS : Hid (bfU (mkD 1 k) f (j + 1) = bfU (mkD 1 k) f j * f) := Lib.hid rfl
          have HDS : Hid (bfD (mkD f k) xs (j + 1) = bfD (mkD f k) xs j * gi xs j * bfS xs (j + 1)) := Lib.hid rfl
          by_cases hj0 : j = 0
          · have HSE : Hid (bfS xs (j + 1) = 1) := Lib.hid (by rw [bfS, if_neg (by omega)])
            have g1 : decide ((0 : Int) < (j : Int)) = false := decide_eq_false (by omega)
            have g2 : decide (0 < j) = false := decide_eq_false (by omega)
            clear hj0 hc
            rw [HSE.out] at p5 p6 t1 t2 HDS
            generalize bfU (mkD 1 k) f j = u at *
            generalize bfD (mkD f k) xs j = d at *
            generalize bfS xs j = s at *
            generalize gi xs j = x at *
            go_wp2
            go_quiet (fail)
            go_wp2
            go_roundw
            case rel => exact ⟨j + 1, by omega, by go_num, by rw [HUS.out], by rw [HDS.out]; simp, by rw [HSE.out], Lib.hid (HP.out.up (Quiet.below ⟨_, rfl⟩))⟩
            case measure => simp [intOf]; omega
          · obtain ⟨l, rfl⟩ : ∃ l, j = l + 1 := ⟨j - 1, by omega⟩
            have c2 := hc l (by omega)
            have hcs : ((l + 1 : Nat) : Int) - 1 = (l : Int) := by omega
            have hl1 : l < n := by omega
            have hln : (l : Int) < (n : Int) := by omega
            have g1 : decide ((0 : Int) < ((l + 1 : Nat) : Int)) = true := decide_eq_true (by omega)
            clear hc
            by_cases he : gi xs (l + 1) = gi xs l
            · have HSE : Hid (bfS xs (l + 1 + 1) = bfS xs (l + 1) + 1) := Lib.hid (by rw [bfS, if_pos ⟨by omega, by rw [Nat.add_sub_cancel]; exact he⟩])
              have HTT := Lib.hid (And.intro t1 t2)
              rw [HSE.out] at p5 p6 t1 t2 HDS
              rw [← he] at c2
              clear he
              generalize bfU (mkD 1 k) f (l + 1) = u at *
              generalize bfD (mkD f k) xs (l + 1) = d at *
              generalize bfS xs (l + 1) = s at *
              generalize gi xs (l + 1) = x at *
              have g4 : (x == x) = true := by simp
              go_wp2
              go_quiet (fail)
              go_wp2
              go_roundw
              case rel => exact ⟨l + 1 + 1, by omega, by go_num, by rw [HUS.out], by rw [HDS.out], by rw [HSE.out], Lib.hid (HP.out.up (Quiet.below ⟨_, rfl⟩))⟩
              case measure => simp [intOf]; omega
            · have HSE : Hid (bfS xs (l + 1 + 1) = 1) := Lib.hid (by rw [bfS, if_neg (by rw [Nat.add_sub_cancel]; exact fun h => he h.2)])
              rw [HSE.out] at p5 p6 t1 t2 HDS
              generalize bfU (mkD 1 k) f (l + 1) = u at *
              generalize bfD (mkD f k) xs (l + 1) = d at *
              generalize bfS xs (l + 1) = s at *
              generalize gi xs (l + 1) = x at *
              generalize gi xs l = y at *
              have g4 : (x == y) = false := beq_eq_false_iff_ne.2 he
              go_wp2
              go_quiet (fail)
              go_wp2
              go_roundw
              case rel => exact ⟨l + 1 + 1, by omega, by go_num, by rw [HUS.out], by rw [HDS.out]; simp, by rw [HSE.out], Lib.hid (HP.out.up (Quiet.below ⟨_, rfl⟩))⟩
              case measure => simp [intOf]; omega
        · obtain rfl : j = n := by omega
          have HFW : Hid (frV (kpU xs f) (kpD xs f) = .agg #[.int .i64 (frU (bfU (mkD 1 k) f j) (bfD (mkD f k) xs j)), .int .i64 (frD (bfU (mkD 1 k) f j) (bfD (mkD f k) xs j))]) := Lib.hid (by rw [HKU.out, HKD.out]; rfl)
          generalize bfU (mkD 1 k) f j = u at *
          generalize bfD (mkD f k) xs j = d at *
          have HFV : Hid (frV u d = .agg #[.int .i64 (frU u d), .int .i64 (frD u d)]) := Lib.hid rfl
          have HC := Lib.hid (fun W => HFV.out ▸ frac_any u d W (by unfold Mid; omega) (by unfold Mid; omega) (by omega))
          generalize frU u d = U at *
          generalize frD u d = D at *
          go_wp2_with fail
          refine (HC.out _).mono ?_
          rintro e w4 ⟨rfl, hb⟩
          have HPF := Lib.hid (HP.out.up hb)
          clear hb HC HP
          have c0 := blk_cell HPF.out.box (i := 0) rfl
          have c1 := blk_cell HPF.out.box (i := 1) rfl
          have f0 := blk_frozen HPF.out.box 0
          have f1 := blk_frozen HPF.out.box 1
          go_wp2
          clear c0 c1 f0 f1
          have B1 := blk_set (blk_set HPF.out.box 0 (.int .i64 U)) 1 (.int .i64 D)
          have r0 := blk_cell B1 (i := 0) (v := .int .i64 U) rfl
          have r1 := blk_cell B1 (i := 1) (v := .int .i64 D) rfl
          have HBX := Lib.hid ((HPF.out.below.setCell (p := ⟨w.heap.size, 0, none⟩) (Nat.le_refl _) (.int .i64 U)).setCell (p := ⟨w.heap.size, 1, none⟩) (Nat.le_refl _) (.int .i64 D))
          clear B1 HPF
          generalize (w4.setCell ⟨w.heap.size, 0, none⟩ (.int .i64 U)).setCell ⟨w.heap.size, 1, none⟩ (.int .i64 D) = WE at *
          refine bodyPost_ret (v := .agg #[.int .i64 U, .int .i64 D]) (by simp [results, Try.results58, go_sem, r0, r1]) rfl ?_
          exact ⟨by rw [HFW.out], HBX.out⟩
set_option maxRecDepth 100000 in
set_option maxHeartbeats 3200000 in
theorem KindsByProduct_spec (A : Option Addr) (n c : Nat) (xs : List Int) (f : Int) (w : World) (hx : Ints w A n c xs) (_ : Fit f) :
    Calls Try.prog 35 #[.slice A n c, .int .i64 f] w (Ret (.tuple #[kpV xs f, .bool (pb (KQ xs f))]) w) := by
  have HPF := Lib.hid (PF.start w)
  by_cases hv : VPt xs
  · by_cases hf : InR f 1 6
    · have hq : KQ xs f := ⟨hv, hf⟩
      rw [kp_yes hq, pb_true hq]
      have HV := Lib.hid hv
      have HX := Lib.hid hx
      obtain ⟨f1, f6⟩ := show 1 ≤ f ∧ f ≤ 6 from hf
      clear hq
      have HVC := Lib.hid (pb_true hv ▸ validParts_any A n c xs _ (hx.keep HPF.out.keep))
      have HFR := Lib.hid (fun W => pb_true hf ▸ inRange_any f 1 6 W)
      clear hx hv hf
      go_enter Try.func35, Try.ntmps35
      go_wp2_with fail
      refine HVC.out.mono ?_
      rintro e w1 ⟨rfl, hb⟩
      have HP1 := Lib.hid (HPF.out.up hb.below)
      clear hb HVC HPF
      go_wp2_with fail
      refine (HFR.out _).mono ?_
      rintro e w2 ⟨rfl, rfl⟩
      clear HFR
      have HPF := HP1
      clear HP1
      have HFV : Hid (frV (kpU xs f) (kpD xs f) = .agg #[.int .i64 (frU (kpU xs f) (kpD xs f)), .int .i64 (frD (kpU xs f) (kpD xs f))]) := Lib.hid rfl
      have HC := Lib.hid (HFV.out ▸ byFormula_any A n c xs f w1 (HX.out.keep HPF.out.keep) HV.out f1 f6)
      generalize frU (kpU xs f) (kpD xs f) = U at *
      generalize frD (kpU xs f) (kpD xs f) = D at *
      go_wp2_with fail
      refine HC.out.mono ?_
      rintro e w4 ⟨rfl, hb⟩
      have HP4 := Lib.hid (HPF.out.up hb)
      clear hb HC HPF
      have HPF := HP4
      clear HP4
      have c0 := blk_cell HPF.out.box (i := 0) rfl
      have c1 := blk_cell HPF.out.box (i := 1) rfl
      have f0 := blk_frozen HPF.out.box 0
      have f1 := blk_frozen HPF.out.box 1
      go_wp2
      clear c0 c1 f0 f1
      have B1 := blk_set (blk_set HPF.out.box 0 (.int .i64 U)) 1 (.int .i64 D)
      have r0 := blk_cell B1 (i := 0) (v := .int .i64 U) rfl
      have r1 := blk_cell B1 (i := 1) (v := .int .i64 D) rfl
      have HBX := Lib.hid ((HPF.out.below.setCell (p := ⟨w.heap.size, 0, none⟩) (Nat.le_refl _) (.int .i64 U)).setCell (p := ⟨w.heap.size, 1, none⟩) (Nat.le_refl _) (.int .i64 D))
      clear B1 HPF
      generalize (w4.setCell ⟨w.heap.size, 0, none⟩ (.int .i64 U)).setCell ⟨w.heap.size, 1, none⟩ (.int .i64 D) = WE at *
      refine bodyPost_ret (v := .tuple #[.agg #[.int .i64 U, .int .i64 D], .bool true]) (by simp [results, Try.results35, go_sem, r0, r1]) rfl ?_
      exact ⟨rfl, HBX.out⟩
    · have HNO := Lib.hid ((fun h : ¬ KQ xs f => And.intro (kp_no h) (pb_false h)) (fun h => hf h.2))
      have HVC := Lib.hid (pb_true hv ▸ validParts_any A n c xs _ (hx.keep HPF.out.keep))
      have HFR := Lib.hid (fun W => pb_false hf ▸ inRange_any f 1 6 W)
      clear hx hv hf
      go_enter Try.func35, Try.ntmps35
      go_wp2_with fail
      refine HVC.out.mono ?_
      rintro e w1 ⟨rfl, hb⟩
      have HP1 := Lib.hid (HPF.out.up hb.below)
      clear hb HVC HPF
      go_wp2_with fail
      refine (HFR.out _).mono ?_
      rintro e w2 ⟨rfl, rfl⟩
      clear HFR
      have HPF := HP1
      clear HP1
      have c0 := blk_cell HPF.out.box (i := 0) rfl
      have c1 := blk_cell HPF.out.box (i := 1) rfl
      have f0 := blk_frozen HPF.out.box 0
      have f1 := blk_frozen HPF.out.box 1
      go_wp2
      clear c0 c1 f0 f1
      have B1 := blk_set (blk_set HPF.out.box 0 (.int .i64 0)) 1 (.int .i64 0)
      have r0 := blk_cell B1 (i := 0) (v := .int .i64 0) rfl
      have r1 := blk_cell B1 (i := 1) (v := .int .i64 0) rfl
      have HBX := Lib.hid ((HPF.out.below.setCell (p := ⟨w.heap.size, 0, none⟩) (Nat.le_refl _) (.int .i64 0)).setCell (p := ⟨w.heap.size, 1, none⟩) (Nat.le_refl _) (.int .i64 0))
      clear B1 HPF
      generalize (w1.setCell ⟨w.heap.size, 0, none⟩ (.int .i64 0)).setCell ⟨w.heap.size, 1, none⟩ (.int .i64 0) = WE at *
      refine bodyPost_ret (v := .tuple #[.agg #[.int .i64 0, .int .i64 0], .bool false]) (by simp [results, Try.results35, go_sem, r0, r1]) rfl ?_
      exact ⟨by rw [HNO.out.1, HNO.out.2], HBX.out⟩
  · have HNO := Lib.hid ((fun h : ¬ KQ xs f => And.intro (kp_no h) (pb_false h)) (fun h => hv h.1))
    have HVC := Lib.hid (pb_false hv ▸ validParts_any A n c xs _ (hx.keep HPF.out.keep))
    clear hx hv
    go_enter Try.func35, Try.ntmps35
    go_wp2_with fail
    refine HVC.out.mono ?_
    rintro e w1 ⟨rfl, hb⟩
    have HP1 := Lib.hid (HPF.out.up hb.below)
    clear hb HVC HPF
    have HPF := HP1
    clear HP1
    have c0 := blk_cell HPF.out.box (i := 0) rfl
    have c1 := blk_cell HPF.out.box (i := 1) rfl
    have f0 := blk_frozen HPF.out.box 0
    have f1 := blk_frozen HPF.out.box 1
    go_wp2
    clear c0 c1 f0 f1
    have B1 := blk_set (blk_set HPF.out.box 0 (.int .i64 0)) 1 (.int .i64 0)
    have r0 := blk_cell B1 (i := 0) (v := .int .i64 0) rfl
    have r1 := blk_cell B1 (i := 1) (v := .int .i64 0) rfl
    have HBX := Lib.hid ((HPF.out.below.setCell (p := ⟨w.heap.size, 0, none⟩) (Nat.le_refl _) (.int .i64 0)).setCell (p := ⟨w.heap.size, 1, none⟩) (Nat.le_refl _) (.int .i64 0))
    clear B1 HPF
    generalize (w1.setCell ⟨w.heap.size, 0, none⟩ (.int .i64 0)).setCell ⟨w.heap.size, 1, none⟩ (.int .i64 0) = WE at *
    refine bodyPost_ret (v := .tuple #[.agg #[.int .i64 0, .int .i64 0], .bool false]) (by simp [results, Try.results35, go_sem, r0, r1]) rfl ?_
    exact ⟨by rw [HNO.out.1, HNO.out.2], HBX.out⟩

end Go.Proofs.Ytamjiinhogmifaa

