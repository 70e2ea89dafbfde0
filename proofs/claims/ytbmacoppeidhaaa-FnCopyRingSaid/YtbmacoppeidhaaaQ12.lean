/- Texts merged: CO LO4 LO5 LO6 LO7 Mix K6. -/
import Derived.Test.YtbmacoppeidhaaaQ11
import Derived.Laws.Tables
import Derived.Laws.Rows
/- A table as an array, by the program. -/
namespace Go.Proofs.Ytbmacoppeidhaaa
open Go.RowKit

theorem blk_row {w g t cs} (h : Blk w g t cs) (c : Array Value) : Blk (w.setRow g c) g t c := setRow_heap w g cs c t (0, 0) h
theorem row_other (w : World) (g k : Nat) (c : Array Value) (h : k ≠ g) : (w.setRow g c).heap[k]? = w.heap[k]? := by
  simp only [World.setRow, Array.getElem?_modify, if_neg (Ne.symm h)]
theorem blk_row_other {w g k t cs} (h : Blk w k t cs) (c : Array Value) (hne : k ≠ g) : Blk (w.setRow g c) k t cs := (row_other w g k c hne).trans h
theorem below_row {B : Nat} {a w : World} (h : Below B a w) {g : Nat} (hg : B ≤ g) (c : Array Value) : Below B a (w.setRow g c) :=
  ⟨h.os, h.tape, h.output, by simpa [World.setRow] using h.size, fun k hk => (row_other w g k c (by omega)).trans (h.block k hk)⟩

/-- A table on its way into an array: the result's box, and the variable. -/
structure CW (a : List (List Int)) (m : Nat) (w : World) (i j : Nat) (W : World) : Prop where
  box : Blk W w.heap.size 83 (cs9 fun _ _ => 0)
  var : Blk W (w.heap.size + 1) 83 (cs9 (part9 a m i j))
  below : Below w.heap.size w W
theorem CW.start (a : List (List Int)) (m : Nat) (w : World) : CW a m w 0 0 ((w.alloc (.cells (cs9 fun _ _ => 0) 83)).alloc (.cells (cs9 fun _ _ => 0) 83)) :=
  ⟨blk_old (blk_new _ _ _) _, by rw [part9_zero]; have := blk_new (w.alloc (.cells (cs9 fun _ _ => 0) 83)) 83 (cs9 fun _ _ => 0); rw [World.size_alloc] at this; exact this, below_up (below_alloc _ _) (below_alloc _ _)⟩
theorem CW.put {a m w i j W} (h : CW a m w i j W) (hi : i < 3) (hj : j < m) (hm : m ≤ 3) : CW a m w i (j + 1) (W.setCell ⟨w.heap.size + 1, i * 3 + j, none⟩ (.int .i64 (g2 a i j))) :=
  ⟨blk_other h.box (by show w.heap.size ≠ w.heap.size + 1; omega) _, by have := blk_set h.var (i * 3 + j) (.int .i64 (g2 a i j)); rw [cs9_set _ hi (by omega), part9_next a m i j hj] at this; exact this, h.below.setCell (by show w.heap.size ≤ w.heap.size + 1; omega) _⟩
theorem CW.row {a m w i W} (h : CW a m w i m W) : CW a m w (i + 1) 0 W := ⟨h.box, by rw [← part9_row]; exact h.var, h.below⟩
theorem CW.keep {a m w i j W} (h : CW a m w i j W) : Keep w W := Keep.below h.below

set_option maxRecDepth 100000 in
set_option maxHeartbeats 3200000 in
theorem cellsOf_any (b o : Nat) (rb ro cc : Nat → Nat) (n m c : Nat) (a : List (List Int)) (w : World) (ht : Tab w b o rb ro cc n m a) :
    Calls Try.prog 64 #[.slice (some ⟨b, o, none⟩) n c] w (Ret (.agg (cs9 (full9 a n m))) w) := by
  have HT := Lib.hid ht
  have hn1 := ht.n1
  have hn3 := ht.n3
  have hm1 := ht.m1
  have hm3 := ht.m3
  have HS := Lib.hid (CW.start a m w)
  clear ht
  go_enter Try.func64, Try.ntmps64
  go_wp2
  go_loopw [10] (fun i_ wr => ∃ i : Nat, i ≤ n ∧ i_ = .int .i64 i ∧ Hid (CW a m w i 0 wr)) (fun i_ _ => n - (intOf i_).toNat)
  case atStart => exact ⟨0, Nat.zero_le _, rfl, HS⟩
  case round =>
    clear HS
    obtain ⟨i, hi, rfl, HC⟩ := hrel
    by_cases hlt : i < n
    · have c1 := HC.out.keep _ _ (HT.out.row i hlt)
      go_wp2
      clear c1
      go_loopw [17] (fun j_ wi => ∃ j : Nat, j ≤ m ∧ j_ = .int .i64 j ∧ Hid (CW a m w i j wi)) (fun j_ _ => m - (intOf j_).toNat)
      case atStart => exact ⟨0, Nat.zero_le _, rfl, HC⟩
      case round =>
        clear HC
        obtain ⟨j, hj, rfl, HC⟩ := hrel
        by_cases hjl : j < m
        · have c2 := HC.out.keep _ _ (HT.out.cell i j hlt hjl)
          have c3 := blk_cell HC.out.var (cs9_get _ (by omega : i < 3) (by omega : j < 3))
          have c4 := blk_frozen HC.out.var (i * 3 + j)
          have HN := Lib.hid (HC.out.put (by omega) hjl hm3)
          have hi3 : (i : Int) < 3 := by omega
          have hj3 : (j : Int) < 3 := by omega
          generalize g2 a i j = x at *
          go_wp2
          clear c2 c3 c4
          go_roundw
          case rel => exact ⟨j + 1, by omega, by go_num, HN⟩
          case measure => simp [intOf]; omega
        · obtain rfl : j = m := by omega
          have HN := Lib.hid HC.out.row
          go_wp2
          go_roundw
          case rel => exact ⟨i + 1, by omega, by go_num, HN⟩
          case measure => simp [intOf]; omega
    · obtain rfl : i = n := by omega
      have HV := Lib.hid (show Blk wr (w.heap.size + 1) 83 (cs9 (full9 a i m)) by rw [← part9_all]; exact HC.out.var)
      have HX := Lib.hid HC.out.box
      have HB := Lib.hid HC.out.below
      clear HC
      generalize full9 a i m = F at *
      generalize wr = W0 at *
      have HSZ : Hid ((Try.prog.info? 83).map (·.size) = some (cs9 F).size) := Lib.hid (by show _ = some 9; kernel_rfl)
      have HS1 : Hid ((cs9 F).all (·.oneCell') = true) := Lib.hid (by simp [cs9, Value.oneCell'])
      go_wp2_with (first | (refine wpList_load_row rfl 83 _ rfl (w.heap.size + 1) rfl 83 (cs9 F) (0, 0) _ HV.out und_cells rfl HSZ.out ?_) | (refine wpList_store_row rfl 83 _ _ rfl w.heap.size (cs9 F) rfl rfl 83 _ HX.out HSZ.out rfl HS1.out ?_))
      have BB := Lib.hid (blk_row HX.out (cs9 F))
      have HBX := Lib.hid (below_row HB.out (g := w.heap.size) (Nat.le_refl _) (cs9 F))
      clear HX HV HB
      generalize W0.setRow w.heap.size (cs9 F) = W9 at *
      refine bodyPost_ret (v := .agg (cs9 F)) (results_cell_row (by rfl) _ _ w.heap.size 83 (cs9 F) (0, 0) _ (by rfl) BB.out und_cells rfl HSZ.out) rfl ?_
      exact ⟨rfl, HBX.out⟩
end Go.Proofs.Ytbmacoppeidhaaa

/- What is left over, by the program: rows compared at marks, beaten rows. -/
namespace Go.Proofs.Ytbmacoppeidhaaa
open Go.RowKit

def cs3 (x : Nat → Int) : Array Value := #[.int .i64 (x 0), .int .i64 (x 1), .int .i64 (x 2)]
def bs3 (h : Nat → Bool) : Array Value := #[.bool (h 0), .bool (h 1), .bool (h 2)]
theorem cs3_get (x : Nat → Int) {k : Nat} (h : k < 3) : (cs3 x)[k]? = some (.int .i64 (x k)) := by
  have : k = 0 ∨ k = 1 ∨ k = 2 := by omega
  rcases this with rfl | rfl | rfl <;> rfl
theorem bs3_get (x : Nat → Bool) {k : Nat} (h : k < 3) : (bs3 x)[k]? = some (.bool (x k)) := by
  have : k = 0 ∨ k = 1 ∨ k = 2 := by omega
  rcases this with rfl | rfl | rfl <;> rfl
/-- Less at all marks. -/
def LA (x y : Nat → Int) (h : Nat → Bool) (l : Nat) : Prop := ∀ j, j < l → h j = true → x j < y j

set_option maxRecDepth 100000 in
set_option maxHeartbeats 1600000 in
theorem lessAgainst_any (x y : Nat → Int) (h : Nat → Bool) (w : World) :
    Calls Try.prog 111 #[.agg (cs3 x), .agg (cs3 y), .agg (bs3 h)] w (Ret (.bool (pb (LA x y h 3))) w) := by
  have b0 := blk_old (blk_old (blk_new w 81 (cs3 x)) (.cells (cs3 y) 81)) (.cells (bs3 h) 86)
  have b1 := blk_old (blk_new (w.alloc (.cells (cs3 x) 81)) 81 (cs3 y)) (.cells (bs3 h) 86)
  have b2 := blk_new ((w.alloc (.cells (cs3 x) 81)).alloc (.cells (cs3 y) 81)) 86 (bs3 h)
  have HB := Lib.hid (below_up (below_up (below_alloc w (.cells (cs3 x) 81)) (below_alloc _ (.cells (cs3 y) 81))) (below_alloc _ (.cells (bs3 h) 86)))
  simp only [World.size_alloc] at b1 b2
  have H0 := Lib.hid b0
  have H1 := Lib.hid b1
  have H2 := Lib.hid b2
  clear b0 b1 b2
  go_enter Try.func111, Try.ntmps111
  go_wp2
  generalize ((w.alloc (.cells (cs3 x) 81)).alloc (.cells (cs3 y) 81)).alloc (.cells (bs3 h) 86) = W3 at *
  go_loopw [8] (fun s wr => ∃ k : Nat, k ≤ 3 ∧ s = .int .i64 k ∧ Hid (LA x y h k) ∧ Hid (Quiet W3 wr)) (fun s _ => 3 - (intOf s).toNat)
  case atStart => exact ⟨0, by omega, rfl, Lib.hid (fun _ h => absurd h (by omega)), Lib.hid (Quiet.refl _)⟩
  case round =>
    obtain ⟨k, hk, rfl, HL, HQ⟩ := hrel
    by_cases hlt : k < 3
    · have hk3 : (k : Int) < 3 := by omega
      have c0 := blk_cell (blk_quiet H0.out HQ.out) (cs3_get x hlt)
      have c1 := blk_cell (blk_quiet H1.out HQ.out) (cs3_get y hlt)
      have c2 := blk_cell (blk_quiet H2.out HQ.out) (bs3_get h hlt)
      cases hm : h k
      · rw [hm] at c2
        have HN := Lib.hid (show LA x y h (k + 1) from fun j hj e => by
          by_cases ee : j = k
          · subst ee; rw [hm] at e; cases e
          · exact HL.out j (by omega) e)
        clear hm
        go_wp2
        go_quiet (fail)
        all_goals
          clear c0 c1 c2
          go_wp2
          go_roundw
          case rel => exact ⟨k + 1, by omega, by go_num, HN, Lib.hid (HQ.out.trans ⟨_, rfl⟩)⟩
          case measure => simp [intOf]; omega
      · rw [hm] at c2
        by_cases e : y k ≤ x k
        · have hd : decide (y k ≤ x k) = true := decide_eq_true e
          have HN := Lib.hid (pb_false (p := LA x y h 3) (fun hh => by have := hh k hlt hm; omega))
          have HBW := Lib.hid (below_quiet HB.out HQ.out)
          clear e hm
          go_wp2
          go_quiet (fail)
          all_goals
            clear c0 c1 c2
            go_wp2
            go_ret
            exact ⟨ret_bool HN.out.symm, below_drewN HBW.out _⟩
        · have hd : decide (y k ≤ x k) = false := decide_eq_false e
          have HN := Lib.hid (show LA x y h (k + 1) from fun j hj e2 => by
            by_cases ee : j = k
            · subst ee; omega
            · exact HL.out j (by omega) e2)
          clear e hm
          go_wp2
          go_quiet (fail)
          all_goals
            clear c0 c1 c2
            go_wp2
            go_roundw
            case rel => exact ⟨k + 1, by omega, by go_num, HN, Lib.hid (HQ.out.trans ⟨_, rfl⟩)⟩
            case measure => simp [intOf]; omega
    · obtain rfl : k = 3 := by omega
      have HN := Lib.hid (pb_true HL.out)
      have HBW := Lib.hid (below_quiet HB.out HQ.out)
      go_wp2
      go_ret
      exact ⟨ret_bool HN.out.symm, HBW.out⟩
end Go.Proofs.Ytbmacoppeidhaaa

/- What is left over, by the program: is a row beaten. -/
namespace Go.Proofs.Ytbmacoppeidhaaa
open Go.RowKit

/-- One of the first l own rows that are marked is more than row i at all marks of the other. -/
def BM (f : Nat → Nat → Int) (own h : Nat → Bool) (i l : Nat) : Prop := ∃ k, k < l ∧ own k = true ∧ LA (f i) (f k) h 3

set_option maxRecDepth 100000 in
set_option maxHeartbeats 12800000 in
theorem isBeaten_any (f : Nat → Nat → Int) (i : Nat) (own h : Nat → Bool) (w : World) (hi : i < 3) :
    Calls Try.prog 97 #[.agg (cs9 f), .int .i64 i, .agg (bs3 own), .agg (bs3 h)] w (Ret (.bool (pb (BM f own h i 3))) w) := by
  have b0 := blk_old (blk_old (blk_new w 83 (cs9 f)) (.cells (bs3 own) 86)) (.cells (bs3 h) 86)
  have b1 := blk_old (blk_new (w.alloc (.cells (cs9 f) 83)) 86 (bs3 own)) (.cells (bs3 h) 86)
  have b2 := blk_new ((w.alloc (.cells (cs9 f) 83)).alloc (.cells (bs3 own) 86)) 86 (bs3 h)
  have HB := Lib.hid (below_up (below_up (below_alloc w (.cells (cs9 f) 83)) (below_alloc _ (.cells (bs3 own) 86))) (below_alloc _ (.cells (bs3 h) 86)))
  simp only [World.size_alloc] at b1 b2
  have H0 := Lib.hid b0
  have H1 := Lib.hid b1
  have H2 := Lib.hid b2
  clear b0 b1 b2
  go_enter Try.func97, Try.ntmps97
  go_wp2
  generalize ((w.alloc (.cells (cs9 f) 83)).alloc (.cells (bs3 own) 86)).alloc (.cells (bs3 h) 86) = W3 at *
  go_loopw [10] (fun s wr => ∃ k : Nat, k ≤ 3 ∧ s = .int .i64 k ∧ Hid (¬ BM f own h i k) ∧ Hid (Below W3.heap.size W3 wr)) (fun s _ => 3 - (intOf s).toNat)
  case atStart => exact ⟨0, by omega, rfl, Lib.hid (by rintro ⟨k, h1, _⟩; omega), Lib.hid (Below.refl _ _)⟩
  case round =>
    obtain ⟨k, hk, rfl, HL, HQ⟩ := hrel
    by_cases hlt : k < 3
    · have hk3 : (k : Int) < 3 := by omega
      have h0 := blk_below H0.out HQ.out
      have h1 := blk_below H1.out HQ.out
      have h2 := blk_below H2.out HQ.out
      have HBW := Lib.hid (below_up HB.out HQ.out)
      cases hm : own k
      · have HN := Lib.hid (show ¬ BM f own h i (k + 1) from by
          rintro ⟨j, hj, e1, e2⟩
          by_cases ee : j = k
          · subst ee; rw [hm] at e1; cases e1
          · exact HL.out ⟨j, by omega, e1, e2⟩)
        have c1 := blk_cell h1 (bs3_get own hlt)
        rw [hm] at c1
        clear hm h0 h1 h2
        go_wp2
        go_quiet (fail)
        all_goals
          clear c1
          go_wp2
          go_roundw
          case rel => exact ⟨k + 1, by omega, by go_num, HN, Lib.hid (below_drewN HQ.out _)⟩
          case measure => simp [intOf]; omega
      · have HLA := Lib.hid (fun W => show Calls Try.prog 111 #[.agg #[.int .i64 (f i 0), .int .i64 (f i 1), .int .i64 (f i 2)], .agg #[.int .i64 (f k 0), .int .i64 (f k 1), .int .i64 (f k 2)], .agg #[.bool (h 0), .bool (h 1), .bool (h 2)]] W (Ret (.bool (pb (LA (f i) (f k) h 3))) W) from lessAgainst_any (f i) (f k) h W)
        by_cases hla : LA (f i) (f k) h 3
        · rw [pb_true hla] at HLA
          have HN := Lib.hid (pb_true (p := BM f own h i 3) ⟨k, hlt, hm, hla⟩)
          have c1 := blk_cell h1 (bs3_get own hlt)
          rw [hm] at c1
          have hi4 : (i : Int) < 3 := by omega
          clear hm hla
          have HZ := Lib.hid (And.intro (show wr.cell? ⟨w.heap.size + 1, k, none⟩ = some (.bool true) from c1) (And.intro (show wr.cell? ⟨w.heap.size, i * 3, none⟩ = some (.int .i64 (f i 0)) from blk_cell h0 (cs9_get f (i := i) (j := 0) (by omega) (by omega))) (And.intro (show wr.cell? ⟨w.heap.size, i * 3 + 1, none⟩ = some (.int .i64 (f i 1)) from blk_cell h0 (cs9_get f (i := i) (j := 1) (by omega) (by omega))) (And.intro (show wr.cell? ⟨w.heap.size, i * 3 + 2, none⟩ = some (.int .i64 (f i 2)) from blk_cell h0 (cs9_get f (i := i) (j := 2) (by omega) (by omega))) (And.intro (show wr.cell? ⟨w.heap.size, k * 3, none⟩ = some (.int .i64 (f k 0)) from blk_cell h0 (cs9_get f (i := k) (j := 0) (by omega) (by omega))) (And.intro (show wr.cell? ⟨w.heap.size, k * 3 + 1, none⟩ = some (.int .i64 (f k 1)) from blk_cell h0 (cs9_get f (i := k) (j := 1) (by omega) (by omega))) (And.intro (show wr.cell? ⟨w.heap.size, k * 3 + 2, none⟩ = some (.int .i64 (f k 2)) from blk_cell h0 (cs9_get f (i := k) (j := 2) (by omega) (by omega))) (And.intro (blk_cell h2 (i := 0) (v := .bool (h 0)) rfl) (And.intro (blk_cell h2 (i := 1) (v := .bool (h 1)) rfl) (blk_cell h2 (i := 2) (v := .bool (h 2)) rfl))))))))))
          clear c1 h0 h1 h2
          go_wp2
          go_region_held3 (fun W => W.cell? ⟨w.heap.size + 1, k, none⟩ = some (.bool true) ∧ (W.cell? ⟨w.heap.size, i * 3, none⟩ = some (.int .i64 (f i 0)) ∧ (W.cell? ⟨w.heap.size, i * 3 + 1, none⟩ = some (.int .i64 (f i 1)) ∧ (W.cell? ⟨w.heap.size, i * 3 + 2, none⟩ = some (.int .i64 (f i 2)) ∧ (W.cell? ⟨w.heap.size, k * 3, none⟩ = some (.int .i64 (f k 0)) ∧ (W.cell? ⟨w.heap.size, k * 3 + 1, none⟩ = some (.int .i64 (f k 1)) ∧ (W.cell? ⟨w.heap.size, k * 3 + 2, none⟩ = some (.int .i64 (f k 2)) ∧ (W.cell? ⟨w.heap.size + 1 + 1, 0, none⟩ = some (.bool (h 0)) ∧ (W.cell? ⟨w.heap.size + 1 + 1, 1, none⟩ = some (.bool (h 1)) ∧ (W.cell? ⟨w.heap.size + 1 + 1, 2, none⟩ = some (.bool (h 2))))))))))))
            (first | exact S1.out | exact HZ.out | go_keep)
            (first | (go_at_call 111; (with_reducible refine (HLA.out _).mono ?_); rintro e v1 ⟨rfl, hb⟩; have S1 := Lib.hid (And.intro (Keep.below hb _ _ HZ.out.1) (And.intro (Keep.below hb _ _ HZ.out.2.1) (And.intro (Keep.below hb _ _ HZ.out.2.2.1) (And.intro (Keep.below hb _ _ HZ.out.2.2.2.1) (And.intro (Keep.below hb _ _ HZ.out.2.2.2.2.1) (And.intro (Keep.below hb _ _ HZ.out.2.2.2.2.2.1) (And.intro (Keep.below hb _ _ HZ.out.2.2.2.2.2.2.1) (And.intro (Keep.below hb _ _ HZ.out.2.2.2.2.2.2.2.1) (And.intro (Keep.below hb _ _ HZ.out.2.2.2.2.2.2.2.2.1) (Keep.below hb _ _ HZ.out.2.2.2.2.2.2.2.2.2)))))))))); have D1 := Lib.hid (below_up HQ.out.drew hb); have E1 := Lib.hid (below_up HBW.out.drew hb); clear hb))
          all_goals
            go_wp2
            go_ret
            exact ⟨ret_bool HN.out.symm, E1.out⟩
        · rw [pb_false hla] at HLA
          have HN := Lib.hid (show ¬ BM f own h i (k + 1) from by
            rintro ⟨j, hj, e1, e2⟩
            by_cases ee : j = k
            · subst ee; exact hla e2
            · exact HL.out ⟨j, by omega, e1, e2⟩)
          have c1 := blk_cell h1 (bs3_get own hlt)
          rw [hm] at c1
          have hi4 : (i : Int) < 3 := by omega
          clear hm hla
          have HZ := Lib.hid (And.intro (show wr.cell? ⟨w.heap.size + 1, k, none⟩ = some (.bool true) from c1) (And.intro (show wr.cell? ⟨w.heap.size, i * 3, none⟩ = some (.int .i64 (f i 0)) from blk_cell h0 (cs9_get f (i := i) (j := 0) (by omega) (by omega))) (And.intro (show wr.cell? ⟨w.heap.size, i * 3 + 1, none⟩ = some (.int .i64 (f i 1)) from blk_cell h0 (cs9_get f (i := i) (j := 1) (by omega) (by omega))) (And.intro (show wr.cell? ⟨w.heap.size, i * 3 + 2, none⟩ = some (.int .i64 (f i 2)) from blk_cell h0 (cs9_get f (i := i) (j := 2) (by omega) (by omega))) (And.intro (show wr.cell? ⟨w.heap.size, k * 3, none⟩ = some (.int .i64 (f k 0)) from blk_cell h0 (cs9_get f (i := k) (j := 0) (by omega) (by omega))) (And.intro (show wr.cell? ⟨w.heap.size, k * 3 + 1, none⟩ = some (.int .i64 (f k 1)) from blk_cell h0 (cs9_get f (i := k) (j := 1) (by omega) (by omega))) (And.intro (show wr.cell? ⟨w.heap.size, k * 3 + 2, none⟩ = some (.int .i64 (f k 2)) from blk_cell h0 (cs9_get f (i := k) (j := 2) (by omega) (by omega))) (And.intro (blk_cell h2 (i := 0) (v := .bool (h 0)) rfl) (And.intro (blk_cell h2 (i := 1) (v := .bool (h 1)) rfl) (blk_cell h2 (i := 2) (v := .bool (h 2)) rfl))))))))))
          clear c1 h0 h1 h2
          go_wp2
          go_region_held3 (fun W => W.cell? ⟨w.heap.size + 1, k, none⟩ = some (.bool true) ∧ (W.cell? ⟨w.heap.size, i * 3, none⟩ = some (.int .i64 (f i 0)) ∧ (W.cell? ⟨w.heap.size, i * 3 + 1, none⟩ = some (.int .i64 (f i 1)) ∧ (W.cell? ⟨w.heap.size, i * 3 + 2, none⟩ = some (.int .i64 (f i 2)) ∧ (W.cell? ⟨w.heap.size, k * 3, none⟩ = some (.int .i64 (f k 0)) ∧ (W.cell? ⟨w.heap.size, k * 3 + 1, none⟩ = some (.int .i64 (f k 1)) ∧ (W.cell? ⟨w.heap.size, k * 3 + 2, none⟩ = some (.int .i64 (f k 2)) ∧ (W.cell? ⟨w.heap.size + 1 + 1, 0, none⟩ = some (.bool (h 0)) ∧ (W.cell? ⟨w.heap.size + 1 + 1, 1, none⟩ = some (.bool (h 1)) ∧ (W.cell? ⟨w.heap.size + 1 + 1, 2, none⟩ = some (.bool (h 2))))))))))))
            (first | exact S1.out | exact HZ.out | go_keep)
            (first | (go_at_call 111; (with_reducible refine (HLA.out _).mono ?_); rintro e v1 ⟨rfl, hb⟩; have S1 := Lib.hid (And.intro (Keep.below hb _ _ HZ.out.1) (And.intro (Keep.below hb _ _ HZ.out.2.1) (And.intro (Keep.below hb _ _ HZ.out.2.2.1) (And.intro (Keep.below hb _ _ HZ.out.2.2.2.1) (And.intro (Keep.below hb _ _ HZ.out.2.2.2.2.1) (And.intro (Keep.below hb _ _ HZ.out.2.2.2.2.2.1) (And.intro (Keep.below hb _ _ HZ.out.2.2.2.2.2.2.1) (And.intro (Keep.below hb _ _ HZ.out.2.2.2.2.2.2.2.1) (And.intro (Keep.below hb _ _ HZ.out.2.2.2.2.2.2.2.2.1) (Keep.below hb _ _ HZ.out.2.2.2.2.2.2.2.2.2)))))))))); have D1 := Lib.hid (below_up HQ.out.drew hb); have E1 := Lib.hid (below_up HBW.out.drew hb); clear hb))
          all_goals
            go_wp2
            go_roundw
            case rel => exact ⟨k + 1, by omega, by go_num, HN, D1⟩
            case measure => simp [intOf]; omega
    · obtain rfl : k = 3 := by omega
      have HN := Lib.hid (pb_false HL.out)
      have HBW := Lib.hid (below_up HB.out HQ.out)
      go_wp2
      go_ret
      exact ⟨ret_bool HN.out.symm, HBW.out⟩
end Go.Proofs.Ytbmacoppeidhaaa

/- What is left over, by the program: who stays. -/
namespace Go.Proofs.Ytbmacoppeidhaaa
open Go.RowKit

theorem und_marks : Try.prog.underlying 86 = some (.array 3 4) := by kernel_rfl
noncomputable def stM (f : Nat → Nat → Int) (own h : Nat → Bool) : Nat → Bool := fun i => own i && !pb (BM f own h i 3)
/-- The first k of them. -/
def partB (s : Nat → Bool) (k : Nat) : Nat → Bool := fun j => if j < k then s j else false
theorem partB_zero (s : Nat → Bool) : bs3 (partB s 0) = #[.bool false, .bool false, .bool false] := by simp [bs3, partB]
theorem partB_set (s : Nat → Bool) {k : Nat} (h : k < 3) : (bs3 (partB s k)).setIfInBounds k (.bool (s k)) = bs3 (partB s (k + 1)) := by
  have : k = 0 ∨ k = 1 ∨ k = 2 := by omega
  rcases this with rfl | rfl | rfl <;> simp [bs3, partB]
theorem partB_all (s : Nat → Bool) : bs3 (partB s 3) = bs3 s := by simp [bs3, partB]
/-- The boxes of unbeaten. -/
structure UW (f : Nat → Nat → Int) (own h s : Nat → Bool) (w : World) (k : Nat) (W : World) : Prop where
  tab : Blk W w.heap.size 83 (cs9 f)
  own : Blk W (w.heap.size + 1) 86 (bs3 own)
  oth : Blk W (w.heap.size + 1 + 1) 86 (bs3 h)
  box : Blk W (w.heap.size + 1 + 1 + 1) 86 #[.bool false, .bool false, .bool false]
  var : Blk W (w.heap.size + 1 + 1 + 1 + 1) 86 (bs3 (partB s k))
  below : Below w.heap.size w W
theorem UW.up {f own h s w k W W'} (u : UW f own h s w k W) (b : Below W.heap.size W W') : UW f own h s w k W' :=
  ⟨blk_below u.tab b, blk_below u.own b, blk_below u.oth b, blk_below u.box b, blk_below u.var b, below_up u.below b⟩
theorem UW.put {f own h s w k W} (u : UW f own h s w k W) (hk : k < 3) : UW f own h s w (k + 1) (W.setCell ⟨w.heap.size + 1 + 1 + 1 + 1, k, none⟩ (.bool (s k))) :=
  ⟨blk_other u.tab (by show w.heap.size ≠ w.heap.size + 1 + 1 + 1 + 1; omega) _, blk_other u.own (by show w.heap.size + 1 ≠ w.heap.size + 1 + 1 + 1 + 1; omega) _, blk_other u.oth (by show w.heap.size + 1 + 1 ≠ w.heap.size + 1 + 1 + 1 + 1; omega) _,
    blk_other u.box (by show w.heap.size + 1 + 1 + 1 ≠ w.heap.size + 1 + 1 + 1 + 1; omega) _, by have := blk_set u.var k (.bool (s k)); rw [partB_set s hk] at this; exact this, u.below.setCell (by show w.heap.size ≤ w.heap.size + 1 + 1 + 1 + 1; omega) _⟩
theorem UW.start (f : Nat → Nat → Int) (own h s : Nat → Bool) (w : World) : UW f own h s w 0 (((((w.alloc (.cells (cs9 f) 83)).alloc (.cells (bs3 own) 86)).alloc (.cells (bs3 h) 86)).alloc (.cells #[.bool false, .bool false, .bool false] 86)).alloc (.cells #[.bool false, .bool false, .bool false] 86)) := by
  have b0 := blk_new w 83 (cs9 f)
  have l0 := below_alloc w (.cells (cs9 f) 83)
  have e0 : (w.alloc (.cells (cs9 f) 83)).heap.size = w.heap.size + 1 := by rw [World.size_alloc]
  generalize w.alloc (.cells (cs9 f) 83) = w1 at *
  have b1 := blk_new w1 86 (bs3 own)
  have l1 := below_alloc w1 (.cells (bs3 own) 86)
  have e1 : (w1.alloc (.cells (bs3 own) 86)).heap.size = w.heap.size + 1 + 1 := by rw [World.size_alloc, e0]
  rw [e0] at b1
  generalize w1.alloc (.cells (bs3 own) 86) = w2 at *
  have b2 := blk_new w2 86 (bs3 h)
  have l2 := below_alloc w2 (.cells (bs3 h) 86)
  have e2 : (w2.alloc (.cells (bs3 h) 86)).heap.size = w.heap.size + 1 + 1 + 1 := by rw [World.size_alloc, e1]
  rw [e1] at b2
  generalize w2.alloc (.cells (bs3 h) 86) = w3 at *
  have b3 := blk_new w3 86 #[.bool false, .bool false, .bool false]
  have l3 := below_alloc w3 (.cells #[.bool false, .bool false, .bool false] 86)
  have e3 : (w3.alloc (.cells #[.bool false, .bool false, .bool false] 86)).heap.size = w.heap.size + 1 + 1 + 1 + 1 := by rw [World.size_alloc, e2]
  rw [e2] at b3
  generalize w3.alloc (.cells #[.bool false, .bool false, .bool false] 86) = w4 at *
  have b4 := blk_new w4 86 #[.bool false, .bool false, .bool false]
  have l4 := below_alloc w4 (.cells #[.bool false, .bool false, .bool false] 86)
  rw [e3] at b4
  refine ⟨?_, ?_, ?_, ?_, by rw [partB_zero]; exact b4, below_up (below_up (below_up (below_up l0 l1) l2) l3) l4⟩
  · exact blk_below (blk_below (blk_below (blk_below b0 l1) l2) l3) l4
  · exact blk_below (blk_below (blk_below b1 l2) l3) l4
  · exact blk_below (blk_below b2 l3) l4
  · exact blk_below b3 l4

set_option maxRecDepth 100000 in
set_option maxHeartbeats 6400000 in
theorem unbeaten_any (f : Nat → Nat → Int) (own h : Nat → Bool) (w : World) :
    Calls Try.prog 67 #[.agg (cs9 f), .agg (bs3 own), .agg (bs3 h)] w (Ret (.agg (bs3 (stM f own h))) w) := by
  have HS := Lib.hid (UW.start f own h (stM f own h) w)
  go_enter Try.func67, Try.ntmps67
  go_wp2
  generalize ((((w.alloc (.cells (cs9 f) 83)).alloc (.cells (bs3 own) 86)).alloc (.cells (bs3 h) 86)).alloc (.cells #[.bool false, .bool false, .bool false] 86)).alloc (.cells #[.bool false, .bool false, .bool false] 86) = W5 at *
  go_loopw [9] (fun s wr => ∃ k : Nat, k ≤ 3 ∧ s = .int .i64 k ∧ Hid (UW f own h (stM f own h) w k wr)) (fun s _ => 3 - (intOf s).toNat)
  case atStart => exact ⟨0, by omega, rfl, HS⟩
  case round =>
    clear HS
    obtain ⟨k, hk, rfl, HU⟩ := hrel
    by_cases hlt : k < 3
    · have hk3 : (k : Int) < 3 := by omega
      have c1 := blk_cell HU.out.own (bs3_get own hlt)
      cases hm : own k
      · have HN := Lib.hid (HU.out.put hlt)
        have HE := Lib.hid (show stM f own h k = false by unfold stM; rw [hm]; rfl)
        rw [HE.out] at HN
        rw [hm] at c1
        have c2 := blk_cell HU.out.var (bs3_get (partB (stM f own h) k) hlt)
        have c3 := blk_frozen HU.out.var k
        clear hm
        go_wp2
        clear c1 c2 c3
        go_roundw
        case rel => exact ⟨k + 1, by omega, by go_num, HN⟩
        case measure => simp [intOf]; omega
      · rw [hm] at c1
        have HC := Lib.hid (fun W => show Calls Try.prog 97 #[.agg #[.int .i64 (f 0 0), .int .i64 (f 0 1), .int .i64 (f 0 2), .int .i64 (f 1 0), .int .i64 (f 1 1), .int .i64 (f 1 2), .int .i64 (f 2 0), .int .i64 (f 2 1), .int .i64 (f 2 2)], .int .i64 k, .agg #[.bool (own 0), .bool (own 1), .bool (own 2)], .agg #[.bool (h 0), .bool (h 1), .bool (h 2)]] W (Ret (.bool (pb (BM f own h k 3))) W) from isBeaten_any f k own h W hlt)
        have HE := Lib.hid (show stM f own h k = !pb (BM f own h k 3) by unfold stM; rw [hm]; rfl)
        generalize pb (BM f own h k 3) = bb at *
        have t0 := blk_cell HU.out.tab (i := 0) (v := .int .i64 (f 0 0)) rfl
        have t1 := blk_cell HU.out.tab (i := 1) (v := .int .i64 (f 0 1)) rfl
        have t2 := blk_cell HU.out.tab (i := 2) (v := .int .i64 (f 0 2)) rfl
        have t3 := blk_cell HU.out.tab (i := 3) (v := .int .i64 (f 1 0)) rfl
        have t4 := blk_cell HU.out.tab (i := 4) (v := .int .i64 (f 1 1)) rfl
        have t5 := blk_cell HU.out.tab (i := 5) (v := .int .i64 (f 1 2)) rfl
        have t6 := blk_cell HU.out.tab (i := 6) (v := .int .i64 (f 2 0)) rfl
        have t7 := blk_cell HU.out.tab (i := 7) (v := .int .i64 (f 2 1)) rfl
        have t8 := blk_cell HU.out.tab (i := 8) (v := .int .i64 (f 2 2)) rfl
        have o0 := blk_cell HU.out.own (i := 0) (v := .bool (own 0)) rfl
        have o1 := blk_cell HU.out.own (i := 1) (v := .bool (own 1)) rfl
        have o2 := blk_cell HU.out.own (i := 2) (v := .bool (own 2)) rfl
        have p0 := blk_cell HU.out.oth (i := 0) (v := .bool (h 0)) rfl
        have p1 := blk_cell HU.out.oth (i := 1) (v := .bool (h 1)) rfl
        have p2 := blk_cell HU.out.oth (i := 2) (v := .bool (h 2)) rfl
        clear hm
        go_wp2_with fail
        refine (HC.out _).mono ?_
        rintro e w1 ⟨rfl, hb⟩
        have HU1 := Lib.hid (HU.out.up hb)
        have HN := Lib.hid (HU1.out.put hlt)
        rw [HE.out] at HN
        have c2 := blk_cell HU1.out.var (bs3_get (partB (stM f own h) k) hlt)
        have c3 := blk_frozen HU1.out.var k
        clear c1 t0 t1 t2 t3 t4 t5 t6 t7 t8 o0 o1 o2 p0 p1 p2 hb HC HU
        go_wp2
        clear c2 c3
        go_roundw
        case rel => exact ⟨k + 1, by omega, by go_num, HN⟩
        case measure => simp [intOf]; omega
    · obtain rfl : k = 3 := by omega
      have HV := Lib.hid (show Blk wr (w.heap.size + 1 + 1 + 1 + 1) 86 (bs3 (stM f own h)) by rw [← partB_all]; exact HU.out.var)
      have HX := Lib.hid HU.out.box
      have HB := Lib.hid HU.out.below
      clear HU
      generalize stM f own h = F at *
      generalize wr = W0 at *
      have HSZ : Hid ((Try.prog.info? 86).map (·.size) = some (bs3 F).size) := Lib.hid (by show _ = some 3; kernel_rfl)
      have HS1 : Hid ((bs3 F).all (·.oneCell') = true) := Lib.hid (by simp [bs3, Value.oneCell'])
      go_wp2_with (first | (refine wpList_load_row rfl 86 _ rfl (w.heap.size + 1 + 1 + 1 + 1) rfl 86 (bs3 F) (0, 0) _ HV.out und_marks rfl HSZ.out ?_) | (refine wpList_store_row rfl 86 _ _ rfl (w.heap.size + 1 + 1 + 1) (bs3 F) rfl rfl 86 _ HX.out HSZ.out rfl HS1.out ?_))
      have BB := Lib.hid (blk_row HX.out (bs3 F))
      have HBX := Lib.hid (below_row HB.out (g := w.heap.size + 1 + 1 + 1) (by omega) (bs3 F))
      clear HX HV HB
      generalize W0.setRow (w.heap.size + 1 + 1 + 1) (bs3 F) = W9 at *
      refine bodyPost_ret (v := .agg (bs3 F)) (results_cell_row (by rfl) _ _ (w.heap.size + 1 + 1 + 1) 86 (bs3 F) (0, 0) _ (by rfl) BB.out und_marks rfl HSZ.out) rfl ?_
      exact ⟨rfl, HBX.out⟩
end Go.Proofs.Ytbmacoppeidhaaa

/- What is left over, by the program: all marks, and the marked. -/
namespace Go.Proofs.Ytbmacoppeidhaaa
open Go.RowKit

/-- The boxes of allMarks. -/
structure AW (w : World) (n k : Nat) (W : World) : Prop where
  box : Blk W w.heap.size 86 #[.bool false, .bool false, .bool false]
  var : Blk W (w.heap.size + 1) 86 (bs3 fun j => decide (j < k))
  below : Below w.heap.size w W
theorem AW.start (n : Nat) (w : World) : AW w n 0 ((w.alloc (.cells #[.bool false, .bool false, .bool false] 86)).alloc (.cells #[.bool false, .bool false, .bool false] 86)) :=
  ⟨blk_old (blk_new _ _ _) _, by have := blk_new (w.alloc (.cells #[.bool false, .bool false, .bool false] 86)) 86 #[.bool false, .bool false, .bool false]; rw [World.size_alloc] at this; exact this, below_up (below_alloc _ _) (below_alloc _ _)⟩
theorem AW.put {w n k W} (u : AW w n k W) (hk : k < 3) : AW w n (k + 1) (W.setCell ⟨w.heap.size + 1, k, none⟩ (.bool true)) :=
  ⟨blk_other u.box (by show w.heap.size ≠ w.heap.size + 1; omega) _, by
    have := blk_set u.var k (.bool true)
    have e : (bs3 fun j => decide (j < k)).setIfInBounds k (.bool true) = bs3 fun j => decide (j < k + 1) := by
      have : k = 0 ∨ k = 1 ∨ k = 2 := by omega
      rcases this with rfl | rfl | rfl <;> simp [bs3]
    rw [e] at this; exact this, u.below.setCell (by show w.heap.size ≤ w.heap.size + 1; omega) _⟩
set_option maxRecDepth 100000 in
set_option maxHeartbeats 3200000 in
theorem allMarks_any (n : Nat) (w : World) (hn : n ≤ 3) :
    Calls Try.prog 66 #[.int .i64 n] w (Ret (.agg (bs3 fun j => decide (j < n))) w) := by
  have HS := Lib.hid (AW.start n w)
  go_enter Try.func66, Try.ntmps66
  go_wp2
  generalize (w.alloc (.cells #[.bool false, .bool false, .bool false] 86)).alloc (.cells #[.bool false, .bool false, .bool false] 86) = W5 at *
  go_loopw [6] (fun s wr => ∃ k : Nat, k ≤ n ∧ s = .int .i64 k ∧ Hid (AW w n k wr)) (fun s _ => n - (intOf s).toNat)
  case atStart => exact ⟨0, by omega, rfl, HS⟩
  case round =>
    clear HS
    obtain ⟨k, hk, rfl, HU⟩ := hrel
    by_cases hlt : k < n
    · have hk3 : (k : Int) < 3 := by omega
      have HN := Lib.hid (HU.out.put (by omega))
      have c2 := blk_cell HU.out.var (bs3_get (fun j => decide (j < k)) (show k < 3 by omega))
      have c3 := blk_frozen HU.out.var k
      clear HU
      go_wp2
      clear c2 c3
      go_roundw
      case rel => exact ⟨k + 1, by omega, by go_num, HN⟩
      case measure => simp [intOf]; omega
    · obtain rfl : k = n := by omega
      have HV := Lib.hid HU.out.var
      have HX := Lib.hid HU.out.box
      have HB := Lib.hid HU.out.below
      clear HU
      obtain ⟨F, hF⟩ : ∃ F : Nat → Bool, F = fun j => decide (j < k) := ⟨_, rfl⟩
      rw [← hF] at HV
      have HF := Lib.hid hF
      clear hF
      generalize wr = W0 at *
      have HSZ : Hid ((Try.prog.info? 86).map (·.size) = some (bs3 F).size) := Lib.hid (by show _ = some 3; kernel_rfl)
      have HS1 : Hid ((bs3 F).all (·.oneCell') = true) := Lib.hid (by simp [bs3, Value.oneCell'])
      go_wp2_with (first | (refine wpList_load_row rfl 86 _ rfl (w.heap.size + 1) rfl 86 (bs3 F) (0, 0) _ HV.out und_marks rfl HSZ.out ?_) | (refine wpList_store_row rfl 86 _ _ rfl w.heap.size (bs3 F) rfl rfl 86 _ HX.out HSZ.out rfl HS1.out ?_))
      have BB := Lib.hid (blk_row HX.out (bs3 F))
      have HBX := Lib.hid (below_row HB.out (g := w.heap.size) (by omega) (bs3 F))
      clear HX HV HB
      generalize W0.setRow w.heap.size (bs3 F) = W9 at *
      refine bodyPost_ret (v := .agg (bs3 F)) (results_cell_row (by rfl) _ _ w.heap.size 86 (bs3 F) (0, 0) _ (by rfl) BB.out und_marks rfl HSZ.out) rfl ?_
      exact ⟨by rw [HF.out], HBX.out⟩
end Go.Proofs.Ytbmacoppeidhaaa

/- A list that a call owns; numbers of which the first have turned. -/
namespace Go.Proofs.Ytbmacoppeidhaaa
open Go.RowKit

/-- A list that a call owns, in block g from its beginning on. -/
structure NX (w : World) (n g : Nat) (L : List Int) (W : World) : Prop where
  own : OwnI w.heap.size W.heap.size W g (some ⟨g, 0, none⟩) n n L
  up : Below w.heap.size w W
  lo : w.heap.size ≤ g
theorem NX.next {w n g L W W'} (h : NX w n g L W) (k : Below W.heap.size W W') : NX w n g L W' := ⟨(h.own.below k).mono (Nat.le_refl _) k.size, below_up h.up k, h.lo⟩
theorem NX.cell {w n g L W} (h : NX w n g L W) {i : Nat} (hi : i < n) : W.cell? ⟨g, i, none⟩ = some (.int .i64 (gi L i)) := by
  obtain ⟨b, o, e, hc⟩ := h.own.ints.at_ (by omega)
  injection e with e
  injection e with e1 e2
  subst e1
  subst e2
  have := hc i hi
  rw [Nat.zero_add] at this
  exact this
theorem NX.frozen {w n g L W} (h : NX w n g L W) {i : Nat} (hi : i < n) : W.frozen? ⟨g, i, none⟩ = false := by
  obtain ⟨o, e, _, _, hf⟩ := h.own.own (by omega)
  injection e with e
  injection e with _ e2
  subst e2
  have := hf i hi
  rw [Nat.zero_add] at this
  exact this
theorem NX.set {w n g L W} (h : NX w n g L W) {i : Nat} (hi : i < n) {v : Int} (hv : -9223372036854775808 ≤ v ∧ v ≤ 9223372036854775807) : NX w n g (L.set i v) (W.setCell ⟨g, i, none⟩ (.int .i64 v)) := by
  have h1 := h.own.set hi hv
  rw [Nat.zero_add] at h1
  exact ⟨h1.mono (Nat.le_refl _) (by simp [World.setCell]), h.up.setCell (p := ⟨g, i, none⟩) h.lo _, h.lo⟩
/-- Numbers of which the first k have turned. -/
def mixT (f h : Nat → Int) (n k : Nat) : List Int := (List.range n).map fun i => if i < k then f i else h i
theorem mixT_len (f h : Nat → Int) (n k : Nat) : (mixT f h n k).length = n := by simp [mixT]
theorem gi_mixT {f h : Nat → Int} {n k i : Nat} (hi : i < n) : gi (mixT f h n k) i = if i < k then f i else h i := by
  rw [gi_get (by rw [mixT_len]; exact hi)]; simp [mixT]
theorem mixT_set {f h : Nat → Int} {n k : Nat} : (mixT f h n k).set k (f k) = mixT f h n (k + 1) := gi_ext (by rw [List.length_set, mixT_len, mixT_len]) fun i hi => by
  rw [List.length_set, mixT_len] at hi
  rw [gi_mixT hi]
  by_cases e : i = k
  · subst e; rw [gi_set_eq (by rw [mixT_len]; exact hi), if_pos (by omega)]
  · rw [gi_set_ne (by rw [mixT_len]; exact hi) e, gi_mixT hi]
    by_cases h2 : i < k
    · rw [if_pos h2, if_pos (by omega)]
    · rw [if_neg h2, if_neg (by omega)]
theorem mixT_zero (f h : Nat → Int) (n : Nat) : mixT f h n 0 = (List.range n).map h := gi_ext (by rw [mixT_len]; simp) fun i hi => by
  rw [mixT_len] at hi
  rw [gi_mixT hi, if_neg (by omega), gi_get (by simpa using hi)]; simp
theorem mixT_all (f h : Nat → Int) (n : Nat) : mixT f h n n = (List.range n).map f := gi_ext (by rw [mixT_len]; simp) fun i hi => by
  rw [mixT_len] at hi
  rw [gi_mixT hi, if_pos hi, gi_get (by simpa using hi)]; simp
theorem list_range (x : List Int) : (List.range x.length).map (gi x) = x := gi_ext (by simp) fun i hi => by
  have hi' : i < x.length := by simpa using hi
  rw [gi_get hi]; simp
theorem gi_range {f : Nat → Int} {n i : Nat} (h : i < n) : gi ((List.range n).map f) i = f i := by rw [gi_get (by simpa using h)]; simp

end Go.Proofs.Ytbmacoppeidhaaa

/- Fields, by both programs. -/
namespace Go.Proofs.Ytbmacoppeidhaaa
open Go.RowKit

/-- A square of numbers of at least 1. -/
structure VF (a : List (List Int)) : Prop where
  q : VQ a
  p : ∀ i j, i < a.length → j < a.length → 1 ≤ g2 a i j

set_option maxRecDepth 100000 in
set_option maxHeartbeats 1600000 in
theorem validField_any (A : Option Addr) (n c : Nat) (a : List (List Int)) (w : World) (hx : IntRows w A n c a) :
    Calls Try.prog 102 #[.slice A n c] w fun e w' => e = .returned (.bool (pb (VF a))) ∧ Quiet w w' := by
  have HX := Lib.hid hx
  have hl := hx.len
  clear hx
  by_cases hv : VQ a
  · have HC := Lib.hid (pb_true hv ▸ validSquare_any A n c a w HX.out)
    have hm : (gr a 0).length = n := by have := hv.2; omega
    have hn3 := hv.1.n3
    rw [hl] at hn3
    obtain ⟨b, o, rb, ro, cc, rfl, tab⟩ := HX.out.tab hv.1
    rw [hm] at tab
    have HT := Lib.hid tab
    have HV := Lib.hid hv
    have HL := Lib.hid hl
    clear tab hm hv hl
    go_enter Try.func102, Try.ntmps102
    go_wp2_with fail
    refine HC.out.mono ?_
    rintro e w1 ⟨rfl, hq⟩
    have HQ1 := Lib.hid hq
    clear hq HC
    go_wp2
    go_loopw [3] (fun i_ wr => ∃ i : Nat, i ≤ n ∧ i_ = .int .i64 i ∧ Hid (∀ k j, k < i → j < n → 1 ≤ g2 a k j) ∧ Hid (Quiet w wr)) (fun i_ _ => n - (intOf i_).toNat)
    case atStart => exact ⟨0, Nat.zero_le _, rfl, Lib.hid (fun _ _ h => absurd h (by omega)), HQ1⟩
    case round =>
      clear HQ1
      obtain ⟨i, hi, rfl, HALL, HQ⟩ := hrel
      by_cases hlt : i < n
      · go_wp2
        go_loopw [4] (fun j_ wi => ∃ j : Nat, j ≤ n ∧ j_ = .int .i64 j ∧ Hid (∀ l, l < j → 1 ≤ g2 a i l) ∧ Hid (Quiet w wi)) (fun j_ _ => n - (intOf j_).toNat)
        case atStart => exact ⟨0, Nat.zero_le _, rfl, Lib.hid (fun _ h => absurd h (by omega)), HQ⟩
        case round =>
          clear HQ
          obtain ⟨j, hj, rfl, HROW, HQ⟩ := hrel
          by_cases hjl : j < n
          · have c1 := Keep.quiet HQ.out _ _ (HT.out.row i hlt)
            have c2 := Keep.quiet HQ.out _ _ (HT.out.cell i j hlt hjl)
            by_cases hp : g2 a i j < 1
            · have HN := Lib.hid (pb_false (p := VF a) (fun h => by have := h.p i j (by rw [HL.out]; exact hlt) (by rw [HL.out]; exact hjl); omega))
              generalize g2 a i j = x at *
              go_wp2
              go_ret
              exact ⟨ret_bool HN.out.symm, HQ.out⟩
            · have HN := Lib.hid (show ∀ l, l < j + 1 → 1 ≤ g2 a i l from fun l hl => by
                by_cases e : l = j
                · subst e; omega
                · exact HROW.out l (by omega))
              generalize g2 a i j = x at *
              go_wp2
              go_roundw
              case rel => exact ⟨j + 1, by omega, by go_num, HN, HQ⟩
              case measure => simp [intOf]; omega
          · obtain rfl : j = n := by omega
            have HN := Lib.hid (show ∀ k l, k < i + 1 → l < j → 1 ≤ g2 a k l from fun k l hk hl => by
                by_cases e : k = i
                · subst e; exact HROW.out l hl
                · exact HALL.out k l (by omega) hl)
            go_wp2
            go_roundw
            case rel => exact ⟨i + 1, by omega, by go_num, HN, HQ⟩
            case measure => simp [intOf]; omega
      · obtain rfl : i = n := by omega
        have HN := Lib.hid (pb_true (p := VF a) ⟨HV.out, fun k j hk hj => HALL.out k j (by rw [← HL.out]; exact hk) (by rw [← HL.out]; exact hj)⟩)
        go_wp2
        go_ret
        exact ⟨ret_bool HN.out.symm, HQ.out⟩
  · have HC := Lib.hid (pb_false hv ▸ validSquare_any A n c a w HX.out)
    have HN := Lib.hid (pb_false (p := VF a) (fun h => hv h.q))
    clear hv hl
    go_enter Try.func102, Try.ntmps102
    go_wp2_with fail
    refine HC.out.mono ?_
    rintro e w1 ⟨rfl, hq⟩
    go_wp2
    go_ret
    exact ⟨ret_bool HN.out.symm, hq⟩
/-- All the numbers of some lists, one behind the other. -/
theorem catL_all {xss : List (List Int)} {z : Int} : ∀ {i}, i ≤ xss.length → ((∀ x ∈ catL xss i, z ≤ x) ↔ ∀ p, p < i → ∀ x ∈ gr xss p, z ≤ x)
  | 0, _ => ⟨fun _ p h => absurd h (by omega), fun _ x h => by simp [catL] at h⟩
  | i + 1, hi => by
    have ih := catL_all (xss := xss) (z := z) (i := i) (by omega)
    constructor
    · intro h p hp x hx
      by_cases e : p = i
      · subst e; exact h x (by rw [catL, List.mem_append]; exact .inr hx)
      · exact ih.1 (fun y hy => h y (by rw [catL, List.mem_append]; exact .inl hy)) p (by omega) x hx
    · intro h x hx
      rw [catL, List.mem_append] at hx
      rcases hx with hx | hx
      · exact ih.2 (fun p hp => h p (by omega)) x hx
      · exact h i (by omega) x hx
theorem mem_gi {xs : List Int} {x : Int} (h : x ∈ xs) : ∃ k, k < xs.length ∧ gi xs k = x := by
  obtain ⟨k, hk, rfl⟩ := List.mem_iff_getElem.1 h
  exact ⟨k, hk, gi_get hk⟩
theorem lst_all {xs : List Int} {z : Int} (h0 : 0 < xs.length) : z ≤ lst xs ↔ ∀ x ∈ xs, z ≤ x := by
  constructor
  · intro h x hx
    obtain ⟨k, hk, rfl⟩ := mem_gi hx
    have := mn_le (xs := xs) (k := xs.length - 1) (j := k) (by omega)
    unfold lst at h
    omega
  · intro h
    obtain ⟨j, hj, e⟩ := mn_mem (xs := xs) (xs.length - 1)
    unfold lst
    rw [e]
    exact h _ (gi_mem (by omega))
theorem field_least {a : List (List Int)} (v : VQ a) (h0 : 0 < (catL a a.length).length) : VF a ↔ 1 ≤ lst (catL a a.length) := by
  rw [lst_all h0, catL_all (Nat.le_refl _)]
  constructor
  · intro h p hp x hx
    obtain ⟨k, hk, rfl⟩ := mem_gi hx
    have := (v.1.rows p hp).1
    exact h.p p k hp (by have := v.2; omega)
  · intro h
    refine ⟨v, fun i j hi hj => h i hi _ (gi_mem ?_)⟩
    have := (v.1.rows i hi).1
    have := v.2
    omega
theorem VT.smallrows {a : List (List Int)} (v : VT a) : ∀ p, p < a.length → (gr a p).length ≤ 3 ∧ 0 < (gr a p).length ∧ ∀ x ∈ gr a p, -1000000 ≤ x ∧ x ≤ 1000000 := fun p hp => by
  have h := v.rows p hp
  have h1 := h.1
  have := v.m1
  have := v.m3
  refine ⟨by omega, by omega, fun x hx => ?_⟩
  obtain ⟨k, hk, rfl⟩ := mem_gi hx
  have := h.2 k hk
  unfold InR at this
  omega
theorem catL_pos {a : List (List Int)} (v : VT a) : 0 < (catL a a.length).length := by
  obtain ⟨l, hl⟩ : ∃ l, a.length = l + 1 := ⟨a.length - 1, by have := v.n1; omega⟩
  rw [hl, catL, List.length_append]
  have := (v.smallrows l (by omega)).2.1
  omega

set_option maxRecDepth 100000 in
set_option maxHeartbeats 1600000 in
theorem ValidField_impl (A : Option Addr) (n c : Nat) (a : List (List Int)) (w : World) (hx : IntRows w A n c a) :
    Calls Try.prog 112 #[.slice A n c] w (Ret (.bool (pb (VF a))) w) := by
  have HX := Lib.hid hx
  have hl := hx.len
  clear hx
  by_cases hv : VQ a
  · have HC := Lib.hid (pb_true hv ▸ ValidSquare_impl A n c a w HX.out)
    have hn3 := hv.1.n3
    rw [hl] at hn3
    have HSR := Lib.hid hv.1.smallrows
    have HPOS := Lib.hid (by have := catL_pos hv.1; rw [hl] at this; exact this)
    have HFL := Lib.hid (by have := field_least hv (catL_pos hv.1); rw [hl] at this; exact this)
    have HK := Lib.hid (fun W (k : Quiet w W) => Concat_any A n c a W (HX.out.keep (Keep.quiet k)) (by omega) (fun p hp => (HSR.out p hp).1) (fun p hp => (HSR.out p hp).2.1) (fun p hp => (HSR.out p hp).2.2) HPOS.out)
    clear hv hl
    generalize catL a n = ys at *
    have d1 : ∀ z : Int, (decide (1 ≤ z)) = decide (1 ≤ z) := fun _ => rfl
    clear d1
    go_enter Try.func112, Try.ntmps112
    go_wp2_with fail
    refine HC.out.mono ?_
    rintro e w1 ⟨rfl, hq⟩
    have HC2 := Lib.hid (HK.out w1 hq)
    have HB1 := Lib.hid (show Below w.heap.size w w1 from hq.below)
    clear hq HC HK
    go_wp2_with fail
    refine HC2.out.mono ?_
    rintro e w2 ⟨A2, n2, c2, g2_, rfl, hn2, ho, hb⟩
    have HB2 := Lib.hid (below_up HB1.out hb)
    have HI := Lib.hid ho.ints
    have hp2 : 0 < n2 := by rw [hn2]; exact HPOS.out
    clear hn2 ho hb HC2 HB1
    have HC := Lib.hid (Min_any A2 n2 c2 ys w2 HI.out hp2)
    by_cases hge : 1 ≤ lst ys
    · have HN := Lib.hid (pb_true (HFL.out.2 hge))
      generalize lst ys = z at *
      go_wp2_with fail
      refine HC.out.mono ?_
      rintro e w3 ⟨rfl, hq⟩
      have HB3 := Lib.hid (below_quiet HB2.out hq)
      clear hq HC HB2
      go_wp2
      go_ret
      exact ⟨ret_bool HN.out.symm, HB3.out⟩
    · have HN := Lib.hid (pb_false (fun h => hge (HFL.out.1 h)))
      have hd : decide (1 ≤ lst ys) = false := decide_eq_false hge
      generalize lst ys = z at *
      go_wp2_with fail
      refine HC.out.mono ?_
      rintro e w3 ⟨rfl, hq⟩
      have HB3 := Lib.hid (below_quiet HB2.out hq)
      clear hq HC HB2
      go_wp2
      go_ret
      exact ⟨ret_bool HN.out.symm, HB3.out⟩
  · have HC := Lib.hid (pb_false hv ▸ ValidSquare_impl A n c a w HX.out)
    have HN := Lib.hid (pb_false (p := VF a) (fun h => hv h.q))
    clear hv hl
    go_enter Try.func112, Try.ntmps112
    go_wp2_with fail
    refine HC.out.mono ?_
    rintro e w1 ⟨rfl, hq⟩
    go_wp2
    go_ret
    exact ⟨ret_bool HN.out.symm, hq.below⟩

end Go.Proofs.Ytbmacoppeidhaaa

