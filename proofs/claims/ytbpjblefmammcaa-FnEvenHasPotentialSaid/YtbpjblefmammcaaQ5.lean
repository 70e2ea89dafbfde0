/- Texts merged: CO. -/
import Derived.Test.YtbpjblefmammcaaQ4
import Derived.Laws.Tables
import Derived.Laws.Rows
/- A table as an array, by the program. -/
namespace Go.Proofs.Ytbpjblefmammcaa
open Go.RowKit

theorem blk_row {w g t cs} (h : Blk w g t cs) (c : Array Value) : Blk (w.setRow g c) g t c := setRow_heap w g cs c t (0, 0) h
theorem row_other (w : World) (g k : Nat) (c : Array Value) (h : k ≠ g) : (w.setRow g c).heap[k]? = w.heap[k]? := by
  simp only [World.setRow, Array.getElem?_modify, if_neg (Ne.symm h)]
theorem blk_row_other {w g k t cs} (h : Blk w k t cs) (c : Array Value) (hne : k ≠ g) : Blk (w.setRow g c) k t cs := (row_other w g k c hne).trans h
theorem below_row {B : Nat} {a w : World} (h : Below B a w) {g : Nat} (hg : B ≤ g) (c : Array Value) : Below B a (w.setRow g c) :=
  ⟨h.os, h.tape, h.output, by simpa [World.setRow] using h.size, fun k hk => (row_other w g k c (by omega)).trans (h.block k hk)⟩

/-- A table on its way into an array: the result's box, and the variable. -/
structure CW (a : List (List Int)) (m : Nat) (w : World) (i j : Nat) (W : World) : Prop where
  box : Blk W w.heap.size 75 (cs9 fun _ _ => 0)
  var : Blk W (w.heap.size + 1) 75 (cs9 (part9 a m i j))
  below : Below w.heap.size w W
theorem CW.start (a : List (List Int)) (m : Nat) (w : World) : CW a m w 0 0 ((w.alloc (.cells (cs9 fun _ _ => 0) 75)).alloc (.cells (cs9 fun _ _ => 0) 75)) :=
  ⟨blk_old (blk_new _ _ _) _, by rw [part9_zero]; have := blk_new (w.alloc (.cells (cs9 fun _ _ => 0) 75)) 75 (cs9 fun _ _ => 0); rw [World.size_alloc] at this; exact this, below_up (below_alloc _ _) (below_alloc _ _)⟩
theorem CW.put {a m w i j W} (h : CW a m w i j W) (hi : i < 3) (hj : j < m) (hm : m ≤ 3) : CW a m w i (j + 1) (W.setCell ⟨w.heap.size + 1, i * 3 + j, none⟩ (.int .i64 (g2 a i j))) :=
  ⟨blk_other h.box (by show w.heap.size ≠ w.heap.size + 1; omega) _, by have := blk_set h.var (i * 3 + j) (.int .i64 (g2 a i j)); rw [cs9_set _ hi (by omega), part9_next a m i j hj] at this; exact this, h.below.setCell (by show w.heap.size ≤ w.heap.size + 1; omega) _⟩
theorem CW.row {a m w i W} (h : CW a m w i m W) : CW a m w (i + 1) 0 W := ⟨h.box, by rw [← part9_row]; exact h.var, h.below⟩
theorem CW.keep {a m w i j W} (h : CW a m w i j W) : Keep w W := Keep.below h.below

set_option maxRecDepth 100000 in
set_option maxHeartbeats 3200000 in
theorem cellsOf_any (b o : Nat) (rb ro cc : Nat → Nat) (n m c : Nat) (a : List (List Int)) (w : World) (ht : Tab w b o rb ro cc n m a) :
    Calls Try.prog 70 #[.slice (some ⟨b, o, none⟩) n c] w (Ret (.agg (cs9 (full9 a n m))) w) := by
  have HT := Lib.hid ht
  have hn1 := ht.n1
  have hn3 := ht.n3
  have hm1 := ht.m1
  have hm3 := ht.m3
  have HS := Lib.hid (CW.start a m w)
  clear ht
  go_enter Try.func70, Try.ntmps70
  go_wp2
  go_loopw [10] (fun i_ wr => ∃ i : Nat, i ≤ n ∧ i_ = .int .i64 i ∧ Hid (CW a m w i 0 wr)) (fun i_ _ => n - (intOf i_).toNat)
  case atStart => exact ⟨0, Nat.zero_le _, rfl, HS⟩
  case round =>
    clear HS
    obtain ⟨i, hi, rfl, HC⟩ := hrel
    by_cases hlt : i < n
    · have c1 := HC.out.keep _ _ (HT.out.row i hlt)
      go_wp2
      clear c1
      go_loopw [17] (fun j_ wi => ∃ j : Nat, j ≤ m ∧ j_ = .int .i64 j ∧ Hid (CW a m w i j wi)) (fun j_ _ => m - (intOf j_).toNat)
      case atStart => exact ⟨0, Nat.zero_le _, rfl, HC⟩
      case round =>
        clear HC
        obtain ⟨j, hj, rfl, HC⟩ := hrel
        by_cases hjl : j < m
        · have c2 := HC.out.keep _ _ (HT.out.cell i j hlt hjl)
          have c3 := blk_cell HC.out.var (cs9_get _ (by omega : i < 3) (by omega : j < 3))
          have c4 := blk_frozen HC.out.var (i * 3 + j)
          have HN := Lib.hid (HC.out.put (by omega) hjl hm3)
          have hi3 : (i : Int) < 3 := by omega
          have hj3 : (j : Int) < 3 := by omega
          generalize g2 a i j = x at *
          go_wp2
          clear c2 c3 c4
          go_roundw
          case rel => exact ⟨j + 1, by omega, by go_num, HN⟩
          case measure => simp [intOf]; omega
        · obtain rfl : j = m := by omega
          have HN := Lib.hid HC.out.row
          go_wp2
          go_roundw
          case rel => exact ⟨i + 1, by omega, by go_num, HN⟩
          case measure => simp [intOf]; omega
    · obtain rfl : i = n := by omega
      have HV := Lib.hid (show Blk wr (w.heap.size + 1) 75 (cs9 (full9 a i m)) by rw [← part9_all]; exact HC.out.var)
      have HX := Lib.hid HC.out.box
      have HB := Lib.hid HC.out.below
      clear HC
      generalize full9 a i m = F at *
      generalize wr = W0 at *
      have HSZ : Hid ((Try.prog.info? 75).map (·.size) = some (cs9 F).size) := Lib.hid (by show _ = some 9; kernel_rfl)
      have HS1 : Hid ((cs9 F).all (·.oneCell') = true) := Lib.hid (by simp [cs9, Value.oneCell'])
      go_wp2_with (first | (refine wpList_load_row rfl 75 _ rfl (w.heap.size + 1) rfl 75 (cs9 F) (0, 0) _ HV.out und_cells rfl HSZ.out ?_) | (refine wpList_store_row rfl 75 _ _ rfl w.heap.size (cs9 F) rfl rfl 75 _ HX.out HSZ.out rfl HS1.out ?_))
      have BB := Lib.hid (blk_row HX.out (cs9 F))
      have HBX := Lib.hid (below_row HB.out (g := w.heap.size) (Nat.le_refl _) (cs9 F))
      clear HX HV HB
      generalize W0.setRow w.heap.size (cs9 F) = W9 at *
      refine bodyPost_ret (v := .agg (cs9 F)) (results_cell_row (by rfl) _ _ w.heap.size 75 (cs9 F) (0, 0) _ (by rfl) BB.out und_cells rfl HSZ.out) rfl ?_
      exact ⟨rfl, HBX.out⟩
end Go.Proofs.Ytbpjblefmammcaa

