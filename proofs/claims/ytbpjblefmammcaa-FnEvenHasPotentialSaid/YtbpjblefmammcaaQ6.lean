/- Texts merged: PT2 Put RI PT3. -/
import Derived.Test.YtbpjblefmammcaaQ5
import Derived.StillTailTactics
/- The steps of a game as arrays, and a table of an array, by the program. -/
namespace Go.Proofs.Ytbpjblefmammcaa
open Go.RowKit

/-- A table of numbers filled up to row i, column j. -/
def partP (F : Nat → Nat → Int) (m i j : Nat) : Nat → Nat → Int := fun r c => if (r < i ∨ r = i ∧ c < j) ∧ c < m then F r c else 0
def fullP (F : Nat → Nat → Int) (n m : Nat) : Nat → Nat → Int := fun r c => if r < n ∧ c < m then F r c else 0
theorem partP_zero (F : Nat → Nat → Int) (m : Nat) : cs9 (partP F m 0 0) = cs9 (fun _ _ => 0) := cs9_congr fun r c _ _ => by unfold partP; rw [if_neg (by omega)]
theorem partP_next (F : Nat → Nat → Int) (m i j : Nat) (hj : j < m) : cs9 (upd9 (partP F m i j) i j (F i j)) = cs9 (partP F m i (j + 1)) := cs9_congr fun r c _ _ => by
  unfold upd9 partP
  by_cases e : r = i ∧ c = j
  · obtain ⟨rfl, rfl⟩ := e; rw [if_pos ⟨rfl, rfl⟩, if_pos (by omega)]
  · rw [if_neg e]
    by_cases h : (r < i ∨ r = i ∧ c < j) ∧ c < m
    · rw [if_pos h, if_pos (by omega)]
    · rw [if_neg h, if_neg (by omega)]
theorem partP_row (F : Nat → Nat → Int) (m i : Nat) : cs9 (partP F m i m) = cs9 (partP F m (i + 1) 0) := cs9_congr fun r c _ _ => by
  unfold partP
  by_cases h : (r < i ∨ r = i ∧ c < m) ∧ c < m
  · rw [if_pos h, if_pos (by omega)]
  · rw [if_neg h, if_neg (by omega)]
theorem partP_all (F : Nat → Nat → Int) (n m : Nat) : cs9 (partP F m n 0) = cs9 (fullP F n m) := cs9_congr fun r c _ _ => by
  unfold partP fullP
  by_cases h : r < n ∧ c < m
  · rw [if_pos h, if_pos (by omega)]
  · rw [if_neg h, if_neg (by omega)]
/-- The boxes of both functions: the game, the result, the variable. -/
structure CP (p : GP) (w : World) (xs ys : List (List Int)) (F : Nat → Nat → Int) (m i j : Nat) (W : World) : Prop where
  gt : GT p w W w.heap.size xs ys
  box : Blk W (w.heap.size + 1) 75 (cs9 fun _ _ => 0)
  var : Blk W (w.heap.size + 1 + 1) 75 (cs9 (partP F m i j))
theorem CP.start {p w xs ys} (h : GV p w xs ys) (F : Nat → Nat → Int) (m : Nat) : CP p w xs ys F m 0 0 (((w.alloc (.cells #[.slice (some ⟨p.ba, p.oa, none⟩) p.n p.c, .slice (some ⟨p.bb, p.ob, none⟩) p.n p.d] 29)).alloc (.cells (cs9 fun _ _ => 0) 75)).alloc (.cells (cs9 fun _ _ => 0) 75)) := by
  have h1 := blk_new (w.alloc (.cells #[.slice (some ⟨p.ba, p.oa, none⟩) p.n p.c, .slice (some ⟨p.bb, p.ob, none⟩) p.n p.d] 29)) 75 (cs9 fun _ _ => 0)
  have h2 := blk_new ((w.alloc (.cells #[.slice (some ⟨p.ba, p.oa, none⟩) p.n p.c, .slice (some ⟨p.bb, p.ob, none⟩) p.n p.d] 29)).alloc (.cells (cs9 fun _ _ => 0) 75)) 75 (cs9 fun _ _ => 0)
  simp only [World.size_alloc] at h1 h2
  exact ⟨((GT.start h).up (below_alloc _ _)).up (below_alloc _ _), blk_old h1 _, by rw [partP_zero]; exact h2⟩
theorem CP.up {p w xs ys F m i j W W'} (h : CP p w xs ys F m i j W) (k : Below W.heap.size W W') : CP p w xs ys F m i j W' := ⟨h.gt.up k, blk_below h.box k, blk_below h.var k⟩
theorem CP.put {p w xs ys F m i j W} (h : CP p w xs ys F m i j W) (hi : i < 3) (hj : j < m) (hm : m ≤ 3) : CP p w xs ys F m i (j + 1) (W.setCell ⟨w.heap.size + 1 + 1, i * 3 + j, none⟩ (.int .i64 (F i j))) :=
  ⟨h.gt.up2 (B := w.heap.size + 1) ((Below.refl _ _).setCell (p := ⟨w.heap.size + 1 + 1, i * 3 + j, none⟩) (by show w.heap.size + 1 ≤ w.heap.size + 1 + 1; omega) _) (by omega) (by omega),
    blk_other (p := ⟨w.heap.size + 1 + 1, i * 3 + j, none⟩) h.box (by show w.heap.size + 1 ≠ w.heap.size + 1 + 1; omega) _,
    by have := blk_set h.var (i * 3 + j) (.int .i64 (F i j)); rw [cs9_set _ hi (by omega), partP_next F m i j hj] at this; exact this⟩
theorem CP.row {p w xs ys F m i W} (h : CP p w xs ys F m i m W) : CP p w xs ys F m (i + 1) 0 W := ⟨h.gt, h.box, by rw [← partP_row]; exact h.var⟩

set_option maxRecDepth 100000 in
set_option maxHeartbeats 6400000 in
theorem rowThenColumn_any (p : GP) (xs ys : List (List Int)) (w : World) (hg : GV p w xs ys) :
    Calls Try.prog 60 #[.agg #[.slice (some ⟨p.ba, p.oa, none⟩) p.n p.c, .slice (some ⟨p.bb, p.ob, none⟩) p.n p.d]] w (Ret (.agg (cs9 (fullP (pC xs ys) p.n p.m))) w) := by
  have HS := Lib.hid (CP.start hg (pC xs ys) p.m)
  have hn3 := hg.tx.n3
  have hm3 := hg.tx.m3
  have hn1 : 0 < p.n := hg.tx.n1
  have hm1 : 0 < p.m := hg.tx.m1
  have hn1' : (0 : Int) < (p.n : Int) := by omega
  have hm1' : (0 : Int) < (p.m : Int) := by omega
  have HBA := Lib.hid hg.tx.bd
  have HBB := Lib.hid hg.ty.bd
  clear hg
  go_enter Try.func60, Try.ntmps60
  have k0 := HS.out.gt.c0
  have k1 := HS.out.gt.c1
  go_wp2
  clear k0 k1
  go_loopw [10] (fun i_ wr => ∃ i : Nat, i ≤ p.n ∧ i_ = .int .i64 i ∧ Hid (CP p w xs ys (pC xs ys) p.m i 0 wr)) (fun i_ _ => p.n - (intOf i_).toNat)
  case atStart => exact ⟨0, Nat.zero_le _, rfl, HS⟩
  case round =>
    clear HS
    obtain ⟨i, hi, rfl, HC⟩ := hrel
    by_cases hin : i < p.n
    · have c1 := HC.out.gt.gv.ty.row i hin
      go_wp2
      clear c1
      go_loopw [17] (fun j_ wi => ∃ j : Nat, j ≤ p.m ∧ j_ = .int .i64 j ∧ Hid (CP p w xs ys (pC xs ys) p.m i j wi)) (fun j_ _ => p.m - (intOf j_).toNat)
      case atStart => exact ⟨0, Nat.zero_le _, rfl, HC⟩
      case round =>
        clear HC
        obtain ⟨j, hj, rfl, HC⟩ := hrel
        by_cases hjm : j < p.m
        · have k0 := HC.out.gt.c0
          have k1 := HC.out.gt.c1
          have r0 := HC.out.gt.gv.tx.row 0 hn1
          have ri := HC.out.gt.gv.tx.row i hin
          have si := HC.out.gt.gv.ty.row i hin
          have a0 := HC.out.gt.gv.tx.cell 0 0 hn1 hm1
          have ai := HC.out.gt.gv.tx.cell i 0 hin hm1
          have bj := HC.out.gt.gv.ty.cell i j hin hjm
          have b0 := HC.out.gt.gv.ty.cell i 0 hin hm1
          simp only [Nat.add_zero] at r0 a0 ai b0
          have hd : Hid (CP p w xs ys (pC xs ys) p.m i j wr.drew) := Lib.hid (HC.out.up (Quiet.below (B := wr.heap.size) ⟨1, rfl⟩))
          have hi3 : (i : Int) < 3 := by omega
          have hj3 : (j : Int) < 3 := by omega
          have hii : (i : Int) < (p.n : Int) := by omega
          have hji : (j : Int) < (p.m : Int) := by omega
          have HVAL := Lib.hid (show pC xs ys i j = g2 xs i 0 - g2 xs 0 0 + g2 ys i j - g2 ys i 0 from rfl)
          have b1 := HBA.out i 0 hin hm1
          have b2 := HBA.out 0 0 hn1 hm1
          have b3 := HBB.out i j hin hjm
          have b4 := HBB.out i 0 hin hm1
          have hw1 : IntKind.i64.wrap (g2 xs i 0 - g2 xs 0 0) = g2 xs i 0 - g2 xs 0 0 := wrap_in64 (by omega)
          have hw2 : IntKind.i64.wrap (g2 xs i 0 - g2 xs 0 0 + g2 ys i j) = g2 xs i 0 - g2 xs 0 0 + g2 ys i j := wrap_in64 (by omega)
          have hw3 : IntKind.i64.wrap (g2 xs i 0 - g2 xs 0 0 + g2 ys i j - g2 ys i 0) = g2 xs i 0 - g2 xs 0 0 + g2 ys i j - g2 ys i 0 := wrap_in64 (by omega)
          clear b1 b2 b3 b4
          generalize g2 xs i 0 = x1 at *
          generalize g2 xs 0 0 = x0 at *
          generalize g2 ys i j = y1 at *
          generalize g2 ys i 0 = y0 at *
          clear HC
          go_wp2
          go_still_tail 27, (by kernel_rfl)
          clear k0 k1 r0 ri si a0 ai bj b0 hw1 hw2 hw3
          change wpList _ _ _ _ _ wr.drew
          generalize wr.drew = wd at *
          have c3 := blk_cell hd.out.var (cs9_get _ (by omega : i < 3) (by omega : j < 3))
          have c4 := blk_frozen hd.out.var (i * 3 + j)
          have HN := Lib.hid (hd.out.put (by omega) hjm hm3)
          rw [HVAL.out] at HN
          clear hd
          go_wp2
          clear c3 c4
          go_roundw
          case rel => exact ⟨j + 1, by omega, by go_num, HN⟩
          case measure => simp [intOf]; omega
        · obtain rfl : j = p.m := by omega
          have HN := Lib.hid HC.out.row
          go_wp2
          go_roundw
          case rel => exact ⟨i + 1, by omega, by go_num, HN⟩
          case measure => simp [intOf]; omega
    · obtain rfl : i = p.n := by omega
      have HV := Lib.hid (show Blk wr (w.heap.size + 1 + 1) 75 (cs9 (fullP (pC xs ys) p.n p.m)) by rw [← partP_all]; exact HC.out.var)
      have HX := Lib.hid HC.out.box
      have HB := Lib.hid HC.out.gt.below
      clear HC
      generalize fullP (pC xs ys) p.n p.m = F at *
      generalize wr = W0 at *
      have HSZ : Hid ((Try.prog.info? 75).map (·.size) = some (cs9 F).size) := Lib.hid (by show _ = some 9; kernel_rfl)
      have HS1 : Hid ((cs9 F).all (·.oneCell') = true) := Lib.hid (by simp [cs9, Value.oneCell'])
      go_wp2_with (first | (refine wpList_load_row rfl 75 _ rfl (w.heap.size + 1 + 1) rfl 75 (cs9 F) (0, 0) _ HV.out und_cells rfl HSZ.out ?_) | (refine wpList_store_row rfl 75 _ _ rfl (w.heap.size + 1) (cs9 F) rfl rfl 75 _ HX.out HSZ.out rfl HS1.out ?_))
      have BB := Lib.hid (blk_row HX.out (cs9 F))
      have HBX := Lib.hid (below_row HB.out (g := w.heap.size + 1) (by omega) (cs9 F))
      clear HX HV HB
      generalize W0.setRow (w.heap.size + 1) (cs9 F) = W9 at *
      refine bodyPost_ret (v := .agg (cs9 F)) (results_cell_row (by rfl) _ _ (w.heap.size + 1) 75 (cs9 F) (0, 0) _ (by rfl) BB.out und_cells rfl HSZ.out) rfl ?_
      exact ⟨rfl, HBX.out⟩

set_option maxRecDepth 100000 in
set_option maxHeartbeats 6400000 in
theorem columnThenRow_any (p : GP) (xs ys : List (List Int)) (w : World) (hg : GV p w xs ys) :
    Calls Try.prog 61 #[.agg #[.slice (some ⟨p.ba, p.oa, none⟩) p.n p.c, .slice (some ⟨p.bb, p.ob, none⟩) p.n p.d]] w (Ret (.agg (cs9 (fullP (qC xs ys) p.n p.m))) w) := by
  have HS := Lib.hid (CP.start hg (qC xs ys) p.m)
  have hn3 := hg.tx.n3
  have hm3 := hg.tx.m3
  have hn1 : 0 < p.n := hg.tx.n1
  have hm1 : 0 < p.m := hg.tx.m1
  have hn1' : (0 : Int) < (p.n : Int) := by omega
  have hm1' : (0 : Int) < (p.m : Int) := by omega
  have HBA := Lib.hid hg.tx.bd
  have HBB := Lib.hid hg.ty.bd
  clear hg
  go_enter Try.func61, Try.ntmps61
  have k0 := HS.out.gt.c0
  have k1 := HS.out.gt.c1
  go_wp2
  clear k0 k1
  go_loopw [10] (fun i_ wr => ∃ i : Nat, i ≤ p.n ∧ i_ = .int .i64 i ∧ Hid (CP p w xs ys (qC xs ys) p.m i 0 wr)) (fun i_ _ => p.n - (intOf i_).toNat)
  case atStart => exact ⟨0, Nat.zero_le _, rfl, HS⟩
  case round =>
    clear HS
    obtain ⟨i, hi, rfl, HC⟩ := hrel
    by_cases hin : i < p.n
    · have c1 := HC.out.gt.gv.tx.row i hin
      go_wp2
      clear c1
      go_loopw [17] (fun j_ wi => ∃ j : Nat, j ≤ p.m ∧ j_ = .int .i64 j ∧ Hid (CP p w xs ys (qC xs ys) p.m i j wi)) (fun j_ _ => p.m - (intOf j_).toNat)
      case atStart => exact ⟨0, Nat.zero_le _, rfl, HC⟩
      case round =>
        clear HC
        obtain ⟨j, hj, rfl, HC⟩ := hrel
        by_cases hjm : j < p.m
        · have k0 := HC.out.gt.c0
          have k1 := HC.out.gt.c1
          have r0 := HC.out.gt.gv.tx.row 0 hn1
          have ri := HC.out.gt.gv.tx.row i hin
          have s0 := HC.out.gt.gv.ty.row 0 hn1
          have a0 := HC.out.gt.gv.tx.cell 0 j hn1 hjm
          have ai := HC.out.gt.gv.tx.cell i j hin hjm
          have bj := HC.out.gt.gv.ty.cell 0 j hn1 hjm
          have b0 := HC.out.gt.gv.ty.cell 0 0 hn1 hm1
          simp only [Nat.add_zero] at r0 s0 b0
          have hd : Hid (CP p w xs ys (qC xs ys) p.m i j wr.drew) := Lib.hid (HC.out.up (Quiet.below (B := wr.heap.size) ⟨1, rfl⟩))
          have hi3 : (i : Int) < 3 := by omega
          have hj3 : (j : Int) < 3 := by omega
          have hii : (i : Int) < (p.n : Int) := by omega
          have hji : (j : Int) < (p.m : Int) := by omega
          have HVAL := Lib.hid (show qC xs ys i j = g2 ys 0 j - g2 ys 0 0 + g2 xs i j - g2 xs 0 j from rfl)
          have b1 := HBB.out 0 j hn1 hjm
          have b2 := HBB.out 0 0 hn1 hm1
          have b3 := HBA.out i j hin hjm
          have b4 := HBA.out 0 j hn1 hjm
          have hw1 : IntKind.i64.wrap (g2 ys 0 j - g2 ys 0 0) = g2 ys 0 j - g2 ys 0 0 := wrap_in64 (by omega)
          have hw2 : IntKind.i64.wrap (g2 ys 0 j - g2 ys 0 0 + g2 xs i j) = g2 ys 0 j - g2 ys 0 0 + g2 xs i j := wrap_in64 (by omega)
          have hw3 : IntKind.i64.wrap (g2 ys 0 j - g2 ys 0 0 + g2 xs i j - g2 xs 0 j) = g2 ys 0 j - g2 ys 0 0 + g2 xs i j - g2 xs 0 j := wrap_in64 (by omega)
          clear b1 b2 b3 b4
          generalize g2 ys 0 j = x1 at *
          generalize g2 ys 0 0 = x0 at *
          generalize g2 xs i j = y1 at *
          generalize g2 xs 0 j = y0 at *
          clear HC
          go_wp2
          go_still_tail 31, (by kernel_rfl)
          clear k0 k1 r0 ri s0 a0 ai bj b0 hw1 hw2 hw3
          change wpList _ _ _ _ _ wr.drew
          generalize wr.drew = wd at *
          have c3 := blk_cell hd.out.var (cs9_get _ (by omega : i < 3) (by omega : j < 3))
          have c4 := blk_frozen hd.out.var (i * 3 + j)
          have HN := Lib.hid (hd.out.put (by omega) hjm hm3)
          rw [HVAL.out] at HN
          clear hd
          go_wp2
          clear c3 c4
          go_roundw
          case rel => exact ⟨j + 1, by omega, by go_num, HN⟩
          case measure => simp [intOf]; omega
        · obtain rfl : j = p.m := by omega
          have HN := Lib.hid HC.out.row
          go_wp2
          go_roundw
          case rel => exact ⟨i + 1, by omega, by go_num, HN⟩
          case measure => simp [intOf]; omega
    · obtain rfl : i = p.n := by omega
      have HV := Lib.hid (show Blk wr (w.heap.size + 1 + 1) 75 (cs9 (fullP (qC xs ys) p.n p.m)) by rw [← partP_all]; exact HC.out.var)
      have HX := Lib.hid HC.out.box
      have HB := Lib.hid HC.out.gt.below
      clear HC
      generalize fullP (qC xs ys) p.n p.m = F at *
      generalize wr = W0 at *
      have HSZ : Hid ((Try.prog.info? 75).map (·.size) = some (cs9 F).size) := Lib.hid (by show _ = some 9; kernel_rfl)
      have HS1 : Hid ((cs9 F).all (·.oneCell') = true) := Lib.hid (by simp [cs9, Value.oneCell'])
      go_wp2_with (first | (refine wpList_load_row rfl 75 _ rfl (w.heap.size + 1 + 1) rfl 75 (cs9 F) (0, 0) _ HV.out und_cells rfl HSZ.out ?_) | (refine wpList_store_row rfl 75 _ _ rfl (w.heap.size + 1) (cs9 F) rfl rfl 75 _ HX.out HSZ.out rfl HS1.out ?_))
      have BB := Lib.hid (blk_row HX.out (cs9 F))
      have HBX := Lib.hid (below_row HB.out (g := w.heap.size + 1) (by omega) (cs9 F))
      clear HX HV HB
      generalize W0.setRow (w.heap.size + 1) (cs9 F) = W9 at *
      refine bodyPost_ret (v := .agg (cs9 F)) (results_cell_row (by rfl) _ _ (w.heap.size + 1) 75 (cs9 F) (0, 0) _ (by rfl) BB.out und_cells rfl HSZ.out) rfl ?_
      exact ⟨rfl, HBX.out⟩

/-- A table whose columns are these rows. -/
def cof (f : Nat → Nat → Int) (n m : Nat) : List (List Int) := (List.range m).map fun j => (List.range n).map fun i => f i j
theorem g2_cof {f : Nat → Nat → Int} {n m i j : Nat} (hi : i < n) (hj : j < m) : g2 (cof f n m) j i = f i j := by
  unfold g2 cof
  rw [gr_get (by simpa using hj), gi_get (by simpa using hi)]; simp
theorem turnO_ownP {w wr : World} {n m : Nat} {xs : List (List Int)} (h : TurnO w wr n m m xs) (hn : n ≤ 3) (hm : m ≤ 3) (hbd : ∀ i j, i < n → j < m → -1000 ≤ g2 xs i j ∧ g2 xs i j ≤ 1000) :
    OwnR w.heap.size wr.heap.size wr w.heap.size (some ⟨w.heap.size, 0, none⟩) m m (flip xs n m) := by
  have hs := h.size
  refine ⟨by simp [flip], Nat.le_refl _, by omega, fun _ => ⟨0, fun k => w.heap.size + 1 + k, fun k => some ⟨w.heap.size + 1 + k, 0, none⟩, fun _ => n, rfl, Nat.le_refl _, h.top.lt, fun k hk => ?_, fun j k hj _ _ _ => by show w.heap.size + 1 + j ≠ w.heap.size + 1 + k; omega⟩⟩
  have hl : ((List.range n).map fun i => g2 xs i k).length = n := by simp
  rw [gr_flip hk, hl]
  refine ⟨by rw [Nat.zero_add]; exact h.top.frozen k, by rw [Nat.zero_add, h.top.cell hk, ttop, if_pos hk], OwnI.of_rowIs hl (by omega) ?_ (by show w.heap.size ≤ w.heap.size + 1 + k; omega) (by show w.heap.size + 1 + k < _; omega) (h.done k hk) (fun i hi => by rw [gi_col hi]), fun _ => by show w.heap.size + 1 + k ≠ w.heap.size; omega⟩
  intro x hx
  obtain ⟨i, hi, rfl⟩ := List.mem_map.1 hx
  have := hbd i k (List.mem_range.1 hi) hk
  omega
/-- A table of an array under way: the array's box lies below. -/
theorem turnO_box {w wr : World} {n m c : Nat} {xs : List (List Int)} (h : TurnO w wr n m c xs) {g : Nat} {t : TypeId} {cs : Array Value} (hb : Blk w g t cs) : Blk wr g t cs := blk_below hb h.below
set_option maxRecDepth 100000 in
set_option maxHeartbeats 3200000 in
theorem tableOf_cells (f : Nat → Nat → Int) (n m : Nat) (w : World) (hn : n ≤ 3) (hm : m ≤ 3) (h1 : 1 ≤ n) (h2 : 1 ≤ m) (hf : ∀ i j, i < n → j < m → -1000 ≤ f i j ∧ f i j ≤ 1000) :
    Calls Try.prog 62 #[.agg (cs9 f), .int .i64 n, .int .i64 m] w (NewT w (flip (cof f n m) m n)) := by
  have HBX := Lib.hid (blk_new w 75 (cs9 f))
  have HB0 := Lib.hid (below_alloc w (.cells (cs9 f) 75))
  have HF := Lib.hid hf
  have HSZ0 : Hid ((w.alloc (.cells (cs9 f) 75)).heap.size = w.heap.size + 1) := Lib.hid (by simp)
  clear hf
  have hmk := run_make_row' (P := Try.prog) 22 26 (.slice none 0 0) 24 Try.underlying22 Try.info26 rfl .i64 .i64 n (by omega) (by omega)
  go_enter Try.func62, Try.ntmps62
  go_wp2
  clear hmk
  have HO0 := Lib.hid (turnO_start (w.alloc (.cells (cs9 f) 75)) m n (cof f n m))
  generalize w.alloc (.cells (cs9 f) 75) = w1 at *
  rw [← HSZ0.out]
  go_loopw [14] (fun s wr => ∃ k : Nat, k ≤ n ∧ s = .int .i64 k ∧ Hid (TurnO w1 wr m n k (cof f n m))) (fun s _ => n - (intOf s).toNat)
  case atStart => exact ⟨0, Nat.zero_le _, rfl, HO0⟩
  case round =>
    clear HO0
    obtain ⟨k, hk, rfl, HO⟩ := hrel
    by_cases hlt : k < n
    · have hmk2 := run_make_row' (P := Try.prog) 26 3 (.int .i64 0) 8 Try.underlying26 Try.info3 rfl .i64 .i64 m (by omega) (by omega)
      have c1 := (HO.out.top.alloc (.cells (madeCells #[.int .i64 0] m) 3)).cell hlt
      simp only [ttop, if_neg (Nat.lt_irrefl k)] at c1
      have c2 := (HO.out.top.alloc (.cells (madeCells #[.int .i64 0] m) 3)).frozen k
      have HI := Lib.hid (turnI_start HO.out)
      clear HO
      go_wp2
      clear hmk2 c1 c2
      go_loopw [27] (fun s wi => ∃ r : Nat, r ≤ m ∧ s = .int .i64 r ∧ Hid (TurnI w1 wi m n k r (cof f n m))) (fun s _ => m - (intOf s).toNat)
      case atStart => exact ⟨0, Nat.zero_le _, rfl, HI⟩
      case round =>
        clear HI
        obtain ⟨r, hr, rfl, HI⟩ := hrel
        by_cases hrm : r < m
        · have c1 := HI.out.top.cell hlt
          simp only [ttop, if_pos (Nat.lt_succ_self k)] at c1
          have hel := blk_cell (blk_below HBX.out HI.out.below) (cs9_get f (by omega : k < 3) (by omega : r < 3))
          have c3 := HI.out.cur.cell hrm
          simp only [if_neg (Nat.lt_irrefl r)] at c3
          have c4 := HI.out.cur.frozen r
          have HN := Lib.hid ((turnI_step HI.out (Quiet.refl _)).drew)
          rw [g2_cof hlt hrm] at HN
          have hk3 : (k : Int) < 3 := by omega
          have hr3 : (r : Int) < 3 := by omega
          have hki : (k : Int) < (n : Int) := by omega
          have hri : (r : Int) < (m : Int) := by omega
          go_wp2
          go_region
          all_goals
            clear c1 hel c3 c4 HI
            go_wp2
            go_roundw
            case rel => exact ⟨r + 1, by omega, by go_num, HN⟩
            case measure => simp [intOf]; omega
        · go_wp2
          go_roundw
          case rel => exact ⟨k + 1, by omega, by go_num, Lib.hid (turnI_done (by have h := HI.out; rw [show r = m by omega] at h; exact h))⟩
          case measure => simp [intOf]; omega
    · obtain rfl : k = n := by omega
      have HOW := Lib.hid (turnO_ownP HO.out hm hn (fun i j hi hj => by rw [g2_cof hj hi]; exact HF.out j i hj hi))
      have HBB := Lib.hid (HB0.out.trans (HO.out.below.mono (by rw [HSZ0.out]; omega)))
      clear HO
      go_wp2
      go_ret
      exact ⟨_, _, _, _, rfl, by simp [flip], HOW.out.mono (by rw [HSZ0.out]; omega) (Nat.le_refl _), HBB.out⟩

end Go.Proofs.Ytbpjblefmammcaa

/- A region that ends in one frame but for some slots, whatever the order: walked on once. -/
namespace Go.Proofs.Ytbpjblefmammcaa
open Go.RowKit

/-- A frame with other values in some slots. -/
def frmL (a : Act) : List Nat → List Value → Act
  | d :: ds, u :: us => frmL (a.put (some d) u) ds us
  | _, _ => a
/-- At the end of a region: the frame but for some slots, and F of these and of the world. -/
def PutQ (a : Act) (ds : List Nat) (F : List Value → World → Prop) : Exit → Act → World → Prop
  | .normal, b, v => ∃ us, b = frmL a ds us ∧ F us v
  | _, _, _ => False
theorem PutQ.mk {a b : Act} {ds : List Nat} {F : List Value → World → Prop} {v : World} (us : List Value) (h : b = frmL a ds us) (f : F us v) : PutQ a ds F .normal b v := ⟨us, h, f⟩
theorem region_put {P : Program} {c : Code} {Q : Exit → Act → World → Prop} {a : Act} {w : World} (ds : List Nat) (F : List Value → World → Prop) (h : c.wp P (PutQ a ds F) a w) (k : ∀ us v, F us v → Q .normal (frmL a ds us) v) : c.wp P Q a w :=
  Code.wp_mono (fun e b v h => by
    cases e <;> first | exact (h : False).elim | (obtain ⟨us, rfl, hf⟩ := (h : ∃ us, b = frmL a ds us ∧ F us v); exact k us v hf)) h
end Go.Proofs.Ytbpjblefmammcaa

/- A region that draws its order, by an invariant: each operation is run once, whatever has come up before it. -/
namespace Go.Proofs.Ytbpjblefmammcaa
open Go.RowKit

/-- Operation j has come up. -/
def On (L : Array Bool) (j : Nat) : Prop := L.getD j false = true
theorem On.of_set {L : Array Bool} {i j : Nat} (h : On (L.setIfInBounds i true) j) (hne : i ≠ j) : On L j := by
  unfold On at *; rwa [getD_set_ne false hne] at h
theorem On.old {L : Array Bool} {i j : Nat} (h : On L j) : On (L.setIfInBounds i true) j := by
  unfold On at *; exact getD_set_true h
theorem On.not_start {n j : Nat} (h : On (Array.replicate n false) j) : False := by
  unfold On at h
  rcases Nat.lt_or_ge j n with h' | h'
  · simp [h'] at h
  · simp [h'] at h
/-- What an operation waits for. -/
def waitsOn (ops : Array Oper) (i : Nat) : List Nat :=
  match ops[i]? with
  | some o => (o.after.toList.filter (Region.binds .any)).map (·.on)
  | none => []
def earlierB (ops : Array Oper) : Bool := (List.range ops.size).all fun i => (waitsOn ops i).all fun j => decide (j < i)
theorem mem_waits {ops : Array Oper} {i : Nat} {o : Oper} (ho : ops[i]? = some o) {e : Edge} (he : e ∈ o.after) (hb : Region.binds .any e = true) : e.on ∈ waitsOn ops i := by
  unfold waitsOn; rw [ho]; exact List.mem_map.2 ⟨e, List.mem_filter.2 ⟨by simpa using he, hb⟩, rfl⟩
theorem waits_mem {ops : Array Oper} {i j : Nat} {o : Oper} (ho : ops[i]? = some o) (h : j ∈ waitsOn ops i) : ∃ e ∈ o.after, Region.binds .any e = true ∧ e.on = j := by
  unfold waitsOn at h; rw [ho] at h
  obtain ⟨e, he, hj⟩ := List.mem_map.1 h
  obtain ⟨h1, h2⟩ := List.mem_filter.1 he
  exact ⟨e, by simpa using h1, h2, hj⟩

section
variable {P : Program} {ops : Array Oper} {Q : Exit → Act → World → Prop} {I : Array Bool → Act → World → Prop}
/-- The operation i, run in whatever state the invariant allows. -/
def StepI (P : Program) (ops : Array Oper) (Q : Exit → Act → World → Prop) (I : Array Bool → Act → World → Prop) (i : Nat) : Prop :=
  ∀ L a w, I L a w → ¬ On L i → On (L.setIfInBounds i true) i → (∀ j ∈ waitsOn ops i, On L j) → wpOp P ops Q i (fun a' w' => I (L.setIfInBounds i true) a' w') a w
def StepsI (P : Program) (ops : Array Oper) (Q : Exit → Act → World → Prop) (I : Array Bool → Act → World → Prop) (rs : List Nat) : Prop := ∀ i ∈ rs, StepI P ops Q I i
theorem StepsI.nil : StepsI P ops Q I [] := fun _ h => by cases h
theorem StepsI.cons {i : Nat} {o : Oper} {ws rs : List Nat} (ho : ops[i]? = some o) (hw : waitsOn ops i = ws)
    (h : ∀ L a w, I L a w → ¬ On L i → On (L.setIfInBounds i true) i → (∀ j ∈ ws, On L j) → ∀ K' : Act → World → Prop, Shut (∀ a w, I (L.setIfInBounds i true) a w → K' a w) → if Region.wanted o (yielded ops a.tmps) = true then Oper.wp P o a w K' Q else K' (a.put o.dst undef) w)
    (hs : StepsI P ops Q I rs) : StepsI P ops Q I (i :: rs) := fun j hj => by
  rcases List.mem_cons.1 hj with rfl | hj
  · intro L a w hI hn hi hL
    rw [hw] at hL
    exact wpOp_step ho (fun K' hK => h L a w hI hn hi hL K' hK)
  · exact hs j hj

theorem wpAny_inv (hs : ∀ i, i < ops.size → StepI P ops Q I i) (he : earlierB ops = true) (hend : ∀ L a w, (∀ i, i < ops.size → On L i) → I L a w → Q .normal a w) :
    ∀ (fuel : Nat) (L : Array Bool) (a : Act) (w : World), L.size = ops.size → L.toList.countP (fun b => !b) ≤ fuel → I L a w → wpAny P .any ops Q fuel L a w := by
  have hall : ∀ L : Array Bool, L.size = ops.size → Region.ready .any ops L = [] → ∀ i, i < ops.size → On L i := by
    intro L hL hr i
    induction i using Nat.strongRecOn with
    | _ i ih =>
      intro hi
      apply Classical.byContradiction
      intro hn
      have ho : ops[i]? = some ops[i] := Array.getElem?_eq_getElem hi
      have hmem : i ∈ Region.ready .any ops L := by
        rw [mem_ready]
        refine ⟨?_, ops[i], ho, fun e hee hb => ?_⟩
        · have hiL : i < L.size := by omega
          unfold On at hn
          simp only [Array.getD_eq_getD_getElem?, Array.getElem?_eq_getElem hiL, Option.getD_some] at hn ⊢
          cases hx : L[i] with
          | true => exact absurd hx hn
          | false => rfl
        · have hm := mem_waits ho hee hb
          have hlt : e.on < i := by
            unfold earlierB at he
            have h1 := List.all_eq_true.1 he i (List.mem_range.2 hi)
            have h2 := List.all_eq_true.1 h1 _ hm
            simpa using h2
          exact ih e.on hlt (by omega)
      rw [hr] at hmem
      cases hmem
  intro fuel
  induction fuel with
  | zero =>
    intro L a w hL hc hI
    have hon : ∀ i, i < ops.size → On L i := fun i hi => by
      have hiL : i < L.size := by omega
      have h0 : L.toList.countP (fun b => !b) = 0 := by omega
      rw [List.countP_eq_zero] at h0
      have := h0 L[i] (by simp)
      unfold On
      simp only [Array.getD_eq_getD_getElem?, Array.getElem?_eq_getElem hiL, Option.getD_some]
      simpa using this
    refine ⟨?_, hend L a w hon hI⟩
    cases hr : Region.ready .any ops L with
    | nil => rfl
    | cons i rs =>
      have hi : i ∈ Region.ready .any ops L := by rw [hr]; simp
      obtain ⟨h0, o, ho, _⟩ := mem_ready.1 hi
      have hlt : i < ops.size := (Array.getElem?_eq_some_iff.1 ho).1
      have h1 := hon i hlt
      have hiL : i < L.size := by omega
      unfold On at h1
      simp only [Array.getD_eq_getD_getElem?, Array.getElem?_eq_getElem hiL, Option.getD_some] at h0 h1
      rw [h0] at h1; cases h1
  | succ fuel ih =>
    intro L a w hL hc hI
    refine ⟨fun hr => hend L a w (hall L hL hr) hI, fun i hi => ?_⟩
    obtain ⟨h0, o, ho, hw⟩ := mem_ready.1 hi
    have hlt : i < ops.size := (Array.getElem?_eq_some_iff.1 ho).1
    have hiL : i < L.size := by omega
    refine wpOp_mono (fun a' w' h => ih _ a' w' (by simpa using hL) ?_ h) (hs i hlt L a w hI ?_ ?_ (fun j hj => ?_))
    · have hb : L[i] = false := by simpa [Array.getD_eq_getD_getElem?, Array.getElem?_eq_getElem hiL] using h0
      rw [Array.toList_setIfInBounds, List.countP_set (by simpa using hiL)]
      have h1 : 0 < L.toList.countP (fun b => !b) := List.countP_pos_iff.2 ⟨L[i], by simp, by simp [hb]⟩
      have h2 : (if (!L.toList[i]'(by simpa using hiL)) = true then 1 else 0) = 1 := by simp [hb]
      have h3 : (if (!true) = true then 1 else 0) = 0 := by simp
      rw [h2, h3]
      omega
    · unfold On
      simp only [Array.getD_eq_getD_getElem?, Array.getElem?_eq_getElem hiL, Option.getD_some] at h0 ⊢
      rw [h0]; decide
    · unfold On
      simp [hiL]
    · obtain ⟨e, he1, he2, rfl⟩ := waits_mem ho hj
      exact hw e he1 he2

theorem wp_region_inv {id : Nat} {a : Act} {w : World} {rs : List Nat} (I : Array Bool → Act → World → Prop) (hm : P.follows .mixedOrders = true) (h0 : I (Array.replicate ops.size false) a w.drew)
    (hr : List.range ops.size = rs) (he : earlierB ops = true) (hs : StepsI P ops Q I rs) (hend : ∀ L a w, (∀ i, i ∈ rs → On L i) → I L a w → Q .normal a w) : (Code.region id ops true).wp P Q a w :=
  wp_region_any hm (wpAny_inv (I := I) (fun i hi => hs i (by rw [← hr]; exact List.mem_range.2 hi)) he (fun L a w h => hend L a w (fun i hi => h i (by rw [← hr] at hi; exact List.mem_range.1 hi))) ops.size _ a _ (by simp)
    (by rw [Array.toList_replicate]; exact Nat.le_trans List.countP_le_length (by simp)) h0)
end
/-- A frame with other values in some slots, and what is known of these and of the world. -/
def FI (a0 : Act) (ds : List Nat) (J : Array Bool → List Value → World → Prop) (L : Array Bool) (a : Act) (w : World) : Prop := ∃ us, a = frmL a0 ds us ∧ J L us w
theorem wp_region_invF {P : Program} {ops : Array Oper} {Q : Exit → Act → World → Prop} {id : Nat} {a : Act} {w : World} {rs : List Nat} (ds : List Nat) (J : Array Bool → List Value → World → Prop) (hm : P.follows .mixedOrders = true)
    (h0 : ∃ us, a = frmL a ds us ∧ J (Array.replicate ops.size false) us w.drew)
    (hr : List.range ops.size = rs) (he : earlierB ops = true) (hs : StepsI P ops Q (FI a ds J) rs) (hend : ∀ L us w, (∀ i, i ∈ rs → On L i) → J L us w → Q .normal (frmL a ds us) w) : (Code.region id ops true).wp P Q a w :=
  wp_region_inv (FI a ds J) hm h0 hr he hs (fun L a' w h ⟨us, e, hJ⟩ => by subst e; exact hend L us w h hJ)
end Go.Proofs.Ytbpjblefmammcaa

/- PotentialOf, by both. -/
namespace Go.Proofs.Ytbpjblefmammcaa
open Go.RowKit

theorem flip_cof (xs ys : List (List Int)) (n m : Nat) : flip (cof (fullP (pC xs ys) n m) n m) m n = potT xs ys m n := by
  unfold flip potT potR
  refine List.map_congr_left fun i hi => List.map_congr_left fun j hj => ?_
  have hi := List.mem_range.1 hi
  have hj := List.mem_range.1 hj
  rw [g2_cof hi hj, fullP, if_pos ⟨hi, hj⟩]
/-- What was there is there: the game, and the array. -/
structure PTS (p : GP) (w : World) (xs ys : List (List Int)) (h : Nat) (F : Nat → Nat → Int) (W : World) : Prop where
  gt : GT p w W w.heap.size xs ys
  box : Blk W h 75 (cs9 F)
theorem PTS.up {p w xs ys h F W W'} (e : PTS p w xs ys h F W) (k : Below W.heap.size W W') : PTS p w xs ys h F W' := ⟨e.gt.up k, blk_below e.box k⟩
theorem NewTP.from {w w1 w' : World} {yss : List (List Int)} {b : Bool} {e : Ending} (hb : Below w.heap.size w w1) (h : NewTP w1 yss b e w') : NewTP w yss b e w' := by
  obtain ⟨Av, n, c, gg, he, hn, ho, hb2⟩ := h
  exact ⟨Av, n, c, gg, he, hn, ho.mono hb.size (Nat.le_refl _), below_up hb hb2⟩
theorem NewTP.is {w w' : World} {a b : List (List Int)} {t u : Bool} {e : Ending} (h1 : a = b) (h2 : t = u) (k : NewTP w a t e w') : NewTP w b u e w' := h1 ▸ h2 ▸ k

set_option maxRecDepth 100000 in
set_option maxHeartbeats 1600000 in
theorem PotentialOf_spec (A B : Option Addr) (n c m d : Nat) (xs ys : List (List Int)) (w : World) (hx : IntRows w A n c xs) (hy : IntRows w B m d ys) :
    Calls Try.prog 28 #[.agg #[.slice A n c, .slice B m d]] w (NewTP w (potF xs ys) (pb (PotP xs ys))) := by
  have hb0 := below_alloc w (.cells #[.slice A n c, .slice B m d] 29)
  have b0 := blk_new w 29 #[.slice A n c, .slice B m d]
  have HB := Lib.hid hb0
  have HK := Lib.hid b0
  have HX := Lib.hid (hx.keep (Keep.below hb0))
  have HY := Lib.hid (hy.keep (Keep.below hb0))
  have HX0 := Lib.hid hx
  have HY0 := Lib.hid hy
  clear hx hy hb0 b0
  go_enter Try.func28, Try.ntmps28
  have z0 := blk_cell HK.out (i := 0) (v := .slice A n c) rfl
  have z1 := blk_cell HK.out (i := 1) (v := .slice B m d) rfl
  go_wp2_with fail
  generalize w.alloc (.cells #[.slice A n c, .slice B m d] 29) = W1 at *
  have HC := Lib.hid (validGame_any _ _ _ _ _ _ _ _ _ HX.out HY.out)
  by_cases hv : VG xs ys
  · refine ((pb_true hv) ▸ HC.out).mono ?_
    rintro e w1 ⟨rfl, hb⟩
    have hb2 := below_up HB.out hb
    have hk2 := blk_below HK.out hb
    obtain ⟨p, rfl, rfl, rfl, rfl, rfl, rfl, hg⟩ := GV.of HX0.out HY0.out hv
    have HT := Lib.hid (show GT p w w1 w.heap.size xs ys from ⟨hb2, hk2, hg⟩)
    have HPT := Lib.hid (potential_any p xs ys w1 HT.out.gv hv)
    clear hb hv hb2 hk2 hg HX HY HX0 HY0 HB HK HC z0 z1
    have k0 := HT.out.c0
    have k1 := HT.out.c1
    have HBW := Lib.hid HT.out.below
    generalize potF xs ys = T at *
    generalize pb (PotP xs ys) = b at *
    go_wp2_with fail
    refine HPT.out.mono ?_
    rintro e w2 ⟨Av, nn, cv, gg, rfl, hnn, ho, hb⟩
    have HO := Lib.hid ho
    have HNN := Lib.hid hnn
    have HBB := Lib.hid (below_up HBW.out hb)
    have HLO := Lib.hid HBW.out.size
    clear ho hnn hb HPT k0 k1 HT
    go_wp2
    go_ret2
    exact ⟨Av, nn, cv, gg, rfl, HNN.out, HO.out.mono HLO.out (Nat.le_refl _), HBB.out⟩
  · have HNO := Lib.hid (show potF xs ys = [] ∧ pb (PotP xs ys) = false from (fun h : ¬ PotP xs ys => ⟨potF_no h, pb_false h⟩) (fun k => hv k.v))
    refine ((pb_false hv) ▸ HC.out).mono ?_
    rintro e w1 ⟨rfl, hb⟩
    have hb2 := Lib.hid (below_up HB.out hb)
    clear hb HC HX HY HX0 HY0 HB HK z0 z1 hv
    go_wp2
    go_ret2
    exact ⟨none, 0, 0, 0, by rw [HNO.out.2]; rfl, by rw [HNO.out.1]; rfl, by rw [HNO.out.1]; exact OwnR.nil _ _ _ _, hb2.out⟩
/-- Both arrays. -/
structure R4P (p : GP) (w : World) (xs ys : List (List Int)) (h : Nat) (F G : Nat → Nat → Int) (bq : Bool) (L : Array Bool) (u10 u11 u12 u13 : Value)  (W : World) : Prop where
  st : PTS p w xs ys h F W
  h0 : On L 0 → u10 = .agg (cs9 F)
  h1 : On L 1 → u11 = .agg #[.slice (some ⟨p.ba, p.oa, none⟩) p.n p.c, .slice (some ⟨p.bb, p.ob, none⟩) p.n p.d]
  h2 : On L 2 → u12 = .agg (cs9 G)
  h3 : On L 3 → u13 = .bool (!bq)
theorem R4P.up {p w xs ys h F G bq L u10 u11 u12 u13 W W'} (Hy : R4P p w xs ys h F G bq L u10 u11 u12 u13 W) (k : Below W.heap.size W W') : R4P p w xs ys h F G bq L u10 u11 u12 u13 W' :=
  ⟨Hy.st.up k, Hy.h0, Hy.h1, Hy.h2, Hy.h3⟩
/-- The table, on its way. -/
structure R6P (p : GP) (w : World) (xs ys : List (List Int)) (h : Nat) (F : Nat → Nat → Int) (T : List (List Int)) (L : Array Bool) (u14 u15 u16 u17 u18 u19 u20 u21 u22 u23 u2 u3 : Value) (Av : Option Addr) (nn : Nat) (cv : Nat) (gg : Nat) (W : World) : Prop where
  st : PTS p w xs ys h F W
  h0 : On L 0 → u14 = .agg (cs9 F)
  h1 : On L 1 → u15 = .pointer (some ⟨w.heap.size, 0, none⟩)
  h2 : On L 2 → u16 = .slice (some ⟨p.ba, p.oa, none⟩) p.n p.c
  h3 : On L 3 → u17 = .int .i64 p.n
  h4 : On L 4 → u18 = .pointer (some ⟨w.heap.size, 0, none⟩)
  h5 : On L 5 → u19 = .slice (some ⟨p.ba, p.oa, none⟩) p.n p.c
  h6 : On L 6 → u20 = .pointer (some ⟨p.ba, p.oa, none⟩)
  h7 : On L 7 → u21 = .slice (some ⟨p.ra 0, p.pa 0, none⟩) p.m (p.ca 0)
  h8 : On L 8 → u22 = .int .i64 p.m
  h9 : On L 9 → u23 = .slice Av nn cv ∧ nn = T.length ∧ OwnR w.heap.size W.heap.size W gg Av nn cv T
  h10 : On L 10 → On L 9 ∧ u2 = .slice Av nn cv
  h11 : On L 11 → u3 = .bool true
theorem R6P.up {p w xs ys h F T L u14 u15 u16 u17 u18 u19 u20 u21 u22 u23 u2 u3 Av nn cv gg W W'} (Hy : R6P p w xs ys h F T L u14 u15 u16 u17 u18 u19 u20 u21 u22 u23 u2 u3 Av nn cv gg W) (k : Below W.heap.size W W') : R6P p w xs ys h F T L u14 u15 u16 u17 u18 u19 u20 u21 u22 u23 u2 u3 Av nn cv gg W' :=
  ⟨Hy.st.up k, Hy.h0, Hy.h1, Hy.h2, Hy.h3, Hy.h4, Hy.h5, Hy.h6, Hy.h7, Hy.h8, fun o => let ⟨a, b, d⟩ := (Hy.h9 o); ⟨a, b, (d.below k).mono (Nat.le_refl _) k.size⟩, Hy.h10, Hy.h11⟩

set_option maxRecDepth 100000 in
set_option maxHeartbeats 3200000 in
theorem PotentialOf_impl (A B : Option Addr) (n c m d : Nat) (xs ys : List (List Int)) (w : World) (hx : IntRows w A n c xs) (hy : IntRows w B m d ys) :
    Calls Try.prog 29 #[.agg #[.slice A n c, .slice B m d]] w (NewTP w (potF xs ys) (pb (PotP xs ys))) := by
  have hb0 := below_alloc w (.cells #[.slice A n c, .slice B m d] 29)
  have b0 := blk_new w 29 #[.slice A n c, .slice B m d]
  have HB := Lib.hid hb0
  have HK := Lib.hid b0
  have HX := Lib.hid (hx.keep (Keep.below hb0))
  have HY := Lib.hid (hy.keep (Keep.below hb0))
  have HX0 := Lib.hid hx
  have HY0 := Lib.hid hy
  clear hx hy hb0 b0
  go_enter Try.func29, Try.ntmps29
  have z0 := blk_cell HK.out (i := 0) (v := .slice A n c) rfl
  have z1 := blk_cell HK.out (i := 1) (v := .slice B m d) rfl
  go_wp2_with fail
  generalize w.alloc (.cells #[.slice A n c, .slice B m d] 29) = W1 at *
  have HC := Lib.hid (ValidGame_impl _ _ _ _ _ _ _ _ _ HX.out HY.out)
  by_cases hv : VG xs ys
  · refine ((pb_true hv) ▸ HC.out).mono ?_
    rintro e w1 ⟨rfl, hb⟩
    have hb2 := below_up HB.out hb
    have hk2 := blk_below HK.out hb
    obtain ⟨p, rfl, rfl, rfl, rfl, rfl, rfl, hg⟩ := GV.of HX0.out HY0.out hv
    have HT := Lib.hid (show GT p w w1 w.heap.size xs ys from ⟨hb2, hk2, hg⟩)
    have hn3 := hg.tx.n3
    have hm3 := hg.tx.m3
    have hn1 : 0 < p.n := hg.tx.n1
    have hm1 : 0 < p.m := hg.tx.m1
    have hn1' : (0 : Int) < (p.n : Int) := by omega
    have HRC := Lib.hid (rowThenColumn_any p xs ys w1 HT.out.gv)
    have HCR := Lib.hid (fun W (h : GV p W xs ys) => columnThenRow_any p xs ys W h)
    have HBD : Hid (∀ i j, i < p.n → j < p.m → -1000 ≤ fullP (pC xs ys) p.n p.m i j ∧ fullP (pC xs ys) p.n p.m i j ≤ 1000) := Lib.hid (fun i j hi hj => by
      have b1 := hg.tx.bd i 0 hi hm1
      have b2 := hg.tx.bd 0 0 hn1 hm1
      have b3 := hg.ty.bd i j hi hj
      have b4 := hg.ty.bd i 0 hi hm1
      unfold fullP
      rw [if_pos ⟨hi, hj⟩]
      unfold pC; omega)
    have HTO := Lib.hid (fun W => flip_cof xs ys p.n p.m ▸ tableOf_cells (fullP (pC xs ys) p.n p.m) p.n p.m W hn3 hm3 hn1 hm1 HBD.out)
    have HS9 : Hid (∀ f : Nat → Nat → Int, (Try.prog.info? 75).map (·.size) = some (cs9 f).size) := Lib.hid (fun f => by show _ = some 9; kernel_rfl)
    have HO9 : Hid (∀ f : Nat → Nat → Int, (cs9 f).all (·.oneCell') = true) := Lib.hid (fun f => by simp [cs9, Value.oneCell'])
    have HEQ0 := Lib.hid (fun W => eq9_op (fullP (pC xs ys) p.n p.m) (fullP (qC xs ys) p.n p.m) W)
    have hgd : Try.prog.eqGuardType Try.prog.depth 75 = false := by kernel_rfl
    have HIFF : Hid (cs9 (fullP (pC xs ys) p.n p.m) = cs9 (fullP (qC xs ys) p.n p.m) ↔ PotP xs ys) := Lib.hid (by
      constructor
      · intro h
        refine ⟨hv, fun i j hi hj => ?_⟩
        rw [hg.lx] at hi
        rw [hg.mx] at hj
        have g1 := cs9_get (fullP (pC xs ys) p.n p.m) (show i < 3 by omega) (show j < 3 by omega)
        have g2_ := cs9_get (fullP (qC xs ys) p.n p.m) (show i < 3 by omega) (show j < 3 by omega)
        rw [h, g2_] at g1
        injection g1 with g1
        injection g1 with _ g1
        unfold fullP at g1
        rw [if_pos ⟨hi, hj⟩, if_pos ⟨hi, hj⟩] at g1
        exact g1.symm
      · intro h
        refine cs9_congr fun i j _ _ => ?_
        unfold fullP
        by_cases e : i < p.n ∧ j < p.m
        · rw [if_pos e, if_pos e]; exact h.all i j (by rw [hg.lx]; exact e.1) (by rw [hg.mx]; exact e.2)
        · rw [if_neg e, if_neg e])
    have HRES : Hid (PotP xs ys → potF xs ys = potT xs ys p.m p.n) := Lib.hid (fun h => by rw [potF_yes h, hg.lx, hg.mx])
    clear hb hb2 hk2 hg HX HY HX0 HY0 HB HK HC z0 z1 hv HBD
    have k0 := HT.out.c0
    have k1 := HT.out.c1
    generalize fullP (pC xs ys) p.n p.m = F at *
    generalize fullP (qC xs ys) p.n p.m = G at *
    go_wp2_with fail
    refine HRC.out.mono ?_
    rintro e w2 ⟨rfl, hb⟩
    have HT2 := Lib.hid (HT.out.up hb)
    have HPS := Lib.hid (show PTS p w xs ys w2.heap.size F ((w2.alloc (.cells #[.int .i64 0, .int .i64 0, .int .i64 0, .int .i64 0, .int .i64 0, .int .i64 0, .int .i64 0, .int .i64 0, .int .i64 0] 75)).setRow w2.heap.size (cs9 F)) from
      ⟨(HT2.out.up (below_alloc _ _)).up2 (B := w.heap.size + 1) (below_row (Below.refl _ _) (g := w2.heap.size) (blk_lt HT2.out.box) _) (by omega) (by omega), blk_row (blk_new _ _ _) _⟩)
    clear hb HRC k0 k1 HT HT2
    go_wp2_with (first | (refine wpList_store_row rfl 75 _ _ rfl w2.heap.size (cs9 F) rfl rfl 75 (cs9 fun _ _ => 0) (blk_new w2 75 (cs9 fun _ _ => 0)) (HS9.out _) rfl (HO9.out _) ?_) | fail)
    generalize (w2.alloc (.cells #[.int .i64 0, .int .i64 0, .int .i64 0, .int .i64 0, .int .i64 0, .int .i64 0, .int .i64 0, .int .i64 0, .int .i64 0] 75)).setRow w2.heap.size (cs9 F) = W3 at *
    generalize w2.heap.size = h at *
    obtain ⟨bq, hbv⟩ : ∃ b, pb (cs9 F = cs9 G) = b := ⟨_, rfl⟩
    have HBV := Lib.hid hbv
    have HEQ := HEQ0
    rw [hbv] at HEQ
    clear hbv HEQ0
    go_wp2
    refine wp_region_invF (rs := [0, 1, 2, 3]) [10, 11, 12, 13] (fun L us W => ∃ u10 u11 u12 u13, us = [u10, u11, u12, u13] ∧ R4P p w xs ys h F G bq L u10 u11 u12 u13 W) (by kernel_rfl) ?_ (by kernel_rfl) (by kernel_rfl) ?_ ?_
    · refine ⟨[undef, undef, undef, undef], ?_, undef, undef, undef, undef, rfl, ?_⟩
      · simp only [frmL, Act.put, List.setIfInBounds_toArray, List.set_cons_zero, List.set_cons_succ]
      exact ⟨HPS.out.up (Quiet.below ⟨1, rfl⟩), fun o => o.not_start.elim, fun o => o.not_start.elim, fun o => o.not_start.elim, fun o => o.not_start.elim⟩
    · refine StepsI.cons (i := 0) (ws := []) rfl (by kernel_rfl) (fun L a W hI hno hon hw K hK => ?_) ?_
      · obtain ⟨_, rfl, u10, u11, u12, u13, rfl, H⟩ := hI
        simp only [List.getElem_toArray, List.getElem_cons_zero]
        simp only [frmL, Act.put, List.setIfInBounds_toArray, List.set_cons_zero, List.set_cons_succ]
        rw [if_pos (by rfl)]
        refine wp_load_row 75 _ rfl h rfl 75 (cs9 F) (0, 0) _ H.st.box und_cells rfl (HS9.out _) ?_
        have HN := H
        refine hK.out _ _ ⟨[.agg (cs9 F), u11, u12, u13], ?_, .agg (cs9 F), u11, u12, u13, rfl, ?_⟩
        · simp only [frmL, Act.put, List.setIfInBounds_toArray, List.set_cons_zero, List.set_cons_succ]
        · exact ⟨HN.st, fun _ => rfl, fun o => HN.h1 (o.of_set (by decide)), fun o => HN.h2 (o.of_set (by decide)), fun o => HN.h3 (o.of_set (by decide))⟩
      refine StepsI.cons (i := 1) (ws := []) rfl (by kernel_rfl) (fun L a W hI hno hon hw K hK => ?_) ?_
      · obtain ⟨_, rfl, u10, u11, u12, u13, rfl, H⟩ := hI
        simp only [List.getElem_toArray, List.getElem_cons_zero, List.getElem_cons_succ]
        simp only [frmL, Act.put, List.setIfInBounds_toArray, List.set_cons_zero, List.set_cons_succ]
        have c0 := H.st.gt.c0
        have c1 := H.st.gt.c1
        go_simp
        have HN := H
        refine hK.out _ _ ⟨[u10, .agg #[.slice (some ⟨p.ba, p.oa, none⟩) p.n p.c, .slice (some ⟨p.bb, p.ob, none⟩) p.n p.d], u12, u13], ?_, u10, .agg #[.slice (some ⟨p.ba, p.oa, none⟩) p.n p.c, .slice (some ⟨p.bb, p.ob, none⟩) p.n p.d], u12, u13, rfl, ?_⟩
        · simp only [frmL, Act.put, List.setIfInBounds_toArray, List.set_cons_zero, List.set_cons_succ]
        · exact ⟨HN.st, fun o => HN.h0 (o.of_set (by decide)), fun _ => rfl, fun o => HN.h2 (o.of_set (by decide)), fun o => HN.h3 (o.of_set (by decide))⟩
      refine StepsI.cons (i := 2) (ws := [1]) rfl (by kernel_rfl) (fun L a W hI hno hon hw K hK => ?_) ?_
      · obtain ⟨_, rfl, u10, u11, u12, u13, rfl, H⟩ := hI
        simp only [List.getElem_toArray, List.getElem_cons_zero, List.getElem_cons_succ]
        obtain rfl := H.h1 (hw 1 (by simp))
        simp only [frmL, Act.put, List.setIfInBounds_toArray, List.set_cons_zero, List.set_cons_succ]
        go_simp
        go_wp2_with (go_at_call 61; (with_reducible refine (HCR.out _ H.st.gt.gv).mono ?_); rintro e w9 ⟨rfl, hb⟩)
        have HN := H.up hb
        refine hK.out _ _ ⟨[u10, .agg #[.slice (some ⟨p.ba, p.oa, none⟩) p.n p.c, .slice (some ⟨p.bb, p.ob, none⟩) p.n p.d], .agg (cs9 G), u13], ?_, u10, .agg #[.slice (some ⟨p.ba, p.oa, none⟩) p.n p.c, .slice (some ⟨p.bb, p.ob, none⟩) p.n p.d], .agg (cs9 G), u13, rfl, ?_⟩
        · simp only [frmL, Act.put, List.setIfInBounds_toArray, List.set_cons_zero, List.set_cons_succ]
        · exact ⟨HN.st, fun o => HN.h0 (o.of_set (by decide)), fun o => HN.h1 (o.of_set (by decide)), fun _ => rfl, fun o => HN.h3 (o.of_set (by decide))⟩
      refine StepsI.cons (i := 3) (ws := [0, 2]) rfl (by kernel_rfl) (fun L a W hI hno hon hw K hK => ?_) ?_
      · obtain ⟨_, rfl, u10, u11, u12, u13, rfl, H⟩ := hI
        simp only [List.getElem_toArray, List.getElem_cons_zero, List.getElem_cons_succ]
        obtain rfl := H.h0 (hw 0 (by simp))
        obtain rfl := H.h2 (hw 2 (by simp))
        simp only [frmL, Act.put, List.setIfInBounds_toArray, List.set_cons_zero, List.set_cons_succ]
        have heq := HEQ.out
        go_simp
        have HN := H
        refine hK.out _ _ ⟨[.agg (cs9 F), u11, .agg (cs9 G), .bool (!bq)], ?_, .agg (cs9 F), u11, .agg (cs9 G), .bool (!bq), rfl, ?_⟩
        · simp only [frmL, Act.put, List.setIfInBounds_toArray, List.set_cons_zero, List.set_cons_succ]
        · exact ⟨HN.st, fun o => HN.h0 (o.of_set (by decide)), fun o => HN.h1 (o.of_set (by decide)), fun o => HN.h2 (o.of_set (by decide)), fun _ => rfl⟩
      exact StepsI.nil
    · rintro L us W hL ⟨u10, u11, u12, u13, rfl, H⟩
      obtain rfl := H.h3 (hL 3 (by decide))
      simp only [frmL, Act.put, List.setIfInBounds_toArray, List.set_cons_zero, List.set_cons_succ]
      have HS := Lib.hid H.st
      clear H hL HCR HEQ HPS
      by_cases hp : PotP xs ys
      · have hbb : bq = true := by rw [← HBV.out, pb_true (HIFF.out.2 hp)]
        have HR := Lib.hid (HRES.out hp)
        have HPP := Lib.hid (pb_true hp)
        subst hbb
        clear hp HRES HIFF HBV
        generalize potT xs ys p.m p.n = T at *
        rw [Bool.not_true]
        go_wp2
        refine wp_region_invF (rs := [0, 1, 2, 3, 4, 5, 6, 7, 8, 9, 10, 11]) [14, 15, 16, 17, 18, 19, 20, 21, 22, 23, 2, 3] (fun L us W => ∃ u14 u15 u16 u17 u18 u19 u20 u21 u22 u23 u2 u3 Av nn cv gg, us = [u14, u15, u16, u17, u18, u19, u20, u21, u22, u23, u2, u3] ∧ R6P p w xs ys h F T L u14 u15 u16 u17 u18 u19 u20 u21 u22 u23 u2 u3 Av nn cv gg W) (by kernel_rfl) ?_ (by kernel_rfl) (by kernel_rfl) ?_ ?_
        · refine ⟨[undef, undef, undef, undef, undef, undef, undef, undef, undef, undef, .slice none 0 0, .bool false], ?_, undef, undef, undef, undef, undef, undef, undef, undef, undef, undef, .slice none 0 0, .bool false, none, 0, 0, 0, rfl, ?_⟩
          · simp only [frmL, Act.put, List.setIfInBounds_toArray, List.set_cons_zero, List.set_cons_succ]
          exact ⟨HS.out.up (Quiet.below ⟨1, rfl⟩), fun o => o.not_start.elim, fun o => o.not_start.elim, fun o => o.not_start.elim, fun o => o.not_start.elim, fun o => o.not_start.elim, fun o => o.not_start.elim, fun o => o.not_start.elim, fun o => o.not_start.elim, fun o => o.not_start.elim, fun o => o.not_start.elim, fun o => o.not_start.elim, fun o => o.not_start.elim⟩
        · refine StepsI.cons (i := 0) (ws := []) rfl (by kernel_rfl) (fun L a W hI hno hon hw K hK => ?_) ?_
          · obtain ⟨_, rfl, u14, u15, u16, u17, u18, u19, u20, u21, u22, u23, u2, u3, Av, nn, cv, gg, rfl, H⟩ := hI
            simp only [List.getElem_toArray, List.getElem_cons_zero]
            simp only [frmL, Act.put, List.setIfInBounds_toArray, List.set_cons_zero, List.set_cons_succ]
            rw [if_pos (by rfl)]
            refine wp_load_row 75 _ rfl h rfl 75 (cs9 F) (0, 0) _ H.st.box und_cells rfl (HS9.out _) ?_
            have HN := H
            refine hK.out _ _ ⟨[.agg (cs9 F), u15, u16, u17, u18, u19, u20, u21, u22, u23, u2, u3], ?_, .agg (cs9 F), u15, u16, u17, u18, u19, u20, u21, u22, u23, u2, u3, Av, nn, cv, gg, rfl, ?_⟩
            · simp only [frmL, Act.put, List.setIfInBounds_toArray, List.set_cons_zero, List.set_cons_succ]
            · exact ⟨HN.st, fun _ => rfl, fun o => HN.h1 (o.of_set (by decide)), fun o => HN.h2 (o.of_set (by decide)), fun o => HN.h3 (o.of_set (by decide)), fun o => HN.h4 (o.of_set (by decide)), fun o => HN.h5 (o.of_set (by decide)), fun o => HN.h6 (o.of_set (by decide)), fun o => HN.h7 (o.of_set (by decide)), fun o => HN.h8 (o.of_set (by decide)), fun o => HN.h9 (o.of_set (by decide)), fun o => (HN.h10 (o.of_set (by decide))).imp On.old id, fun o => HN.h11 (o.of_set (by decide))⟩
          refine StepsI.cons (i := 1) (ws := []) rfl (by kernel_rfl) (fun L a W hI hno hon hw K hK => ?_) ?_
          · obtain ⟨_, rfl, u14, u15, u16, u17, u18, u19, u20, u21, u22, u23, u2, u3, Av, nn, cv, gg, rfl, H⟩ := hI
            simp only [List.getElem_toArray, List.getElem_cons_zero, List.getElem_cons_succ]
            simp only [frmL, Act.put, List.setIfInBounds_toArray, List.set_cons_zero, List.set_cons_succ]
            go_simp
            have HN := H
            refine hK.out _ _ ⟨[u14, .pointer (some ⟨w.heap.size, 0, none⟩), u16, u17, u18, u19, u20, u21, u22, u23, u2, u3], ?_, u14, .pointer (some ⟨w.heap.size, 0, none⟩), u16, u17, u18, u19, u20, u21, u22, u23, u2, u3, Av, nn, cv, gg, rfl, ?_⟩
            · simp only [frmL, Act.put, List.setIfInBounds_toArray, List.set_cons_zero, List.set_cons_succ]
            · exact ⟨HN.st, fun o => HN.h0 (o.of_set (by decide)), fun _ => rfl, fun o => HN.h2 (o.of_set (by decide)), fun o => HN.h3 (o.of_set (by decide)), fun o => HN.h4 (o.of_set (by decide)), fun o => HN.h5 (o.of_set (by decide)), fun o => HN.h6 (o.of_set (by decide)), fun o => HN.h7 (o.of_set (by decide)), fun o => HN.h8 (o.of_set (by decide)), fun o => HN.h9 (o.of_set (by decide)), fun o => (HN.h10 (o.of_set (by decide))).imp On.old id, fun o => HN.h11 (o.of_set (by decide))⟩
          refine StepsI.cons (i := 2) (ws := [1]) rfl (by kernel_rfl) (fun L a W hI hno hon hw K hK => ?_) ?_
          · obtain ⟨_, rfl, u14, u15, u16, u17, u18, u19, u20, u21, u22, u23, u2, u3, Av, nn, cv, gg, rfl, H⟩ := hI
            simp only [List.getElem_toArray, List.getElem_cons_zero, List.getElem_cons_succ]
            obtain rfl := H.h1 (hw 1 (by simp))
            simp only [frmL, Act.put, List.setIfInBounds_toArray, List.set_cons_zero, List.set_cons_succ]
            have c0 := H.st.gt.c0
            go_simp
            have HN := H
            refine hK.out _ _ ⟨[u14, .pointer (some ⟨w.heap.size, 0, none⟩), .slice (some ⟨p.ba, p.oa, none⟩) p.n p.c, u17, u18, u19, u20, u21, u22, u23, u2, u3], ?_, u14, .pointer (some ⟨w.heap.size, 0, none⟩), .slice (some ⟨p.ba, p.oa, none⟩) p.n p.c, u17, u18, u19, u20, u21, u22, u23, u2, u3, Av, nn, cv, gg, rfl, ?_⟩
            · simp only [frmL, Act.put, List.setIfInBounds_toArray, List.set_cons_zero, List.set_cons_succ]
            · exact ⟨HN.st, fun o => HN.h0 (o.of_set (by decide)), fun o => HN.h1 (o.of_set (by decide)), fun _ => rfl, fun o => HN.h3 (o.of_set (by decide)), fun o => HN.h4 (o.of_set (by decide)), fun o => HN.h5 (o.of_set (by decide)), fun o => HN.h6 (o.of_set (by decide)), fun o => HN.h7 (o.of_set (by decide)), fun o => HN.h8 (o.of_set (by decide)), fun o => HN.h9 (o.of_set (by decide)), fun o => (HN.h10 (o.of_set (by decide))).imp On.old id, fun o => HN.h11 (o.of_set (by decide))⟩
          refine StepsI.cons (i := 3) (ws := [2]) rfl (by kernel_rfl) (fun L a W hI hno hon hw K hK => ?_) ?_
          · obtain ⟨_, rfl, u14, u15, u16, u17, u18, u19, u20, u21, u22, u23, u2, u3, Av, nn, cv, gg, rfl, H⟩ := hI
            simp only [List.getElem_toArray, List.getElem_cons_zero, List.getElem_cons_succ]
            obtain rfl := H.h2 (hw 2 (by simp))
            simp only [frmL, Act.put, List.setIfInBounds_toArray, List.set_cons_zero, List.set_cons_succ]
            go_simp
            have HN := H
            refine hK.out _ _ ⟨[u14, u15, .slice (some ⟨p.ba, p.oa, none⟩) p.n p.c, .int .i64 p.n, u18, u19, u20, u21, u22, u23, u2, u3], ?_, u14, u15, .slice (some ⟨p.ba, p.oa, none⟩) p.n p.c, .int .i64 p.n, u18, u19, u20, u21, u22, u23, u2, u3, Av, nn, cv, gg, rfl, ?_⟩
            · simp only [frmL, Act.put, List.setIfInBounds_toArray, List.set_cons_zero, List.set_cons_succ]
            · exact ⟨HN.st, fun o => HN.h0 (o.of_set (by decide)), fun o => HN.h1 (o.of_set (by decide)), fun o => HN.h2 (o.of_set (by decide)), fun _ => rfl, fun o => HN.h4 (o.of_set (by decide)), fun o => HN.h5 (o.of_set (by decide)), fun o => HN.h6 (o.of_set (by decide)), fun o => HN.h7 (o.of_set (by decide)), fun o => HN.h8 (o.of_set (by decide)), fun o => HN.h9 (o.of_set (by decide)), fun o => (HN.h10 (o.of_set (by decide))).imp On.old id, fun o => HN.h11 (o.of_set (by decide))⟩
          refine StepsI.cons (i := 4) (ws := []) rfl (by kernel_rfl) (fun L a W hI hno hon hw K hK => ?_) ?_
          · obtain ⟨_, rfl, u14, u15, u16, u17, u18, u19, u20, u21, u22, u23, u2, u3, Av, nn, cv, gg, rfl, H⟩ := hI
            simp only [List.getElem_toArray, List.getElem_cons_zero, List.getElem_cons_succ]
            simp only [frmL, Act.put, List.setIfInBounds_toArray, List.set_cons_zero, List.set_cons_succ]
            go_simp
            have HN := H
            refine hK.out _ _ ⟨[u14, u15, u16, u17, .pointer (some ⟨w.heap.size, 0, none⟩), u19, u20, u21, u22, u23, u2, u3], ?_, u14, u15, u16, u17, .pointer (some ⟨w.heap.size, 0, none⟩), u19, u20, u21, u22, u23, u2, u3, Av, nn, cv, gg, rfl, ?_⟩
            · simp only [frmL, Act.put, List.setIfInBounds_toArray, List.set_cons_zero, List.set_cons_succ]
            · exact ⟨HN.st, fun o => HN.h0 (o.of_set (by decide)), fun o => HN.h1 (o.of_set (by decide)), fun o => HN.h2 (o.of_set (by decide)), fun o => HN.h3 (o.of_set (by decide)), fun _ => rfl, fun o => HN.h5 (o.of_set (by decide)), fun o => HN.h6 (o.of_set (by decide)), fun o => HN.h7 (o.of_set (by decide)), fun o => HN.h8 (o.of_set (by decide)), fun o => HN.h9 (o.of_set (by decide)), fun o => (HN.h10 (o.of_set (by decide))).imp On.old id, fun o => HN.h11 (o.of_set (by decide))⟩
          refine StepsI.cons (i := 5) (ws := [4]) rfl (by kernel_rfl) (fun L a W hI hno hon hw K hK => ?_) ?_
          · obtain ⟨_, rfl, u14, u15, u16, u17, u18, u19, u20, u21, u22, u23, u2, u3, Av, nn, cv, gg, rfl, H⟩ := hI
            simp only [List.getElem_toArray, List.getElem_cons_zero, List.getElem_cons_succ]
            obtain rfl := H.h4 (hw 4 (by simp))
            simp only [frmL, Act.put, List.setIfInBounds_toArray, List.set_cons_zero, List.set_cons_succ]
            have c0 := H.st.gt.c0
            go_simp
            have HN := H
            refine hK.out _ _ ⟨[u14, u15, u16, u17, .pointer (some ⟨w.heap.size, 0, none⟩), .slice (some ⟨p.ba, p.oa, none⟩) p.n p.c, u20, u21, u22, u23, u2, u3], ?_, u14, u15, u16, u17, .pointer (some ⟨w.heap.size, 0, none⟩), .slice (some ⟨p.ba, p.oa, none⟩) p.n p.c, u20, u21, u22, u23, u2, u3, Av, nn, cv, gg, rfl, ?_⟩
            · simp only [frmL, Act.put, List.setIfInBounds_toArray, List.set_cons_zero, List.set_cons_succ]
            · exact ⟨HN.st, fun o => HN.h0 (o.of_set (by decide)), fun o => HN.h1 (o.of_set (by decide)), fun o => HN.h2 (o.of_set (by decide)), fun o => HN.h3 (o.of_set (by decide)), fun o => HN.h4 (o.of_set (by decide)), fun _ => rfl, fun o => HN.h6 (o.of_set (by decide)), fun o => HN.h7 (o.of_set (by decide)), fun o => HN.h8 (o.of_set (by decide)), fun o => HN.h9 (o.of_set (by decide)), fun o => (HN.h10 (o.of_set (by decide))).imp On.old id, fun o => HN.h11 (o.of_set (by decide))⟩
          refine StepsI.cons (i := 6) (ws := [5]) rfl (by kernel_rfl) (fun L a W hI hno hon hw K hK => ?_) ?_
          · obtain ⟨_, rfl, u14, u15, u16, u17, u18, u19, u20, u21, u22, u23, u2, u3, Av, nn, cv, gg, rfl, H⟩ := hI
            simp only [List.getElem_toArray, List.getElem_cons_zero, List.getElem_cons_succ]
            obtain rfl := H.h5 (hw 5 (by simp))
            simp only [frmL, Act.put, List.setIfInBounds_toArray, List.set_cons_zero, List.set_cons_succ]
            go_simp
            have HN := H
            refine hK.out _ _ ⟨[u14, u15, u16, u17, u18, .slice (some ⟨p.ba, p.oa, none⟩) p.n p.c, .pointer (some ⟨p.ba, p.oa, none⟩), u21, u22, u23, u2, u3], ?_, u14, u15, u16, u17, u18, .slice (some ⟨p.ba, p.oa, none⟩) p.n p.c, .pointer (some ⟨p.ba, p.oa, none⟩), u21, u22, u23, u2, u3, Av, nn, cv, gg, rfl, ?_⟩
            · simp only [frmL, Act.put, List.setIfInBounds_toArray, List.set_cons_zero, List.set_cons_succ]
            · exact ⟨HN.st, fun o => HN.h0 (o.of_set (by decide)), fun o => HN.h1 (o.of_set (by decide)), fun o => HN.h2 (o.of_set (by decide)), fun o => HN.h3 (o.of_set (by decide)), fun o => HN.h4 (o.of_set (by decide)), fun o => HN.h5 (o.of_set (by decide)), fun _ => rfl, fun o => HN.h7 (o.of_set (by decide)), fun o => HN.h8 (o.of_set (by decide)), fun o => HN.h9 (o.of_set (by decide)), fun o => (HN.h10 (o.of_set (by decide))).imp On.old id, fun o => HN.h11 (o.of_set (by decide))⟩
          refine StepsI.cons (i := 7) (ws := [6]) rfl (by kernel_rfl) (fun L a W hI hno hon hw K hK => ?_) ?_
          · obtain ⟨_, rfl, u14, u15, u16, u17, u18, u19, u20, u21, u22, u23, u2, u3, Av, nn, cv, gg, rfl, H⟩ := hI
            simp only [List.getElem_toArray, List.getElem_cons_zero, List.getElem_cons_succ]
            obtain rfl := H.h6 (hw 6 (by simp))
            simp only [frmL, Act.put, List.setIfInBounds_toArray, List.set_cons_zero, List.set_cons_succ]
            have c0 := H.st.gt.gv.tx.row 0 hn1
            simp only [Nat.add_zero] at c0
            go_simp
            have HN := H
            refine hK.out _ _ ⟨[u14, u15, u16, u17, u18, u19, .pointer (some ⟨p.ba, p.oa, none⟩), .slice (some ⟨p.ra 0, p.pa 0, none⟩) p.m (p.ca 0), u22, u23, u2, u3], ?_, u14, u15, u16, u17, u18, u19, .pointer (some ⟨p.ba, p.oa, none⟩), .slice (some ⟨p.ra 0, p.pa 0, none⟩) p.m (p.ca 0), u22, u23, u2, u3, Av, nn, cv, gg, rfl, ?_⟩
            · simp only [frmL, Act.put, List.setIfInBounds_toArray, List.set_cons_zero, List.set_cons_succ]
            · exact ⟨HN.st, fun o => HN.h0 (o.of_set (by decide)), fun o => HN.h1 (o.of_set (by decide)), fun o => HN.h2 (o.of_set (by decide)), fun o => HN.h3 (o.of_set (by decide)), fun o => HN.h4 (o.of_set (by decide)), fun o => HN.h5 (o.of_set (by decide)), fun o => HN.h6 (o.of_set (by decide)), fun _ => rfl, fun o => HN.h8 (o.of_set (by decide)), fun o => HN.h9 (o.of_set (by decide)), fun o => (HN.h10 (o.of_set (by decide))).imp On.old id, fun o => HN.h11 (o.of_set (by decide))⟩
          refine StepsI.cons (i := 8) (ws := [7]) rfl (by kernel_rfl) (fun L a W hI hno hon hw K hK => ?_) ?_
          · obtain ⟨_, rfl, u14, u15, u16, u17, u18, u19, u20, u21, u22, u23, u2, u3, Av, nn, cv, gg, rfl, H⟩ := hI
            simp only [List.getElem_toArray, List.getElem_cons_zero, List.getElem_cons_succ]
            obtain rfl := H.h7 (hw 7 (by simp))
            simp only [frmL, Act.put, List.setIfInBounds_toArray, List.set_cons_zero, List.set_cons_succ]
            go_simp
            have HN := H
            refine hK.out _ _ ⟨[u14, u15, u16, u17, u18, u19, u20, .slice (some ⟨p.ra 0, p.pa 0, none⟩) p.m (p.ca 0), .int .i64 p.m, u23, u2, u3], ?_, u14, u15, u16, u17, u18, u19, u20, .slice (some ⟨p.ra 0, p.pa 0, none⟩) p.m (p.ca 0), .int .i64 p.m, u23, u2, u3, Av, nn, cv, gg, rfl, ?_⟩
            · simp only [frmL, Act.put, List.setIfInBounds_toArray, List.set_cons_zero, List.set_cons_succ]
            · exact ⟨HN.st, fun o => HN.h0 (o.of_set (by decide)), fun o => HN.h1 (o.of_set (by decide)), fun o => HN.h2 (o.of_set (by decide)), fun o => HN.h3 (o.of_set (by decide)), fun o => HN.h4 (o.of_set (by decide)), fun o => HN.h5 (o.of_set (by decide)), fun o => HN.h6 (o.of_set (by decide)), fun o => HN.h7 (o.of_set (by decide)), fun _ => rfl, fun o => HN.h9 (o.of_set (by decide)), fun o => (HN.h10 (o.of_set (by decide))).imp On.old id, fun o => HN.h11 (o.of_set (by decide))⟩
          refine StepsI.cons (i := 9) (ws := [0, 3, 8]) rfl (by kernel_rfl) (fun L a W hI hno hon hw K hK => ?_) ?_
          · obtain ⟨_, rfl, u14, u15, u16, u17, u18, u19, u20, u21, u22, u23, u2, u3, Av, nn, cv, gg, rfl, H⟩ := hI
            simp only [List.getElem_toArray, List.getElem_cons_zero, List.getElem_cons_succ]
            obtain rfl := H.h0 (hw 0 (by simp))
            obtain rfl := H.h3 (hw 3 (by simp))
            obtain rfl := H.h8 (hw 8 (by simp))
            skip
            simp only [frmL, Act.put, List.setIfInBounds_toArray, List.set_cons_zero, List.set_cons_succ]
            go_simp
            go_wp2_with (go_at_call 62; (with_reducible refine (HTO.out _).mono ?_); rintro e w9 ⟨Av, nn, cv, gg, rfl, hnn, ho, hb⟩; have HNN := Lib.hid hnn; clear hnn)
            have HN := H.up hb
            have hlo := Nat.le_of_lt (blk_lt H.st.gt.box)
            refine hK.out _ _ ⟨[.agg (cs9 F), u15, u16, .int .i64 p.n, u18, u19, u20, u21, .int .i64 p.m, .slice Av nn cv, u2, u3], ?_, .agg (cs9 F), u15, u16, .int .i64 p.n, u18, u19, u20, u21, .int .i64 p.m, .slice Av nn cv, u2, u3, Av, nn, cv, gg, rfl, ?_⟩
            · simp only [frmL, Act.put, List.setIfInBounds_toArray, List.set_cons_zero, List.set_cons_succ]
            · exact ⟨HN.st, fun o => HN.h0 (o.of_set (by decide)), fun o => HN.h1 (o.of_set (by decide)), fun o => HN.h2 (o.of_set (by decide)), fun o => HN.h3 (o.of_set (by decide)), fun o => HN.h4 (o.of_set (by decide)), fun o => HN.h5 (o.of_set (by decide)), fun o => HN.h6 (o.of_set (by decide)), fun o => HN.h7 (o.of_set (by decide)), fun o => HN.h8 (o.of_set (by decide)), fun _ => ⟨rfl, HNN.out, ho.mono hlo (Nat.le_refl _)⟩, fun o => absurd (H.h10 (o.of_set (by decide))).1 hno, fun o => HN.h11 (o.of_set (by decide))⟩
          refine StepsI.cons (i := 10) (ws := [9, 9, 0, 1, 2, 3, 4, 5, 6, 7, 8, 9]) rfl (by kernel_rfl) (fun L a W hI hno hon hw K hK => ?_) ?_
          · obtain ⟨_, rfl, u14, u15, u16, u17, u18, u19, u20, u21, u22, u23, u2, u3, Av, nn, cv, gg, rfl, H⟩ := hI
            simp only [List.getElem_toArray, List.getElem_cons_zero, List.getElem_cons_succ]
            have e9 := (H.h9 (hw 9 (by simp))).1
            subst e9
            simp only [frmL, Act.put, List.setIfInBounds_toArray, List.set_cons_zero, List.set_cons_succ]
            go_simp
            have HN := H
            refine hK.out _ _ ⟨[u14, u15, u16, u17, u18, u19, u20, u21, u22, .slice Av nn cv, .slice Av nn cv, u3], ?_, u14, u15, u16, u17, u18, u19, u20, u21, u22, .slice Av nn cv, .slice Av nn cv, u3, Av, nn, cv, gg, rfl, ?_⟩
            · simp only [frmL, Act.put, List.setIfInBounds_toArray, List.set_cons_zero, List.set_cons_succ]
            · exact ⟨HN.st, fun o => HN.h0 (o.of_set (by decide)), fun o => HN.h1 (o.of_set (by decide)), fun o => HN.h2 (o.of_set (by decide)), fun o => HN.h3 (o.of_set (by decide)), fun o => HN.h4 (o.of_set (by decide)), fun o => HN.h5 (o.of_set (by decide)), fun o => HN.h6 (o.of_set (by decide)), fun o => HN.h7 (o.of_set (by decide)), fun o => HN.h8 (o.of_set (by decide)), fun o => HN.h9 (o.of_set (by decide)), fun _ => ⟨(hw 9 (by simp)).old, rfl⟩, fun o => HN.h11 (o.of_set (by decide))⟩
          refine StepsI.cons (i := 11) (ws := [10, 0, 1, 2, 3, 4, 5, 6, 7, 8, 9, 10]) rfl (by kernel_rfl) (fun L a W hI hno hon hw K hK => ?_) ?_
          · obtain ⟨_, rfl, u14, u15, u16, u17, u18, u19, u20, u21, u22, u23, u2, u3, Av, nn, cv, gg, rfl, H⟩ := hI
            simp only [List.getElem_toArray, List.getElem_cons_zero, List.getElem_cons_succ]
            simp only [frmL, Act.put, List.setIfInBounds_toArray, List.set_cons_zero, List.set_cons_succ]
            go_simp
            have HN := H
            refine hK.out _ _ ⟨[u14, u15, u16, u17, u18, u19, u20, u21, u22, u23, u2, .bool true], ?_, u14, u15, u16, u17, u18, u19, u20, u21, u22, u23, u2, .bool true, Av, nn, cv, gg, rfl, ?_⟩
            · simp only [frmL, Act.put, List.setIfInBounds_toArray, List.set_cons_zero, List.set_cons_succ]
            · exact ⟨HN.st, fun o => HN.h0 (o.of_set (by decide)), fun o => HN.h1 (o.of_set (by decide)), fun o => HN.h2 (o.of_set (by decide)), fun o => HN.h3 (o.of_set (by decide)), fun o => HN.h4 (o.of_set (by decide)), fun o => HN.h5 (o.of_set (by decide)), fun o => HN.h6 (o.of_set (by decide)), fun o => HN.h7 (o.of_set (by decide)), fun o => HN.h8 (o.of_set (by decide)), fun o => HN.h9 (o.of_set (by decide)), fun o => (HN.h10 (o.of_set (by decide))).imp On.old id, fun _ => rfl⟩
          exact StepsI.nil
        · rintro L us W hL ⟨u14, u15, u16, u17, u18, u19, u20, u21, u22, u23, u2, u3, Av, nn, cv, gg, rfl, H⟩
          obtain ⟨e9, hnn, ho⟩ := H.h9 (hL 9 (by decide))
          obtain ⟨_, rfl⟩ := H.h10 (hL 10 (by decide))
          obtain rfl := H.h11 (hL 11 (by decide))
          simp only [frmL, Act.put, List.setIfInBounds_toArray, List.set_cons_zero, List.set_cons_succ]
          have HO := Lib.hid ho
          have HNN := Lib.hid hnn
          have HB := Lib.hid H.st.gt.below
          clear H hL ho hnn e9 HS
          go_wp2
          go_ret2
          exact ⟨Av, nn, cv, gg, by rw [HPP.out]; rfl, by rw [HR.out]; exact HNN.out, by rw [HR.out]; exact HO.out, HB.out⟩
      · have hbb : bq = false := by rw [← HBV.out, pb_false (fun h => hp (HIFF.out.1 h))]
        have HNO := Lib.hid (show potF xs ys = [] ∧ pb (PotP xs ys) = false from ⟨potF_no hp, pb_false hp⟩)
        subst hbb
        have HB := Lib.hid HS.out.gt.below
        clear hp HRES HIFF HBV HS
        go_wp2
        go_ret2
        exact ⟨none, 0, 0, 0, by rw [HNO.out.2]; rfl, by rw [HNO.out.1]; rfl, by rw [HNO.out.1]; exact OwnR.nil _ _ _ _, HB.out⟩
  · have HNO := Lib.hid (show potF xs ys = [] ∧ pb (PotP xs ys) = false from (fun h : ¬ PotP xs ys => ⟨potF_no h, pb_false h⟩) (fun k => hv k.v))
    refine ((pb_false hv) ▸ HC.out).mono ?_
    rintro e w1 ⟨rfl, hb⟩
    have hb2 := Lib.hid (below_up HB.out hb)
    clear hb HC HX HY HX0 HY0 HB HK z0 z1 hv
    go_wp2
    go_ret2
    exact ⟨none, 0, 0, 0, by rw [HNO.out.2]; rfl, by rw [HNO.out.1]; rfl, by rw [HNO.out.1]; exact OwnR.nil _ _ _ _, hb2.out⟩

end Go.Proofs.Ytbpjblefmammcaa

