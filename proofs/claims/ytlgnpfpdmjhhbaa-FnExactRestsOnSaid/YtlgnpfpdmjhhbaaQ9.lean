/- Texts merged: CO K7. -/
import Derived.Test.YtlgnpfpdmjhhbaaQ8
import Derived.Laws.Tables
import Derived.Laws.Rows
/- A table as an array, by the program. -/
namespace Go.Proofs.Ytlgnpfpdmjhhbaa
open Go.RowKit

theorem blk_row {w g t cs} (h : Blk w g t cs) (c : Array Value) : Blk (w.setRow g c) g t c := setRow_heap w g cs c t (0, 0) h
theorem row_other (w : World) (g k : Nat) (c : Array Value) (h : k ≠ g) : (w.setRow g c).heap[k]? = w.heap[k]? := by
  simp only [World.setRow, Array.getElem?_modify, if_neg (Ne.symm h)]
theorem blk_row_other {w g k t cs} (h : Blk w k t cs) (c : Array Value) (hne : k ≠ g) : Blk (w.setRow g c) k t cs := (row_other w g k c hne).trans h
theorem below_row {B : Nat} {a w : World} (h : Below B a w) {g : Nat} (hg : B ≤ g) (c : Array Value) : Below B a (w.setRow g c) :=
  ⟨h.os, h.tape, h.output, by simpa [World.setRow] using h.size, fun k hk => (row_other w g k c (by omega)).trans (h.block k hk)⟩

/-- A table on its way into an array: the result's box, and the variable. -/
structure CW (a : List (List Int)) (m : Nat) (w : World) (i j : Nat) (W : World) : Prop where
  box : Blk W w.heap.size 66 (cs9 fun _ _ => 0)
  var : Blk W (w.heap.size + 1) 66 (cs9 (part9 a m i j))
  below : Below w.heap.size w W
theorem CW.start (a : List (List Int)) (m : Nat) (w : World) : CW a m w 0 0 ((w.alloc (.cells (cs9 fun _ _ => 0) 66)).alloc (.cells (cs9 fun _ _ => 0) 66)) :=
  ⟨blk_old (blk_new _ _ _) _, by rw [part9_zero]; have := blk_new (w.alloc (.cells (cs9 fun _ _ => 0) 66)) 66 (cs9 fun _ _ => 0); rw [World.size_alloc] at this; exact this, below_up (below_alloc _ _) (below_alloc _ _)⟩
theorem CW.put {a m w i j W} (h : CW a m w i j W) (hi : i < 3) (hj : j < m) (hm : m ≤ 3) : CW a m w i (j + 1) (W.setCell ⟨w.heap.size + 1, i * 3 + j, none⟩ (.int .i64 (g2 a i j))) :=
  ⟨blk_other h.box (by show w.heap.size ≠ w.heap.size + 1; omega) _, by have := blk_set h.var (i * 3 + j) (.int .i64 (g2 a i j)); rw [cs9_set _ hi (by omega), part9_next a m i j hj] at this; exact this, h.below.setCell (by show w.heap.size ≤ w.heap.size + 1; omega) _⟩
theorem CW.row {a m w i W} (h : CW a m w i m W) : CW a m w (i + 1) 0 W := ⟨h.box, by rw [← part9_row]; exact h.var, h.below⟩
theorem CW.keep {a m w i j W} (h : CW a m w i j W) : Keep w W := Keep.below h.below

set_option maxRecDepth 100000 in
set_option maxHeartbeats 3200000 in
theorem cellsOf_any (b o : Nat) (rb ro cc : Nat → Nat) (n m c : Nat) (a : List (List Int)) (w : World) (ht : Tab w b o rb ro cc n m a) :
    Calls Try.prog 75 #[.slice (some ⟨b, o, none⟩) n c] w (Ret (.agg (cs9 (full9 a n m))) w) := by
  have HT := Lib.hid ht
  have hn1 := ht.n1
  have hn3 := ht.n3
  have hm1 := ht.m1
  have hm3 := ht.m3
  have HS := Lib.hid (CW.start a m w)
  clear ht
  go_enter Try.func75, Try.ntmps75
  go_wp2
  go_loopw [10] (fun i_ wr => ∃ i : Nat, i ≤ n ∧ i_ = .int .i64 i ∧ Hid (CW a m w i 0 wr)) (fun i_ _ => n - (intOf i_).toNat)
  case atStart => exact ⟨0, Nat.zero_le _, rfl, HS⟩
  case round =>
    clear HS
    obtain ⟨i, hi, rfl, HC⟩ := hrel
    by_cases hlt : i < n
    · have c1 := HC.out.keep _ _ (HT.out.row i hlt)
      go_wp2
      clear c1
      go_loopw [17] (fun j_ wi => ∃ j : Nat, j ≤ m ∧ j_ = .int .i64 j ∧ Hid (CW a m w i j wi)) (fun j_ _ => m - (intOf j_).toNat)
      case atStart => exact ⟨0, Nat.zero_le _, rfl, HC⟩
      case round =>
        clear HC
        obtain ⟨j, hj, rfl, HC⟩ := hrel
        by_cases hjl : j < m
        · have c2 := HC.out.keep _ _ (HT.out.cell i j hlt hjl)
          have c3 := blk_cell HC.out.var (cs9_get _ (by omega : i < 3) (by omega : j < 3))
          have c4 := blk_frozen HC.out.var (i * 3 + j)
          have HN := Lib.hid (HC.out.put (by omega) hjl hm3)
          have hi3 : (i : Int) < 3 := by omega
          have hj3 : (j : Int) < 3 := by omega
          generalize g2 a i j = x at *
          go_wp2
          clear c2 c3 c4
          go_roundw
          case rel => exact ⟨j + 1, by omega, by go_num, HN⟩
          case measure => simp [intOf]; omega
        · obtain rfl : j = m := by omega
          have HN := Lib.hid HC.out.row
          go_wp2
          go_roundw
          case rel => exact ⟨i + 1, by omega, by go_num, HN⟩
          case measure => simp [intOf]; omega
    · obtain rfl : i = n := by omega
      have HV := Lib.hid (show Blk wr (w.heap.size + 1) 66 (cs9 (full9 a i m)) by rw [← part9_all]; exact HC.out.var)
      have HX := Lib.hid HC.out.box
      have HB := Lib.hid HC.out.below
      clear HC
      generalize full9 a i m = F at *
      generalize wr = W0 at *
      have HSZ : Hid ((Try.prog.info? 66).map (·.size) = some (cs9 F).size) := Lib.hid (by show _ = some 9; kernel_rfl)
      have HS1 : Hid ((cs9 F).all (·.oneCell') = true) := Lib.hid (by simp [cs9, Value.oneCell'])
      go_wp2_with (first | (refine wpList_load_row rfl 66 _ rfl (w.heap.size + 1) rfl 66 (cs9 F) (0, 0) _ HV.out und_cells rfl HSZ.out ?_) | (refine wpList_store_row rfl 66 _ _ rfl w.heap.size (cs9 F) rfl rfl 66 _ HX.out HSZ.out rfl HS1.out ?_))
      have BB := Lib.hid (blk_row HX.out (cs9 F))
      have HBX := Lib.hid (below_row HB.out (g := w.heap.size) (Nat.le_refl _) (cs9 F))
      clear HX HV HB
      generalize W0.setRow w.heap.size (cs9 F) = W9 at *
      refine bodyPost_ret (v := .agg (cs9 F)) (results_cell_row (by rfl) _ _ w.heap.size 66 (cs9 F) (0, 0) _ (by rfl) BB.out und_cells rfl HSZ.out) rfl ?_
      exact ⟨rfl, HBX.out⟩
end Go.Proofs.Ytlgnpfpdmjhhbaa

/- Even tables, by both programs. -/
namespace Go.Proofs.Ytlgnpfpdmjhhbaa
open Go.RowKit

theorem VQ.len2 {a : List (List Int)} {n : Nat} (v : VQ a) (hl : a.length = n) : (gr a 0).length = n := by have := v.2; omega
/-- A square that is the same with rows as columns. -/
structure EvP (a : List (List Int)) : Prop where
  q : VQ a
  e : ∀ i j, i < a.length → j < a.length → g2 a i j = g2 a j i

set_option maxRecDepth 100000 in
set_option maxHeartbeats 1600000 in
theorem IsEven_spec (A : Option Addr) (n c : Nat) (a : List (List Int)) (w : World) (hx : IntRows w A n c a) :
    Calls Try.prog 34 #[.slice A n c] w (Ret (.bool (pb (EvP a))) w) := by
  have HX := Lib.hid hx
  have hl := hx.len
  clear hx
  by_cases hv : VQ a
  · have HC := Lib.hid (pb_true hv ▸ validSquare_any A n c a w HX.out)
    have hm : (gr a 0).length = n := by have := hv.2; omega
    have hn3 := hv.1.n3
    rw [hl] at hn3
    obtain ⟨b, o, rb, ro, cc, rfl, tab⟩ := HX.out.tab hv.1
    rw [hm] at tab
    have HT := Lib.hid tab
    have HV := Lib.hid hv
    have HL := Lib.hid hl
    clear tab hm hv hl
    go_enter Try.func34, Try.ntmps34
    go_wp2_with fail
    refine HC.out.mono ?_
    rintro e w1 ⟨rfl, hq⟩
    have HQ1 := Lib.hid hq
    clear hq HC
    go_wp2
    go_loopw [3] (fun i_ wr => ∃ i : Nat, i ≤ n ∧ i_ = .int .i64 i ∧ Hid (∀ k j, k < i → j < k → g2 a k j = g2 a j k) ∧ Hid (Quiet w wr)) (fun i_ _ => n - (intOf i_).toNat)
    case atStart => exact ⟨0, Nat.zero_le _, rfl, Lib.hid (fun _ _ h => absurd h (by omega)), HQ1⟩
    case round =>
      clear HQ1
      obtain ⟨i, hi, rfl, HALL, HQ⟩ := hrel
      by_cases hlt : i < n
      · go_wp2
        go_loopw [4] (fun j_ wi => ∃ j : Nat, j ≤ i ∧ j_ = .int .i64 j ∧ Hid (∀ l, l < j → g2 a i l = g2 a l i) ∧ Hid (Quiet w wi)) (fun j_ _ => i - (intOf j_).toNat)
        case atStart => exact ⟨0, Nat.zero_le _, rfl, Lib.hid (fun _ h => absurd h (by omega)), HQ⟩
        case round =>
          clear HQ
          obtain ⟨j, hj, rfl, HROW, HQ⟩ := hrel
          by_cases hjl : j < i
          · have hjn : j < n := by omega
            have c1 := Keep.quiet HQ.out _ _ (HT.out.row i hlt)
            have c2 := Keep.quiet HQ.out _ _ (HT.out.cell i j hlt hjn)
            have c3 := Keep.quiet HQ.out _ _ (HT.out.row j hjn)
            have c4 := Keep.quiet HQ.out _ _ (HT.out.cell j i hjn hlt)
            by_cases hp : g2 a i j = g2 a j i
            · have HN := Lib.hid (show ∀ l, l < j + 1 → g2 a i l = g2 a l i from fun l hl => by
                by_cases e : l = j
                · subst e; exact hp
                · exact HROW.out l (by omega))
              have hne : (g2 a i j != g2 a j i) = false := by simpa using hp
              clear hp
              generalize g2 a i j = x at *
              generalize g2 a j i = y at *
              go_wp2_with fail
              go_quiet (fail)
              go_wp2
              go_roundw
              case rel => exact ⟨j + 1, by omega, by go_num, HN, Lib.hid (HQ.out.trans ⟨_, rfl⟩)⟩
              case measure => simp [intOf]; omega
            · have HN := Lib.hid (pb_false (p := EvP a) (fun h => hp (h.e i j (by rw [HL.out]; exact hlt) (by rw [HL.out]; exact hjn))))
              have hne : (g2 a i j != g2 a j i) = true := by simpa using hp
              clear hp
              generalize g2 a i j = x at *
              generalize g2 a j i = y at *
              go_wp2_with fail
              go_quiet (fail)
              go_wp2
              go_ret
              exact ⟨ret_bool HN.out.symm, (HQ.out.trans ⟨_, rfl⟩).below⟩
          · obtain rfl : j = i := by omega
            have HN := Lib.hid (show ∀ k l, k < j + 1 → l < k → g2 a k l = g2 a l k from fun k l hk hl => by
                by_cases e : k = j
                · subst e; exact HROW.out l hl
                · exact HALL.out k l (by omega) hl)
            go_wp2
            go_roundw
            case rel => exact ⟨j + 1, by omega, by go_num, HN, HQ⟩
            case measure => simp [intOf]; omega
      · obtain rfl : i = n := by omega
        have HN := Lib.hid (pb_true (p := EvP a) ⟨HV.out, fun k j hk hj => by
          rw [HL.out] at hk hj
          rcases Nat.lt_trichotomy j k with h | h | h
          · exact HALL.out k j hk h
          · rw [h]
          · exact (HALL.out j k hj h).symm⟩)
        go_wp2
        go_ret
        exact ⟨ret_bool HN.out.symm, HQ.out.below⟩
  · have HC := Lib.hid (pb_false hv ▸ validSquare_any A n c a w HX.out)
    have HN := Lib.hid (pb_false (p := EvP a) (fun h => hv h.q))
    clear hv hl
    go_enter Try.func34, Try.ntmps34
    go_wp2_with fail
    refine HC.out.mono ?_
    rintro e w1 ⟨rfl, hq⟩
    go_wp2
    go_ret
    exact ⟨ret_bool HN.out.symm, hq.below⟩

theorem g2_flipT {a : List (List Int)} {n m i j : Nat} (hi : i < m) (hj : j < n) : g2 (flip a n m) i j = g2 a j i := by
  unfold g2
  rw [gr_flip hi, gi_col hj]
  rfl

/-- The table is even just if the arrays of it and it turned are the same. -/
theorem even_cells {a : List (List Int)} (v : VQ a) : EvP a ↔ cs9 (full9 a a.length a.length) = cs9 (full9 (flip a a.length a.length) a.length a.length) := by
  constructor
  · intro h
    refine cs9_congr fun r c _ _ => ?_
    unfold full9
    by_cases e : r < a.length ∧ c < a.length
    · rw [if_pos e, if_pos e, g2_flipT e.1 e.2]; exact h.e r c e.1 e.2
    · rw [if_neg e, if_neg e]
  · intro h
    refine ⟨v, fun i j hi hj => ?_⟩
    have h3 := v.1.n3
    have e1 := cs9_get (full9 a a.length a.length) (i := i) (j := j) (by omega) (by omega)
    have e2 := cs9_get (full9 (flip a a.length a.length) a.length a.length) (i := i) (j := j) (by omega) (by omega)
    rw [h, e2] at e1
    injection e1 with e1
    injection e1 with _ e1
    unfold full9 at e1
    rw [if_pos ⟨hi, hj⟩, if_pos ⟨hi, hj⟩, g2_flipT hi hj] at e1
    exact e1.symm

set_option maxRecDepth 100000 in
set_option maxHeartbeats 1600000 in
theorem IsEven_impl (A : Option Addr) (n c : Nat) (a : List (List Int)) (w : World) (hx : IntRows w A n c a) :
    Calls Try.prog 35 #[.slice A n c] w (Ret (.bool (pb (EvP a))) w) := by
  have HX := Lib.hid hx
  have hl := hx.len
  clear hx
  by_cases hv : VQ a
  · have HC := Lib.hid (pb_true hv ▸ ValidSquare_impl A n c a w HX.out)
    have hm : (gr a 0).length = n := by have := hv.2; omega
    obtain ⟨b, o, rb, ro, cc, rfl, tab⟩ := HX.out.tab hv.1
    rw [hm] at tab
    have HT := Lib.hid tab
    have HEC := Lib.hid (by have := even_cells hv; rw [hl] at this; exact this)
    have HVF := Lib.hid hv
    clear tab hm
    go_enter Try.func35, Try.ntmps35
    go_wp2_with fail
    refine HC.out.mono ?_
    rintro e w1 ⟨rfl, hq⟩
    have HB1 := Lib.hid (show Below w.heap.size w w1 from hq.below)
    clear hq HC
    have HC := Lib.hid (cellsOf_any b o rb ro cc n n c a w1 (HT.out.keep (Keep.below HB1.out)))
    go_wp2_with fail
    refine HC.out.mono ?_
    rintro e w2 ⟨rfl, hb⟩
    have HB2 := Lib.hid (below_up HB1.out hb)
    clear hb HC HB1
    have HC := Lib.hid (turned_any b o rb ro cc n n c a w2 (HT.out.keep (Keep.below HB2.out)))
    go_wp2_with fail
    refine HC.out.mono ?_
    rintro e w3 ⟨rfl, ho, hb, -⟩
    have HB3 := Lib.hid (below_up HB2.out hb)
    have hvf := HVF.out.1.flip
    rw [hl, HVF.out.len2 hl] at hvf
    obtain ⟨b2, o2, rb2, ro2, cc2, e2, t2⟩ := ho.rows.tab hvf
    injection e2 with e2
    injection e2 with e3 e4
    subst e3
    subst e4
    have hm2 : (gr (flip a n n) 0).length = n := by have := HT.out.n1; rw [gr_flip (by omega)]; simp
    rw [hm2] at t2
    have HT2 := Lib.hid t2
    clear ho hb HC HB2 hvf t2 hm2
    have HC := Lib.hid (cellsOf_any _ _ rb2 ro2 cc2 n n n (flip a n n) w3 HT2.out)
    have heq := fun W => eq9_op (full9 a n n) (full9 (flip a n n) n n) W
    have hg : Try.prog.eqGuardType Try.prog.depth 66 = false := by kernel_rfl
    by_cases he : EvP a
    · have HN := Lib.hid (pb_true he)
      rw [pb_true (HEC.out.1 he)] at heq
      clear he hv hl
      generalize full9 a n n = F at *
      generalize full9 (flip a n n) n n = G at *
      go_wp2_with fail
      refine HC.out.mono ?_
      rintro e w4 ⟨rfl, hb⟩
      have HB4 := Lib.hid (below_up HB3.out hb)
      clear hb HC HB3
      go_wp2
      go_ret
      exact ⟨ret_bool HN.out.symm, HB4.out⟩
    · have HN := Lib.hid (pb_false he)
      rw [pb_false (fun h => he (HEC.out.2 h))] at heq
      clear he hv hl
      generalize full9 a n n = F at *
      generalize full9 (flip a n n) n n = G at *
      go_wp2_with fail
      refine HC.out.mono ?_
      rintro e w4 ⟨rfl, hb⟩
      have HB4 := Lib.hid (below_up HB3.out hb)
      clear hb HC HB3
      go_wp2
      go_ret
      exact ⟨ret_bool HN.out.symm, HB4.out⟩
  · have HC := Lib.hid (pb_false hv ▸ ValidSquare_impl A n c a w HX.out)
    have HN := Lib.hid (pb_false (p := EvP a) (fun h => hv h.q))
    clear hv hl
    go_enter Try.func35, Try.ntmps35
    go_wp2_with fail
    refine HC.out.mono ?_
    rintro e w1 ⟨rfl, hq⟩
    go_wp2
    go_ret
    exact ⟨ret_bool HN.out.symm, hq.below⟩
end Go.Proofs.Ytlgnpfpdmjhhbaa

