/- Texts merged: CO Z1 K7 Y3 G1 G2 G7 G7b H1 Math9 V1 V2 V3 V4 V5. -/
import Derived.Test.YtmhknknapciebaaQ5
import Derived.Laws.Tables
import Derived.Laws.Rows
/- A table as an array, by the program. -/
namespace Go.Proofs.Ytmhknknapciebaa
open Go.RowKit

theorem blk_row {w g t cs} (h : Blk w g t cs) (c : Array Value) : Blk (w.setRow g c) g t c := setRow_heap w g cs c t (0, 0) h
theorem row_other (w : World) (g k : Nat) (c : Array Value) (h : k ≠ g) : (w.setRow g c).heap[k]? = w.heap[k]? := by
  simp only [World.setRow, Array.getElem?_modify, if_neg (Ne.symm h)]
theorem blk_row_other {w g k t cs} (h : Blk w k t cs) (c : Array Value) (hne : k ≠ g) : Blk (w.setRow g c) k t cs := (row_other w g k c hne).trans h
theorem below_row {B : Nat} {a w : World} (h : Below B a w) {g : Nat} (hg : B ≤ g) (c : Array Value) : Below B a (w.setRow g c) :=
  ⟨h.os, h.tape, h.output, by simpa [World.setRow] using h.size, fun k hk => (row_other w g k c (by omega)).trans (h.block k hk)⟩

/-- A table on its way into an array: the result's box, and the variable. -/
structure CW (a : List (List Int)) (m : Nat) (w : World) (i j : Nat) (W : World) : Prop where
  box : Blk W w.heap.size 65 (cs9 fun _ _ => 0)
  var : Blk W (w.heap.size + 1) 65 (cs9 (part9 a m i j))
  below : Below w.heap.size w W
theorem CW.start (a : List (List Int)) (m : Nat) (w : World) : CW a m w 0 0 ((w.alloc (.cells (cs9 fun _ _ => 0) 65)).alloc (.cells (cs9 fun _ _ => 0) 65)) :=
  ⟨blk_old (blk_new _ _ _) _, by rw [part9_zero]; have := blk_new (w.alloc (.cells (cs9 fun _ _ => 0) 65)) 65 (cs9 fun _ _ => 0); rw [World.size_alloc] at this; exact this, below_up (below_alloc _ _) (below_alloc _ _)⟩
theorem CW.put {a m w i j W} (h : CW a m w i j W) (hi : i < 3) (hj : j < m) (hm : m ≤ 3) : CW a m w i (j + 1) (W.setCell ⟨w.heap.size + 1, i * 3 + j, none⟩ (.int .i64 (g2 a i j))) :=
  ⟨blk_other h.box (by show w.heap.size ≠ w.heap.size + 1; omega) _, by have := blk_set h.var (i * 3 + j) (.int .i64 (g2 a i j)); rw [cs9_set _ hi (by omega), part9_next a m i j hj] at this; exact this, h.below.setCell (by show w.heap.size ≤ w.heap.size + 1; omega) _⟩
theorem CW.row {a m w i W} (h : CW a m w i m W) : CW a m w (i + 1) 0 W := ⟨h.box, by rw [← part9_row]; exact h.var, h.below⟩
theorem CW.keep {a m w i j W} (h : CW a m w i j W) : Keep w W := Keep.below h.below

set_option maxRecDepth 100000 in
set_option maxHeartbeats 3200000 in
theorem cellsOf_any (b o : Nat) (rb ro cc : Nat → Nat) (n m c : Nat) (a : List (List Int)) (w : World) (ht : Tab w b o rb ro cc n m a) :
    Calls Try.prog 73 #[.slice (some ⟨b, o, none⟩) n c] w (Ret (.agg (cs9 (full9 a n m))) w) := by
  have HT := Lib.hid ht
  have hn1 := ht.n1
  have hn3 := ht.n3
  have hm1 := ht.m1
  have hm3 := ht.m3
  have HS := Lib.hid (CW.start a m w)
  clear ht
  go_enter Try.func73, Try.ntmps73
  go_wp2
  go_loopw [10] (fun i_ wr => ∃ i : Nat, i ≤ n ∧ i_ = .int .i64 i ∧ Hid (CW a m w i 0 wr)) (fun i_ _ => n - (intOf i_).toNat)
  case atStart => exact ⟨0, Nat.zero_le _, rfl, HS⟩
  case round =>
    clear HS
    obtain ⟨i, hi, rfl, HC⟩ := hrel
    by_cases hlt : i < n
    · have c1 := HC.out.keep _ _ (HT.out.row i hlt)
      go_wp2
      clear c1
      go_loopw [17] (fun j_ wi => ∃ j : Nat, j ≤ m ∧ j_ = .int .i64 j ∧ Hid (CW a m w i j wi)) (fun j_ _ => m - (intOf j_).toNat)
      case atStart => exact ⟨0, Nat.zero_le _, rfl, HC⟩
      case round =>
        clear HC
        obtain ⟨j, hj, rfl, HC⟩ := hrel
        by_cases hjl : j < m
        · have c2 := HC.out.keep _ _ (HT.out.cell i j hlt hjl)
          have c3 := blk_cell HC.out.var (cs9_get _ (by omega : i < 3) (by omega : j < 3))
          have c4 := blk_frozen HC.out.var (i * 3 + j)
          have HN := Lib.hid (HC.out.put (by omega) hjl hm3)
          have hi3 : (i : Int) < 3 := by omega
          have hj3 : (j : Int) < 3 := by omega
          generalize g2 a i j = x at *
          go_wp2
          clear c2 c3 c4
          go_roundw
          case rel => exact ⟨j + 1, by omega, by go_num, HN⟩
          case measure => simp [intOf]; omega
        · obtain rfl : j = m := by omega
          have HN := Lib.hid HC.out.row
          go_wp2
          go_roundw
          case rel => exact ⟨i + 1, by omega, by go_num, HN⟩
          case measure => simp [intOf]; omega
    · obtain rfl : i = n := by omega
      have HV := Lib.hid (show Blk wr (w.heap.size + 1) 65 (cs9 (full9 a i m)) by rw [← part9_all]; exact HC.out.var)
      have HX := Lib.hid HC.out.box
      have HB := Lib.hid HC.out.below
      clear HC
      generalize full9 a i m = F at *
      generalize wr = W0 at *
      have HSZ : Hid ((Try.prog.info? 65).map (·.size) = some (cs9 F).size) := Lib.hid (by show _ = some 9; kernel_rfl)
      have HS1 : Hid ((cs9 F).all (·.oneCell') = true) := Lib.hid (by simp [cs9, Value.oneCell'])
      go_wp2_with (first | (refine wpList_load_row rfl 65 _ rfl (w.heap.size + 1) rfl 65 (cs9 F) (0, 0) _ HV.out und_cells rfl HSZ.out ?_) | (refine wpList_store_row rfl 65 _ _ rfl w.heap.size (cs9 F) rfl rfl 65 _ HX.out HSZ.out rfl HS1.out ?_))
      have BB := Lib.hid (blk_row HX.out (cs9 F))
      have HBX := Lib.hid (below_row HB.out (g := w.heap.size) (Nat.le_refl _) (cs9 F))
      clear HX HV HB
      generalize W0.setRow w.heap.size (cs9 F) = W9 at *
      refine bodyPost_ret (v := .agg (cs9 F)) (results_cell_row (by rfl) _ _ w.heap.size 65 (cs9 F) (0, 0) _ (by rfl) BB.out und_cells rfl HSZ.out) rfl ?_
      exact ⟨rfl, HBX.out⟩
end Go.Proofs.Ytmhknknapciebaa

/- Squares, by both programs. -/
namespace Go.Proofs.Ytmhknknapciebaa
open Go.RowKit

/-- A valid table with as many rows as columns. -/
def VQ (a : List (List Int)) : Prop := VT a ∧ a.length = (gr a 0).length

set_option maxHeartbeats 400000 in
theorem validSquare_any (A : Option Addr) (n c : Nat) (a : List (List Int)) (w : World) (hx : IntRows w A n c a) :
    Calls Try.prog 68 #[.slice A n c] w fun e w' => e = .returned (.bool (pb (VQ a))) ∧ Quiet w w' := by
  have hl := hx.len
  by_cases hv : VT a
  · have h1 := hv.n1
    obtain ⟨b, o, rfl, hc⟩ := hx.at_ (by omega)
    obtain ⟨R, cc, h0, -⟩ := hc 0 (by omega)
    simp only [Nat.add_zero] at h0
    have H0 := Lib.hid h0
    have HC := Lib.hid (pb_true hv ▸ validTable_any _ n c a w hx)
    have hn : 0 < n := by omega
    by_cases hs : a.length = (gr a 0).length
    · rw [pb_true (p := VQ a) ⟨hv, hs⟩]
      have hm : (gr a 0).length = n := by omega
      rw [hm] at H0
      clear hm hs hc h0 hv hx h1 hl
      go_enter Try.func68, Try.ntmps68
      go_wp2_with fail
      refine HC.out.mono ?_
      rintro e w1 ⟨rfl, hq⟩
      have h0 := Keep.quiet hq _ _ H0.out
      go_wp2
      go_ret
      exact ⟨rfl, hq⟩
    · rw [pb_false (p := VQ a) (fun h => hs h.2)]
      have hm : ¬ n = (gr a 0).length := by omega
      clear hs hc h0 hv hx h1 hl
      generalize (gr a 0).length = m at *
      have hz : ((n : Int) == (m : Int)) = false := by rw [beq_eq_false_iff_ne]; omega
      go_enter Try.func68, Try.ntmps68
      go_wp2_with fail
      refine HC.out.mono ?_
      rintro e w1 ⟨rfl, hq⟩
      have h0 := Keep.quiet hq _ _ H0.out
      go_wp2
      go_ret
      exact ⟨rfl, hq⟩
  · rw [pb_false (p := VQ a) (fun h => hv h.1)]
    have HC := Lib.hid (pb_false hv ▸ validTable_any A n c a w hx)
    clear hv hx hl
    go_enter Try.func68, Try.ntmps68
    go_wp2_with fail
    refine HC.out.mono ?_
    rintro e w1 ⟨rfl, hq⟩
    go_wp2
    go_ret
    exact ⟨rfl, hq⟩

theorem ValidSquare_spec (A : Option Addr) (n c : Nat) (a : List (List Int)) (w : World) (hx : IntRows w A n c a) :
    Calls Try.prog 27 #[.slice A n c] w fun e w' => e = .returned (.bool (pb (VQ a))) ∧ Quiet w w' := by
  go_enter Try.func27, Try.ntmps27
  go_wp2_with fail
  refine (validSquare_any A n c a w hx).mono ?_
  rintro e w1 ⟨rfl, hq⟩
  go_wp2
  go_ret
  exact ⟨rfl, hq⟩

set_option maxHeartbeats 400000 in
theorem ValidSquare_impl (A : Option Addr) (n c : Nat) (a : List (List Int)) (w : World) (hx : IntRows w A n c a) :
    Calls Try.prog 26 #[.slice A n c] w fun e w' => e = .returned (.bool (pb (VQ a))) ∧ Quiet w w' := by
  have hl := hx.len
  by_cases hv : VT a
  · have h1 := hv.n1
    obtain ⟨b, o, rfl, hc⟩ := hx.at_ (by omega)
    obtain ⟨R, cc, h0, -⟩ := hc 0 (by omega)
    simp only [Nat.add_zero] at h0
    have H0 := Lib.hid h0
    have HC := Lib.hid (pb_true hv ▸ ValidTable_impl _ n c a w hx)
    have hn : 0 < n := by omega
    by_cases hs : a.length = (gr a 0).length
    · rw [pb_true (p := VQ a) ⟨hv, hs⟩]
      have hm : (gr a 0).length = n := by omega
      rw [hm] at H0
      clear hm hs hc h0 hv hx h1 hl
      go_enter Try.func26, Try.ntmps26
      go_wp2_with fail
      refine HC.out.mono ?_
      rintro e w1 ⟨rfl, hq⟩
      have h0 := Keep.quiet hq _ _ H0.out
      go_wp2
      go_ret
      exact ⟨rfl, hq⟩
    · rw [pb_false (p := VQ a) (fun h => hs h.2)]
      have hm : ¬ n = (gr a 0).length := by omega
      clear hs hc h0 hv hx h1 hl
      generalize (gr a 0).length = m at *
      have hz : ((n : Int) == (m : Int)) = false := by rw [beq_eq_false_iff_ne]; omega
      go_enter Try.func26, Try.ntmps26
      go_wp2_with fail
      refine HC.out.mono ?_
      rintro e w1 ⟨rfl, hq⟩
      have h0 := Keep.quiet hq _ _ H0.out
      go_wp2
      go_ret
      exact ⟨rfl, hq⟩
  · rw [pb_false (p := VQ a) (fun h => hv h.1)]
    have HC := Lib.hid (pb_false hv ▸ ValidTable_impl A n c a w hx)
    clear hv hx hl
    go_enter Try.func26, Try.ntmps26
    go_wp2_with fail
    refine HC.out.mono ?_
    rintro e w1 ⟨rfl, hq⟩
    go_wp2
    go_ret
    exact ⟨rfl, hq⟩
end Go.Proofs.Ytmhknknapciebaa

/- Even tables, by both programs. -/
namespace Go.Proofs.Ytmhknknapciebaa
open Go.RowKit

theorem VQ.len2 {a : List (List Int)} {n : Nat} (v : VQ a) (hl : a.length = n) : (gr a 0).length = n := by have := v.2; omega
/-- A square that is the same with rows as columns. -/
structure EvP (a : List (List Int)) : Prop where
  q : VQ a
  e : ∀ i j, i < a.length → j < a.length → g2 a i j = g2 a j i

set_option maxRecDepth 100000 in
set_option maxHeartbeats 1600000 in
theorem IsEven_spec (A : Option Addr) (n c : Nat) (a : List (List Int)) (w : World) (hx : IntRows w A n c a) :
    Calls Try.prog 34 #[.slice A n c] w (Ret (.bool (pb (EvP a))) w) := by
  have HX := Lib.hid hx
  have hl := hx.len
  clear hx
  by_cases hv : VQ a
  · have HC := Lib.hid (pb_true hv ▸ validSquare_any A n c a w HX.out)
    have hm : (gr a 0).length = n := by have := hv.2; omega
    have hn3 := hv.1.n3
    rw [hl] at hn3
    obtain ⟨b, o, rb, ro, cc, rfl, tab⟩ := HX.out.tab hv.1
    rw [hm] at tab
    have HT := Lib.hid tab
    have HV := Lib.hid hv
    have HL := Lib.hid hl
    clear tab hm hv hl
    go_enter Try.func34, Try.ntmps34
    go_wp2_with fail
    refine HC.out.mono ?_
    rintro e w1 ⟨rfl, hq⟩
    have HQ1 := Lib.hid hq
    clear hq HC
    go_wp2
    go_loopw [3] (fun i_ wr => ∃ i : Nat, i ≤ n ∧ i_ = .int .i64 i ∧ Hid (∀ k j, k < i → j < k → g2 a k j = g2 a j k) ∧ Hid (Quiet w wr)) (fun i_ _ => n - (intOf i_).toNat)
    case atStart => exact ⟨0, Nat.zero_le _, rfl, Lib.hid (fun _ _ h => absurd h (by omega)), HQ1⟩
    case round =>
      clear HQ1
      obtain ⟨i, hi, rfl, HALL, HQ⟩ := hrel
      by_cases hlt : i < n
      · go_wp2
        go_loopw [4] (fun j_ wi => ∃ j : Nat, j ≤ i ∧ j_ = .int .i64 j ∧ Hid (∀ l, l < j → g2 a i l = g2 a l i) ∧ Hid (Quiet w wi)) (fun j_ _ => i - (intOf j_).toNat)
        case atStart => exact ⟨0, Nat.zero_le _, rfl, Lib.hid (fun _ h => absurd h (by omega)), HQ⟩
        case round =>
          clear HQ
          obtain ⟨j, hj, rfl, HROW, HQ⟩ := hrel
          by_cases hjl : j < i
          · have hjn : j < n := by omega
            have c1 := Keep.quiet HQ.out _ _ (HT.out.row i hlt)
            have c2 := Keep.quiet HQ.out _ _ (HT.out.cell i j hlt hjn)
            have c3 := Keep.quiet HQ.out _ _ (HT.out.row j hjn)
            have c4 := Keep.quiet HQ.out _ _ (HT.out.cell j i hjn hlt)
            by_cases hp : g2 a i j = g2 a j i
            · have HN := Lib.hid (show ∀ l, l < j + 1 → g2 a i l = g2 a l i from fun l hl => by
                by_cases e : l = j
                · subst e; exact hp
                · exact HROW.out l (by omega))
              have hne : (g2 a i j != g2 a j i) = false := by simpa using hp
              clear hp
              generalize g2 a i j = x at *
              generalize g2 a j i = y at *
              go_wp2_with fail
              go_quiet (fail)
              go_wp2
              go_roundw
              case rel => exact ⟨j + 1, by omega, by go_num, HN, Lib.hid (HQ.out.trans ⟨_, rfl⟩)⟩
              case measure => simp [intOf]; omega
            · have HN := Lib.hid (pb_false (p := EvP a) (fun h => hp (h.e i j (by rw [HL.out]; exact hlt) (by rw [HL.out]; exact hjn))))
              have hne : (g2 a i j != g2 a j i) = true := by simpa using hp
              clear hp
              generalize g2 a i j = x at *
              generalize g2 a j i = y at *
              go_wp2_with fail
              go_quiet (fail)
              go_wp2
              go_ret
              exact ⟨ret_bool HN.out.symm, (HQ.out.trans ⟨_, rfl⟩).below⟩
          · obtain rfl : j = i := by omega
            have HN := Lib.hid (show ∀ k l, k < j + 1 → l < k → g2 a k l = g2 a l k from fun k l hk hl => by
                by_cases e : k = j
                · subst e; exact HROW.out l hl
                · exact HALL.out k l (by omega) hl)
            go_wp2
            go_roundw
            case rel => exact ⟨j + 1, by omega, by go_num, HN, HQ⟩
            case measure => simp [intOf]; omega
      · obtain rfl : i = n := by omega
        have HN := Lib.hid (pb_true (p := EvP a) ⟨HV.out, fun k j hk hj => by
          rw [HL.out] at hk hj
          rcases Nat.lt_trichotomy j k with h | h | h
          · exact HALL.out k j hk h
          · rw [h]
          · exact (HALL.out j k hj h).symm⟩)
        go_wp2
        go_ret
        exact ⟨ret_bool HN.out.symm, HQ.out.below⟩
  · have HC := Lib.hid (pb_false hv ▸ validSquare_any A n c a w HX.out)
    have HN := Lib.hid (pb_false (p := EvP a) (fun h => hv h.q))
    clear hv hl
    go_enter Try.func34, Try.ntmps34
    go_wp2_with fail
    refine HC.out.mono ?_
    rintro e w1 ⟨rfl, hq⟩
    go_wp2
    go_ret
    exact ⟨ret_bool HN.out.symm, hq.below⟩

theorem g2_flipT {a : List (List Int)} {n m i j : Nat} (hi : i < m) (hj : j < n) : g2 (flip a n m) i j = g2 a j i := by
  unfold g2
  rw [gr_flip hi, gi_col hj]
  rfl

/-- The table is even just if the arrays of it and it turned are the same. -/
theorem even_cells {a : List (List Int)} (v : VQ a) : EvP a ↔ cs9 (full9 a a.length a.length) = cs9 (full9 (flip a a.length a.length) a.length a.length) := by
  constructor
  · intro h
    refine cs9_congr fun r c _ _ => ?_
    unfold full9
    by_cases e : r < a.length ∧ c < a.length
    · rw [if_pos e, if_pos e, g2_flipT e.1 e.2]; exact h.e r c e.1 e.2
    · rw [if_neg e, if_neg e]
  · intro h
    refine ⟨v, fun i j hi hj => ?_⟩
    have h3 := v.1.n3
    have e1 := cs9_get (full9 a a.length a.length) (i := i) (j := j) (by omega) (by omega)
    have e2 := cs9_get (full9 (flip a a.length a.length) a.length a.length) (i := i) (j := j) (by omega) (by omega)
    rw [h, e2] at e1
    injection e1 with e1
    injection e1 with _ e1
    unfold full9 at e1
    rw [if_pos ⟨hi, hj⟩, if_pos ⟨hi, hj⟩, g2_flipT hi hj] at e1
    exact e1.symm

set_option maxRecDepth 100000 in
set_option maxHeartbeats 1600000 in
theorem IsEven_impl (A : Option Addr) (n c : Nat) (a : List (List Int)) (w : World) (hx : IntRows w A n c a) :
    Calls Try.prog 33 #[.slice A n c] w (Ret (.bool (pb (EvP a))) w) := by
  have HX := Lib.hid hx
  have hl := hx.len
  clear hx
  by_cases hv : VQ a
  · have HC := Lib.hid (pb_true hv ▸ ValidSquare_impl A n c a w HX.out)
    have hm : (gr a 0).length = n := by have := hv.2; omega
    obtain ⟨b, o, rb, ro, cc, rfl, tab⟩ := HX.out.tab hv.1
    rw [hm] at tab
    have HT := Lib.hid tab
    have HEC := Lib.hid (by have := even_cells hv; rw [hl] at this; exact this)
    have HVF := Lib.hid hv
    clear tab hm
    go_enter Try.func33, Try.ntmps33
    go_wp2_with fail
    refine HC.out.mono ?_
    rintro e w1 ⟨rfl, hq⟩
    have HB1 := Lib.hid (show Below w.heap.size w w1 from hq.below)
    clear hq HC
    have HC := Lib.hid (cellsOf_any b o rb ro cc n n c a w1 (HT.out.keep (Keep.below HB1.out)))
    go_wp2_with fail
    refine HC.out.mono ?_
    rintro e w2 ⟨rfl, hb⟩
    have HB2 := Lib.hid (below_up HB1.out hb)
    clear hb HC HB1
    have HC := Lib.hid (turned_any b o rb ro cc n n c a w2 (HT.out.keep (Keep.below HB2.out)))
    go_wp2_with fail
    refine HC.out.mono ?_
    rintro e w3 ⟨rfl, ho, hb, -⟩
    have HB3 := Lib.hid (below_up HB2.out hb)
    have hvf := HVF.out.1.flip
    rw [hl, HVF.out.len2 hl] at hvf
    obtain ⟨b2, o2, rb2, ro2, cc2, e2, t2⟩ := ho.rows.tab hvf
    injection e2 with e2
    injection e2 with e3 e4
    subst e3
    subst e4
    have hm2 : (gr (flip a n n) 0).length = n := by have := HT.out.n1; rw [gr_flip (by omega)]; simp
    rw [hm2] at t2
    have HT2 := Lib.hid t2
    clear ho hb HC HB2 hvf t2 hm2
    have HC := Lib.hid (cellsOf_any _ _ rb2 ro2 cc2 n n n (flip a n n) w3 HT2.out)
    have heq := fun W => eq9_op (full9 a n n) (full9 (flip a n n) n n) W
    have hg : Try.prog.eqGuardType Try.prog.depth 65 = false := by kernel_rfl
    by_cases he : EvP a
    · have HN := Lib.hid (pb_true he)
      rw [pb_true (HEC.out.1 he)] at heq
      clear he hv hl
      generalize full9 a n n = F at *
      generalize full9 (flip a n n) n n = G at *
      go_wp2_with fail
      refine HC.out.mono ?_
      rintro e w4 ⟨rfl, hb⟩
      have HB4 := Lib.hid (below_up HB3.out hb)
      clear hb HC HB3
      go_wp2
      go_ret
      exact ⟨ret_bool HN.out.symm, HB4.out⟩
    · have HN := Lib.hid (pb_false he)
      rw [pb_false (fun h => he (HEC.out.2 h))] at heq
      clear he hv hl
      generalize full9 a n n = F at *
      generalize full9 (flip a n n) n n = G at *
      go_wp2_with fail
      refine HC.out.mono ?_
      rintro e w4 ⟨rfl, hb⟩
      have HB4 := Lib.hid (below_up HB3.out hb)
      clear hb HC HB3
      go_wp2
      go_ret
      exact ⟨ret_bool HN.out.symm, HB4.out⟩
  · have HC := Lib.hid (pb_false hv ▸ ValidSquare_impl A n c a w HX.out)
    have HN := Lib.hid (pb_false (p := EvP a) (fun h => hv h.q))
    clear hv hl
    go_enter Try.func33, Try.ntmps33
    go_wp2_with fail
    refine HC.out.mono ?_
    rintro e w1 ⟨rfl, hq⟩
    go_wp2
    go_ret
    exact ⟨ret_bool HN.out.symm, hq.below⟩
end Go.Proofs.Ytmhknknapciebaa

/- Rows compared, by the laws; squares turned. -/
namespace Go.Proofs.Ytmhknknapciebaa
open Go.RowKit

set_option maxHeartbeats 400000 in
theorem equalRows_any (A B : Option Addr) (n c m d : Nat) (xs ys : List (List Int)) (w : World) (hx : IntRows w A n c xs) (hy : IntRows w B m d ys) :
    Calls Try.prog 35 #[.slice A n c, .slice B m d] w fun e w' => e = .returned (.bool (eqRR xs ys)) ∧ Quiet w w' := by
  obtain ⟨lx, cx, mx, hx⟩ := hx
  obtain ⟨ly, cy, my, hy⟩ := hy
  have Lx := Lib.hid lx
  have Ly := Lib.hid ly
  clear lx ly
  by_cases hnm : n = m
  · subst hnm
    go_enter Try.func35, Try.ntmps35
    go_wp2
    go_loopw [5] (fun i wr => ∃ k : Nat, k ≤ n ∧ i = .int .i64 k ∧ Hid (∀ j, j < k → eqI (gr xs j) (gr ys j) = true) ∧ Quiet w wr) (fun i _ => n - (intOf i).toNat)
    case atStart => exact ⟨0, Nat.zero_le _, rfl, Lib.hid (fun _ h => absurd h (by omega)), Quiet.refl _⟩
    case round =>
      obtain ⟨k, hk, rfl, HALL, q, rfl⟩ := hrel
      by_cases hlt : k < n
      · obtain ⟨b, o, rfl, hcx⟩ := hx (by omega)
        obtain ⟨b2, o2, rfl, hcy⟩ := hy (by omega)
        obtain ⟨R, cc, c1, hR⟩ := hcx k hlt
        obtain ⟨R2, cc2, c2, hR2⟩ := hcy k hlt
        clear hx hy hcx hcy
        cases he : eqI (gr xs k) (gr ys k) with
        | true =>
          have HE := Lib.hid he
          have hq := fun W (hW : Quiet w W) => (he ▸ equalInts_any _ _ _ _ _ _ _ _ W (hR.keep (Keep.quiet hW)) (hR2.keep (Keep.quiet hW)))
          clear he
          go_wp2
          go_quiet ((go_at_call 75; exact quiet_fit (hq _ (by first | exact ⟨_, rfl⟩ | exact Quiet.two _ _ _)) (fun m => by first | exact drewN_to1 _ _ _ | exact drewN_to2 _ _ _ _)))
          go_wp2
          go_roundw
          case rel => exact ⟨k + 1, by omega, by go_num, Lib.hid (fun j hj => by
            by_cases hjk : j < k
            · exact HALL.out j hjk
            · obtain rfl : j = k := by omega
              exact HE.out), ⟨_, rfl⟩⟩
          case measure => simp [intOf]; omega
        | false =>
          have HE := Lib.hid he
          have hq := fun W (hW : Quiet w W) => (he ▸ equalInts_any _ _ _ _ _ _ _ _ W (hR.keep (Keep.quiet hW)) (hR2.keep (Keep.quiet hW)))
          clear he
          go_wp2
          go_quiet ((go_at_call 75; exact quiet_fit (hq _ (by first | exact ⟨_, rfl⟩ | exact Quiet.two _ _ _)) (fun m => by first | exact drewN_to1 _ _ _ | exact drewN_to2 _ _ _ _)))
          go_wp2
          go_ret
          exact ⟨ret_bool (eqRR_no HE.out).symm, Quiet.two _ _ _⟩
      · obtain rfl : k = n := by omega
        go_wp2
        go_ret
        exact ⟨ret_bool (eqRR_yes (by rw [Lx.out, Ly.out]) fun j hj => HALL.out j (by rw [Lx.out] at hj; exact hj)).symm, ⟨_, rfl⟩⟩
  · go_enter Try.func35, Try.ntmps35
    go_wp2
    go_ret
    exact ⟨ret_bool (eqRR_len (by rw [Lx.out, Ly.out]; exact hnm)).symm, Quiet.refl _⟩
theorem VQ.m {a : List (List Int)} {k : Nat} (v : VQ a) (h : a.length = k) : (gr a 0).length = k := by have := v.2; omega
theorem VQ.flip {a : List (List Int)} {k : Nat} (v : VQ a) (h : a.length = k) : VQ (flip a k k) := by
  have h1 := v.1.flip
  rw [h, v.m h] at h1
  refine ⟨h1, ?_⟩
  have := v.1.n1
  rw [flip_len, gr_flip (by omega)]
  simp
theorem VQ.even {a : List (List Int)} {k : Nat} (v : VQ a) (h : a.length = k) : Even a k := by have h1 := v.1.even; rw [v.m h] at h1; exact h1
theorem VQ.evenP {a : List (List Int)} {k : Nat} (v : VQ a) (h : a.length = k) : EvP a ↔ Go.Proofs.Ytmhknknapciebaa.flip a k k = a := by
  constructor
  · intro e
    refine gr_ext (by rw [flip_len, h]) fun i hi => ?_
    rw [flip_len] at hi
    refine gi_ext (by rw [gr_flip hi, (v.1.rows i (by omega)).1, v.m h]; simp) fun j hj => ?_
    rw [gr_flip hi] at hj
    have hj' : j < k := by simpa using hj
    have := g2_flipT (a := a) (n := k) (m := k) hi hj'
    unfold g2 at this
    rw [this]
    exact e.e j i (by omega) (by omega)
  · intro e
    refine ⟨v, fun i j hi hj => ?_⟩
    have := g2_flipT (a := a) (n := k) (m := k) (i := i) (j := j) (by omega) (by omega)
    rw [e] at this
    exact this

end Go.Proofs.Ytmhknknapciebaa

/- A table spoiled now and then, beside the box of a game. -/
namespace Go.Proofs.Ytmhknknapciebaa
open Go.RowKit

theorem box_ne_box {w : World} {h g : Nat} {t u : TypeId} {cs ds : Array Value} (a : Blk w h t cs) (b : Blk w g u ds) (ne : t ≠ u) : h ≠ g := by
  rintro rfl
  unfold Blk at a b
  rw [a] at b
  injection b with b
  injection b with _ b _
  exact ne b
theorem box_ne_int {w : World} {h b o : Nat} {t : TypeId} {cs : Array Value} {k : IntKind} (a : Blk w h t cs) (hcs : ∀ (k : Nat) (v : Value), cs[k]? = some v → ∀ (kk : IntKind) (x : Int), v ≠ Value.int kk x) (hc : ∃ y, w.cell? ⟨b, o, none⟩ = some (.int k y)) : h ≠ b := by
  rintro rfl
  obtain ⟨y, hc⟩ := hc
  unfold Blk at a
  simp only [World.cell?, a] at hc
  exact hcs o _ hc k y rfl
theorem box_ne_own {w : World} {h base n : Nat} {t e : TypeId} {cs : Array Value} {v : Value} {xs : List Value} (a : Blk w h t cs) (own : w.ownsRow base e 1 v n xs) (ne : t ≠ e) : v.ownBlock ≠ some h := by
  rcases own.2 with ⟨rfl, _⟩ | ⟨g, cap, cur, rfl, _, hg, _⟩
  · simp [Value.ownBlock]
  · intro e1
    have : g = h := by simpa [Value.ownBlock] using e1
    subst this
    unfold Blk at a
    rw [a] at hg
    injection hg with hg
    injection hg with _ hg _
    exact ne hg
def SpoilH (w0 wb : World) (g : Nat) (A : Option Addr) (l c p h : Nat) (cs : Array Value) (e : Ending) (w' : World) : Prop :=
  ∃ v' vs' xss' p', e = .returned v' ∧ Small xss' ∧ TO w0 wb g A l c p' v' vs' xss' w' ∧ p' ≤ p + 2 ∧ Blk w' h 47 cs

set_option maxHeartbeats 1000000 in
theorem spoilH_any (w0 wb w : World) (h : Nat) (cs : Array Value) (g : Nat) (A : Option Addr) (l c p : Nat) (Av : Option Addr) (cv : Nat) (vs : List Value) (xss : List (List Int)) (ht : TO w0 wb g A l c p (.slice Av xss.length cv) vs xss w) (hp : p < 900000000) (hs : Small xss) (h7 : xss.length ≤ 7) (hbx : Blk w h 47 cs) (hcs : ∀ (k : Nat) (v : Value), cs[k]? = some v → ∀ (kk : IntKind) (x : Int), v ≠ Value.int kk x) :
    Calls Try.prog 99 #[.pointer (some ⟨g, 0, none⟩), .slice Av xss.length cv] w (SpoilH w0 wb g A l c p h cs) := by
  have HT := Lib.hid ht
  have HBX := Lib.hid hbx
  have HCS := Lib.hid hcs
  have HNE := Lib.hid (box_ne_box (h := h) (g := g) hbx ht.rd.box (by decide))
  have HC := Lib.hid (pick_any w0 w g A l c p 40 ht.rd (by omega))
  have HS := Lib.hid hs
  clear ht hs hbx hcs
  go_enter Try.func99, Try.ntmps99
  go_wp2_with fail
  refine HC.out.mono ?_
  rintro e w2 ⟨k, rfl, hk1, _, hr, z, hw⟩
  have hone := Rdr.one (g := g) w (.int .i64 (p + 1 : Nat)) z
  rw [← hw] at hone
  obtain ⟨k0, k1⟩ := hk1 (by omega)
  have HT2 := Lib.hid (HT.out.one hr hone)
  have HB2 := Lib.hid (show Blk w2 h 47 cs from (hone.block h HNE.out).trans HBX.out)
  clear hr hone hw hk1 HC HT HBX
  by_cases e0 : k = 0
  · subst e0
    by_cases hx0 : 0 < xss.length
    · obtain ⟨b0, c0, R0, cc0, ev, hb0, hv0, hcell0⟩ := HT2.out.bo.head hx0
      injection ev with ev1 _ ev3
      subst ev1
      subst ev3
      by_cases hx1 : 0 < (gr xss 0).length
      · obtain ⟨b, o, cc, ev, _⟩ := HT2.out.set0 hx0 hx1 (x := 10) (by omega)
        rw [hv0] at ev
        injection ev with ev
        injection ev with ev1 _ ev3
        subst ev1
        subst ev3
        have HTA := Lib.hid ((HT2.out.below (below_alloc w2 (.cells #[iv 10, iv (-10)] 3))).below ((Below.refl _ _).drew))
        have HBA := Lib.hid (show Blk (w2.alloc (.cells #[iv 10, iv (-10)] 3)).drew h 47 cs from blk_below HB2.out (below_alloc w2 (.cells #[iv 10, iv (-10)] 3)).drew)
        have HCA := Lib.hid ((HTA.out.bo.head_at hx0).trans hv0)
        have HIA := Lib.hid (Ints.two w2 10 (-10)).drew
        have hgl := HT2.out.gl
        have hgw := HT2.out.up.size
        go_wp2_with fail
        go_region_held3 (fun W => W.cell? ⟨b0, 0, none⟩ = some (.slice (some ⟨b, o, none⟩) (gr xss 0).length cc0)) (first | exact hcell0 | exact HCA.out | exact HCB.out | exact HCC.out)
          (first
          | (go_at_call 97; refine (one_any w0 _ g A l c (p + 1) _ 2 2 [10, -10] ?_ (by omega) ?_ (by omega) ?_).mono ?_; exact HTA.out.rd; exact HIA.out; (intro b' o' e'; injection e' with e'; injection e' with e1 _ _; omega); rintro e w4 ⟨x, rfl, hx, hr, ho⟩; have HT4 := Lib.hid (HTA.out.one hr ho); have HCB := Lib.hid ((HT4.out.bo.head_at hx0).trans hv0); have hx3 : -1000 ≤ x ∧ x ≤ 1000 := (by simp at hx; omega); obtain ⟨⟨y, hc5⟩, hf5, hT5⟩ := HT4.out.set0_at hx0 hx1 hv0 hx3; have HT5 := Lib.hid hT5; have HBD := Lib.hid (show Blk w4 h 47 cs from (ho.block h HNE.out).trans HBA.out); have HBE := Lib.hid (blk_other HBD.out (p := ⟨b, o, none⟩) (box_ne_int (k := .i64) HBD.out HCS.out ⟨_, hc5⟩) (.int .i64 x)); have HCC := Lib.hid ((HT5.out.bo.head_at (by rw [List.length_set]; exact hx0)).trans hv0); clear hr ho hT5 hx HTA HIA))
        go_wp2
        go_ret
        exact ⟨_, _, _, _, rfl, HS.out.set0 hx0 hx3, HT5.out, by omega, HBE.out⟩
      · go_wp2
        go_ret
        exact ⟨_, _, _, _, rfl, HS.out, HT2.out, by omega, HB2.out⟩
    · go_wp2
      go_ret
      exact ⟨_, _, _, _, rfl, HS.out, HT2.out, by omega, HB2.out⟩
  · by_cases e1 : k = 1
    · subst e1
      have HI := Lib.hid (HT2.out.lit 1)
      have HNO := Lib.hid (box_ne_own HB2.out HT2.out.bo.own (by decide))
      have HBF := Lib.hid (blk_below (blk_below HB2.out (below_alloc w2 (.cells #[iv 1] 3))) (below_alloc _ (.cells #[.slice (some ⟨w2.heap.size, 0, none⟩) 1 1] 23)))
      clear HT2
      have hWs : (w2.alloc (.cells #[iv 1] 3)).heap.size = w2.heap.size + 1 := by simp
      obtain ⟨Ar, nr, cr, gg, e, hn, ho, _⟩ := HI.out.bi.owns (by simp) (fun x hx => by simp at hx; omega)
      injection e with e1 e2 e3
      subst e1
      subst e2
      subst e3
      have HO := Lib.hid ho
      have hb := below_alloc (w2.alloc (.cells #[iv 1] 3)) (.cells #[.slice (some ⟨w2.heap.size, 0, none⟩) 1 1] 23)
      have HB4 := Lib.hid (HI.out.bo.below hb).own
      have HN := Lib.hid (cell_one_new (w2.alloc (.cells #[iv 1] 3)) (.slice (some ⟨w2.heap.size, 0, none⟩) 1 1) 23)
      have hHs := HI.out.hs
      have hlh := HI.out.lh
      clear hb ho hn
      obtain ⟨i0, hi0, hz0, hz1, hz2⟩ := info_parts Try.info_row
      go_wp2_with (at_builtin; refine wpList_append_own_at _ rfl _ _ 22 rfl wb.heap.size 23 i0 (.slice none 0 0) 1 24 Try.underlying22 hi0 hz0 hz1 hz2 rfl (by decide) _ xss.length vs rfl HB4.out ⟨w2.heap.size + 1, 0, none⟩ 1 1 [.slice (some ⟨w2.heap.size, 0, none⟩) 1 1] rfl rfl ?d1 ?d2 ?d3 ?d4 ?d5 ?_)
      case d1 => have := HN.out; rw [hWs] at this; exact this
      case d2 => intro u hu; simp at hu; subst hu; rfl
      case d3 => unfold maxLen; omega
      case d4 => omega
      case d5 => simp; omega
      intro v' w5 hown' hgrow _ hat
      have HT5 := Lib.hid (TI.done (w := w2.alloc (.cells #[iv 1] 3)) (ys := [1]) (xss := xss) (v := .slice Av xss.length cv) (v' := v') (vs := vs) (Ar := some ⟨w2.heap.size, 0, none⟩) (cr := 1) HI.out HO.out hown' hgrow (by simpa using hat))
      have HBG := Lib.hid (show Blk w5 h 47 cs from (hgrow.block h (blk_lt HBF.out) (fun e => HNO.out e.symm)).trans HBF.out)
      clear HB4 HN hown' hgrow hat HI HO
      go_wp2
      go_ret
      exact ⟨_, _, _, _, rfl, HS.out.snoc h7 (by omega), HT5.out, by omega, HBG.out⟩
    · by_cases e2 : k = 2
      · subst e2
        have HF := Lib.hid HT2.out.fresh
        have HBF := Lib.hid (blk_below HB2.out (below_alloc w2 (.cells #[] 23)))
        go_wp2
        go_ret
        exact ⟨_, _, _, _, rfl, Small.nil, HF.out, by omega, HBF.out⟩
      · go_wp2
        go_ret
        exact ⟨_, _, _, _, rfl, HS.out, HT2.out, by omega, HB2.out⟩
end Go.Proofs.Ytmhknknapciebaa

/- A game under way: both tables and the box. -/
namespace Go.Proofs.Ytmhknknapciebaa
open Go.RowKit

theorem add_at (b o i : Nat) : (⟨b, o, none⟩ : Addr).add i = ⟨b, o + i, none⟩ := by unfold Addr.add; split <;> simp_all
theorem OwnI.mono_lo {lo hi lo' w b A n c xs} (h : OwnI lo hi w b A n c xs) (k : lo' ≤ lo) : OwnI lo' hi w b A n c xs := h.mono k (Nat.le_refl _)
theorem ownsRow_lo {w : World} {base base' : Nat} {e : TypeId} {size n : Nat} {v : Value} {xs : List Value} (h : w.ownsRow base e size v n xs) (k : base' ≤ base) : w.ownsRow base' e size v n xs := by
  obtain ⟨h1, h2⟩ := h
  refine ⟨h1, ?_⟩
  rcases h2 with h2 | ⟨g, cap, cur, rfl, hb, r⟩
  · exact .inl h2
  · exact .inr ⟨g, cap, cur, rfl, Nat.le_trans k hb, r⟩
theorem Bld.mono_lo {lo hi lo' w v vs xss} (h : Bld lo hi w v vs xss) (k : lo' ≤ lo) : Bld lo' hi w v vs xss := by
  obtain ⟨h1, h4, G, R, C, h2, h3⟩ := h
  exact ⟨ownsRow_lo h1 k, h4, G, R, C, fun j hj => ⟨(h2 j hj).1, (h2 j hj).2.1.mono_lo k, (h2 j hj).2.2⟩, h3⟩

/-- A number of a table that append has made is set. -/
theorem Bld.set_at {lo hi w v vs xss} (h : Bld lo hi w v vs xss) {i j : Nat} (h0 : i < xss.length) (h1 : j < (gr xss i).length) {x : Int} (hx : -9223372036854775808 ≤ x ∧ x ≤ 9223372036854775807) :
    ∃ bo c b o cc, v = .slice (some ⟨bo, 0, none⟩) xss.length c ∧ w.cell? ⟨bo, i, none⟩ = some (.slice (some ⟨b, o, none⟩) (gr xss i).length cc) ∧ lo ≤ b ∧ b < hi ∧ (∃ y, w.cell? ⟨b, o + j, none⟩ = some (.int .i64 y)) ∧ w.frozen? ⟨b, o + j, none⟩ = false ∧
      Bld lo hi (w.setCell ⟨b, o + j, none⟩ (.int .i64 x)) v vs (xss.set i ((gr xss i).set j x)) := by
  obtain ⟨ho, h4, G, R, C, h2, h3⟩ := h
  obtain ⟨q0, q1, q2⟩ := h2 i h0
  obtain ⟨o, e, l1, l2, hf⟩ := q1.own (by omega)
  have q1' := q1
  rw [e] at q1' q0
  have hset := q1'.set h1 hx
  obtain ⟨b', o', e', hc⟩ := q1.ints.at_ (by omega)
  rw [e] at e'
  injection e' with e'
  injection e' with e1 e2 _
  have hc0 := hc j h1
  rw [← e1, ← e2] at hc0
  have hlen : ∀ k, (gr (xss.set i ((gr xss i).set j x)) k).length = (gr xss k).length := fun k => by
    by_cases e : k = i
    · subst e; rw [gr_set_eq h0, List.length_set]
    · rw [gr_set_ne e]
  have hv : ∃ bo c, v = .slice (some ⟨bo, 0, none⟩) xss.length c ∧ w.cell? ⟨bo, i, none⟩ = vs[i]? := by
    rcases ho.2 with ⟨_, h5⟩ | ⟨g, cap, cur, rfl, hb, _⟩
    · omega
    · have hcx := ho.cells (g := g) rfl i _ q0
      rw [add_at, Nat.zero_add] at hcx
      exact ⟨g, cap, rfl, by rw [q0]; exact hcx⟩
  obtain ⟨bo, c, ev, hcv⟩ := hv
  refine ⟨bo, c, G i, o, C i, ev, by rw [hcv, q0], l1, l2, ⟨_, hc0⟩, hf j h1, ⟨?_, h4, G, R, C, fun k hk => ?_, fun k l hkl hl hk0 hl0 => ?_⟩⟩
  · rw [List.length_set]
    exact blk_kept ho fun g hg => Below.heap_setCell _ _ _ _ (fun e => q2 (by omega) (by rw [hg, e]))
  · rw [List.length_set] at hk
    rw [hlen]
    obtain ⟨a, b, c⟩ := h2 k hk
    refine ⟨a, ?_, c⟩
    by_cases ek : k = i
    · subst ek
      rw [gr_set_eq h0, e]
      exact hset
    · rw [gr_set_ne ek]
      exact b.of_block fun hp => Below.heap_setCell _ _ _ _ (by
        show G k ≠ G i
        rcases Nat.lt_or_gt_of_ne ek with hl | hl
        · exact h3 k i hl h0 hp (by omega)
        · exact Ne.symm (h3 i k hl hk (by omega) hp))
  · rw [List.length_set] at hl
    rw [hlen] at hk0 hl0
    exact h3 k l hkl hl hk0 hl0
/-- .. and of a table of one's own. -/
theorem OwnR.set_at {lo hi w b A n c xss} (h : OwnR lo hi w b A n c xss) {i j : Nat} (h0 : i < n) (h1 : j < (gr xss i).length) {x : Int} (hx : -9223372036854775808 ≤ x ∧ x ≤ 9223372036854775807) :
    ∃ o g r cc, A = some ⟨b, o, none⟩ ∧ w.cell? ⟨b, o + i, none⟩ = some (.slice (some ⟨g, r, none⟩) (gr xss i).length cc) ∧ lo ≤ g ∧ g < hi ∧ (∃ y, w.cell? ⟨g, r + j, none⟩ = some (.int .i64 y)) ∧ w.frozen? ⟨g, r + j, none⟩ = false ∧
      OwnR lo hi (w.setCell ⟨g, r + j, none⟩ (.int .i64 x)) b A n c (xss.set i ((gr xss i).set j x)) := by
  obtain ⟨o, g, R, cc, e, c1, hI, hset⟩ := h.at_row h0
  obtain ⟨r, e2, l1, l2, hf⟩ := hI.own (by omega)
  subst e2
  obtain ⟨b', o', e', hc⟩ := hI.ints.at_ (by omega)
  injection e' with e'
  injection e' with e3 e4 _
  subst e3
  subst e4
  exact ⟨o, g, r, cc, e, c1, l1, l2, ⟨_, hc j h1⟩, hf j h1, (hset _ _ (by rw [List.length_set]) (hI.set h1 hx) (fun hz => absurd hz (by omega)) ((One.refl g w).set _ _)).1⟩

/-- Rows of as many numbers. -/
structure Shp (n m : Nat) (xss : List (List Int)) : Prop where
  len : xss.length = n
  row : ∀ k, k < n → (gr xss k).length = m
  sm : Small xss
theorem Shp.set {n m xss} (h : Shp n m xss) {i j : Nat} (hi : i < n) {x : Int} (hx : -1000 ≤ x ∧ x ≤ 1000) : Shp n m (xss.set i ((gr xss i).set j x)) := by
  have hl := h.len
  have hm := h.sm.rows _ (gr_mem (xs := xss) (k := i) (by omega))
  refine ⟨by rw [List.length_set]; exact hl, fun k hk => ?_, ⟨by rw [List.length_set]; exact h.sm.n, fun r hr => ?_⟩⟩
  · by_cases e : k = i
    · subst e; rw [gr_set_eq (by omega), List.length_set]; exact h.row k hk
    · rw [gr_set_ne e]; exact h.row k hk
  · rcases List.mem_or_eq_of_mem_set hr with hr | rfl
    · exact h.sm.rows r hr
    · refine ⟨by rw [List.length_set]; exact hm.1, fun y hy => ?_⟩
      rcases List.mem_or_eq_of_mem_set hy with hy | rfl
      · exact hm.2 y hy
      · exact hx

structure GO (w0 w3 : World) (mid g : Nat) (A : Option Addr) (l c p : Nat) (Aa : Option Addr) (na ca ga : Nat) (xa : List (List Int)) (v : Value) (vs : List Value) (xb : List (List Int)) (h : Nat) (w : World) : Prop where
  rd : Rdr w0 w g A l c p
  a : OwnR w3.heap.size mid w ga Aa na ca xa
  b : Bld mid w.heap.size w v vs xb
  gl : g < w3.heap.size
  lm : w3.heap.size ≤ mid
  mw : mid ≤ w.heap.size
  up : w3.grownBy w (some g)
  box : Blk w h 47 #[.slice Aa na ca, v]
theorem box_slices (Aa Bb : Option Addr) (na ca nb cb : Nat) : ∀ (k : Nat) (v : Value), (#[.slice Aa na ca, .slice Bb nb cb] : Array Value)[k]? = some v → ∀ (kk : IntKind) (x : Int), v ≠ Value.int kk x := by
  intro k v h kk x e
  subst e
  match k, h with
  | 0, h => simp at h
  | 1, h => simp at h
  | k + 2, h => simp at h
theorem GO.below {w0 w3 mid g A l c p Aa na ca ga xa v vs xb h w w'} (o : GO w0 w3 mid g A l c p Aa na ca ga xa v vs xb h w) (k : Below w.heap.size w w') : GO w0 w3 mid g A l c p Aa na ca ga xa v vs xb h w' :=
  ⟨o.rd.below_ k, o.a.below k, (o.b.below k).mono k.size, o.gl, o.lm, Nat.le_trans o.mw k.size, grown_below o.up k, blk_below o.box k⟩
theorem GO.one {w0 w3 mid g A l c p p' Aa na ca ga xa v vs xb h w w'} (o : GO w0 w3 mid g A l c p Aa na ca ga xa v vs xb h w) (hr : Rdr w0 w' g A l c p') (ho : One g w w') : GO w0 w3 mid g A l c p' Aa na ca ga xa v vs xb h w' := by
  have hgl := o.gl
  have hlm := o.lm
  have hne : h ≠ g := box_ne_box o.box o.rd.box (by decide)
  exact ⟨hr, o.a.of_blocks fun k h1 _ _ => ho.block k (by omega), by rw [ho.size]; exact o.b.of_blocks fun k h1 _ _ => ho.block k (by omega), o.gl, o.lm, by rw [ho.size]; exact o.mw,
    ⟨ho.os.trans o.up.os, ho.tape.trans o.up.tape, ho.output.trans o.up.output, by rw [ho.size]; exact o.up.size, fun k hk hne' => (ho.block k (fun e => hne' (by rw [e]))).trans (o.up.block k hk hne')⟩, (ho.block h hne).trans o.box⟩
/-- A cell from the third world on is set: what has its memory elsewhere stays. -/
theorem GO.setA {w0 w3 mid g A l c p Aa na ca ga xa Bb nb cb vs xb h w} (o : GO w0 w3 mid g A l c p Aa na ca ga xa (.slice Bb nb cb) vs xb h w) {i j : Nat} (h0 : i < na) (h1 : j < (gr xa i).length) {x : Int} (hx : -1000 ≤ x ∧ x ≤ 1000) :
    ∃ oo gg r cc, Aa = some ⟨ga, oo, none⟩ ∧ w.cell? ⟨ga, oo + i, none⟩ = some (.slice (some ⟨gg, r, none⟩) (gr xa i).length cc) ∧ (∃ y, w.cell? ⟨gg, r + j, none⟩ = some (.int .i64 y)) ∧ w.frozen? ⟨gg, r + j, none⟩ = false ∧
      GO w0 w3 mid g A l c p Aa na ca ga (xa.set i ((gr xa i).set j x)) (.slice Bb nb cb) vs xb h (w.setCell ⟨gg, r + j, none⟩ (.int .i64 x)) := by
  obtain ⟨oo, gg, r, cc, e, c1, l1, l2, hy, hf, hown⟩ := o.a.set_at h0 h1 (x := x) (by omega)
  have hgl := o.gl
  have hlm := o.lm
  have hs : (w.setCell ⟨gg, r + j, none⟩ (.int .i64 x)).heap.size = w.heap.size := by simp [World.setCell]
  have hne : h ≠ gg := box_ne_int (k := .i64) o.box (box_slices _ _ _ _ _ _) hy
  refine ⟨oo, gg, r, cc, e, c1, hy, hf, ⟨⟨blk_other o.rd.box (by show g ≠ gg; omega) _, o.rd.bytes, o.rd.below.setCell (by show w0.heap.size ≤ gg; have := o.rd.lt; omega) _, o.rd.lt, o.rd.small⟩, hown, by rw [hs]; exact o.b.of_blocks fun k h1 _ _ => Below.heap_setCell _ _ _ _ (by show k ≠ gg; omega), o.gl, o.lm, by rw [hs]; exact o.mw, ?_, blk_other o.box hne _⟩⟩
  exact ⟨o.up.os, o.up.tape, o.up.output, by rw [hs]; exact o.up.size, fun k hk hne => (Below.heap_setCell _ _ _ _ (by show k ≠ gg; omega)).trans (o.up.block k hk hne)⟩
theorem GO.setB {w0 w3 mid g A l c p Aa na ca ga xa Bb nb cb vs xb h w} (o : GO w0 w3 mid g A l c p Aa na ca ga xa (.slice Bb nb cb) vs xb h w) {i j : Nat} (h0 : i < xb.length) (h1 : j < (gr xb i).length) {x : Int} (hx : -1000 ≤ x ∧ x ≤ 1000) :
    ∃ bo gg r cc, Bb = some ⟨bo, 0, none⟩ ∧ w.cell? ⟨bo, i, none⟩ = some (.slice (some ⟨gg, r, none⟩) (gr xb i).length cc) ∧ (∃ y, w.cell? ⟨gg, r + j, none⟩ = some (.int .i64 y)) ∧ w.frozen? ⟨gg, r + j, none⟩ = false ∧
      GO w0 w3 mid g A l c p Aa na ca ga xa (.slice Bb nb cb) vs (xb.set i ((gr xb i).set j x)) h (w.setCell ⟨gg, r + j, none⟩ (.int .i64 x)) := by
  obtain ⟨bo, c', gg, r, cc, e, c1, l1, l2, hy, hf, hown⟩ := o.b.set_at h0 h1 (x := x) (by omega)
  have hgl := o.gl
  have hlm := o.lm
  have hs : (w.setCell ⟨gg, r + j, none⟩ (.int .i64 x)).heap.size = w.heap.size := by simp [World.setCell]
  have hne : h ≠ gg := box_ne_int (k := .i64) o.box (box_slices _ _ _ _ _ _) hy
  injection e with e1 _ _
  refine ⟨bo, gg, r, cc, e1, c1, hy, hf, ⟨⟨blk_other o.rd.box (by show g ≠ gg; omega) _, o.rd.bytes, o.rd.below.setCell (by show w0.heap.size ≤ gg; have := o.rd.lt; omega) _, o.rd.lt, o.rd.small⟩, o.a.of_blocks fun k _ h2 _ => Below.heap_setCell _ _ _ _ (by show k ≠ gg; omega), by rw [hs]; exact hown, o.gl, o.lm, by rw [hs]; exact o.mw, ?_, blk_other o.box hne _⟩⟩
  exact ⟨o.up.os, o.up.tape, o.up.output, by rw [hs]; exact o.up.size, fun k hk hne => (Below.heap_setCell _ _ _ _ (by show k ≠ gg; omega)).trans (o.up.block k hk hne)⟩
end Go.Proofs.Ytmhknknapciebaa

/- Squares and fields drawn from bytes. -/
namespace Go.Proofs.Ytmhknknapciebaa
open Go.RowKit

/-- A number of a drawn table is set. -/
theorem TO.set_at {w0 wb g A l c p v vs xss w} (h : TO w0 wb g A l c p v vs xss w) {i j : Nat} (h0 : i < xss.length) (h1 : j < (gr xss i).length) {x : Int} (hx : -1000 ≤ x ∧ x ≤ 1000) :
    ∃ bo c' b o cc, v = .slice (some ⟨bo, 0, none⟩) xss.length c' ∧ w.cell? ⟨bo, i, none⟩ = some (.slice (some ⟨b, o, none⟩) (gr xss i).length cc) ∧ (∃ y, w.cell? ⟨b, o + j, none⟩ = some (.int .i64 y)) ∧ w.frozen? ⟨b, o + j, none⟩ = false ∧
      TO w0 wb g A l c p v vs (xss.set i ((gr xss i).set j x)) (w.setCell ⟨b, o + j, none⟩ (.int .i64 x)) := by
  obtain ⟨bo, c', b, o, cc, ev, hc, l1, l2, hy, hf, hb⟩ := h.bo.set_at h0 h1 (x := x) (by omega)
  have hgl := h.gl
  have hs : (w.setCell ⟨b, o + j, none⟩ (.int .i64 x)).heap.size = w.heap.size := by simp [World.setCell]
  refine ⟨bo, c', b, o, cc, ev, hc, hy, hf, ⟨⟨blk_other h.rd.box (by show g ≠ b; omega) _, h.rd.bytes, h.rd.below.setCell (by show w0.heap.size ≤ b; have := h.rd.lt; omega) _, h.rd.lt, h.rd.small⟩, by rw [hs]; exact hb, h.gl, ?_⟩⟩
  exact ⟨h.up.os, h.up.tape, h.up.output, by rw [hs]; exact h.up.size, fun k hk hne => (Below.heap_setCell _ _ _ _ (by show k ≠ b; omega)).trans (h.up.block k hk hne)⟩
/-- .. and read. -/
theorem TO.get_at {w0 wb g A l c p bo c' vs xss w} (h : TO w0 wb g A l c p (.slice (some ⟨bo, 0, none⟩) xss.length c') vs xss w) {i j : Nat} (h0 : i < xss.length) (h1 : j < (gr xss i).length) :
    ∃ b o cc, w.cell? ⟨bo, i, none⟩ = some (.slice (some ⟨b, o, none⟩) (gr xss i).length cc) ∧ w.cell? ⟨b, o + j, none⟩ = some (.int .i64 (g2 xss i j)) := by
  obtain ⟨ho, h4, G, R, C, h2, h3⟩ := h.bo
  obtain ⟨q0, q1, q2⟩ := h2 i h0
  have hcx := ho.cells (g := bo) rfl i _ q0
  rw [add_at, Nat.zero_add] at hcx
  obtain ⟨b, o, e, hc⟩ := q1.ints.at_ (by omega)
  rw [e] at hcx
  exact ⟨b, o, C i, hcx, hc j h1⟩
theorem g2_small {xss : List (List Int)} (h : Small xss) {i j : Nat} (h0 : i < xss.length) (h1 : j < (gr xss i).length) : -1000 ≤ g2 xss i j ∧ g2 xss i j ≤ 1000 :=
  (h.rows _ (gr_mem h0)).2 _ (gi_mem h1)
theorem TO.qu {w0 wb g A l c p v vs xss w w'} (h : TO w0 wb g A l c p v vs xss w) (k : Quiet w w') : TO w0 wb g A l c p v vs xss w' := h.below k.below
theorem Shp.of {n m : Nat} {lo hi : Int} {xss : List (List Int)} (hl : xss.length = n) (h : ∀ r ∈ xss, RowIn m lo hi r) (hn : n ≤ 4) (hm : m ≤ 4) (h1 : -1000 ≤ lo) (h2 : hi ≤ 1000) : Shp n m xss :=
  ⟨hl, fun k hk => (h _ (gr_mem (by omega))).1, ⟨by omega, fun r hr => ⟨by have := (h r hr).1; omega, fun y hy => by have := (h r hr).2 y hy; omega⟩⟩⟩

set_option maxRecDepth 100000 in
set_option maxHeartbeats 3200000 in
theorem someSquare_any (w0 w : World) (g : Nat) (A : Option Addr) (l c p : Nat) (h : Rdr w0 w g A l c p) (hp : p < 800000000) :
    Calls Try.prog 66 #[.pointer (some ⟨g, 0, none⟩)] w (SomeT w0 g A l c p w) := by
  have HR := Lib.hid h
  have H1 := Lib.hid (one_lit w0 w _ g A l c (p) w.heap.size 5 [2, 3, 3, 2, 1] h (by omega) (below_alloc w (.cells #[iv 2, iv 3, iv 3, iv 2, iv 1] 3)) (Nat.le_refl _) (Ints.lit w [2, 3, 3, 2, 1] (by decide) (by decide)) (by omega))
  clear h
  go_enter Try.func66, Try.ntmps66
  go_wp2_with fail
  refine H1.out.mono ?_
  rintro e w1 ⟨n, rfl, hx, hr, hgr⟩
  have hn1 : 1 ≤ n ∧ n ≤ 3 := by simp at hx; omega
  have HG1 := Lib.hid hgr
  have H2 := Lib.hid (one_lit w0 w1 _ g A l c (p + 1) w1.heap.size 3 [3, 9, 1] hr (by omega) (below_alloc w1 (.cells #[iv 3, iv 9, iv 1] 3)) (Nat.le_refl _) (Ints.lit w1 [3, 9, 1] (by decide) (by decide)) (by omega))
  clear hx hr hgr H1 HR
  go_wp2_with fail
  refine H2.out.mono ?_
  rintro e w2 ⟨x, rfl, hx, hr, hgr⟩
  have hx1 : 1 ≤ x ∧ x ≤ 9 := by simp at hx; omega
  have HG2 := Lib.hid (grown_trans HG1.out hgr)
  obtain ⟨n, rfl⟩ := Int.eq_ofNat_of_zero_le (show 0 ≤ n by omega)
  have hn3 : n ≤ 3 := by omega
  have hn0 : 1 ≤ n := by omega
  have H4 := Lib.hid (tableOf_any w0 w2 g A l c (p + 2) n n (-x) x hr (by omega) (by omega) (by omega) (by omega) (by omega) (by omega))
  clear hx hr hgr H2 HG1 hn1
  go_wp2_with fail
  refine H4.out.mono ?_
  rintro e w4 ⟨Av, cv, vs, xss, p4, rfl, hl, hxs, hto, hp4⟩
  have HTO := Lib.hid hto
  have HSP := Lib.hid (Shp.of hl hxs (by omega) (by omega) (by omega) (by omega))
  have H5 := Lib.hid (pick_any w0 w4 g A l c p4 4 hto.rd (by omega))
  clear hxs hto H4 hl
  go_wp2_with fail
  refine H5.out.mono ?_
  rintro e w5 ⟨k, rfl, hk1, _, hr, z, hw⟩
  have hone := Rdr.one (g := g) w4 (.int .i64 (p4 + 1 : Nat)) z
  rw [← hw] at hone
  have HT5 := Lib.hid (HTO.out.one hr hone)
  clear hr hone hw hk1 H5 HTO
  by_cases e0 : k = 0
  · subst e0
    have HL0 := Lib.hid (show ∃ zs, Shp n n zs ∧ TO w0 w2 g A l c (p4 + 1) (.slice Av n cv) vs zs w5 from ⟨xss, HSP.out, HT5.out⟩)
    clear HSP HT5
    go_wp2
    go_loopw [6] (fun i_ wr => ∃ i : Nat, i ≤ n ∧ i_ = .int .i64 i ∧ Hid (∃ zs, Shp n n zs ∧ TO w0 w2 g A l c (p4 + 1) (.slice Av n cv) vs zs wr)) (fun i_ _ => n - (intOf i_).toNat)
    case atStart => exact ⟨0, Nat.zero_le _, rfl, HL0⟩
    case round =>
      clear HL0
      obtain ⟨i, hi, rfl, HL⟩ := hrel
      by_cases hlt : i < n
      · go_wp2
        go_loopw [7] (fun j_ wi => ∃ j : Nat, j ≤ i ∧ j_ = .int .i64 j ∧ Hid (∃ zs, Shp n n zs ∧ TO w0 w2 g A l c (p4 + 1) (.slice Av n cv) vs zs wi)) (fun j_ _ => i - (intOf j_).toNat)
        case atStart => exact ⟨0, Nat.zero_le _, rfl, HL⟩
        case round =>
          clear HL
          obtain ⟨j, hj, rfl, HL⟩ := hrel
          by_cases hjl : j < i
          · obtain ⟨xs, hsp, hto⟩ := HL.out
            have HSX := Lib.hid hsp
            have hlen := hsp.len
            have hri := hsp.row i hlt
            have hrj := hsp.row j (by omega)
            have hv := g2_small hsp.sm (i := j) (j := i) (by omega) (by omega)
            obtain ⟨bo, c', b, o, cc, ev, q1, ⟨y, q2⟩, q3, hts⟩ := hto.set_at (i := i) (j := j) (by omega) (by omega) hv
            injection ev with ev1 ev2 ev3
            subst ev1
            subst ev3
            clear ev2
            have hto' := hto
            rw [← hlen] at hto'
            obtain ⟨b2, o2, cc2, q4, q5⟩ := hto'.get_at (i := j) (j := i) (by omega) (by omega)
            rw [hri] at q1
            rw [hrj] at q4
            have HN := Lib.hid (show ∃ zs, Shp n n zs ∧ TO w0 w2 g A l c (p4 + 1) (.slice (some ⟨bo, 0, none⟩) n cv) vs zs (wr.setCell ⟨b, o + j, none⟩ (.int .i64 (g2 xs j i))) from ⟨_, hsp.set hlt hv, hts⟩)
            have hjn : j < n := by omega
            clear hsp hto hto' hlen hri hrj hv hts HL
            generalize g2 xs j i = x0 at *
            go_wp2
            go_region
            all_goals
              clear q1 q2 q3 q4 q5
              go_wp2
              go_roundw
              case rel => exact ⟨j + 1, by omega, by go_num, Lib.hid (by obtain ⟨xs', h1, h2⟩ := HN.out; exact ⟨xs', h1, by first | exact h2 | exact h2.qu ⟨1, rfl⟩ | exact h2.qu ⟨_, rfl⟩⟩)⟩
              case measure => simp [intOf]; omega
          · obtain rfl : j = i := by omega
            go_wp2
            go_roundw
            case rel => exact ⟨j + 1, by omega, by go_num, HL⟩
            case measure => simp [intOf]; omega
      · obtain rfl : i = n := by omega
        obtain ⟨xs, hsp, hto⟩ := HL.out
        have HSX := Lib.hid hsp
        have HTX := Lib.hid hto
        clear hsp hto HL
        generalize wr = w6 at *
        have H6 := Lib.hid (spoil_any w0 w2 w6 g A l c (p4 + 1) _ _ _ _ (by rw [HSX.out.len]; exact HTX.out) (by omega) HSX.out.sm (by have := HSX.out.len; omega))
        rw [HSX.out.len] at H6
        go_wp2_with fail
        refine H6.out.mono ?_
        rintro e w9 ⟨v', vs', xss', p', rfl, hs, hto, hp5⟩
        have HTO := Lib.hid hto
        have HSM2 := Lib.hid hs
        clear hs hto H6
        go_wp2
        go_ret
        exact ⟨_, _, _, _, _, rfl, HSM2.out, HTO.out, by omega, HG2.out⟩
  · have e0' : (k == 0) = false := by simpa using e0
    have H6 := Lib.hid (spoil_any w0 w2 w5 g A l c (p4 + 1) _ _ _ _ (by rw [HSP.out.len]; exact HT5.out) (by omega) HSP.out.sm (by have := HSP.out.len; omega))
    rw [HSP.out.len] at H6
    go_wp2_with fail
    refine H6.out.mono ?_
    rintro e w9 ⟨v', vs', xss', p', rfl, hs, hto, hp5⟩
    have HTO := Lib.hid hto
    have HSM2 := Lib.hid hs
    clear hs hto H6
    go_wp2
    go_ret
    exact ⟨_, _, _, _, _, rfl, HSM2.out, HTO.out, by omega, HG2.out⟩

end Go.Proofs.Ytmhknknapciebaa

/- Fields drawn from bytes. -/
namespace Go.Proofs.Ytmhknknapciebaa
open Go.RowKit

set_option maxRecDepth 100000 in
set_option maxHeartbeats 3200000 in
theorem someField_any (w0 w : World) (g : Nat) (A : Option Addr) (l c p : Nat) (h : Rdr w0 w g A l c p) (hp : p < 800000000) :
    Calls Try.prog 69 #[.pointer (some ⟨g, 0, none⟩)] w (SomeT w0 g A l c p w) := by
  have HR := Lib.hid h
  have H1 := Lib.hid (one_lit w0 w _ g A l c (p) w.heap.size 5 [2, 3, 3, 2, 1] h (by omega) (below_alloc w (.cells #[iv 2, iv 3, iv 3, iv 2, iv 1] 3)) (Nat.le_refl _) (Ints.lit w [2, 3, 3, 2, 1] (by decide) (by decide)) (by omega))
  clear h
  go_enter Try.func69, Try.ntmps69
  go_wp2_with fail
  refine H1.out.mono ?_
  rintro e w1 ⟨n, rfl, hx, hr, hgr⟩
  have hn1 : 1 ≤ n ∧ n ≤ 3 := by simp at hx; omega
  have HG1 := Lib.hid hgr
  have H2 := Lib.hid (one_lit w0 w1 _ g A l c (p + 1) w1.heap.size 3 [4, 9, 2] hr (by omega) (below_alloc w1 (.cells #[iv 4, iv 9, iv 2] 3)) (Nat.le_refl _) (Ints.lit w1 [4, 9, 2] (by decide) (by decide)) (by omega))
  clear hx hr hgr H1 HR
  go_wp2_with fail
  refine H2.out.mono ?_
  rintro e w2 ⟨x, rfl, hx, hr, hgr⟩
  have hx1 : 1 ≤ x ∧ x ≤ 9 := by simp at hx; omega
  have HG2 := Lib.hid (grown_trans HG1.out hgr)
  obtain ⟨n, rfl⟩ := Int.eq_ofNat_of_zero_le (show 0 ≤ n by omega)
  have hn3 : n ≤ 3 := by omega
  have hn0 : 1 ≤ n := by omega
  have H4 := Lib.hid (tableOf_any w0 w2 g A l c (p + 2) n n 1 x hr (by omega) (by omega) (by omega) (by omega) (by omega) (by omega))
  clear hx hr hgr H2 HG1 hn1
  go_wp2_with fail
  refine H4.out.mono ?_
  rintro e w4 ⟨Av, cv, vs, xss, p4, rfl, hl, hxs, hto, hp4⟩
  have HTO := Lib.hid hto
  have HSP := Lib.hid (Shp.of hl hxs (by omega) (by omega) (by omega) (by omega))
  have H5 := Lib.hid (pick_any w0 w4 g A l c p4 3 hto.rd (by omega))
  clear hxs hto H4 hl
  go_wp2_with fail
  refine H5.out.mono ?_
  rintro e w5 ⟨k, rfl, hk1, _, hr, z, hw⟩
  have hone := Rdr.one (g := g) w4 (.int .i64 (p4 + 1 : Nat)) z
  rw [← hw] at hone
  have HT5 := Lib.hid (HTO.out.one hr hone)
  clear hr hone hw hk1 H5 HTO
  by_cases e0 : k = 0
  · subst e0
    have HL0 := Lib.hid (show ∃ zs, Shp n n zs ∧ TO w0 w2 g A l c (p4 + 1) (.slice Av n cv) vs zs w5 from ⟨xss, HSP.out, HT5.out⟩)
    clear HSP HT5
    go_wp2
    go_loopw [5] (fun i_ wr => ∃ i : Nat, i ≤ n ∧ i_ = .int .i64 i ∧ Hid (∃ zs, Shp n n zs ∧ TO w0 w2 g A l c (p4 + 1) (.slice Av n cv) vs zs wr)) (fun i_ _ => n - (intOf i_).toNat)
    case atStart => exact ⟨0, Nat.zero_le _, rfl, HL0⟩
    case round =>
      clear HL0
      obtain ⟨i, hi, rfl, HL⟩ := hrel
      by_cases hlt : i < n
      · go_wp2
        go_loopw [6] (fun j_ wi => ∃ j : Nat, j ≤ i ∧ j_ = .int .i64 j ∧ Hid (∃ zs, Shp n n zs ∧ TO w0 w2 g A l c (p4 + 1) (.slice Av n cv) vs zs wi)) (fun j_ _ => i - (intOf j_).toNat)
        case atStart => exact ⟨0, Nat.zero_le _, rfl, HL⟩
        case round =>
          clear HL
          obtain ⟨j, hj, rfl, HL⟩ := hrel
          by_cases hjl : j < i
          · obtain ⟨xs, hsp, hto⟩ := HL.out
            have HSX := Lib.hid hsp
            have hlen := hsp.len
            have hri := hsp.row i hlt
            have hrj := hsp.row j (by omega)
            have hv := g2_small hsp.sm (i := j) (j := i) (by omega) (by omega)
            obtain ⟨bo, c', b, o, cc, ev, q1, ⟨y, q2⟩, q3, hts⟩ := hto.set_at (i := i) (j := j) (by omega) (by omega) hv
            injection ev with ev1 ev2 ev3
            subst ev1
            subst ev3
            clear ev2
            have hto' := hto
            rw [← hlen] at hto'
            obtain ⟨b2, o2, cc2, q4, q5⟩ := hto'.get_at (i := j) (j := i) (by omega) (by omega)
            rw [hri] at q1
            rw [hrj] at q4
            have HN := Lib.hid (show ∃ zs, Shp n n zs ∧ TO w0 w2 g A l c (p4 + 1) (.slice (some ⟨bo, 0, none⟩) n cv) vs zs (wr.setCell ⟨b, o + j, none⟩ (.int .i64 (g2 xs j i))) from ⟨_, hsp.set hlt hv, hts⟩)
            have hjn : j < n := by omega
            clear hsp hto hto' hlen hri hrj hv hts HL
            generalize g2 xs j i = x0 at *
            go_wp2
            go_region
            all_goals
              clear q1 q2 q3 q4 q5
              go_wp2
              go_roundw
              case rel => exact ⟨j + 1, by omega, by go_num, Lib.hid (by obtain ⟨xs', h1, h2⟩ := HN.out; exact ⟨xs', h1, by first | exact h2 | exact h2.qu ⟨1, rfl⟩ | exact h2.qu ⟨_, rfl⟩⟩)⟩
              case measure => simp [intOf]; omega
          · obtain rfl : j = i := by omega
            go_wp2
            go_roundw
            case rel => exact ⟨j + 1, by omega, by go_num, HL⟩
            case measure => simp [intOf]; omega
      · obtain rfl : i = n := by omega
        obtain ⟨xs, hsp, hto⟩ := HL.out
        have HSX := Lib.hid hsp
        have HTX := Lib.hid hto
        clear hsp hto HL
        generalize wr = w6 at *
        have H7 := Lib.hid (pick_any w0 w6 g A l c (p4 + 1) 40 HTX.out.rd (by omega))
        go_wp2_with fail
        refine H7.out.mono ?_
        rintro e w7 ⟨k7, rfl, hk1, _, hr, z, hw⟩
        have hone := Rdr.one (g := g) w6 (.int .i64 ((p4 + 1) + 1 : Nat)) z
        rw [← hw] at hone
        have HT7 := Lib.hid (HTX.out.one hr hone)
        clear hr hone hw hk1 H7 HTX
        by_cases e7 : k7 = 0
        · subst e7
          have hl7 := HSX.out.len
          have hr7 := HSX.out.row 0 (by omega)
          obtain ⟨bo, c', b, o, cc, ev, q1, ⟨y, q2⟩, q3, hto⟩ := HT7.out.set_at (i := 0) (j := 0) (by omega) (by omega) (x := 0) (by omega)
          injection ev with ev1 ev2 ev3
          subst ev1
          subst ev3
          clear ev2
          rw [hr7] at q1
          rw [Nat.add_zero] at q2 q3 hto
          have HT8 := Lib.hid hto
          have HS8 := Lib.hid (HSX.out.set (i := 0) (j := 0) (by omega) (x := 0) (by omega))
          clear hto HT7 hl7 hr7
          go_wp2_with fail
          clear q1 q2 q3
          have H6 := Lib.hid (spoil_any w0 w2 (w7.setCell ⟨b, o, none⟩ (.int .i64 0)) g A l c ((p4 + 1) + 1) _ _ _ _ (by rw [HS8.out.len]; exact HT8.out) (by omega) HS8.out.sm (by have := HS8.out.len; omega))
          rw [HS8.out.len] at H6
          go_wp2_with fail
          refine H6.out.mono ?_
          rintro e w9 ⟨v', vs', xss', p', rfl, hs, hto, hp5⟩
          have HTO := Lib.hid hto
          have HSM2 := Lib.hid hs
          clear hs hto H6
          go_wp2
          go_ret
          exact ⟨_, _, _, _, _, rfl, HSM2.out, HTO.out, by omega, HG2.out⟩
        · have e7' : (k7 == 0) = false := by simpa using e7
          have H6 := Lib.hid (spoil_any w0 w2 w7 g A l c ((p4 + 1) + 1) _ _ _ _ (by rw [HSX.out.len]; exact HT7.out) (by omega) HSX.out.sm (by have := HSX.out.len; omega))
          rw [HSX.out.len] at H6
          go_wp2_with fail
          refine H6.out.mono ?_
          rintro e w9 ⟨v', vs', xss', p', rfl, hs, hto, hp5⟩
          have HTO := Lib.hid hto
          have HSM2 := Lib.hid hs
          clear hs hto H6
          go_wp2
          go_ret
          exact ⟨_, _, _, _, _, rfl, HSM2.out, HTO.out, by omega, HG2.out⟩
  · have e0' : (k == 0) = false := by simpa using e0
    have H7 := Lib.hid (pick_any w0 w5 g A l c (p4 + 1) 40 HT5.out.rd (by omega))
    go_wp2_with fail
    refine H7.out.mono ?_
    rintro e w7 ⟨k7, rfl, hk1, _, hr, z, hw⟩
    have hone := Rdr.one (g := g) w5 (.int .i64 ((p4 + 1) + 1 : Nat)) z
    rw [← hw] at hone
    have HT7 := Lib.hid (HT5.out.one hr hone)
    clear hr hone hw hk1 H7 HT5
    by_cases e7 : k7 = 0
    · subst e7
      have hl7 := HSP.out.len
      have hr7 := HSP.out.row 0 (by omega)
      obtain ⟨bo, c', b, o, cc, ev, q1, ⟨y, q2⟩, q3, hto⟩ := HT7.out.set_at (i := 0) (j := 0) (by omega) (by omega) (x := 0) (by omega)
      injection ev with ev1 ev2 ev3
      subst ev1
      subst ev3
      clear ev2
      rw [hr7] at q1
      rw [Nat.add_zero] at q2 q3 hto
      have HT8 := Lib.hid hto
      have HS8 := Lib.hid (HSP.out.set (i := 0) (j := 0) (by omega) (x := 0) (by omega))
      clear hto HT7 hl7 hr7
      go_wp2_with fail
      clear q1 q2 q3
      have H6 := Lib.hid (spoil_any w0 w2 (w7.setCell ⟨b, o, none⟩ (.int .i64 0)) g A l c ((p4 + 1) + 1) _ _ _ _ (by rw [HS8.out.len]; exact HT8.out) (by omega) HS8.out.sm (by have := HS8.out.len; omega))
      rw [HS8.out.len] at H6
      go_wp2_with fail
      refine H6.out.mono ?_
      rintro e w9 ⟨v', vs', xss', p', rfl, hs, hto, hp5⟩
      have HTO := Lib.hid hto
      have HSM2 := Lib.hid hs
      clear hs hto H6
      go_wp2
      go_ret
      exact ⟨_, _, _, _, _, rfl, HSM2.out, HTO.out, by omega, HG2.out⟩
    · have e7' : (k7 == 0) = false := by simpa using e7
      have H6 := Lib.hid (spoil_any w0 w2 w7 g A l c ((p4 + 1) + 1) _ _ _ _ (by rw [HSP.out.len]; exact HT7.out) (by omega) HSP.out.sm (by have := HSP.out.len; omega))
      rw [HSP.out.len] at H6
      go_wp2_with fail
      refine H6.out.mono ?_
      rintro e w9 ⟨v', vs', xss', p', rfl, hs, hto, hp5⟩
      have HTO := Lib.hid hto
      have HSM2 := Lib.hid hs
      clear hs hto H6
      go_wp2
      go_ret
      exact ⟨_, _, _, _, _, rfl, HSM2.out, HTO.out, by omega, HG2.out⟩

end Go.Proofs.Ytmhknknapciebaa

/- A row under way: its numbers may be set; shares drawn. -/
namespace Go.Proofs.Ytmhknknapciebaa
open Go.RowKit

theorem BldI.set {lo hi w v xs} (h : BldI lo hi w v xs) {j : Nat} (hj : j < xs.length) (x : Int) :
    ∃ b c, v = .slice (some ⟨b, 0, none⟩) xs.length c ∧ lo ≤ b ∧ b < hi ∧ w.cell? ⟨b, j, none⟩ = some (.int .i64 (gi xs j)) ∧ w.frozen? ⟨b, j, none⟩ = false ∧
      BldI lo hi (w.setCell ⟨b, j, none⟩ (.int .i64 x)) v (xs.set j x) := by
  have hh := h.hi_
  rcases h.own.2 with ⟨_, h0⟩ | ⟨g, cap, cur, rfl, hb, hg, hnc, hcm, hcs, htake⟩
  · omega
  · rw [Nat.mul_one] at htake hcs
    have hB : Blk w g 3 cur := hg
    have hc : cur[j]? = some (.int .i64 (gi xs j)) := by
      rw [← getElem_iv hj, ← htake, List.getElem?_take, if_pos hj]; simp
    refine ⟨g, cap, rfl, hb, hh g rfl, blk_cell hB hc, blk_frozen hB j, ⟨⟨by simp, .inr ⟨g, cap, cur.setIfInBounds j (.int .i64 x), by rw [List.length_set], hb, blk_set hB j _, by rw [List.length_set]; exact hnc, hcm, by simp [hcs], ?_⟩⟩, hh⟩⟩
    rw [List.length_set, Nat.mul_one, Array.toList_setIfInBounds, List.take_set, htake, List.map_set]
    rfl

/-- A row by itself, begun behind the world wb. -/
def SH (w0 wb : World) (g : Nat) (A : Option Addr) (l c p : Nat) (u : Value) (ys : List Int) (w : World) : Prop := TI w0 wb g A l c p wb.heap.size (.slice none 0 0) [] [] u ys w
theorem SH.start {w0 wb g A l c p} (h : Rdr w0 wb g A l c p) : SH w0 wb g A l c p (.slice (some ⟨wb.heap.size, 0, none⟩) 0 0) [] (wb.alloc (.cells #[] 3)) :=
  ⟨h.below_ (below_alloc _ _), Bld.nil _ _ _, by rw [World.size_alloc]; exact BldI.make (Nat.le_refl _), blk_lt h.box, Nat.le_refl _, by simp, grown_of_below (below_alloc _ _)⟩
theorem SH.below {w0 wb g A l c p u ys w w'} (h : SH w0 wb g A l c p u ys w) (k : Below w.heap.size w w') : SH w0 wb g A l c p u ys w' :=
  ⟨h.rd.below_ k, Bld.nil _ _ _, (h.bi.below k).mono k.size, h.gl, h.lh, Nat.le_trans h.hs k.size, grown_below h.up k⟩
theorem SH.one {w0 wb g A l c p p' u ys w w'} (h : SH w0 wb g A l c p u ys w) (hr : Rdr w0 w' g A l c p') (ho : One g w w') : SH w0 wb g A l c p' u ys w' := TI.one h hr ho
theorem SH.set {w0 wb g A l c p u ys w} (h : SH w0 wb g A l c p u ys w) {j : Nat} (hj : j < ys.length) (x : Int) :
    ∃ b cc, u = .slice (some ⟨b, 0, none⟩) ys.length cc ∧ w.cell? ⟨b, j, none⟩ = some (.int .i64 (gi ys j)) ∧ w.frozen? ⟨b, j, none⟩ = false ∧ SH w0 wb g A l c p u (ys.set j x) (w.setCell ⟨b, j, none⟩ (.int .i64 x)) := by
  obtain ⟨b, cc, e, h1, h2, h3, h4, h5⟩ := h.bi.set hj x
  have hgl := h.gl
  have hs : (w.setCell ⟨b, j, none⟩ (.int .i64 x)).heap.size = w.heap.size := by simp [World.setCell]
  refine ⟨b, cc, e, h3, h4, ⟨⟨blk_other h.rd.box (by show g ≠ b; omega) _, h.rd.bytes, h.rd.below.setCell (by show w0.heap.size ≤ b; have := h.rd.lt; omega) _, h.rd.lt, h.rd.small⟩, Bld.nil _ _ _, by rw [hs]; exact h5, h.gl, h.lh, by rw [hs]; exact h.hs, ?_⟩⟩
  exact ⟨h.up.os, h.up.tape, h.up.output, by rw [hs]; exact h.up.size, fun k hk hne => (Below.heap_setCell _ _ _ _ (by show k ≠ b; omega)).trans (h.up.block k hk hne)⟩
def SharesOut (w0 wb : World) (g : Nat) (A : Option Addr) (l c p n : Nat) (e : Ending) (w' : World) : Prop :=
  ∃ Av cv ys p', e = .returned (.slice Av ys.length cv) ∧ ys.length ≤ n + 1 ∧ (∀ x ∈ ys, -1 ≤ x ∧ x ≤ 1001) ∧ SH w0 wb g A l c p' (.slice Av ys.length cv) ys w' ∧ p' ≤ p + 3 * n + 3

set_option maxRecDepth 100000 in
set_option maxHeartbeats 1000000 in
theorem sharesOf_any (w0 w : World) (g : Nat) (A : Option Addr) (l c p n : Nat) (h : Rdr w0 w g A l c p) (hp : p < 900000000) (hn : n ≤ 8) :
    Calls Try.prog 76 #[.pointer (some ⟨g, 0, none⟩), .int .i64 n] w (SharesOut w0 w g A l c p n) := by
  have HS := Lib.hid (SH.start h)
  clear h
  obtain ⟨i0, hi0, hz0, hz1, hz2⟩ := info_parts Try.info_int
  go_enter Try.func76, Try.ntmps76
  go_wp2
  go_loopw [5] (fun u wr => ∃ (ys : List Int) (q : Nat), ys.length ≤ n ∧ q ≤ p + 3 * ys.length ∧ Hid (∀ x ∈ ys, 0 ≤ x ∧ x ≤ 5) ∧ Hid (SH w0 w g A l c q u ys wr)) (fun u _ => n - (match u with | .slice _ k _ => k | _ => 0))
  case atStart => exact ⟨[], p, Nat.zero_le _, by simp, Lib.hid (fun r hr => by simp at hr), HS⟩
  case round =>
    clear HS
    obtain ⟨ys, q, hyn, hq, HR, HI⟩ := hrel
    obtain ⟨Au, cu, rfl⟩ := HI.out.bi.form
    by_cases hlt : ys.length < n
    · have HC := Lib.hid (pick_any w0 _ g A l c q 6 HI.out.rd (by omega))
      go_wp2_with fail
      refine HC.out.mono ?_
      rintro e w2 ⟨k, rfl, hk1, _, hr, z, hw⟩
      have hone := Rdr.one (g := g) wr (.int .i64 (q + 1 : Nat)) z
      rw [← hw] at hone
      obtain ⟨k0, k1⟩ := hk1 (by omega)
      have HI2 := Lib.hid (HI.out.one hr hone)
      clear hr hone hw hk1 HC HI
      have HC := Lib.hid (pick_any w0 _ g A l c (q + 1) 3 HI2.out.rd (by omega))
      go_wp2_with fail
      refine HC.out.mono ?_
      rintro e w3 ⟨m, rfl, hk1, _, hr, z, hw⟩
      have hone := Rdr.one (g := g) w2 (.int .i64 (q + 1 + 1 : Nat)) z
      rw [← hw] at hone
      obtain ⟨m0, m1⟩ := hk1 (by omega)
      have HI3 := Lib.hid (HI2.out.one hr hone)
      clear hr hone hw hk1 HC HI2
      have HI4 := Lib.hid (HI3.out.below (below_alloc w3 (.cells #[iv k, iv m, iv 0, iv 1] 3)))
      have HIN := Lib.hid (Ints.lit w3 [k, m, 0, 1] (by simp) (by intro x hx; simp at hx; omega))
      have hgw : g < w3.heap.size := blk_lt HI3.out.rd.box
      have HC := Lib.hid (one_any w0 (w3.alloc (.cells #[iv k, iv m, iv 0, iv 1] 3)) g A l c (q + 1 + 1) _ 4 4 [k, m, 0, 1] HI4.out.rd (by omega) HIN.out (by omega) (fun b' o' e' => by injection e' with e'; injection e' with e' _ _; omega))
      clear HI3 HIN
      go_wp2_with fail
      refine HC.out.mono ?_
      rintro e w4 ⟨x, rfl, hx, hr, ho⟩
      have hx5 : 0 ≤ x ∧ x ≤ 5 := by simp at hx; omega
      have HI5 := Lib.hid (HI4.out.one hr ho)
      clear hx hr ho HC HI4
      have hb := below_alloc w4 (.cells #[iv x] 3)
      have HB4 := Lib.hid (HI5.out.bi.below hb).own
      have HN := Lib.hid (cell_one_new w4 (iv x) 3)
      have hHs := HI5.out.hs
      clear hb
      go_wp2_with (at_builtin; refine wpList_append_own_at _ rfl _ _ 23 rfl w.heap.size 3 i0 (.int .i64 0) 1 8 Try.underlying23 hi0 hz0 hz1 hz2 rfl (by decide) _ ys.length (ys.map iv) rfl HB4.out ⟨w4.heap.size, 0, none⟩ 1 1 [iv x] rfl rfl ?c1 ?c2 ?c3 ?c4 ?c5 ?_)
      case c1 => exact HN.out
      case c2 => intro u hu; simp at hu; subst hu; rfl
      case c3 => unfold maxLen; omega
      case c4 => omega
      case c5 => simp; omega
      intro v' w5 hown' hgrow _ hat
      have HI6 := Lib.hid (show SH w0 w g A l c (q + 1 + 1 + 1) v' (ys ++ [x]) w5 from TI.push HI5.out hown' hgrow (by simpa using hat))
      clear HB4 HN hown' hgrow hat HI5
      obtain ⟨Au2, cu2, rfl⟩ := HI6.out.bi.form
      go_wp2
      go_roundw
      case rel => exact ⟨ys ++ [x], q + 1 + 1 + 1, by simp; omega, by simp; omega, Lib.hid (fun x hx => by
        rcases List.mem_append.1 hx with hx | hx
        · exact HR.out x hx
        · simp at hx; omega), HI6⟩
      case measure => simp; omega
    · have hnx : ys.length = n := by omega
      have HNX := Lib.hid hnx
      have HZB1 : Hid (∀ x ∈ ys, -1 ≤ x ∧ x ≤ 1001) := Lib.hid (fun x hx => by have := HR.out x hx; omega)
      rw [hnx] at hq
      have hyn8 : ys.length ≤ 8 := by omega
      generalize hN : ys.length = N at *
      have HYL := Lib.hid hN
      clear hN
      clear hnx
      by_cases hn0 : n = 0
      · have HZL := HYL
        have HZB := HZB1
        have HT := HI
        clear HI HZB1
        have HC := Lib.hid (pick_any w0 _ g A l c q 40 HT.out.rd (by omega))
        go_wp2_with fail
        refine HC.out.mono ?_
        rintro e w6 ⟨kk, rfl, hk1, _, hr, z, hw⟩
        have hone := Rdr.one (g := g) wr (.int .i64 (q + 1 : Nat)) z
        rw [← hw] at hone
        obtain ⟨k0, k1⟩ := hk1 (by omega)
        have HT2 := Lib.hid (SH.one HT.out hr hone)
        clear hr hone hw hk1 HC HT
        by_cases e0 : kk = 0
        · subst e0
          have hb := below_alloc w6 (.cells #[iv 1] 3)
          have HB4 := Lib.hid (HT2.out.bi.below hb).own
          have HN := Lib.hid (cell_one_new w6 (iv 1) 3)
          have hHs := HT2.out.hs
          have HZ := Lib.hid HZL.out
          rw [HZL.out] at HB4
          clear hb
          go_wp2_with (at_builtin; refine wpList_append_own_at _ rfl _ _ 23 rfl w.heap.size 3 i0 (.int .i64 0) 1 8 Try.underlying23 hi0 hz0 hz1 hz2 rfl (by decide) _ N (ys.map iv) rfl HB4.out ⟨w6.heap.size, 0, none⟩ 1 1 [iv 1] rfl rfl ?c1 ?c2 ?c3 ?c4 ?c5 ?_)
          case c1 => exact HN.out
          case c2 => intro u hu; simp at hu; subst hu; rfl
          case c3 => unfold maxLen; omega
          case c4 => omega
          case c5 => simp; omega
          intro v' w7 hown' hgrow _ hat
          rw [← HZ.out] at hown'
          have HI6 := Lib.hid (show SH w0 w g A l c (q + 1) v' (ys ++ [1]) w7 from TI.push HT2.out hown' hgrow (by simpa [Value.ownBlock] using hat))
          clear HB4 HN hown' hgrow hat HT2
          obtain ⟨Au2, cu2, rfl⟩ := HI6.out.bi.form
          go_wp2
          go_ret
          exact ⟨Au2, cu2, ys ++ [1], q + 1, rfl, by rw [List.length_append, HZ.out]; simp; omega, fun x hx => by
            rcases List.mem_append.1 hx with hx | hx
            · exact HZB.out x hx
            · simp at hx; omega, HI6.out, by omega⟩
        · by_cases e1 : kk = 1
          · subst e1
            go_wp2
            go_ret
            exact ⟨_, cu, ys, q + 1, by rw [HZL.out]; rfl, by rw [HZL.out]; omega, HZB.out, by rw [HZL.out]; exact HT2.out, by omega⟩
          · go_wp2
            go_ret
            exact ⟨_, cu, ys, q + 1, by rw [HZL.out]; rfl, by rw [HZL.out]; omega, HZB.out, by rw [HZL.out]; exact HT2.out, by omega⟩
      · have HSO := Lib.hid (show SumOk ys from ⟨by rw [HYL.out]; omega, fun j hj => by have := HR.out _ (gi_mem hj); omega⟩)
        obtain ⟨A', n', c', g', e, -, ho, -⟩ := HI.out.bi.owns (by rw [HYL.out]; omega) (fun x hx => by have := HR.out x hx; omega)
        injection e with e1 e2 e3
        subst e1
        subst e2
        subst e3
        have HC := Lib.hid (sum_any _ _ _ ys _ ho.ints HSO.out)
        clear ho
        go_wp2_with fail
        refine HC.out.mono ?_
        rintro e w3 ⟨rfl, qq, rfl⟩
        have HI2 := Lib.hid (HI.out.below (below_drewN (Below.refl _ _) qq))
        clear HC HI
        by_cases hs0 : tot ys = 0
        · have hs0' : (tot ys == 0) = true := by simpa using hs0
          have HC := Lib.hid (pick_any w0 _ g A l c q n HI2.out.rd (by omega))
          clear hs0
          go_wp2_with fail
          refine HC.out.mono ?_
          rintro e w5 ⟨k, rfl, hk1, _, hr, z, hw⟩
          have hone := Rdr.one (g := g) (wr.drewN qq) (.int .i64 (q + 1 : Nat)) z
          rw [← hw] at hone
          obtain ⟨k0, k1⟩ := hk1 (by omega)
          have HI3 := Lib.hid (HI2.out.one hr hone)
          clear hr hone hw hk1 HC HI2
          obtain ⟨k, rfl⟩ := Int.eq_ofNat_of_zero_le k0
          have hkl : k < ys.length := by rw [HYL.out, HNX.out]; omega
          obtain ⟨b0, cc0, e, hc0, hf0, hset⟩ := HI3.out.set (j := k) hkl 1
          injection e with e1 e2 e3
          subst e1
          have HT := Lib.hid hset
          have HZL := Lib.hid (show (ys.set k 1).length = N by rw [List.length_set, HYL.out])
          have HZB : Hid (∀ x ∈ ys.set k 1, -1 ≤ x ∧ x ≤ 1001) := Lib.hid (fun y hy => by
            rcases List.mem_or_eq_of_mem_set hy with hy | rfl
            · exact HZB1.out y hy
            · omega)
          clear hset HI3 e2 e3 HZB1
          generalize ys.set k 1 = zs at *
          go_wp2_with fail
          clear hc0 hf0
          generalize (some (⟨b0, 0, none⟩ : Addr)) = Au at *
          have HC := Lib.hid (pick_any w0 _ g A l c (q + 1) 40 HT.out.rd (by omega))
          go_wp2_with fail
          refine HC.out.mono ?_
          rintro e w6 ⟨kk, rfl, hk1, _, hr, z, hw⟩
          have hone := Rdr.one (g := g) (w5.setCell ⟨b0, k, none⟩ (.int .i64 1)) (.int .i64 ((q + 1) + 1 : Nat)) z
          rw [← hw] at hone
          obtain ⟨k0, k1⟩ := hk1 (by omega)
          have HT2 := Lib.hid (SH.one HT.out hr hone)
          clear hr hone hw hk1 HC HT
          by_cases e0 : kk = 0
          · subst e0
            have hb := below_alloc w6 (.cells #[iv 1] 3)
            have HB4 := Lib.hid (HT2.out.bi.below hb).own
            have HN := Lib.hid (cell_one_new w6 (iv 1) 3)
            have hHs := HT2.out.hs
            have HZ := Lib.hid HZL.out
            rw [HZL.out] at HB4
            clear hb
            go_wp2_with (at_builtin; refine wpList_append_own_at _ rfl _ _ 23 rfl w.heap.size 3 i0 (.int .i64 0) 1 8 Try.underlying23 hi0 hz0 hz1 hz2 rfl (by decide) _ N (zs.map iv) rfl HB4.out ⟨w6.heap.size, 0, none⟩ 1 1 [iv 1] rfl rfl ?c1 ?c2 ?c3 ?c4 ?c5 ?_)
            case c1 => exact HN.out
            case c2 => intro u hu; simp at hu; subst hu; rfl
            case c3 => unfold maxLen; omega
            case c4 => omega
            case c5 => simp; omega
            intro v' w7 hown' hgrow _ hat
            rw [← HZ.out] at hown'
            have HI6 := Lib.hid (show SH w0 w g A l c ((q + 1) + 1) v' (zs ++ [1]) w7 from TI.push HT2.out hown' hgrow (by simpa [Value.ownBlock] using hat))
            clear HB4 HN hown' hgrow hat HT2
            obtain ⟨Au2, cu2, rfl⟩ := HI6.out.bi.form
            go_wp2
            go_ret
            exact ⟨Au2, cu2, zs ++ [1], (q + 1) + 1, rfl, by rw [List.length_append, HZ.out]; simp; omega, fun x hx => by
              rcases List.mem_append.1 hx with hx | hx
              · exact HZB.out x hx
              · simp at hx; omega, HI6.out, by omega⟩
          · by_cases e1 : kk = 1
            · subst e1
              have HI4 := Lib.hid (HT2.out.below (below_alloc w6 (.cells #[iv 1001, iv (-1), iv 1000] 3)))
              have HIN := Lib.hid (Ints.lit w6 [1001, -1, 1000] (by simp) (by intro x hx; simp at hx; omega))
              have hgw : g < w6.heap.size := blk_lt HT2.out.rd.box
              have HC := Lib.hid (one_any w0 (w6.alloc (.cells #[iv 1001, iv (-1), iv 1000] 3)) g A l c ((q + 1) + 1) _ 3 3 [1001, -1, 1000] HI4.out.rd (by omega) HIN.out (by omega) (fun b' o' e' => by injection e' with e'; injection e' with e' _ _; omega))
              clear HIN HT2
              go_wp2_with fail
              refine HC.out.mono ?_
              rintro e w7 ⟨x, rfl, hx, hr, ho⟩
              have hx5 : -1 ≤ x ∧ x ≤ 1001 := by simp at hx; omega
              have HI5 := Lib.hid (HI4.out.one hr ho)
              clear hx hr ho HC HI4
              obtain ⟨b0, cc0, e, hc0, hf0, hset⟩ := HI5.out.set (j := 0) (by rw [HZL.out]; omega) x
              injection e with e1 e2 e3
              subst e1
              have HI6 := Lib.hid hset
              clear hset HI5 e2 e3
              go_wp2
              go_ret
              exact ⟨_, cu, zs.set 0 x, (q + 1) + 1 + 1, by rw [List.length_set, HZL.out]; rfl, by rw [List.length_set, HZL.out]; omega, fun y hy => by
                rcases List.mem_or_eq_of_mem_set hy with hy | rfl
                · exact HZB.out y hy
                · exact hx5, by rw [List.length_set, HZL.out]; exact HI6.out, by omega⟩
            · go_wp2
              go_ret
              exact ⟨_, cu, zs, (q + 1) + 1, by rw [HZL.out]; rfl, by rw [HZL.out]; omega, HZB.out, by rw [HZL.out]; exact HT2.out, by omega⟩
        · have hs0' : (tot ys == 0) = false := by simpa using hs0
          have HZL := HYL
          have HZB := HZB1
          have HT := HI2
          clear HI2 HZB1 hs0
          have HC := Lib.hid (pick_any w0 _ g A l c q 40 HT.out.rd (by omega))
          go_wp2_with fail
          refine HC.out.mono ?_
          rintro e w6 ⟨kk, rfl, hk1, _, hr, z, hw⟩
          have hone := Rdr.one (g := g) (wr.drewN qq) (.int .i64 (q + 1 : Nat)) z
          rw [← hw] at hone
          obtain ⟨k0, k1⟩ := hk1 (by omega)
          have HT2 := Lib.hid (SH.one HT.out hr hone)
          clear hr hone hw hk1 HC HT
          by_cases e0 : kk = 0
          · subst e0
            have hb := below_alloc w6 (.cells #[iv 1] 3)
            have HB4 := Lib.hid (HT2.out.bi.below hb).own
            have HN := Lib.hid (cell_one_new w6 (iv 1) 3)
            have hHs := HT2.out.hs
            have HZ := Lib.hid HZL.out
            rw [HZL.out] at HB4
            clear hb
            go_wp2_with (at_builtin; refine wpList_append_own_at _ rfl _ _ 23 rfl w.heap.size 3 i0 (.int .i64 0) 1 8 Try.underlying23 hi0 hz0 hz1 hz2 rfl (by decide) _ N (ys.map iv) rfl HB4.out ⟨w6.heap.size, 0, none⟩ 1 1 [iv 1] rfl rfl ?c1 ?c2 ?c3 ?c4 ?c5 ?_)
            case c1 => exact HN.out
            case c2 => intro u hu; simp at hu; subst hu; rfl
            case c3 => unfold maxLen; omega
            case c4 => omega
            case c5 => simp; omega
            intro v' w7 hown' hgrow _ hat
            rw [← HZ.out] at hown'
            have HI6 := Lib.hid (show SH w0 w g A l c (q + 1) v' (ys ++ [1]) w7 from TI.push HT2.out hown' hgrow (by simpa [Value.ownBlock] using hat))
            clear HB4 HN hown' hgrow hat HT2
            obtain ⟨Au2, cu2, rfl⟩ := HI6.out.bi.form
            go_wp2
            go_ret
            exact ⟨Au2, cu2, ys ++ [1], q + 1, rfl, by rw [List.length_append, HZ.out]; simp; omega, fun x hx => by
              rcases List.mem_append.1 hx with hx | hx
              · exact HZB.out x hx
              · simp at hx; omega, HI6.out, by omega⟩
          · by_cases e1 : kk = 1
            · subst e1
              have HI4 := Lib.hid (HT2.out.below (below_alloc w6 (.cells #[iv 1001, iv (-1), iv 1000] 3)))
              have HIN := Lib.hid (Ints.lit w6 [1001, -1, 1000] (by simp) (by intro x hx; simp at hx; omega))
              have hgw : g < w6.heap.size := blk_lt HT2.out.rd.box
              have HC := Lib.hid (one_any w0 (w6.alloc (.cells #[iv 1001, iv (-1), iv 1000] 3)) g A l c (q + 1) _ 3 3 [1001, -1, 1000] HI4.out.rd (by omega) HIN.out (by omega) (fun b' o' e' => by injection e' with e'; injection e' with e' _ _; omega))
              clear HIN HT2
              go_wp2_with fail
              refine HC.out.mono ?_
              rintro e w7 ⟨x, rfl, hx, hr, ho⟩
              have hx5 : -1 ≤ x ∧ x ≤ 1001 := by simp at hx; omega
              have HI5 := Lib.hid (HI4.out.one hr ho)
              clear hx hr ho HC HI4
              obtain ⟨b0, cc0, e, hc0, hf0, hset⟩ := HI5.out.set (j := 0) (by rw [HZL.out]; omega) x
              injection e with e1 e2 e3
              subst e1
              have HI6 := Lib.hid hset
              clear hset HI5 e2 e3
              go_wp2
              go_ret
              exact ⟨_, cu, ys.set 0 x, q + 1 + 1, by rw [List.length_set, HZL.out]; rfl, by rw [List.length_set, HZL.out]; omega, fun y hy => by
                rcases List.mem_or_eq_of_mem_set hy with hy | rfl
                · exact HZB.out y hy
                · exact hx5, by rw [List.length_set, HZL.out]; exact HI6.out, by omega⟩
            · go_wp2
              go_ret
              exact ⟨_, cu, ys, q + 1, by rw [HZL.out]; rfl, by rw [HZL.out]; omega, HZB.out, by rw [HZL.out]; exact HT2.out, by omega⟩
end Go.Proofs.Ytmhknknapciebaa

/- Members of sets, parts of tables, numbers put to their places, numbers without a common factor. Plain. -/
namespace Go.Proofs.Ytmhknknapciebaa
open V (sumN detN rowC colC cofN minorN skip sgn)

/-- The members below j of a set. -/
def memL (s : Nat) : Nat → List Int
  | 0 => []
  | j + 1 => if s / 2 ^ j % 2 = 1 then memL s j ++ [(j : Int)] else memL s j
theorem memL_yes {s j : Nat} (h : s / 2 ^ j % 2 = 1) : memL s (j + 1) = memL s j ++ [(j : Int)] := by rw [memL, if_pos h]
theorem memL_no {s j : Nat} (h : ¬ s / 2 ^ j % 2 = 1) : memL s (j + 1) = memL s j := by rw [memL, if_neg h]
theorem memL_le (s : Nat) : ∀ j, (memL s j).length ≤ j
  | 0 => by simp [memL]
  | j + 1 => by
    have := memL_le s j
    rw [memL]
    split
    · rw [List.length_append, List.length_singleton]; omega
    · omega
theorem memL_bd (s : Nat) : ∀ j, ∀ x ∈ memL s j, 0 ≤ x ∧ x < (j : Int)
  | 0, x, h => by simp [memL] at h
  | j + 1, x, h => by
    rw [memL] at h
    split at h
    · rcases List.mem_append.1 h with h | h
      · have := memL_bd s j x h; omega
      · simp at h; omega
    · have := memL_bd s j x h; omega

/-- A list of as many places. -/
def lstN (r : Nat → Nat) (k : Nat) : List Int := (List.range k).map fun p => (r p : Int)
theorem lstN_len (r : Nat → Nat) (k : Nat) : (lstN r k).length = k := by simp [lstN]
theorem gi_lstN {r : Nat → Nat} {k p : Nat} (h : p < k) : gi (lstN r k) p = (r p : Int) := by
  rw [gi_get (by rw [lstN_len]; exact h)]; simp [lstN]

/-- The first j numbers of a row of a part; the first i rows. -/
def prtR (a : List (List Int)) (i : Nat) (c : Nat → Nat) (more : Int) (j : Nat) : List Int := (List.range j).map fun q => g2 a i (c q) + more
def prtL (a : List (List Int)) (r c : Nat → Nat) (more : Int) (l i : Nat) : List (List Int) := (List.range i).map fun p => prtR a (r p) c more l
theorem prtR_succ (a : List (List Int)) (i : Nat) (c : Nat → Nat) (more : Int) (j : Nat) : prtR a i c more (j + 1) = prtR a i c more j ++ [g2 a i (c j) + more] := by simp [prtR, List.range_succ]
theorem prtL_succ (a : List (List Int)) (r c : Nat → Nat) (more : Int) (l i : Nat) : prtL a r c more l (i + 1) = prtL a r c more l i ++ [prtR a (r i) c more l] := by simp [prtL, List.range_succ]
theorem prtR_len (a : List (List Int)) (i : Nat) (c : Nat → Nat) (more : Int) (j : Nat) : (prtR a i c more j).length = j := by simp [prtR]
theorem prtL_len (a : List (List Int)) (r c : Nat → Nat) (more : Int) (l i : Nat) : (prtL a r c more l i).length = i := by simp [prtL]
theorem gi_prtR {a : List (List Int)} {i : Nat} {c : Nat → Nat} {more : Int} {j q : Nat} (h : q < j) : gi (prtR a i c more j) q = g2 a i (c q) + more := by
  rw [gi_get (by rw [prtR_len]; exact h)]; simp [prtR]
theorem gr_prtL {a : List (List Int)} {r c : Nat → Nat} {more : Int} {l i p : Nat} (h : p < i) : gr (prtL a r c more l i) p = prtR a (r p) c more l := by
  rw [gr_get (by rw [prtL_len]; exact h)]; simp [prtL]
theorem prtL_sq (a : List (List Int)) (r c : Nat → Nat) (more : Int) (k : Nat) : Sq k (prtL a r c more k k) (fun p q => g2 a (r p) (c q) + more) :=
  ⟨prtL_len _ _ _ _ _ _, fun p hp => by rw [gr_prtL hp, prtR_len], fun p q hp hq => by unfold g2; rw [gr_prtL hp, gi_prtR hq]; rfl⟩
theorem prtR_bd {a : List (List Int)} {i : Nat} {c : Nat → Nat} {more : Int} {j : Nat} (h : ∀ q, q < j → -9 ≤ g2 a i (c q) ∧ g2 a i (c q) ≤ 9) (hm : 0 ≤ more ∧ more ≤ 18) : ∀ x ∈ prtR a i c more j, -27 ≤ x ∧ x ≤ 27 := fun x hx => by
  obtain ⟨q, hq, rfl⟩ := List.mem_map.1 hx
  have := h q (List.mem_range.1 hq)
  omega

/-- Numbers put to their places among n: the first k of them. -/
def putL (n : Nat) (r : Nat → Nat) (xs : List Int) : Nat → List Int
  | 0 => List.replicate n 0
  | k + 1 => (putL n r xs k).set (r k) (gi xs k)
theorem putL_len (n : Nat) (r : Nat → Nat) (xs : List Int) : ∀ k, (putL n r xs k).length = n
  | 0 => by simp [putL]
  | k + 1 => by rw [putL, List.length_set, putL_len n r xs k]
theorem gi_set_at {xs : List Int} {i k : Nat} {v : Int} (h : k < xs.length) : gi (xs.set i v) k = if i = k then v else gi xs k := by
  rw [gi_get (by rw [List.length_set]; exact h), gi_get h, List.getElem_set]
theorem gi_putL {n : Nat} {r : Nat → Nat} {xs : List Int} {i : Nat} (hi : i < n) : ∀ {k}, (∀ p q, p < q → q < k → r p ≠ r q) → gi (putL n r xs k) i = sumN (fun p => if r p = i then gi xs p else 0) k
  | 0, _ => by rw [putL, gi_get (by simpa using hi)]; simp [sumN]
  | k + 1, h => by
    have ih := gi_putL (xs := xs) hi (k := k) fun p q hp hq => h p q hp (by omega)
    rw [putL, gi_set_at (by rw [putL_len]; exact hi), sumN]
    by_cases e : r k = i
    · rw [if_pos e, if_pos e]
      have : sumN (fun p => if r p = i then gi xs p else 0) k = sumN (fun _ => 0) k := sumN_congr fun p hp => by rw [if_neg (fun e2 => h p k hp (by omega) (e2.trans e.symm))]
      rw [this, sumN_zero]; omega
    · rw [if_neg e, if_neg e, ih]; omega

/-- Numbers without signs, divided by g. -/
def clrL (xs : List Int) (g : Int) (i : Nat) : List Int := (List.range i).map fun p => max (gi xs p) (- gi xs p) / g
theorem clrL_succ (xs : List Int) (g : Int) (i : Nat) : clrL xs g (i + 1) = clrL xs g i ++ [max (gi xs i) (- gi xs i) / g] := by simp [clrL, List.range_succ]
theorem clrL_len (xs : List Int) (g : Int) (i : Nat) : (clrL xs g i).length = i := by simp [clrL]
theorem gi_clrL {xs : List Int} {g : Int} {i p : Nat} (h : p < i) : gi (clrL xs g i) p = max (gi xs p) (- gi xs p) / g := by
  rw [gi_get (by rw [clrL_len]; exact h)]; simp [clrL]
/-- Not all numbers are 0, and none have different signs. -/
structure ClrP (xs : List Int) : Prop where
  nz : ∃ p, p < xs.length ∧ gi xs p ≠ 0
  sg : (∀ p, p < xs.length → 0 ≤ gi xs p) ∨ ∀ p, p < xs.length → gi xs p ≤ 0
theorem gcdL_zero {xs : List Int} : ∀ {k}, gcdL xs k = 0 ↔ ∀ p, p < k → gi xs p = 0
  | 0 => by simp [gcdL]
  | k + 1 => by
    have ih := gcdL_zero (xs := xs) (k := k)
    rw [gcdL]
    constructor
    · intro h p hp
      have h1 : gcdL xs k = 0 := by
        apply Classical.byContradiction; intro hn
        have := gcdI_pos_left (b := gi xs k) hn; omega
      by_cases e : p = k
      · subst e
        apply Classical.byContradiction; intro hn
        have := gcdI_pos (a := gcdL xs p) hn; omega
      · exact ih.1 h1 p (by omega)
    · intro h
      rw [ih.2 fun p hp => h p (by omega), h k (by omega)]
      rfl
theorem gcdL_dvd (xs : List Int) : ∀ {k p}, p < k → gcdL xs k ∣ gi xs p
  | 0, _, h => absurd h (by omega)
  | k + 1, p, h => by
    rw [gcdL]
    by_cases e : p = k
    · subst e; exact gcdI_dvd_right _ _
    · exact Int.dvd_trans (gcdI_dvd_left _ _) (gcdL_dvd xs (k := k) (by omega))
end Go.Proofs.Ytmhknknapciebaa

/- A square without a row and a column, by the model. -/
namespace Go.Proofs.Ytmhknknapciebaa
open Go.RowKit

theorem Small.rowW_bd {xss : List (List Int)} (h : Small xss) {k c j : Nat} (hk : k < xss.length) (hj : j ≤ (gr xss k).length) : ∀ x ∈ rowW (gr xss k) c j, -1000 ≤ x ∧ x ≤ 1000 :=
  fun x hx => (h.rows _ (gr_mem hk)).2 x (rowW_mem _ _ hj hx)
theorem eqi_true {a b : Nat} (h : a = b) : ((a : Int) == (b : Int)) = true := by subst h; simp
theorem eqi_false {a b : Nat} (h : a ≠ b) : ((a : Int) == (b : Int)) = false := by simp; omega
theorem nei_true {a b : Nat} (h : a ≠ b) : ((a : Int) != (b : Int)) = true := by simp; omega
theorem nei_false {a b : Nat} (h : a = b) : ((a : Int) != (b : Int)) = false := by subst h; simp

set_option maxHeartbeats 1000000 in
theorem minor_any (A : Option Addr) (n c : Nat) (xss : List (List Int)) (r q : Nat) (w : World) (hx : IntRows w A n c xss) (hs : Small xss) (he : Even xss n) (hr : r ≤ 100) (hq : q ≤ 100) :
    Calls Try.prog 108 #[.slice A n c, .int .i64 r, .int .i64 q] w (NewT w (minW xss r q n n)) := by
  have HS := Lib.hid hs
  have HS0 := Lib.hid (TM.start w)
  have HE := Lib.hid he
  have hn8 := hs.n
  have HX := Lib.hid hx
  have LX := Lib.hid hx.len
  have hnx : n ≤ 8 := by rw [← hx.len]; exact hn8
  clear hx hs he
  go_enter Try.func108, Try.ntmps108
  go_wp2
  go_loopw [7, 8] (fun v i wr => ∃ (k : Nat) (vs : List Value), k ≤ n ∧ i = .int .i64 k ∧ Hid (TM w v vs (minW xss r q n k) wr)) (fun _ i _ => n - (intOf i).toNat)
  case atStart => exact ⟨0, [], Nat.zero_le _, rfl, HS0⟩
  case round =>
    clear HS0
    obtain ⟨k, vs, hk, rfl, HT⟩ := hrel
    obtain ⟨Av, cv, rfl⟩ := HT.out.bo.form
    by_cases hlt : k < n
    · by_cases hkr : k = r
      · have ht := eqi_true hkr
        have HR := Lib.hid hkr
        clear hkr
        go_wp2
        go_roundw
        case rel => exact ⟨k + 1, vs, by omega, by go_num, Lib.hid (by have := HR.out; subst this; rw [minW_at]; exact HT.out)⟩
        case measure => simp [intOf]; omega
      have ht := eqi_false hkr
      have HMS := Lib.hid (minW_ne (a := xss) (c := q) (n := n) hkr)
      clear hkr
      have HI := Lib.hid HT.out.row
      have hkx : k < xss.length := by rw [LX.out]; exact hlt
      have hrl : (gr xss k).length = n := HE.out k hkx
      have HRL := Lib.hid hrl
      clear HT hrl
      obtain ⟨b, o, rfl, hc⟩ := HX.out.at_ (by omega)
      have HC := Lib.hid (hc k hlt)
      clear hc
      go_wp2
      clear ht
      generalize wr.heap.size = N at *
      go_loopw [9, 10] (fun u i wi => ∃ (j : Nat), j ≤ n ∧ i = .int .i64 j ∧ Hid (TN w N (.slice Av (minW xss r q n k).length cv) vs (minW xss r q n k) u (rowW (gr xss k) q j) wi)) (fun _ i _ => n - (intOf i).toNat)
      case atStart => exact ⟨0, Nat.zero_le _, rfl, HI⟩
      case round =>
        clear HI
        obtain ⟨j, hj, rfl, HI⟩ := hrel
        obtain ⟨Au, cu, rfl⟩ := HI.out.bi.form
        by_cases hlm : j < n
        · by_cases hjq : j = q
          · have ht := nei_false hjq
            have HR := Lib.hid hjq
            clear hjq
            go_wp2
            go_roundw
            case rel => exact ⟨j + 1, by omega, by go_num, Lib.hid (by have := HR.out; subst this; rw [rowW_at]; exact HI.out)⟩
            case measure => simp [intOf]; omega
          have ht := nei_true hjq
          have HRS := Lib.hid (rowW_ne (xs := gr xss k) hjq)
          clear hjq
          obtain ⟨R, cc, c1, hR⟩ := HC.out
          have c2 := HI.out.up.cell (p := ⟨b, o + k, none⟩) (World.block_lt_of_cell? _ _ c1)
          rw [c1] at c2
          have hR2 := hR.keep (Keep.below HI.out.up)
          rw [HRL.out] at c1 c2 hR2
          obtain ⟨b', o', rfl, hc'⟩ := hR2.at_ (by omega)
          have c3 := hc' j hlm
          have hbd := HS.out.gi hkx (show j < (gr xss k).length by rw [HRL.out]; exact hlm)
          clear hc' hR hR2
          generalize hval : gi (gr xss k) j = x at *
          have HV := Lib.hid hval
          clear hval
          have hb := below_alloc wr (.cells #[iv x] 3)
          have HB4 := Lib.hid (HI.out.bi.below hb).own
          have HN := Lib.hid (cell_one_new wr (iv x) 3)
          have hHs := HI.out.hs
          have hlh := HI.out.lh
          have HML := Lib.hid (rowW_le (gr xss k) q j)
          generalize hys : rowW (gr xss k) q j = ys at *
          have HYS := Lib.hid hys
          clear hb hys
          obtain ⟨i0, hi0, hz0, hz1, hz2⟩ := info_parts Try.info_int
          go_wp2_with (at_builtin; refine wpList_append_own_at _ rfl _ _ 23 rfl N 3 i0 (.int .i64 0) 1 8 Try.underlying23 hi0 hz0 hz1 hz2 rfl (by decide) _ ys.length (ys.map iv) rfl HB4.out ⟨wr.heap.size, 0, none⟩ 1 1 [iv x] rfl rfl ?c1 ?c2 ?c3 ?c4 ?c5 ?_)
          case c1 => exact HN.out
          case c2 => intro u hu; simp at hu; subst hu; rfl
          case c3 => have := HML.out; unfold maxLen; omega
          case c4 => have := HML.out; omega
          case c5 => simp; omega
          intro v' w5 hown' hgrow _ hat
          have HI5 := Lib.hid (HI.out.push hown' hgrow (by simpa using hat))
          clear HB4 HN hown' hgrow hat HI
          go_wp2
          go_roundw
          case rel => exact ⟨j + 1, by omega, by go_num, Lib.hid (by rw [HRS.out]; exact HI5.out)⟩
          case measure => simp [intOf]; omega
        · obtain rfl : j = n := by omega
          have HBD := Lib.hid (HS.out.rowW_bd (c := q) hkx (Nat.le_of_eq HRL.out.symm))
          obtain ⟨Ar, nr, cr, gg, e, rfl, ho, _⟩ := HI.out.bi.owns (by have := rowW_le (gr xss k) q j; omega) (fun x hx => by have := HBD.out x hx; omega)
          injection e with e1 _ e3
          subst e1
          subst e3
          have HO := Lib.hid ho
          have HML := Lib.hid (rowW_le (gr xss k) q j)
          have HTL := Lib.hid (minW_le xss r q j k)
          have hb := below_alloc wr (.cells #[.slice Au (rowW (gr xss k) q j).length cu] 23)
          have HB4 := Lib.hid (HI.out.bo.below hb).own
          have HN := Lib.hid (cell_one_new wr (.slice Au (rowW (gr xss k) q j).length cu) 23)
          have hHs := HI.out.hs
          have hlh := HI.out.lh
          clear hb ho HBD HC
          generalize rowW (gr xss k) q j = ys at *
          generalize minW xss r q j k = ms at *
          obtain ⟨i0, hi0, hz0, hz1, hz2⟩ := info_parts Try.info_row
          go_wp2_with (at_builtin; refine wpList_append_own_at _ rfl _ _ 22 rfl w.heap.size 23 i0 (.slice none 0 0) 1 24 Try.underlying22 hi0 hz0 hz1 hz2 rfl (by decide) _ ms.length vs rfl HB4.out ⟨wr.heap.size, 0, none⟩ 1 1 [.slice Au ys.length cu] rfl rfl ?d1 ?d2 ?d3 ?d4 ?d5 ?_)
          case d2 => rfl
          case d3 => have := HTL.out; unfold maxLen; omega
          case d4 => have := HTL.out; omega
          case d5 => omega
          intro v' w5 hown' hgrow _ hat
          have HT5 := Lib.hid (HI.out.done HO.out hown' hgrow (by simpa using hat))
          clear HB4 HN hown' hgrow hat HI HO
          go_wp2
          go_roundw
          case rel => exact ⟨k + 1, _, by omega, by go_num, Lib.hid (by rw [HMS.out]; exact HT5.out)⟩
          case measure => simp [intOf]; omega
    · obtain rfl : k = n := by omega
      obtain ⟨A', n', c', gg, e, hn', hown⟩ := HT.out.bo.owns (by have := minW_le xss r q k k; omega)
      injection e with e1 e2 e3
      subst e1
      subst e2
      subst e3
      have HO := Lib.hid hown
      have HB := Lib.hid HT.out.up
      clear hown HT
      go_wp2
      go_ret
      exact ⟨_, _, _, gg, rfl, rfl, HO.out, HB.out⟩
end Go.Proofs.Ytmhknknapciebaa

/- The determinant of a square, by the model. -/
namespace Go.Proofs.Ytmhknknapciebaa
open Go.RowKit
open V (sumN detN rowC colC cofN minorN skip sgn)

theorem sgn_succ (j : Nat) : sgn (j + 1) = - sgn j := by unfold sgn; split <;> split <;> omega
theorem Sq.small {k : Nat} {xss : List (List Int)} {f : Nat → Nat → Int} (h : Sq k xss f) (hk : k ≤ 3) (ha : Ab k f) : Small xss := by
  refine ⟨by have := h.len; omega, fun r hr => ?_⟩
  obtain ⟨p, hp, rfl⟩ := List.mem_iff_getElem.1 hr
  rw [← gr_get hp]
  have hpk : p < k := by have := h.len; omega
  have hl := h.row p hpk
  refine ⟨by omega, fun x hx => ?_⟩
  obtain ⟨q, hq, rfl⟩ := List.mem_iff_getElem.1 hx
  rw [← gi_get hq]
  have := h.eq p q hpk (by omega)
  unfold g2 at this
  have := ha p q hpk (by omega)
  omega
theorem Sq.even {k : Nat} {xss : List (List Int)} {f : Nat → Nat → Int} (h : Sq k xss f) : Even xss k := fun p hp => h.row p (by rw [← h.len]; exact hp)
theorem wrapIn {x : Int} (h : -1000000000000000 ≤ x ∧ x ≤ 1000000000000000) : IntKind.i64.wrap x = x := wrap_in64 ⟨by omega, by omega⟩

set_option maxRecDepth 100000 in
set_option maxHeartbeats 2000000 in
theorem det_any : ∀ (n : Nat), n ≤ 3 → ∀ (A : Option Addr) (c : Nat) (xss : List (List Int)) (f : Nat → Nat → Int) (w : World), IntRows w A n c xss → Sq n xss f → Ab n f →
    Calls Try.prog 107 #[.slice A n c] w (Ret (.int .i64 (detN n f)) w) := by
  intro n
  induction n with
  | zero =>
    intro _ A c xss f w hx hq ha
    clear hx hq ha
    go_enter Try.func107, Try.ntmps107
    go_wp2
    go_ret
    exact ⟨rfl, Below.refl _ _⟩
  | succ k ih =>
    intro hk3 A c xss f w hx hq ha
    have IH := Lib.hid ih
    have HX := Lib.hid hx
    have HQ := Lib.hid hq
    have HAB := Lib.hid ha
    have HSM := Lib.hid (hq.small hk3 ha)
    obtain ⟨b, o, rfl, hc⟩ := hx.at_ (by omega)
    obtain ⟨R, cc, c1, hR⟩ := hc 0 (by omega)
    rw [hq.row 0 (by omega)] at c1 hR
    obtain ⟨b', o', rfl, hc'⟩ := hR.at_ (by omega)
    simp only [Nat.add_zero] at c1
    have HC1 := Lib.hid c1
    have HC' := Lib.hid hc'
    clear hx hq ha hc hR hc' c1 ih
    have HKN : Hid (k + 1 = k + 1) := Lib.hid rfl
    have HL := Lib.hid (detS_all k f)
    generalize hkn : k + 1 = n at hk3 HX HQ HAB HSM HC1 HC' HL HKN ⊢
    have HN := Lib.hid hkn
    have hn0 : 0 < n := by omega
    clear hkn HKN
    have hn0' : (0 : Int) < (n : Int) := by omega
    have hnz : ((n : Int) == 0) = false := by simp; omega
    go_enter Try.func107, Try.ntmps107
    go_wp2
    go_loopw [3, 4, 5] (fun s g i wr => ∃ j : Nat, j ≤ n ∧ i = .int .i64 j ∧ g = .int .i64 (sgn j) ∧ s = .int .i64 (detS k f j) ∧ Hid (Below w.heap.size w wr)) (fun _ _ i _ => n - (intOf i).toNat)
    case atStart => exact ⟨0, Nat.zero_le _, rfl, rfl, rfl, Lib.hid (Below.refl _ _)⟩
    case round =>
      obtain ⟨j, hj, rfl, rfl, rfl, HB⟩ := hrel
      by_cases hlt : j < n
      · have c2 := Keep.below HB.out _ _ HC1.out
        have c3 := Keep.below HB.out _ _ (HC'.out j hlt)
        have HK2 := Lib.hid c2
        have HK3 := Lib.hid c3
        obtain ⟨g1, g2⟩ := sgn_bd j
        have hsx : Hid (gi (gr xss 0) j = f 0 j) := Lib.hid (HQ.out.eq 0 j hn0 hlt)
        have HAB' : Hid (Ab (k + 1) f) := Lib.hid (by rw [HN.out]; exact HAB.out)
        have HD := Lib.hid (det_small (k := k) (f := minorN f 0 j) (by have := HN.out; omega) (HAB'.out.minor 0 j))
        have HT := Lib.hid (term_bd HAB'.out (j := j) (by have := HN.out; omega) HD.out)
        have HSB := Lib.hid (detS_bd (k := k) (by have := HN.out; omega) HAB'.out (j := j) (by have := HN.out; omega))
        have hxb := HAB.out 0 j hn0 hlt
        have HMB := Lib.hid (mulbd ⟨g1, g2⟩ hxb)
        rw [← hsx.out] at hxb HT HMB
        have HSS := Lib.hid (detS_succ k f j)
        rw [← hsx.out] at HSS
        generalize gi (gr xss 0) j = x at *
        have HMI : Hid (Sq k (minW xss 0 j n n) (minorN f 0 j)) := Lib.hid (by have h := HQ.out; rw [← HN.out] at h ⊢; exact h.minor (by omega) (by have := HN.out; omega))
        have HSG := Lib.hid (sgn_succ j)
        generalize hd : detN k (minorN f 0 j) = d at *
        have HDD := Lib.hid hd
        have HMS : Hid (sgn j * (x * d) = sgn j * x * d) := Lib.hid (Int.mul_assoc _ _ _).symm
        generalize hs0 : sgn j = s at *
        have HS0 := Lib.hid hs0
        generalize hS : detS k f j = S at *
        have HSE := Lib.hid hS
        clear hd hs0 hS
        have HW : Hid (IntKind.i64.wrap (S + IntKind.i64.wrap (IntKind.i64.wrap (s * x) * d)) = S + s * (x * d)) := Lib.hid (by
          have h1 := HMB.out
          have h2 := HT.out
          have h3 := HSB.out
          have h4 := HMS.out
          rw [wrapIn (x := s * x) (by omega), wrapIn (x := s * x * d) (by rw [← h4]; omega), ← h4, wrapIn (by omega)])
        go_wp2
        go_region_held3 (fun W => W.cell? ⟨b, o, none⟩ = some (.slice (some ⟨b', o', none⟩) n cc) ∧ W.cell? ⟨b', o' + j, none⟩ = some (.int .i64 x)) (first | exact HKK.out | exact HKL.out | exact And.intro HK2.out HK3.out | go_keep)
          (first
          | (go_at_call 108; refine (minor_any _ n c xss 0 j _ (HX.out.keep (Keep.below HB.out.drew)) HSM.out HQ.out.even (by omega) (by omega)).mono ?_; rintro e w8 ⟨A2, n2, c2', g2', rfl, hn2, ho, hb⟩; have HB8 := Lib.hid (below_up HB.out.drew hb); have HO := Lib.hid ho.rows; have HKK := Lib.hid (And.intro (Keep.below hb _ _ HK2.out) (Keep.below hb _ _ HK3.out)); obtain rfl : n2 = k := (hn2.trans (HMI.out.len)); clear hn2 ho hb HB)
          | (go_at_call 107; refine (HDD.out ▸ IH.out (by have := HN.out; omega) _ _ _ (minorN f 0 j) _ HO.out HMI.out (HAB'.out.minor 0 j)).mono ?_; rintro e w9 ⟨rfl, hb⟩; have HB9 := Lib.hid (below_up HB8.out hb); have HKL := Lib.hid (And.intro (Keep.below hb _ _ HKK.out.1) (Keep.below hb _ _ HKK.out.2)); clear HKK hb HB8 HO))
        all_goals
          go_wp2
          go_roundw
          case rel => exact ⟨j + 1, by omega, by go_num, by rw [HSG.out], by rw [HW.out, HSS.out], HB9⟩
          case measure => simp [intOf]; omega
      · obtain rfl : j = n := by omega
        go_wp2
        go_ret
        exact ⟨ret_int HL.out, HB.out⟩
end Go.Proofs.Ytmhknknapciebaa

/- Slices of ints under way; the sums of cofactors of each row of a square, by the model. -/
namespace Go.Proofs.Ytmhknknapciebaa
open Go.RowKit
open V (sumN detN rowC colC cofN minorN skip sgn)

/-- Ints under way: a slice made by append, alone. -/
structure IU (wb : World) (v : Value) (ys : List Int) (w : World) : Prop where
  bi : BldI wb.heap.size w.heap.size w v ys
  up : Below wb.heap.size wb w
theorem IU.start (wb : World) : IU wb (.slice (some ⟨wb.heap.size, 0, none⟩) 0 0) [] (wb.alloc (.cells #[] 3)) :=
  ⟨by rw [World.size_alloc]; exact BldI.make (Nat.le_refl _), below_alloc _ _⟩
theorem IU.nil (wb : World) : IU wb (.slice none 0 0) [] wb := ⟨BldI.nil _ _ _, Below.refl _ _⟩
theorem IU.next {wb v ys w w'} (h : IU wb v ys w) (k : Below w.heap.size w w') : IU wb v ys w' := ⟨(h.bi.below k).mono k.size, below_up h.up k⟩
theorem IU.push {wb v v' ys w w' x} (h : IU wb v ys w) (hown : w'.ownsRow wb.heap.size 3 1 v' (ys.length + 1) (ys.map iv ++ [iv x]))
    (hgrow : (w.alloc (.cells #[iv x] 3)).grownBy w' v.ownBlock) (hat : v'.ownBlock = v.ownBlock ∨ v'.ownBlock = some (w.heap.size + 1)) : IU wb v' (ys ++ [x]) w' := by
  have hsz := hgrow.size
  simp only [World.size_alloc] at hsz
  have hu : ∀ k, v.ownBlock = some k → wb.heap.size ≤ k := fun k hk => (h.bi.own.lt k hk).1
  have hbelow : ∀ k, k < wb.heap.size → w'.heap[k]? = w.heap[k]? := fun k hk => by
    have := h.up.size
    exact (hgrow.block k (by simp; omega) (fun e => by have := hu k e.symm; omega)).trans (Below.heap_alloc _ _ _ (by omega))
  refine ⟨⟨by rw [List.length_append, List.length_singleton, List.map_append]; exact hown, fun k hk => ?_⟩, ?_⟩
  · rcases hat with hat | hat
    · have := h.bi.hi_ k (by rw [← hat]; exact hk); omega
    · have := (hown.lt k hk).2; omega
  · exact ⟨hgrow.os.trans h.up.os, hgrow.tape.trans h.up.tape, hgrow.output.trans h.up.output, by have := h.up.size; omega, fun k hk => (hbelow k hk).trans (h.up.block k hk)⟩
/-- A new slice of ints. -/
def NewI (w : World) (ys : List Int) (e : Ending) (w' : World) : Prop :=
  ∃ Av n c gg, e = .returned (.slice Av n c) ∧ n = ys.length ∧ OwnI w.heap.size w'.heap.size w' gg Av n c ys ∧ Below w.heap.size w w'
theorem IU.new {wb ys w} {A : Option Addr} {c : Nat} (h : IU wb (.slice A ys.length c) ys w) (hm : ys.length ≤ 100) (hb : ∀ y ∈ ys, -1000000000000000 ≤ y ∧ y ≤ 1000000000000000) :
    NewI wb ys (.returned (.slice A ys.length c)) w := by
  obtain ⟨A', n', c', g, e, hn, ho, _⟩ := h.bi.owns (by omega) (fun t ht => by have := hb t ht; omega)
  injection e with e1 e2 e3
  subst e1
  subst e2
  subst e3
  exact ⟨_, _, _, g, rfl, rfl, ho, h.up⟩

theorem Sq.minor' {n : Nat} {xss : List (List Int)} {f : Nat → Nat → Int} (h : Sq n xss f) {r c : Nat} (hr : r < n) (hc : c < n) : Sq (n - 1) (minW xss r c n n) (minorN f r c) := by
  obtain ⟨l, rfl⟩ : ∃ l, n = l + 1 := ⟨n - 1, by omega⟩
  exact h.minor (by omega) (by omega)
theorem Ab.minor' {n : Nat} {f : Nat → Nat → Int} (h : Ab n f) (hn : 0 < n) (r c : Nat) : Ab (n - 1) (minorN f r c) := by
  obtain ⟨l, rfl⟩ : ∃ l, n = l + 1 := ⟨n - 1, by omega⟩
  exact h.minor r c
/-- The sums of cofactors of the first i rows. -/
def cofL (k : Nat) (f : Nat → Nat → Int) (i : Nat) : List Int := (List.range i).map (rowC k f)
theorem cofL_succ (k : Nat) (f : Nat → Nat → Int) (i : Nat) : cofL k f (i + 1) = cofL k f i ++ [rowC k f i] := by simp [cofL, List.range_succ]
theorem cofL_len (k : Nat) (f : Nat → Nat → Int) (i : Nat) : (cofL k f i).length = i := by simp [cofL]
theorem cofL_bd {k : Nat} {f : Nat → Nat → Int} (hk : k ≤ 3) (h : Ab k f) {i : Nat} (hi : i ≤ k) : ∀ x ∈ cofL k f i, -1000000 ≤ x ∧ x ≤ 1000000 := fun x hx => by
  obtain ⟨j, hj, rfl⟩ := List.mem_map.1 hx
  have := List.mem_range.1 hj
  exact cofS_bd hk h (by omega) (Nat.le_refl k)

theorem cofS_odd {k : Nat} {f : Nat → Nat → Int} {i j : Nat} (h : (i + j) % 2 = 1) : cofS k f i (j + 1) = cofS k f i j + -(detN (k - 1) (minorN f i j)) := by
  rw [cofS_succ, cofN, sgn, if_pos h]; omega
theorem cofS_even {k : Nat} {f : Nat → Nat → Int} {i j : Nat} (h : ¬ (i + j) % 2 = 1) : cofS k f i (j + 1) = cofS k f i j + detN (k - 1) (minorN f i j) := by
  rw [cofS_succ, cofN, sgn, if_neg h]; omega

end Go.Proofs.Ytmhknknapciebaa

/- Members of sets, by the model. -/
namespace Go.Proofs.Ytmhknknapciebaa
open Go.RowKit

theorem div_pow_succ (x i : Nat) : x / 2 ^ (i + 1) = x / 2 ^ i / 2 := by rw [Nat.pow_succ, Nat.div_div_eq_div_mul]
set_option maxHeartbeats 400000 in
theorem bit_any (x j : Nat) (w : World) (hx : x ≤ 1000) (hj : j ≤ 1000) : Calls Try.prog 106 #[.int .i64 x, .int .i64 j] w fun e w' => e = .returned (.int .i64 ((x / 2 ^ j % 2 : Nat) : Int)) ∧ w = w' := by
  go_enter Try.func106, Try.ntmps106
  go_wp2
  go_loop [0, 1] (fun s t => ∃ i k : Nat, i + k = j ∧ t = .int .i64 k ∧ s = .int .i64 ((x / 2 ^ i : Nat) : Int)) (fun _ t => (intOf t).toNat)
  case atStart => exact ⟨0, j, by omega, rfl, by simp⟩
  case round =>
    obtain ⟨i, k, hik, rfl, rfl⟩ := hrel
    have hb : x / 2 ^ i ≤ 1000 := Nat.le_trans (Nat.div_le_self _ _) hx
    have HS := Lib.hid (div_pow_succ x i)
    have hk1 : k ≤ 1000 := by omega
    have HI := Lib.hid hik
    generalize hy : x / 2 ^ i = y at *
    have HY := Lib.hid hy
    clear hy hik
    by_cases hk : 0 < k
    · have hk' : (0 : Int) < (k : Int) := by omega
      go_wp2
      go_round
      case rel => exact ⟨i + 1, k - 1, by have := HI.out; omega, by go_num, by rw [HS.out]; go_num⟩
      case measure => simp [intOf]; omega
    · obtain rfl : k = 0 := by omega
      go_wp2
      go_ret
      exact ⟨ret_int (by
        have h1 := HI.out
        have h2 := HY.out
        obtain rfl : j = i := by omega
        have h3 : ((x / 2 ^ j % 2 : Nat) : Int) = ((y : Nat) : Int) % 2 := by rw [h2]; omega
        first | exact h3.symm | (rw [← h3]; simp)), rfl⟩

theorem memb_bd (s j : Nat) (hj : j ≤ 100) : ∀ y ∈ memL s j, -1000000000000000 ≤ y ∧ y ≤ 1000000000000000 := fun y hy => by have := memL_bd s j y hy; omega
set_option maxHeartbeats 1000000 in
theorem members_any (s n : Nat) (w : World) (hs : s ≤ 1000) (hn : n ≤ 100) : Calls Try.prog 84 #[.int .i64 s, .int .i64 n] w (NewI w (memL s n)) := by
  have HS0 := Lib.hid (IU.start w)
  go_enter Try.func84, Try.ntmps84
  go_wp2
  go_loopw [5, 6] (fun v i wr => ∃ k : Nat, k ≤ n ∧ i = .int .i64 k ∧ Hid (IU w v (memL s k) wr)) (fun _ i _ => n - (intOf i).toNat)
  case atStart => exact ⟨0, Nat.zero_le _, rfl, HS0⟩
  case round =>
    clear HS0
    obtain ⟨k, hk, rfl, HI⟩ := hrel
    obtain ⟨Av, cv, rfl⟩ := HI.out.bi.form
    by_cases hlt : k < n
    · have HB := Lib.hid (bit_any s k wr hs (by omega))
      by_cases hp : s / 2 ^ k % 2 = 1
      · have HCS := Lib.hid (memL_yes hp)
        have HML := Lib.hid (memL_le s k)
        rw [hp] at HB
        clear hp
        have hb := below_alloc wr (.cells #[iv (k : Int)] 3)
        have HB4 := Lib.hid (HI.out.bi.below hb).own
        have HN := Lib.hid (cell_one_new wr (iv (k : Int)) 3)
        have hwz := HI.out.up.size
        clear hb
        generalize memL s k = ys at *
        obtain ⟨i0, hi0, hz0, hz1, hz2⟩ := info_parts Try.info_int
        go_wp2_with fail
        refine HB.out.mono ?_
        rintro e w1 ⟨rfl, rfl⟩
        go_wp2_with (at_builtin; refine wpList_append_own_at _ rfl _ _ 23 rfl w.heap.size 3 i0 (.int .i64 0) 1 8 Try.underlying23 hi0 hz0 hz1 hz2 rfl (by decide) _ ys.length (ys.map iv) rfl HB4.out ⟨wr.heap.size, 0, none⟩ 1 1 [iv (k : Int)] rfl rfl ?c1 ?c2 ?c3 ?c4 ?c5 ?_)
        case c1 => exact HN.out
        case c2 => intro u hu; simp at hu; subst hu; rfl
        case c3 => have := HML.out; unfold maxLen; omega
        case c4 => have := HML.out; omega
        case c5 => simp; omega
        intro v' w5 hown' hgrow _ hat
        have HI5 := Lib.hid (HI.out.push hown' hgrow (by simpa using hat))
        clear HB4 HN hown' hgrow hat HI
        go_wp2
        go_roundw
        case rel => exact ⟨k + 1, by omega, by go_num, Lib.hid (by rw [HCS.out]; exact HI5.out)⟩
        case measure => simp [intOf]; omega
      · have HCS := Lib.hid (memL_no hp)
        have hp0 : s / 2 ^ k % 2 = 0 := by omega
        rw [hp0] at HB
        clear hp hp0
        go_wp2_with fail
        refine HB.out.mono ?_
        rintro e w1 ⟨rfl, rfl⟩
        go_wp2
        go_roundw
        case rel => exact ⟨k + 1, by omega, by go_num, Lib.hid (by rw [HCS.out]; exact HI.out)⟩
        case measure => simp [intOf]; omega
    · obtain rfl : k = n := by omega
      have HNW := Lib.hid (HI.out.new (by have := memL_le s k; omega) (memb_bd s k (by omega)))
      go_wp2
      go_ret
      exact HNW.out
end Go.Proofs.Ytmhknknapciebaa

/- Some rows and columns of a table, by the model. -/
namespace Go.Proofs.Ytmhknknapciebaa
open Go.RowKit

/-- One number more, appended in a region that draws its order. -/
theorem IU.push2 {wb v ys w w2 w1 x} {gg cap : Nat} (h : IU wb v ys w) (hb : Below w.heap.size w w2)
    (hown : w1.ownsRow wb.heap.size 3 1 (.slice (some ⟨gg, 0, none⟩) (ys.length + 1) cap) (ys.length + 1) (ys.map iv ++ [iv x])) (hgrow : w2.grownBy w1 v.ownBlock) (hlt : gg < w1.heap.size) :
    IU wb (.slice (some ⟨gg, 0, none⟩) (ys.length + 1) cap) (ys ++ [x]) w1 := by
  have hu : ∀ k, v.ownBlock = some k → wb.heap.size ≤ k := fun k hk => (h.bi.own.lt k hk).1
  have hz := h.up.size
  have hz2 := hb.size
  refine ⟨⟨by rw [List.length_append, List.length_singleton, List.map_append]; exact hown, fun k hk => ?_⟩, ?_⟩
  · have : gg = k := by simpa [Value.ownBlock] using hk
    omega
  · exact (below_up h.up hb).grown hgrow (by omega) fun k hk => hu k hk
theorem TN.push2 {wb H v vs xss u ys w w2 w1 x} {gg cap : Nat} (h : TN wb H v vs xss u ys w) (hb : Below w.heap.size w w2)
    (hown : w1.ownsRow H 3 1 (.slice (some ⟨gg, 0, none⟩) (ys.length + 1) cap) (ys.length + 1) (ys.map iv ++ [iv x])) (hgrow : w2.grownBy w1 u.ownBlock) (hlt : gg < w1.heap.size) :
    TN wb H v vs xss (.slice (some ⟨gg, 0, none⟩) (ys.length + 1) cap) (ys ++ [x]) w1 := by
  have hu : ∀ k, u.ownBlock = some k → H ≤ k := fun k hk => (h.bi.own.lt k hk).1
  have hz := h.up.size
  have hz2 := hb.size
  have hlh := h.lh
  have hhs := h.hs
  have hsz := hgrow.size
  have hbelow : ∀ k, k < H → w1.heap[k]? = w.heap[k]? := fun k hk =>
    (hgrow.block k (by omega) (fun e => by have := hu k e.symm; omega)).trans (hb.block k (by omega))
  refine ⟨h.bo.of_blocks fun k _ hk _ => hbelow k hk, ⟨by rw [List.length_append, List.length_singleton, List.map_append]; exact hown, fun k hk => ?_⟩, hlh, by omega, ?_⟩
  · have : gg = k := by simpa [Value.ownBlock] using hk
    omega
  · exact (below_up h.up hb).grown hgrow (by omega) fun k hk => by have := hu k hk; omega
theorem IU.qu {wb v ys w w'} (h : IU wb v ys w) (k : Quiet w w') : IU wb v ys w' := h.next k.below
theorem TN.next {wb H v vs xss u ys w w'} (h : TN wb H v vs xss u ys w) (k : Below w.heap.size w w') : TN wb H v vs xss u ys w' := by
  have hhs := h.hs
  have hz := k.size
  exact ⟨h.bo.of_blocks fun g _ hg _ => k.block g (by omega), (h.bi.below k).mono k.size, h.lh, by omega, below_up h.up k⟩
theorem TN.qu {wb H v vs xss u ys w w'} (h : TN wb H v vs xss u ys w) (k : Quiet w w') : TN wb H v vs xss u ys w' := h.next k.below

/-- Places of a table in a list. -/
structure Pl (w : World) (X : Option Addr) (k c : Nat) (r : Nat → Nat) (n : Nat) : Prop where
  ints : Ints w X k c (lstN r k)
  lt : ∀ p, p < k → r p < n

end Go.Proofs.Ytmhknknapciebaa

