/- Texts merged: CO K7 F1 FU K11 K12. -/
import Derived.Test.YtgmcmblcljfofaaQ9
import Derived.Laws.Tables
import Derived.Laws.Rows
/- A table as an array, by the program. -/
namespace Go.Proofs.Ytgmcmblcljfofaa
open Go.RowKit

theorem blk_row {w g t cs} (h : Blk w g t cs) (c : Array Value) : Blk (w.setRow g c) g t c := setRow_heap w g cs c t (0, 0) h
theorem row_other (w : World) (g k : Nat) (c : Array Value) (h : k ≠ g) : (w.setRow g c).heap[k]? = w.heap[k]? := by
  simp only [World.setRow, Array.getElem?_modify, if_neg (Ne.symm h)]
theorem blk_row_other {w g k t cs} (h : Blk w k t cs) (c : Array Value) (hne : k ≠ g) : Blk (w.setRow g c) k t cs := (row_other w g k c hne).trans h
theorem below_row {B : Nat} {a w : World} (h : Below B a w) {g : Nat} (hg : B ≤ g) (c : Array Value) : Below B a (w.setRow g c) :=
  ⟨h.os, h.tape, h.output, by simpa [World.setRow] using h.size, fun k hk => (row_other w g k c (by omega)).trans (h.block k hk)⟩

/-- A table on its way into an array: the result's box, and the variable. -/
structure CW (a : List (List Int)) (m : Nat) (w : World) (i j : Nat) (W : World) : Prop where
  box : Blk W w.heap.size 68 (cs9 fun _ _ => 0)
  var : Blk W (w.heap.size + 1) 68 (cs9 (part9 a m i j))
  below : Below w.heap.size w W
theorem CW.start (a : List (List Int)) (m : Nat) (w : World) : CW a m w 0 0 ((w.alloc (.cells (cs9 fun _ _ => 0) 68)).alloc (.cells (cs9 fun _ _ => 0) 68)) :=
  ⟨blk_old (blk_new _ _ _) _, by rw [part9_zero]; have := blk_new (w.alloc (.cells (cs9 fun _ _ => 0) 68)) 68 (cs9 fun _ _ => 0); rw [World.size_alloc] at this; exact this, below_up (below_alloc _ _) (below_alloc _ _)⟩
theorem CW.put {a m w i j W} (h : CW a m w i j W) (hi : i < 3) (hj : j < m) (hm : m ≤ 3) : CW a m w i (j + 1) (W.setCell ⟨w.heap.size + 1, i * 3 + j, none⟩ (.int .i64 (g2 a i j))) :=
  ⟨blk_other h.box (by show w.heap.size ≠ w.heap.size + 1; omega) _, by have := blk_set h.var (i * 3 + j) (.int .i64 (g2 a i j)); rw [cs9_set _ hi (by omega), part9_next a m i j hj] at this; exact this, h.below.setCell (by show w.heap.size ≤ w.heap.size + 1; omega) _⟩
theorem CW.row {a m w i W} (h : CW a m w i m W) : CW a m w (i + 1) 0 W := ⟨h.box, by rw [← part9_row]; exact h.var, h.below⟩
theorem CW.keep {a m w i j W} (h : CW a m w i j W) : Keep w W := Keep.below h.below

set_option maxRecDepth 100000 in
set_option maxHeartbeats 3200000 in
theorem cellsOf_any (b o : Nat) (rb ro cc : Nat → Nat) (n m c : Nat) (a : List (List Int)) (w : World) (ht : Tab w b o rb ro cc n m a) :
    Calls Try.prog 76 #[.slice (some ⟨b, o, none⟩) n c] w (Ret (.agg (cs9 (full9 a n m))) w) := by
  have HT := Lib.hid ht
  have hn1 := ht.n1
  have hn3 := ht.n3
  have hm1 := ht.m1
  have hm3 := ht.m3
  have HS := Lib.hid (CW.start a m w)
  clear ht
  go_enter Try.func76, Try.ntmps76
  go_wp2
  go_loopw [10] (fun i_ wr => ∃ i : Nat, i ≤ n ∧ i_ = .int .i64 i ∧ Hid (CW a m w i 0 wr)) (fun i_ _ => n - (intOf i_).toNat)
  case atStart => exact ⟨0, Nat.zero_le _, rfl, HS⟩
  case round =>
    clear HS
    obtain ⟨i, hi, rfl, HC⟩ := hrel
    by_cases hlt : i < n
    · have c1 := HC.out.keep _ _ (HT.out.row i hlt)
      go_wp2
      clear c1
      go_loopw [17] (fun j_ wi => ∃ j : Nat, j ≤ m ∧ j_ = .int .i64 j ∧ Hid (CW a m w i j wi)) (fun j_ _ => m - (intOf j_).toNat)
      case atStart => exact ⟨0, Nat.zero_le _, rfl, HC⟩
      case round =>
        clear HC
        obtain ⟨j, hj, rfl, HC⟩ := hrel
        by_cases hjl : j < m
        · have c2 := HC.out.keep _ _ (HT.out.cell i j hlt hjl)
          have c3 := blk_cell HC.out.var (cs9_get _ (by omega : i < 3) (by omega : j < 3))
          have c4 := blk_frozen HC.out.var (i * 3 + j)
          have HN := Lib.hid (HC.out.put (by omega) hjl hm3)
          have hi3 : (i : Int) < 3 := by omega
          have hj3 : (j : Int) < 3 := by omega
          generalize g2 a i j = x at *
          go_wp2
          clear c2 c3 c4
          go_roundw
          case rel => exact ⟨j + 1, by omega, by go_num, HN⟩
          case measure => simp [intOf]; omega
        · obtain rfl : j = m := by omega
          have HN := Lib.hid HC.out.row
          go_wp2
          go_roundw
          case rel => exact ⟨i + 1, by omega, by go_num, HN⟩
          case measure => simp [intOf]; omega
    · obtain rfl : i = n := by omega
      have HV := Lib.hid (show Blk wr (w.heap.size + 1) 68 (cs9 (full9 a i m)) by rw [← part9_all]; exact HC.out.var)
      have HX := Lib.hid HC.out.box
      have HB := Lib.hid HC.out.below
      clear HC
      generalize full9 a i m = F at *
      generalize wr = W0 at *
      have HSZ : Hid ((Try.prog.info? 68).map (·.size) = some (cs9 F).size) := Lib.hid (by show _ = some 9; kernel_rfl)
      have HS1 : Hid ((cs9 F).all (·.oneCell') = true) := Lib.hid (by simp [cs9, Value.oneCell'])
      go_wp2_with (first | (refine wpList_load_row rfl 68 _ rfl (w.heap.size + 1) rfl 68 (cs9 F) (0, 0) _ HV.out und_cells rfl HSZ.out ?_) | (refine wpList_store_row rfl 68 _ _ rfl w.heap.size (cs9 F) rfl rfl 68 _ HX.out HSZ.out rfl HS1.out ?_))
      have BB := Lib.hid (blk_row HX.out (cs9 F))
      have HBX := Lib.hid (below_row HB.out (g := w.heap.size) (Nat.le_refl _) (cs9 F))
      clear HX HV HB
      generalize W0.setRow w.heap.size (cs9 F) = W9 at *
      refine bodyPost_ret (v := .agg (cs9 F)) (results_cell_row (by rfl) _ _ w.heap.size 68 (cs9 F) (0, 0) _ (by rfl) BB.out und_cells rfl HSZ.out) rfl ?_
      exact ⟨rfl, HBX.out⟩
end Go.Proofs.Ytgmcmblcljfofaa

/- Even tables, by both programs. -/
namespace Go.Proofs.Ytgmcmblcljfofaa
open Go.RowKit

theorem VQ.len2 {a : List (List Int)} {n : Nat} (v : VQ a) (hl : a.length = n) : (gr a 0).length = n := by have := v.2; omega
/-- A square that is the same with rows as columns. -/
structure EvP (a : List (List Int)) : Prop where
  q : VQ a
  e : ∀ i j, i < a.length → j < a.length → g2 a i j = g2 a j i

set_option maxRecDepth 100000 in
set_option maxHeartbeats 1600000 in
theorem IsEven_spec (A : Option Addr) (n c : Nat) (a : List (List Int)) (w : World) (hx : IntRows w A n c a) :
    Calls Try.prog 39 #[.slice A n c] w (Ret (.bool (pb (EvP a))) w) := by
  have HX := Lib.hid hx
  have hl := hx.len
  clear hx
  by_cases hv : VQ a
  · have HC := Lib.hid (pb_true hv ▸ validSquare_any A n c a w HX.out)
    have hm : (gr a 0).length = n := by have := hv.2; omega
    have hn3 := hv.1.n3
    rw [hl] at hn3
    obtain ⟨b, o, rb, ro, cc, rfl, tab⟩ := HX.out.tab hv.1
    rw [hm] at tab
    have HT := Lib.hid tab
    have HV := Lib.hid hv
    have HL := Lib.hid hl
    clear tab hm hv hl
    go_enter Try.func39, Try.ntmps39
    go_wp2_with fail
    refine HC.out.mono ?_
    rintro e w1 ⟨rfl, hq⟩
    have HQ1 := Lib.hid hq
    clear hq HC
    go_wp2
    go_loopw [3] (fun i_ wr => ∃ i : Nat, i ≤ n ∧ i_ = .int .i64 i ∧ Hid (∀ k j, k < i → j < k → g2 a k j = g2 a j k) ∧ Hid (Quiet w wr)) (fun i_ _ => n - (intOf i_).toNat)
    case atStart => exact ⟨0, Nat.zero_le _, rfl, Lib.hid (fun _ _ h => absurd h (by omega)), HQ1⟩
    case round =>
      clear HQ1
      obtain ⟨i, hi, rfl, HALL, HQ⟩ := hrel
      by_cases hlt : i < n
      · go_wp2
        go_loopw [4] (fun j_ wi => ∃ j : Nat, j ≤ i ∧ j_ = .int .i64 j ∧ Hid (∀ l, l < j → g2 a i l = g2 a l i) ∧ Hid (Quiet w wi)) (fun j_ _ => i - (intOf j_).toNat)
        case atStart => exact ⟨0, Nat.zero_le _, rfl, Lib.hid (fun _ h => absurd h (by omega)), HQ⟩
        case round =>
          clear HQ
          obtain ⟨j, hj, rfl, HROW, HQ⟩ := hrel
          by_cases hjl : j < i
          · have hjn : j < n := by omega
            have c1 := Keep.quiet HQ.out _ _ (HT.out.row i hlt)
            have c2 := Keep.quiet HQ.out _ _ (HT.out.cell i j hlt hjn)
            have c3 := Keep.quiet HQ.out _ _ (HT.out.row j hjn)
            have c4 := Keep.quiet HQ.out _ _ (HT.out.cell j i hjn hlt)
            by_cases hp : g2 a i j = g2 a j i
            · have HN := Lib.hid (show ∀ l, l < j + 1 → g2 a i l = g2 a l i from fun l hl => by
                by_cases e : l = j
                · subst e; exact hp
                · exact HROW.out l (by omega))
              have hne : (g2 a i j != g2 a j i) = false := by simpa using hp
              clear hp
              generalize g2 a i j = x at *
              generalize g2 a j i = y at *
              go_wp2_with fail
              go_quiet (fail)
              go_wp2
              go_roundw
              case rel => exact ⟨j + 1, by omega, by go_num, HN, Lib.hid (HQ.out.trans ⟨_, rfl⟩)⟩
              case measure => simp [intOf]; omega
            · have HN := Lib.hid (pb_false (p := EvP a) (fun h => hp (h.e i j (by rw [HL.out]; exact hlt) (by rw [HL.out]; exact hjn))))
              have hne : (g2 a i j != g2 a j i) = true := by simpa using hp
              clear hp
              generalize g2 a i j = x at *
              generalize g2 a j i = y at *
              go_wp2_with fail
              go_quiet (fail)
              go_wp2
              go_ret
              exact ⟨ret_bool HN.out.symm, (HQ.out.trans ⟨_, rfl⟩).below⟩
          · obtain rfl : j = i := by omega
            have HN := Lib.hid (show ∀ k l, k < j + 1 → l < k → g2 a k l = g2 a l k from fun k l hk hl => by
                by_cases e : k = j
                · subst e; exact HROW.out l hl
                · exact HALL.out k l (by omega) hl)
            go_wp2
            go_roundw
            case rel => exact ⟨j + 1, by omega, by go_num, HN, HQ⟩
            case measure => simp [intOf]; omega
      · obtain rfl : i = n := by omega
        have HN := Lib.hid (pb_true (p := EvP a) ⟨HV.out, fun k j hk hj => by
          rw [HL.out] at hk hj
          rcases Nat.lt_trichotomy j k with h | h | h
          · exact HALL.out k j hk h
          · rw [h]
          · exact (HALL.out j k hj h).symm⟩)
        go_wp2
        go_ret
        exact ⟨ret_bool HN.out.symm, HQ.out.below⟩
  · have HC := Lib.hid (pb_false hv ▸ validSquare_any A n c a w HX.out)
    have HN := Lib.hid (pb_false (p := EvP a) (fun h => hv h.q))
    clear hv hl
    go_enter Try.func39, Try.ntmps39
    go_wp2_with fail
    refine HC.out.mono ?_
    rintro e w1 ⟨rfl, hq⟩
    go_wp2
    go_ret
    exact ⟨ret_bool HN.out.symm, hq.below⟩

theorem g2_flipT {a : List (List Int)} {n m i j : Nat} (hi : i < m) (hj : j < n) : g2 (flip a n m) i j = g2 a j i := by
  unfold g2
  rw [gr_flip hi, gi_col hj]
  rfl

/-- The table is even just if the arrays of it and it turned are the same. -/
theorem even_cells {a : List (List Int)} (v : VQ a) : EvP a ↔ cs9 (full9 a a.length a.length) = cs9 (full9 (flip a a.length a.length) a.length a.length) := by
  constructor
  · intro h
    refine cs9_congr fun r c _ _ => ?_
    unfold full9
    by_cases e : r < a.length ∧ c < a.length
    · rw [if_pos e, if_pos e, g2_flipT e.1 e.2]; exact h.e r c e.1 e.2
    · rw [if_neg e, if_neg e]
  · intro h
    refine ⟨v, fun i j hi hj => ?_⟩
    have h3 := v.1.n3
    have e1 := cs9_get (full9 a a.length a.length) (i := i) (j := j) (by omega) (by omega)
    have e2 := cs9_get (full9 (flip a a.length a.length) a.length a.length) (i := i) (j := j) (by omega) (by omega)
    rw [h, e2] at e1
    injection e1 with e1
    injection e1 with _ e1
    unfold full9 at e1
    rw [if_pos ⟨hi, hj⟩, if_pos ⟨hi, hj⟩, g2_flipT hi hj] at e1
    exact e1.symm

set_option maxRecDepth 100000 in
set_option maxHeartbeats 1600000 in
theorem IsEven_impl (A : Option Addr) (n c : Nat) (a : List (List Int)) (w : World) (hx : IntRows w A n c a) :
    Calls Try.prog 40 #[.slice A n c] w (Ret (.bool (pb (EvP a))) w) := by
  have HX := Lib.hid hx
  have hl := hx.len
  clear hx
  by_cases hv : VQ a
  · have HC := Lib.hid (pb_true hv ▸ ValidSquare_impl A n c a w HX.out)
    have hm : (gr a 0).length = n := by have := hv.2; omega
    obtain ⟨b, o, rb, ro, cc, rfl, tab⟩ := HX.out.tab hv.1
    rw [hm] at tab
    have HT := Lib.hid tab
    have HEC := Lib.hid (by have := even_cells hv; rw [hl] at this; exact this)
    have HVF := Lib.hid hv
    clear tab hm
    go_enter Try.func40, Try.ntmps40
    go_wp2_with fail
    refine HC.out.mono ?_
    rintro e w1 ⟨rfl, hq⟩
    have HB1 := Lib.hid (show Below w.heap.size w w1 from hq.below)
    clear hq HC
    have HC := Lib.hid (cellsOf_any b o rb ro cc n n c a w1 (HT.out.keep (Keep.below HB1.out)))
    go_wp2_with fail
    refine HC.out.mono ?_
    rintro e w2 ⟨rfl, hb⟩
    have HB2 := Lib.hid (below_up HB1.out hb)
    clear hb HC HB1
    have HC := Lib.hid (turned_any b o rb ro cc n n c a w2 (HT.out.keep (Keep.below HB2.out)))
    go_wp2_with fail
    refine HC.out.mono ?_
    rintro e w3 ⟨rfl, ho, hb, -⟩
    have HB3 := Lib.hid (below_up HB2.out hb)
    have hvf := HVF.out.1.flip
    rw [hl, HVF.out.len2 hl] at hvf
    obtain ⟨b2, o2, rb2, ro2, cc2, e2, t2⟩ := ho.rows.tab hvf
    injection e2 with e2
    injection e2 with e3 e4
    subst e3
    subst e4
    have hm2 : (gr (flip a n n) 0).length = n := by have := HT.out.n1; rw [gr_flip (by omega)]; simp
    rw [hm2] at t2
    have HT2 := Lib.hid t2
    clear ho hb HC HB2 hvf t2 hm2
    have HC := Lib.hid (cellsOf_any _ _ rb2 ro2 cc2 n n n (flip a n n) w3 HT2.out)
    have heq := fun W => eq9_op (full9 a n n) (full9 (flip a n n) n n) W
    have hg : Try.prog.eqGuardType Try.prog.depth 68 = false := by kernel_rfl
    by_cases he : EvP a
    · have HN := Lib.hid (pb_true he)
      rw [pb_true (HEC.out.1 he)] at heq
      clear he hv hl
      generalize full9 a n n = F at *
      generalize full9 (flip a n n) n n = G at *
      go_wp2_with fail
      refine HC.out.mono ?_
      rintro e w4 ⟨rfl, hb⟩
      have HB4 := Lib.hid (below_up HB3.out hb)
      clear hb HC HB3
      go_wp2
      go_ret
      exact ⟨ret_bool HN.out.symm, HB4.out⟩
    · have HN := Lib.hid (pb_false he)
      rw [pb_false (fun h => he (HEC.out.2 h))] at heq
      clear he hv hl
      generalize full9 a n n = F at *
      generalize full9 (flip a n n) n n = G at *
      go_wp2_with fail
      refine HC.out.mono ?_
      rintro e w4 ⟨rfl, hb⟩
      have HB4 := Lib.hid (below_up HB3.out hb)
      clear hb HC HB3
      go_wp2
      go_ret
      exact ⟨ret_bool HN.out.symm, HB4.out⟩
  · have HC := Lib.hid (pb_false hv ▸ ValidSquare_impl A n c a w HX.out)
    have HN := Lib.hid (pb_false (p := EvP a) (fun h => hv h.q))
    clear hv hl
    go_enter Try.func40, Try.ntmps40
    go_wp2_with fail
    refine HC.out.mono ?_
    rintro e w1 ⟨rfl, hq⟩
    go_wp2
    go_ret
    exact ⟨ret_bool HN.out.symm, hq.below⟩
end Go.Proofs.Ytgmcmblcljfofaa

/- The harness of the exact laws, for slices of fractions. -/
namespace Go.Proofs.Ytgmcmblcljfofaa
open Go.RowKit

/-- A slice of fractions whose cells read as ints, two each. -/
structure Frs (w : World) (A : Option Addr) (n c : Nat) (L : List Int) : Prop where
  len : L.length = 2 * n
  cap : n ≤ c
  max : n ≤ 1000
  at_ : 0 < n → ∃ b o, A = some ⟨b, o, none⟩ ∧ ∀ k, k < 2 * n → w.cell? ⟨b, o + k, none⟩ = some (.int .i64 (gi L k))
theorem Frs.keep {w w' : World} {A n c L} (h : Frs w A n c L) (k : Keep w w') : Frs w' A n c L :=
  ⟨h.len, h.cap, h.max, fun hn => let ⟨b, o, e, hc⟩ := h.at_ hn; ⟨b, o, e, fun i hi => k _ _ (hc i hi)⟩⟩
structure OwnF (lo hi : Nat) (w : World) (b : Nat) (A : Option Addr) (n c : Nat) (L : List Int) : Prop where
  frs : Frs w A n c L
  own : 0 < n → ∃ o, A = some ⟨b, o, none⟩ ∧ lo ≤ b ∧ b < hi ∧ ∀ k, k < 2 * n → w.frozen? ⟨b, o + k, none⟩ = false
theorem OwnF.lt {lo hi w b A n c L} (h : OwnF lo hi w b A n c L) (hn : 0 < n) : b < w.heap.size := by
  obtain ⟨b', o', e, hc⟩ := h.frs.at_ hn
  obtain ⟨o, e', _⟩ := h.own hn
  rw [e] at e'
  injection e' with e'
  injection e' with e1 _ _
  rw [← e1]
  exact World.block_lt_of_cell? w _ (hc 0 (by omega))
theorem OwnF.of_block {lo hi w w' b A n c L} (h : OwnF lo hi w b A n c L) (e : 0 < n → w'.heap[b]? = w.heap[b]?) : OwnF lo hi w' b A n c L := by
  refine ⟨⟨h.frs.len, h.frs.cap, h.frs.max, fun hn => ?_⟩, fun hn => ?_⟩
  · obtain ⟨b', o', e1, hc⟩ := h.frs.at_ hn
    obtain ⟨o, e2, _⟩ := h.own hn
    rw [e1] at e2
    injection e2 with e2
    injection e2 with e2 _ _
    subst e2
    exact ⟨b', o', e1, fun k hk => by rw [World.cell?_of_block (w := w) (e hn)]; exact hc k hk⟩
  · obtain ⟨o, e2, hB, hB2, hf⟩ := h.own hn
    exact ⟨o, e2, hB, hB2, fun k hk => by rw [World.frozen?_of_block (w := w) (e hn)]; exact hf k hk⟩
theorem OwnF.mono {lo hi lo' hi' w b A n c L} (h : OwnF lo hi w b A n c L) (hB : lo' ≤ lo) (hB' : hi ≤ hi') : OwnF lo' hi' w b A n c L :=
  ⟨h.frs, fun hn => let ⟨o, e, h1, h2, h3⟩ := h.own hn; ⟨o, e, Nat.le_trans hB h1, Nat.lt_of_lt_of_le h2 hB', h3⟩⟩
theorem OwnF.below {lo hi w w' b A n c L} (h : OwnF lo hi w b A n c L) (k : Below w.heap.size w w') : OwnF lo hi w' b A n c L := h.of_block fun hn => k.block _ (h.lt hn)
theorem OwnF.touch {lo hi lo' hi' w w' b A n c L} (h : OwnF lo hi w b A n c L) (k : Touch lo' hi' w w') (hd : hi ≤ lo' ∨ hi' ≤ lo) : OwnF lo hi w' b A n c L :=
  h.of_block fun hn => k.block _ (by obtain ⟨_, _, h1, h2, _⟩ := h.own hn; omega)
theorem OwnF.one {lo hi g w w' b A n c L} (h : OwnF lo hi w b A n c L) (k : One g w w') (hne : b ≠ g) : OwnF lo hi w' b A n c L := h.of_block fun _ => k.block b hne
theorem OwnF.nil (lo hi : Nat) (w : World) (b : Nat) : OwnF lo hi w b none 0 0 [] :=
  ⟨⟨rfl, Nat.le_refl _, by omega, fun h => absurd h (by omega)⟩, fun h => absurd h (by omega)⟩
theorem OwnF.set {lo hi w b o n c L} (h : OwnF lo hi w b (some ⟨b, o, none⟩) n c L) {i : Nat} (hi' : i < 2 * n) (v : Int) :
    OwnF lo hi (w.setCell ⟨b, o + i, none⟩ (.int .i64 v)) b (some ⟨b, o, none⟩) n c (L.set i v) := by
  have hl := h.frs.len
  obtain ⟨o', e, h1, h2, hf⟩ := h.own (by omega)
  injection e with e
  injection e with _ e _
  subst e
  obtain ⟨b', o', e, hc⟩ := h.frs.at_ (by omega)
  injection e with e
  injection e with e1 e2 _
  subst e1
  subst e2
  refine ⟨⟨by rw [List.length_set]; exact hl, h.frs.cap, h.frs.max, fun _ => ⟨b, o, rfl, fun k hk => ?_⟩⟩, fun _ => ⟨o, rfl, h1, h2, fun k hk => ?_⟩⟩
  · by_cases e : k = i
    · subst e
      rw [gi_set_eq (by omega), World.cell?_setCell_same w _ _ (hc k hk)]
    · rw [gi_set_ne (by omega) e, World.cell?_setCell_other w _ _ _ (fun e' => by injection e' with _ e' _; omega)]
      exact hc k hk
  · rw [World.frozen?_setCell]; exact hf k hk
/-- A new slice of fractions. -/
def NewF (w : World) (L : List Int) (e : Ending) (w' : World) : Prop :=
  ∃ Av n c gg, e = .returned (.slice Av n c) ∧ L.length = 2 * n ∧ OwnF w.heap.size w'.heap.size w' gg Av n c L ∧ Below w.heap.size w w'
theorem NewF.ge {w w' : World} {L : List Int} {e : Ending} (h : NewF w L e w') :
    ∃ Av c gg, e = .returned (.slice Av (L.length / 2) c) ∧ OwnF w.heap.size w'.heap.size w' gg Av (L.length / 2) c L ∧ w.heap.size ≤ gg ∧ Below w.heap.size w w' := by
  obtain ⟨Av, n, c, gg, rfl, hn, ho, hb⟩ := h
  obtain rfl : n = L.length / 2 := by omega
  by_cases h0 : 0 < L.length / 2
  · obtain ⟨o, e, h1, h2, hf⟩ := ho.own h0
    exact ⟨Av, c, gg, rfl, ho, h1, hb⟩
  · exact ⟨Av, c, w.heap.size, rfl, ⟨ho.frs, fun hn => absurd hn h0⟩, Nat.le_refl _, hb⟩

theorem NewF.geN {w w' : World} {L : List Int} {e : Ending} {N : Nat} (h : NewF w L e w') (hN : L.length = 2 * N) :
    ∃ Av c gg, e = .returned (.slice Av N c) ∧ OwnF w.heap.size w'.heap.size w' gg Av N c L ∧ w.heap.size ≤ gg ∧ Below w.heap.size w w' := by
  have := h.ge
  rw [show L.length / 2 = N by omega] at this
  exact this

set_option maxRecDepth 100000 in
set_option maxHeartbeats 1600000 in
theorem eqFracS_any (A B : Option Addr) (n c d : Nat) (L : List Int) (w : World) (hx : Frs w A n c L) (hy : Frs w B n d L) :
    Calls Try.prog 43 #[.slice A n c, .slice B n d] w (Ret (.bool true) w) := by
  have HX := Lib.hid hx
  have HY := Lib.hid hy
  have mx := hx.max
  have hne : ((n : Int) != (n : Int)) = false := by simp
  clear hx hy
  go_enter Try.func43, Try.ntmps43
  go_wp2
  go_loopw [5] (fun i wr => ∃ k : Nat, k ≤ n ∧ i = .int .i64 k ∧ Hid (Below w.heap.size w wr)) (fun i _ => n - (intOf i).toNat)
  case atStart => exact ⟨0, Nat.zero_le _, rfl, Lib.hid (Below.refl _ _)⟩
  case round =>
    obtain ⟨k, hk, rfl, HB⟩ := hrel
    by_cases hlt : k < n
    · obtain ⟨b, o, rfl, hc⟩ := HX.out.at_ (by omega)
      obtain ⟨b2, o2, rfl, hc2⟩ := HY.out.at_ (by omega)
      have q1 := Keep.below HB.out _ _ (hc (k * 2) (by omega))
      have q2 := Keep.below HB.out _ _ (hc (k * 2 + 1) (by omega))
      have q3 := Keep.below HB.out _ _ (hc2 (k * 2) (by omega))
      have q4 := Keep.below HB.out _ _ (hc2 (k * 2 + 1) (by omega))
      rw [← Nat.add_assoc] at q2 q4
      clear hc hc2
      generalize gi L (k * 2) = U at *
      generalize gi L (k * 2 + 1) = D at *
      go_wp2
      go_region_law ((go_simp; go_at_call 26; refine (eqFrac_self (.agg #[.int .i64 U, .int .i64 D]) _ ⟨U, D, rfl⟩).mono ?_; rintro e w2 ⟨rfl, hb⟩; have HB2 := Lib.hid (below_up (HB.out.drew) hb); clear hb))
      all_goals
        clear q1 q2 q3 q4
        go_wp2
        go_roundw
        case rel => exact ⟨k + 1, by omega, by go_num, Lib.hid (by first | exact HB2.out | exact HB2.out.drew | exact below_drewN HB2.out _)⟩
        case measure => simp [intOf]; omega
    · obtain rfl : k = n := by omega
      go_wp2
      go_ret
      exact ⟨rfl, HB.out⟩

def MarkedF (lo hi : Nat) (w : World) (b : Nat) (A : Option Addr) (n c : Nat) (k : Int) (e : Ending) (w' : World) : Prop :=
  e = .returned (.int .i64 (k + (2 * n : Nat))) ∧ OwnF lo hi w' b A n c (seqI k (2 * n)) ∧ (n = 0 → w = w') ∧ One b w w'

set_option maxRecDepth 100000 in
set_option maxHeartbeats 1600000 in
theorem markFracS_any (lo hi b : Nat) (A : Option Addr) (n c : Nat) (L : List Int) (k : Int) (w : World) (hx : OwnF lo hi w b A n c L) (h0 : 0 ≤ k) (h1 : k ≤ 1000) :
    Calls Try.prog 44 #[.slice A n c, .int .i64 k] w (MarkedF lo hi w b A n c k) := by
  have HX := Lib.hid hx
  have mx := hx.frs.max
  clear hx
  go_enter Try.func44, Try.ntmps44
  go_wp2
  go_loopw [1, 5] (fun z i wr => ∃ (j : Nat) (ys : List Int), j ≤ n ∧ i = .int .i64 j ∧ z = .int .i64 (k + (2 * j : Nat)) ∧ Hid (∀ l, l < 2 * j → gi ys l = k + l) ∧ Hid (OwnF lo hi wr b A n c ys) ∧ Hid (One b w wr) ∧ Hid (n = 0 → w = wr)) (fun _ i _ => n - (intOf i).toNat)
  case atStart => exact ⟨0, L, Nat.zero_le _, rfl, by simp, Lib.hid (fun _ h => absurd h (by omega)), HX, Lib.hid (One.refl _ _), Lib.hid (fun _ => rfl)⟩
  case round =>
    obtain ⟨j, ys, hj, rfl, rfl, HA, HO, H1, H0⟩ := hrel
    by_cases hlt : j < n
    · obtain ⟨o, rfl, _, _, hf⟩ := HO.out.own (by omega)
      obtain ⟨b', o', e, hc⟩ := HO.out.frs.at_ (by omega)
      injection e with e
      injection e with e1 e2 _
      subst e1
      subst e2
      have HL := Lib.hid HO.out.frs.len
      have c1 := hc (j * 2) (by omega)
      have f1 := hf (j * 2) (by omega)
      have c2 := hc (j * 2 + 1) (by omega)
      have f2 := hf (j * 2 + 1) (by omega)
      rw [← Nat.add_assoc] at c2 f2
      have HO2 := Lib.hid ((HO.out.set (i := j * 2) (by omega) (k + (2 * j : Nat))).set (i := j * 2 + 1) (by omega) (k + (2 * j : Nat) + 1))
      have H12 := Lib.hid ((H1.out.set (o + j * 2) (.int .i64 (k + (2 * j : Nat)))).set (o + (j * 2 + 1)) (.int .i64 (k + (2 * j : Nat) + 1)))
      rw [← Nat.add_assoc] at HO2 H12
      have hz : k + ((2 * j : Nat) : Int) + 1 + 1 = k + ((2 * (j + 1) : Nat) : Int) := by omega
      have HN := Lib.hid (show ∀ l, l < 2 * (j + 1) → gi ((ys.set (j * 2) (k + (2 * j : Nat))).set (j * 2 + 1) (k + (2 * j : Nat) + 1)) l = k + l from fun l hl => by
        have hly := HL.out
        by_cases e1 : l = j * 2 + 1
        · subst e1; rw [gi_set_eq (by rw [List.length_set]; omega)]; omega
        · rw [gi_set_ne (by rw [List.length_set]; omega) e1]
          by_cases e2 : l = j * 2
          · subst e2; rw [gi_set_eq (by omega)]; omega
          · rw [gi_set_ne (by omega) e2]; exact HA.out l (by omega))
      have hkb : k + ((2 * j : Nat) : Int) ≤ 4000 := by omega
      have hkb0 : 0 ≤ k + ((2 * j : Nat) : Int) := by omega
      clear hc hf HO H1
      generalize k + ((2 * j : Nat) : Int) = z at *
      go_wp2
      go_roundw
      case rel => exact ⟨j + 1, _, by omega, by go_num, by congr 1, HN, HO2, H12, Lib.hid (fun e => absurd e (by omega))⟩
      case measure => simp [intOf]; omega
    · obtain rfl : j = n := by omega
      have e : ys = seqI k (2 * j) := gi_ext (by rw [HO.out.frs.len, seqI_len]) fun l hl => by
        rw [HO.out.frs.len] at hl
        rw [HA.out l hl, gi_seqI hl]
      have HO2 := Lib.hid (e ▸ HO.out)
      clear e HO
      go_wp2
      go_ret
      exact ⟨ret_int (by omega), HO2.out, H0.out, H1.out⟩

set_option maxRecDepth 100000 in
set_option maxHeartbeats 1600000 in
theorem heldFracS_any (A : Option Addr) (n c : Nat) (k : Int) (w : World) (hx : Frs w A n c (seqI k (2 * n))) (h0 : 0 ≤ k) (h1 : k ≤ 1000) :
    Calls Try.prog 45 #[.slice A n c, .int .i64 k] w fun e w' => e = .returned (.int .i64 (k + (2 * n : Nat))) ∧ Quiet w w' := by
  have mx := hx.max
  have HX := Lib.hid hx
  clear hx
  go_enter Try.func45, Try.ntmps45
  go_wp2
  go_loopw [1, 5] (fun z i wr => ∃ (j : Nat), j ≤ n ∧ i = .int .i64 j ∧ z = .int .i64 (k + (2 * j : Nat)) ∧ Quiet w wr) (fun _ i _ => n - (intOf i).toNat)
  case atStart => exact ⟨0, Nat.zero_le _, rfl, by simp, Quiet.refl _⟩
  case round =>
    obtain ⟨j, hj, rfl, rfl, q, rfl⟩ := hrel
    by_cases hlt : j < n
    · obtain ⟨b, o, rfl, hc⟩ := HX.out.at_ (by omega)
      have c1 := hc (j * 2) (by omega)
      have c2 := hc (j * 2 + 1) (by omega)
      rw [gi_seqI (by omega)] at c1 c2
      rw [← Nat.add_assoc] at c2
      have e1 : k + ((j * 2 : Nat) : Int) = k + ((2 * j : Nat) : Int) := by omega
      have e2 : k + ((j * 2 + 1 : Nat) : Int) = k + ((2 * j : Nat) : Int) + 1 := by omega
      rw [e1] at c1
      rw [e2] at c2
      have hz : k + ((2 * j : Nat) : Int) + 1 + 1 = k + ((2 * (j + 1) : Nat) : Int) := by omega
      have hkb : k + ((2 * j : Nat) : Int) ≤ 4000 := by omega
      have hkb0 : 0 ≤ k + ((2 * j : Nat) : Int) := by omega
      clear hc e1 e2
      generalize k + ((2 * j : Nat) : Int) = z at *
      have hn1 : (z != z) = false := by simp
      have hn2 : (z + 1 != z + 1) = false := by simp
      go_wp2
      go_roundw
      case rel => exact ⟨j + 1, by omega, by go_num, by congr 1, ⟨_, rfl⟩⟩
      case measure => simp [intOf]; omega
    · obtain rfl : j = n := by omega
      go_wp2
      go_ret
      exact ⟨ret_int (by omega), ⟨_, rfl⟩⟩
end Go.Proofs.Ytgmcmblcljfofaa

/- Fractions under way: a slice made by append. -/
namespace Go.Proofs.Ytgmcmblcljfofaa
open Go.RowKit

theorem gi_append_lt {L M : List Int} {k : Nat} (h : k < L.length) : gi (L ++ M) k = gi L k := by
  rw [gi_get (by rw [List.length_append]; omega), gi_get h, List.getElem_append_left h]
theorem gi_append_ge {L M : List Int} {k : Nat} (h : k < M.length) : gi (L ++ M) (L.length + k) = gi M k := by
  rw [gi_get (by rw [List.length_append]; omega), gi_get h, List.getElem_append_right (by omega)]
  simp
/-- Fractions under way: a slice made by append. -/
structure FU (wb : World) (v : Value) (n : Nat) (L : List Int) (w : World) : Prop where
  own : w.ownsRow wb.heap.size 32 2 v n (L.map iv)
  hi_ : ∀ k, v.ownBlock = some k → k < w.heap.size
  up : Below wb.heap.size wb w
theorem FU.start (wb : World) : FU wb (.slice (some ⟨wb.heap.size, 0, none⟩) 0 0) 0 [] (wb.alloc (.cells #[] 32)) :=
  ⟨World.ownsRow_made (e := 32) (size := 2) wb #[] 0 (Nat.le_refl _) (Nat.zero_le _) rfl, fun k hk => by simp [Value.ownBlock] at hk; simp; omega, below_alloc _ _⟩
theorem FU.next {wb v n L w w'} (h : FU wb v n L w) (k : Below w.heap.size w w') : FU wb v n L w' :=
  ⟨blk_kept h.own fun g hg => k.block g (h.hi_ g hg), fun g hg => Nat.lt_of_lt_of_le (h.hi_ g hg) k.size, below_up h.up k⟩
theorem FU.form {wb v n L w} (h : FU wb v n L w) : ∃ A c, v = .slice A n c := by
  rcases h.own.2 with ⟨rfl, h0⟩ | ⟨g, cap, cur, rfl, _⟩
  · exact ⟨none, 0, by rw [h0]⟩
  · exact ⟨_, _, rfl⟩
theorem FU.len {wb v n L w} (h : FU wb v n L w) : L.length = 2 * n := by have := h.own.1; rw [List.length_map] at this; omega
theorem FU.push {wb v v' n L w w' u d} (h : FU wb v n L w) (hown : w'.ownsRow wb.heap.size 32 2 v' (n + 1) (L.map iv ++ [iv u, iv d]))
    (hgrow : (w.alloc (.cells #[iv u, iv d] 32)).grownBy w' v.ownBlock) (hat : v'.ownBlock = v.ownBlock ∨ v'.ownBlock = some (w.heap.size + 1)) : FU wb v' (n + 1) (L ++ [u, d]) w' := by
  have hsz := hgrow.size
  simp only [World.size_alloc] at hsz
  have hu : ∀ k, v.ownBlock = some k → wb.heap.size ≤ k := fun k hk => (h.own.lt k hk).1
  have hbelow : ∀ k, k < wb.heap.size → w'.heap[k]? = w.heap[k]? := fun k hk => by
    have := h.up.size
    exact (hgrow.block k (by simp; omega) (fun e => by have := hu k e.symm; omega)).trans (Below.heap_alloc _ _ _ (by omega))
  refine ⟨by rw [List.map_append]; exact hown, fun k hk => ?_, ?_⟩
  · rcases hat with hat | hat
    · have := h.hi_ k (by rw [← hat]; exact hk); omega
    · have := (hown.lt k hk).2; omega
  · exact ⟨hgrow.os.trans h.up.os, hgrow.tape.trans h.up.tape, hgrow.output.trans h.up.output, by have := h.up.size; omega, fun k hk => (hbelow k hk).trans (h.up.block k hk)⟩
theorem FU.new {wb n L w} {A : Option Addr} {c : Nat} (h : FU wb (.slice A n c) n L w) (hm : n ≤ 1000) : NewF wb L (.returned (.slice A n c)) w := by
  have hl := h.len
  have hh := h.hi_
  rcases h.own.2 with ⟨e, h0⟩ | ⟨g, cap, cur, e, hb, hg, hnc, _, hcs, htake⟩
  · injection e with e1 e2 e3
    subst e1
    subst e3
    subst h0
    have : L = [] := List.eq_nil_of_length_eq_zero (by omega)
    subst this
    exact ⟨none, 0, 0, 0, rfl, rfl, OwnF.nil _ _ _ _, h.up⟩
  · injection e with e1 e2 e3
    subst e1
    subst e3
    refine ⟨_, n, c, g, rfl, hl, ⟨⟨hl, hnc, hm, fun _ => ⟨g, 0, rfl, fun k hk => ?_⟩⟩, fun _ => ⟨0, rfl, hb, hh g rfl, fun k _ => ?_⟩⟩, h.up⟩
    · rw [Nat.zero_add, ← getElem_iv (by omega : k < L.length), ← htake, List.getElem?_take, if_pos (by omega)]
      simp [World.cell?, hg]
    · rw [Nat.zero_add]; simp [World.frozen?, hg]
theorem cells_two_new (w : World) (u d : Int) : ∀ j v, [iv u, iv d][j]? = some v → (w.alloc (.cells #[iv u, iv d] 32)).cell? ((⟨w.heap.size, 0, none⟩ : Addr).add j) = some v := fun j v h => by
  have hadd : (⟨w.heap.size, 0, none⟩ : Addr).add j = ⟨w.heap.size, j, none⟩ := by unfold Addr.add; split <;> simp_all
  rw [hadd]
  exact blk_cell (blk_new w _ _) (by simpa using h)
theorem NewF.empty {w w' : World} {ys : List Int} (h : Below w.heap.size w w') (hy : ys = []) : NewF w ys (.returned (.slice none 0 0)) w' := by
  subst hy; exact ⟨none, 0, 0, 0, rfl, rfl, OwnF.nil _ _ _ _, h⟩
theorem NewF.from {w w1 w2 : World} {ys : List Int} {e : Ending} (h : Below w.heap.size w w1) (k : NewF w1 ys e w2) : NewF w ys e w2 := by
  obtain ⟨A, n, c, g, he, hn, ho, hb⟩ := k
  exact ⟨A, n, c, g, he, hn, ho.mono h.size (Nat.le_refl _), below_up h hb⟩
theorem Try.infoF : (Try.prog.info? 32).map (fun i => (i.zero, i.size, i.bytes)) = some (some (.agg #[.int .i64 0, .int .i64 0]), 2, 16) := by kernel_rfl

end Go.Proofs.Ytgmcmblcljfofaa

/- Growth, by the model: a slice of fractions made by append. -/
namespace Go.Proofs.Ytgmcmblcljfofaa
open Go.RowKit

theorem payR_dot (a : List (List Int)) (x y : List Int) (i : Nat) : ∀ j, payR a x y i j = gi x i * dotr a y i j
  | 0 => by simp [payR, dotr]
  | j + 1 => by
    rw [payR, dotr, payR_dot a x y i j, Int.mul_add]
    have : gi x i * gi y j * g2 a i j = gi x i * (g2 a i j * gi y j) := by rw [Int.mul_assoc, Int.mul_comm (gi y j)]
    omega
theorem payU_ge {a : List (List Int)} {x : List Int} {n : Nat} (hx : ∀ j, j < n → 0 ≤ gi x j) (hd : ∀ i, i < n → 1 ≤ dotr a x i n) : ∀ {k}, k ≤ n → sm x k ≤ payU a x x n k
  | 0, _ => Int.le_refl _
  | k + 1, h => by
    have h1 := payU_ge hx hd (k := k) (by omega)
    have h2 : gi x k * 1 ≤ gi x k * dotr a x k n := Int.mul_le_mul_of_nonneg_left (hd k (by omega)) (hx k (by omega))
    rw [payU, payR_dot, sm]
    omega
/-- What a strategy grows by, above and below the line. -/
def gU (a : List (List Int)) (x : List Int) (n i : Nat) : Int := dotr a x i n * tot x
def gP (a : List (List Int)) (x : List Int) (n : Nat) : Int := payU a x x n n
def grL (a : List (List Int)) (x : List Int) (n : Nat) : Nat → List Int
  | 0 => []
  | i + 1 => grL a x n i ++ [frU (gU a x n i) (gP a x n), frD (gU a x n i) (gP a x n)]
theorem grL_len (a : List (List Int)) (x : List Int) (n : Nat) : ∀ i, (grL a x n i).length = 2 * i
  | 0 => rfl
  | i + 1 => by rw [grL, List.length_append, grL_len a x n i]; simp; omega
theorem gi_grL (a : List (List Int)) (x : List Int) (n : Nat) : ∀ {k i}, i < k → gi (grL a x n k) (i * 2) = frU (gU a x n i) (gP a x n) ∧ gi (grL a x n k) (i * 2 + 1) = frD (gU a x n i) (gP a x n)
  | 0, _, h => absurd h (by omega)
  | k + 1, i, h => by
    have hl := grL_len a x n k
    rw [grL]
    by_cases e : i = k
    · subst e
      have h0 := gi_append_ge (L := grL a x n i) (M := [frU (gU a x n i) (gP a x n), frD (gU a x n i) (gP a x n)]) (k := 0) (by simp)
      have h1 := gi_append_ge (L := grL a x n i) (M := [frU (gU a x n i) (gP a x n), frD (gU a x n i) (gP a x n)]) (k := 1) (by simp)
      rw [hl] at h0 h1
      rw [show i * 2 = 2 * i + 0 by omega, h0, show 2 * i + 0 + 1 = 2 * i + 1 by omega, h1]
      exact ⟨rfl, rfl⟩
    · rw [gi_append_lt (by omega), gi_append_lt (by omega)]
      exact gi_grL a x n (by omega)
theorem FS.gu {a x n} (h : FS a x n) {i : Nat} (hi : i < n) : 1 ≤ gU a x n i ∧ gU a x n i ≤ 81000000 := by
  have h1 := h.dot hi
  have h2 := h.s.bd (by have := h.n3; omega)
  unfold gU
  have h3 : 1 * 1 ≤ dotr a x i n * tot x := Int.mul_le_mul h1.1 (by omega) (by omega) (by omega)
  have h4 : dotr a x i n * tot x ≤ 27000 * 3000 := Int.mul_le_mul h1.2 h2.2 (by omega) (by omega)
  omega
theorem FS.pb {a x n} (h : FS a x n) : PB a x x n n := ⟨fun i j hi hj => by have := h.a hi hj; omega, h.x, h.x⟩
theorem FS.gp {a x n} (h : FS a x n) : 1 ≤ gP a x n ∧ gP a x n ≤ 81000000 := by
  have h0 := h.n3
  have h1 := payU_ge (a := a) (x := x) (n := n) (fun j hj => (h.x j hj).1) (fun i hi => (h.dot hi).1) (Nat.le_refl n)
  have h2 := payU_bd h.pb h0.2 (Nat.le_refl n)
  have h3 := h.s.2.2
  unfold tot at h3
  rw [h.xl] at h3
  unfold gP
  omega
noncomputable def grF (a : List (List Int)) (x : List Int) : List Int := if pb (VF a ∧ VS x a.length) = true then grL a x a.length a.length else []
theorem grF_yes {a : List (List Int)} {x : List Int} {n : Nat} (h : FS a x n) : grF a x = grL a x n n := by
  unfold grF; rw [if_pos (pb_true ⟨h.f, by rw [h.l]; exact h.s⟩), h.l]
theorem grF_no {a : List (List Int)} {x : List Int} (h : ¬ (VF a ∧ VS x a.length)) : grF a x = [] := by unfold grF; rw [if_neg (by rw [pb_false h]; decide)]
theorem grF_le (a : List (List Int)) (x : List Int) : (grF a x).length ≤ 100 ∧ 2 * ((grF a x).length / 2) = (grF a x).length := by
  by_cases h : VF a ∧ VS x a.length
  · have hf : FS a x a.length := ⟨h.1, h.2, rfl⟩
    have := hf.n3
    rw [grF_yes hf, grL_len]; omega
  · rw [grF_no h]; simp

theorem grF_two (a : List (List Int)) (x : List Int) : ∃ N, (grF a x).length = 2 * N ∧ N ≤ 50 := ⟨(grF a x).length / 2, (grF_le a x).2.symm, by have := (grF_le a x).1; omega⟩

set_option maxRecDepth 100000 in
set_option maxHeartbeats 3200000 in
theorem GrowthOf_spec (A : Option Addr) (n c : Nat) (a : List (List Int)) (X : Option Addr) (nx cx : Nat) (x : List Int) (w : World) (ha : IntRows w A n c a) (hx : Ints w X nx cx x) :
    Calls Try.prog 41 #[.slice A n c, .slice X nx cx] w (NewF w (grF a x)) := by
  have HX := Lib.hid ha
  have HY := Lib.hid hx
  have hl := ha.len
  have hlx := hx.len
  clear ha hx
  by_cases hv : VF a
  · have HC := Lib.hid (pb_true hv ▸ validField_any A n c a w HX.out)
    have hn1 := hv.q.1.n1
    have hn3 := hv.q.1.n3
    rw [hl] at hn1 hn3
    by_cases hs : VS x (n : Int)
    · have HF := Lib.hid (FS.of hl hv hs)
      have HS := Lib.hid (fun W (k : Keep w W) => pb_true hs ▸ validShares_any X nx cx x (n : Int) W (HY.out.keep k) (by omega))
      have hm := hv.q.len2' hl
      obtain ⟨b, o, rb, ro, cc, rfl, tab⟩ := HX.out.tab hv.q.1
      rw [hm] at tab
      have HT := Lib.hid tab
      obtain rfl : n = nx := by have := hs.1; omega
      have HGF := Lib.hid (grF_yes HF.out)
      have HSU := Lib.hid (hs.sumOk (by omega))
      have HPB := Lib.hid (fun i => (⟨tab.bd, onl_bds n i, HF.out.x⟩ : PB a (onl n i) x n n))
      have HPU := Lib.hid (fun i (hi : i < n) => payU_alone a x n n i hi)
      obtain ⟨i0, hi0, hz0, hz1, hz2⟩ := info_parts Try.infoF
      clear hm tab hv hs hl hlx
      go_enter Try.func41, Try.ntmps41
      go_wp2_with fail
      refine HC.out.mono ?_
      rintro e w1 ⟨rfl, hq⟩
      have HB1 := Lib.hid (show Below w.heap.size w w1 from hq.below)
      clear hq HC
      have HC := Lib.hid (HS.out w1 (Keep.below HB1.out))
      go_wp2_with fail
      refine HC.out.mono ?_
      rintro e w2 ⟨rfl, hq⟩
      have HB2 := Lib.hid (below_quiet HB1.out hq)
      have HT2 := Lib.hid (HT.out.keep (Keep.below HB2.out))
      have HY2 := Lib.hid (HY.out.keep (Keep.below HB2.out))
      clear hq HC HB1 HX HY HT HS
      have HS0 := Lib.hid (FU.start w2)
      have HZ : Hid (grL a x n 0 = []) := Lib.hid rfl
      go_wp2
      go_loopw [5, 6] (fun v i wr => ∃ k : Nat, k ≤ n ∧ i = .int .i64 k ∧ Hid (FU w2 v k (grL a x n k) wr)) (fun _ i _ => n - (intOf i).toNat)
      case atStart => exact ⟨0, Nat.zero_le _, rfl, Lib.hid (by rw [HZ.out]; exact HS0.out)⟩
      case round =>
        clear HS0 HZ
        obtain ⟨k, hk, rfl, HU⟩ := hrel
        obtain ⟨Av, cv, rfl⟩ := HU.out.form
        by_cases hlt : k < n
        · have HCS : Hid (grL a x n (k + 1) = grL a x n k ++ [frU (gU a x n k) (gP a x n), frD (gU a x n k) (gP a x n)]) := Lib.hid rfl
          obtain ⟨u1, u2⟩ := HF.out.gu hlt
          obtain ⟨p1, p2⟩ := HF.out.gp
          have HGU : Hid (dotr a x k n * tot x = gU a x n k) := Lib.hid rfl
          have HGP : Hid (payU a x x n n = gP a x n) := Lib.hid rfl
          have hmul : IntKind.i64.wrap (dotr a x k n * tot x) = gU a x n k := by rw [HGU.out]; exact wrap_in64 (by omega)
          have HML := Lib.hid HU.out.len
          have HC := Lib.hid (alone_spec n k wr (by omega) hlt)
          go_wp2_with fail
          refine HC.out.mono ?_
          rintro e w3 ⟨rfl, ho, hb⟩
          have HU3 := Lib.hid (HU.out.next hb)
          have HC := Lib.hid (HPU.out k hlt ▸ payUp_any b o rb ro cc n n c n cx _ _ a (onl n k) x w3 (HT2.out.keep (Keep.below HU3.out.up)) ho.ints (HY2.out.keep (Keep.below HU3.out.up)) (HPB.out k))
          clear ho hb HU
          go_wp2_with fail
          refine HC.out.mono ?_
          rintro e w4 ⟨rfl, hq⟩
          have HU4 := Lib.hid (HU3.out.next hq.below)
          clear hq HC HU3
          have HC := Lib.hid (sum_any _ _ _ _ w4 (HY2.out.keep (Keep.below HU4.out.up)) HSU.out)
          have hd := HF.out.dot hlt
          have ht := HF.out.s.bd (by omega)
          obtain ⟨d1, d2⟩ := hd
          obtain ⟨t1, t2⟩ := ht
          generalize dotr a x k n = D at *
          generalize tot x = T at *
          go_wp2_with fail
          refine HC.out.mono ?_
          rintro e w5 ⟨rfl, hq⟩
          have HU5 := Lib.hid (HU4.out.next hq.below)
          clear hq HC HU4
          have HC := Lib.hid (HGP.out ▸ payUp_any b o rb ro cc n n c cx cx _ _ a x x w5 (HT2.out.keep (Keep.below HU5.out.up)) (HY2.out.keep (Keep.below HU5.out.up)) (HY2.out.keep (Keep.below HU5.out.up)) HF.out.pb)
          go_wp2_with fail
          refine HC.out.mono ?_
          rintro e w6 ⟨rfl, hq⟩
          have HU6 := Lib.hid (HU5.out.next hq.below)
          clear hq HC HU5
          have HC := Lib.hid (frac_any (gU a x n k) (gP a x n) w6 (by unfold Mid; omega) (by unfold Mid; omega) p1)
          go_wp2_with fail
          refine HC.out.mono ?_
          rintro e w7 ⟨rfl, hb⟩
          have HU7 := Lib.hid (HU6.out.next hb)
          clear hb HC HU6
          have HFV : Hid (frV (gU a x n k) (gP a x n) = .agg #[.int .i64 (frU (gU a x n k) (gP a x n)), .int .i64 (frD (gU a x n k) (gP a x n))]) := Lib.hid rfl
          rw [HFV.out]
          generalize frU (gU a x n k) (gP a x n) = U at *
          generalize frD (gU a x n k) (gP a x n) = V at *
          have hb := below_alloc w7 (.cells #[iv U, iv V] 32)
          have HB4 := Lib.hid (HU7.out.next hb).own
          have HN := Lib.hid (cells_two_new w7 U V)
          have hwz := HU7.out.up.size
          clear hb
          generalize grL a x n k = ys at *
          go_wp2_with (at_builtin; refine wpList_append_own_at _ rfl _ _ 41 rfl w2.heap.size 32 i0 (.agg #[.int .i64 0, .int .i64 0]) 2 16 Try.underlying41 hi0 hz0 hz1 hz2 rfl (by decide) _ k (ys.map iv) rfl HB4.out ⟨w7.heap.size, 0, none⟩ 1 1 [iv U, iv V] rfl rfl ?c1 ?c2 ?c3 ?c4 ?c5 ?_)
          case c1 => exact HN.out
          case c2 => intro u hu; simp at hu; rcases hu with rfl | rfl <;> rfl
          case c3 => unfold maxLen; omega
          case c4 => omega
          case c5 => simp; omega
          intro v' w8 hown' hgrow _ hat
          have HU8 := Lib.hid (HU7.out.push hown' hgrow (by simpa using hat))
          clear HB4 HN hown' hgrow hat HU7
          go_wp2
          go_roundw
          case rel => exact ⟨k + 1, by omega, by go_num, Lib.hid (by rw [HCS.out]; exact HU8.out)⟩
          case measure => simp [intOf]; omega
        · obtain rfl : k = n := by omega
          have HNW := Lib.hid (NewF.from HB2.out (HU.out.new (by omega)))
          go_wp2
          go_ret
          rw [HGF.out]
          exact HNW.out
    · have HN := Lib.hid (grF_no (a := a) (x := x) (fun h => hs (by have := h.2; rw [hl] at this; exact this)))
      have HS := Lib.hid (fun W (k : Keep w W) => pb_false hs ▸ validShares_any X nx cx x (n : Int) W (HY.out.keep k) (by omega))
      clear hv hs hl hlx
      go_enter Try.func41, Try.ntmps41
      go_wp2_with fail
      refine HC.out.mono ?_
      rintro e w1 ⟨rfl, hq⟩
      have HB1 := Lib.hid (show Below w.heap.size w w1 from hq.below)
      clear hq HC
      have HC := Lib.hid (HS.out w1 (Keep.below HB1.out))
      go_wp2_with fail
      refine HC.out.mono ?_
      rintro e w2 ⟨rfl, hq⟩
      have HB2 := Lib.hid (below_quiet HB1.out hq)
      clear hq HC HB1
      go_wp2
      go_ret
      exact NewF.empty HB2.out HN.out
  · have HC := Lib.hid (pb_false hv ▸ validField_any A n c a w HX.out)
    have HN := Lib.hid (grF_no (a := a) (x := x) (fun h => hv h.1))
    clear hv hl hlx
    go_enter Try.func41, Try.ntmps41
    go_wp2_with fail
    refine HC.out.mono ?_
    rintro e w1 ⟨rfl, hq⟩
    have HB1 := Lib.hid (show Below w.heap.size w w1 from hq.below)
    clear hq HC
    go_wp2
    go_ret
    exact NewF.empty HB1.out HN.out
end Go.Proofs.Ytgmcmblcljfofaa

/- Growth, by the program. -/
namespace Go.Proofs.Ytgmcmblcljfofaa
open Go.RowKit

set_option maxRecDepth 100000 in
set_option maxHeartbeats 1600000 in
theorem over_any (U1 D1 U2 D2 : Int) (w : World) (h1 : 0 ≤ U1 * D2 ∧ U1 * D2 ≤ 1000000000000000) (h2 : 1 ≤ D1 * U2 ∧ D1 * U2 ≤ 1000000000000000) :
    Calls Try.prog 81 #[.agg #[.int .i64 U1, .int .i64 D1], .agg #[.int .i64 U2, .int .i64 D2]] w (Ret (frV (U1 * D2) (D1 * U2)) w) := by
  have hb1 := below_alloc w (.cells #[.int .i64 U1, .int .i64 D1] 32)
  have hb2 := below_alloc (w.alloc (.cells #[.int .i64 U1, .int .i64 D1] 32)) (.cells #[.int .i64 U2, .int .i64 D2] 32)
  have HB := Lib.hid (below_up hb1 hb2)
  have b1 := blk_old (blk_new w 32 #[.int .i64 U1, .int .i64 D1]) (.cells #[.int .i64 U2, .int .i64 D2] 32)
  have b2 := blk_new (w.alloc (.cells #[.int .i64 U1, .int .i64 D1] 32)) 32 #[.int .i64 U2, .int .i64 D2]
  rw [World.size_alloc] at b2
  have HPF := Lib.hid (PF.start ((w.alloc (.cells #[.int .i64 U1, .int .i64 D1] 32)).alloc (.cells #[.int .i64 U2, .int .i64 D2] 32)))
  have c0 := blk_cell (blk_old b1 (.cells #[.int .i64 0, .int .i64 0] 32)) (i := 0) rfl
  have c1 := blk_cell (blk_old b1 (.cells #[.int .i64 0, .int .i64 0] 32)) (i := 1) rfl
  have c2 := blk_cell (blk_old b2 (.cells #[.int .i64 0, .int .i64 0] 32)) (i := 0) rfl
  have c3 := blk_cell (blk_old b2 (.cells #[.int .i64 0, .int .i64 0] 32)) (i := 1) rfl
  have HSZ : Hid (((w.alloc (.cells #[.int .i64 U1, .int .i64 D1] 32)).alloc (.cells #[.int .i64 U2, .int .i64 D2] 32)).heap.size = w.heap.size + 1 + 1) := Lib.hid (by simp)
  obtain ⟨h11, h12⟩ := h1
  obtain ⟨h21, h22⟩ := h2
  have w1 : IntKind.i64.wrap (U1 * D2) = U1 * D2 := wrap_in64 (by omega)
  have w2 : IntKind.i64.wrap (D1 * U2) = D1 * U2 := wrap_in64 (by omega)
  clear hb1 hb2 b1 b2
  go_enter Try.func81, Try.ntmps81
  have HC := Lib.hid (fun W => fracOf_any (U1 * D2) (D1 * U2) W (by unfold Mid; omega) (by unfold Mid; omega) h21)
  go_wp2_with fail
  clear c0 c1 c2 c3
  generalize (w.alloc (.cells #[.int .i64 U1, .int .i64 D1] 32)).alloc (.cells #[.int .i64 U2, .int .i64 D2] 32) = V at *
  refine (HC.out _).mono ?_
  rintro e w5 ⟨rfl, hb⟩
  have HPF1 := Lib.hid (HPF.out.up hb)
  clear hb HC HPF
  have HFV : Hid (frV (U1 * D2) (D1 * U2) = .agg #[.int .i64 (frU (U1 * D2) (D1 * U2)), .int .i64 (frD (U1 * D2) (D1 * U2))]) := Lib.hid rfl
  rw [HFV.out]
  generalize frU (U1 * D2) (D1 * U2) = U at *
  generalize frD (U1 * D2) (D1 * U2) = D at *
  have c0 := blk_cell HPF1.out.box (i := 0) rfl
  have c1 := blk_cell HPF1.out.box (i := 1) rfl
  have f0 := blk_frozen HPF1.out.box 0
  have f1 := blk_frozen HPF1.out.box 1
  rw [HSZ.out] at c0 c1 f0 f1
  go_wp2
  clear c0 c1 f0 f1
  have hbx := HPF1.out.box
  rw [HSZ.out] at hbx
  have B1 := blk_set (blk_set hbx 0 (.int .i64 U)) 1 (.int .i64 D)
  have r0 := blk_cell B1 (i := 0) (v := .int .i64 U) rfl
  have r1 := blk_cell B1 (i := 1) (v := .int .i64 D) rfl
  have HBX := Lib.hid (((HB.out.trans (HPF1.out.below.mono (by rw [HSZ.out]; omega))).setCell (p := ⟨w.heap.size + 1 + 1, 0, none⟩) (by show w.heap.size ≤ w.heap.size + 1 + 1; omega) (.int .i64 U)).setCell (p := ⟨w.heap.size + 1 + 1, 1, none⟩) (by show w.heap.size ≤ w.heap.size + 1 + 1; omega) (.int .i64 D))
  clear B1 HPF1 hbx
  generalize (w5.setCell ⟨w.heap.size + 1 + 1, 0, none⟩ (.int .i64 U)).setCell ⟨w.heap.size + 1 + 1, 1, none⟩ (.int .i64 D) = WE at *
  refine bodyPost_ret (v := .agg #[.int .i64 U, .int .i64 D]) (by simp [results, Try.results81, go_sem, r0, r1]) rfl ?_
  exact ⟨by rw [HFV.out], HBX.out⟩

/-- What is divided by the mean is what the model says. -/
theorem FS.over {a x n} (h : FS a x n) {i : Nat} (hi : i < n) :
    let U1 := frU (dotr a x i n) (tot x); let D1 := frD (dotr a x i n) (tot x); let U2 := frU (gP a x n) (tot x * tot x); let D2 := frD (gP a x n) (tot x * tot x)
    (0 ≤ U1 * D2 ∧ U1 * D2 ≤ 1000000000000000) ∧ (1 ≤ D1 * U2 ∧ D1 * U2 ≤ 1000000000000000) ∧ frV (U1 * D2) (D1 * U2) = frV (gU a x n i) (gP a x n) := by
  intro U1 D1 U2 D2
  have hn := h.n3
  obtain ⟨d1, d2⟩ := h.dot hi
  obtain ⟨p1, p2⟩ := h.gp
  obtain ⟨t1, t2⟩ := h.s.bd (by omega)
  have htt : 1 ≤ tot x * tot x ∧ tot x * tot x ≤ 9000000 := by
    have h1 : 1 * 1 ≤ tot x * tot x := Int.mul_le_mul (by omega) (by omega) (by omega) (by omega)
    have h2 : tot x * tot x ≤ 3000 * 3000 := Int.mul_le_mul t2 t2 (by omega) (by omega)
    omega
  have r1 := fr_ratio (dotr a x i n) (tot x)
  have r2 := fr_ratio (gP a x n) (tot x * tot x)
  have ub1 := frU_bd (u := dotr a x i n) (d := tot x) (B := 27000) (by omega) (by omega)
  have db1 := frD_bd (u := dotr a x i n) (d := tot x) (B := 3000) (by omega) t2
  have ub2 := frU_bd (u := gP a x n) (d := tot x * tot x) (B := 81000000) (by omega) (by omega)
  have db2 := frD_bd (u := gP a x n) (d := tot x * tot x) (B := 9000000) (by omega) htt.2
  have hU1 : 1 ≤ U1 := by
    have e : U1 * gcdI (dotr a x i n) (tot x) = dotr a x i n := frU_mul _ _
    have g := gcdI_pos (a := dotr a x i n) (b := tot x) (by omega)
    apply Classical.byContradiction; intro hn
    have : U1 * gcdI (dotr a x i n) (tot x) ≤ 0 * gcdI (dotr a x i n) (tot x) := Int.mul_le_mul_of_nonneg_right (by omega) (by omega)
    omega
  have hU2 : 1 ≤ U2 := by
    have e : U2 * gcdI (gP a x n) (tot x * tot x) = gP a x n := frU_mul _ _
    have g := gcdI_pos (a := gP a x n) (b := tot x * tot x) (by omega)
    apply Classical.byContradiction; intro hn
    have : U2 * gcdI (gP a x n) (tot x * tot x) ≤ 0 * gcdI (gP a x n) (tot x * tot x) := Int.mul_le_mul_of_nonneg_right (by omega) (by omega)
    omega
  have k1 : 1 * 1 ≤ U1 * D2 := Int.mul_le_mul hU1 db2.1 (by omega) (by omega)
  have k2 : U1 * D2 ≤ 27000 * 9000000 := Int.mul_le_mul ub1.2 db2.2 (by omega) (by omega)
  have k3 : 1 * 1 ≤ D1 * U2 := Int.mul_le_mul db1.1 hU2 (by omega) (by omega)
  have k4 : D1 * U2 ≤ 3000 * 81000000 := Int.mul_le_mul db1.2 ub2.2 (by omega) (by omega)
  refine ⟨by omega, by omega, ?_⟩
  have he : U1 * D2 * gP a x n = gU a x n i * (D1 * U2) := by
    have r1' : U1 * tot x = dotr a x i n * D1 := r1
    have r2' : U2 * (tot x * tot x) = gP a x n * D2 := r2
    unfold gU
    generalize gP a x n = P at *
    generalize dotr a x i n = D at *
    generalize tot x = T at *
    clear_value U1 D1 U2 D2
    grind
  obtain ⟨e1, e2⟩ := fr_eq (u := U1 * D2) (d := D1 * U2) (v := gU a x n i) (e := gP a x n) (by omega) (by omega) he
  unfold frV
  rw [e1, e2]

/-- Fractions stored one after the other, beside the mean's box. -/
structure GRX (n g mb : Nat) (U2 D2 : Int) (w : World) (L : List Int) (W : World) : Prop where
  own : OwnF w.heap.size W.heap.size W g (some ⟨g, 0, none⟩) n n L
  up : Below w.heap.size w W
  lo : w.heap.size ≤ g
  m0 : W.cell? ⟨mb, 0, none⟩ = some (.int .i64 U2)
  m1 : W.cell? ⟨mb, 1, none⟩ = some (.int .i64 D2)
  ne : mb ≠ g
theorem GRX.next {n g mb U2 D2 w L W W'} (h : GRX n g mb U2 D2 w L W) (k : Below W.heap.size W W') : GRX n g mb U2 D2 w L W' :=
  ⟨(h.own.below k).mono (Nat.le_refl _) k.size, below_up h.up k, h.lo, Keep.below k _ _ h.m0, Keep.below k _ _ h.m1, h.ne⟩
theorem GRX.cell {n g mb U2 D2 w L W} (h : GRX n g mb U2 D2 w L W) {k : Nat} (hk : k < 2 * n) : W.cell? ⟨g, k, none⟩ = some (.int .i64 (gi L k)) := by
  obtain ⟨b, o, e, hc⟩ := h.own.frs.at_ (by omega)
  injection e with e
  injection e with e1 e2
  subst e1
  subst e2
  have := hc k hk
  rw [Nat.zero_add] at this
  exact this
theorem GRX.frozen {n g mb U2 D2 w L W} (h : GRX n g mb U2 D2 w L W) {k : Nat} (hk : k < 2 * n) : W.frozen? ⟨g, k, none⟩ = false := by
  obtain ⟨o, e, _, _, hf⟩ := h.own.own (by omega)
  injection e with e
  injection e with _ e2
  subst e2
  have := hf k hk
  rw [Nat.zero_add] at this
  exact this
theorem GRX.set {n g mb U2 D2 w L W} (h : GRX n g mb U2 D2 w L W) {k : Nat} (hk : k < 2 * n) (v : Int) : GRX n g mb U2 D2 w (L.set k v) (W.setCell ⟨g, k, none⟩ (.int .i64 v)) := by
  have h1 := h.own.set hk v
  rw [Nat.zero_add] at h1
  refine ⟨h1.mono (Nat.le_refl _) (by simp [World.setCell]), h.up.setCell (p := ⟨g, k, none⟩) h.lo _, h.lo, ?_, ?_, h.ne⟩
  · rw [World.cell?_setCell_other _ _ _ _ (by intro e; have := congrArg Addr.block e; first | exact h.ne this | exact h.ne this.symm)]; exact h.m0
  · rw [World.cell?_setCell_other _ _ _ _ (by intro e; have := congrArg Addr.block e; first | exact h.ne this | exact h.ne this.symm)]; exact h.m1
theorem made_zero (n k : Nat) (hk : k < n * 2) : (madeCells #[.int .i64 0, .int .i64 0] (n * 2))[k]? = some (.int .i64 0) := by
  have h2 : k % 2 = 0 ∨ k % 2 = 1 := by omega
  rcases h2 with h2 | h2 <;> simp [madeCells, hk, h2]
theorem GRX.start (w : World) (n mb : Nat) (U2 D2 : Int) (hn : n ≤ 3) (h0 : w.cell? ⟨mb, 0, none⟩ = some (.int .i64 U2)) (h1 : w.cell? ⟨mb, 1, none⟩ = some (.int .i64 D2)) :
    GRX n w.heap.size mb U2 D2 w ((List.range (2 * n)).map fun _ => 0) (w.alloc (.cells (madeCells #[.int .i64 0, .int .i64 0] (n * 2)) 32)) := by
  have hb := blk_new w 32 (madeCells #[.int .i64 0, .int .i64 0] (n * 2))
  have hl : mb < w.heap.size := World.block_lt_of_cell? w _ h0
  refine ⟨⟨⟨by simp, Nat.le_refl _, by omega, fun _ => ⟨_, 0, rfl, fun k hk => ?_⟩⟩, fun _ => ⟨0, rfl, Nat.le_refl _, by simp, fun k _ => blk_frozen hb _⟩⟩, below_alloc _ _, Nat.le_refl _, Keep.below (below_alloc _ _) _ _ h0, Keep.below (below_alloc _ _) _ _ h1, by omega⟩
  rw [Nat.zero_add, gi_range hk]
  exact blk_cell hb (made_zero n k (by omega))

set_option maxRecDepth 100000 in
set_option maxHeartbeats 3200000 in
theorem GrowthOf_impl (A : Option Addr) (n c : Nat) (a : List (List Int)) (X : Option Addr) (nx cx : Nat) (x : List Int) (w : World) (ha : IntRows w A n c a) (hx : Ints w X nx cx x) :
    Calls Try.prog 42 #[.slice A n c, .slice X nx cx] w (NewF w (grF a x)) := by
  have HX := Lib.hid ha
  have HY := Lib.hid hx
  have hl := ha.len
  have hlx := hx.len
  clear ha hx
  have HC := Lib.hid (ValidField_impl A n c a w HX.out)
  by_cases hv : VF a
  · rw [pb_true hv] at HC
    have hn1 := hv.q.1.n1
    have hn3 := hv.q.1.n3
    rw [hl] at hn1 hn3
    have hvs := hv.q.1.vsn x
    rw [hl] at hvs
    by_cases hs : VS x (n : Int)
    · have HF := Lib.hid (FS.of hl hv hs)
      have HS := Lib.hid (fun W (k : Keep w W) => (hvs.trans (pb_true hs)) ▸ ValidShares_impl X nx cx x (n : Int) W (HY.out.keep k))
      have hm := hv.q.len2' hl
      obtain ⟨b, o, rb, ro, cc, rfl, tab⟩ := HX.out.tab hv.q.1
      rw [hm] at tab
      have HT := Lib.hid tab
      obtain rfl : n = nx := by have := hs.1; omega
      have HGF := Lib.hid (grF_yes HF.out)
      have HTX := Lib.hid hs.2.2
      have HPB := Lib.hid (fun i => (⟨tab.bd, onl_bds n i, HF.out.x⟩ : PB a (onl n i) x n n))
      obtain ⟨i0, hi0, hz0, hz1, hz2⟩ := info_parts Try.infoF
      clear hm tab hv hs hl hlx hvs
      go_enter Try.func42, Try.ntmps42
      go_wp2_with fail
      refine HC.out.mono ?_
      rintro e w1 ⟨rfl, hb⟩
      have HB1 := Lib.hid (show Below w.heap.size w w1 from hb)
      clear hb HC
      have HC := Lib.hid (HS.out w1 (Keep.below HB1.out))
      go_wp2_with fail
      refine HC.out.mono ?_
      rintro e w2 ⟨rfl, hq⟩
      have HB2 := Lib.hid (below_quiet HB1.out hq)
      clear hq HC HB1
      have HC := Lib.hid (meanPay_any b o rb ro cc n n c cx cx _ _ a x x w2 (HT.out.keep (Keep.below HB2.out)) (HY.out.keep (Keep.below HB2.out)) (HY.out.keep (Keep.below HB2.out)) HF.out.pb HTX.out HTX.out)
      go_wp2_with fail
      refine HC.out.mono ?_
      rintro e w3 ⟨rfl, hb⟩
      have HB3 := Lib.hid (below_up HB2.out hb)
      clear hb HC HB2
      have HFV : Hid (frV (payU a x x n n) (tot x * tot x) = .agg #[.int .i64 (frU (gP a x n) (tot x * tot x)), .int .i64 (frD (gP a x n) (tot x * tot x))]) := Lib.hid rfl
      rw [HFV.out]
      have HOV := Lib.hid (fun i (hi : i < n) => HF.out.over hi)
      simp only at HOV
      generalize frU (gP a x n) (tot x * tot x) = U2 at *
      generalize frD (gP a x n) (tot x * tot x) = D2 at *
      have hb3 := below_alloc w3 (.cells #[.int .i64 U2, .int .i64 D2] 32)
      have HB4 := Lib.hid (below_up HB3.out hb3)
      have HG0 := Lib.hid (GRX.start (w3.alloc (.cells #[.int .i64 U2, .int .i64 D2] 32)) n w3.heap.size U2 D2 hn3 (blk_cell (blk_new w3 _ _) rfl) (blk_cell (blk_new w3 _ _) rfl))
      have hmk := run_make (P := Try.prog) (w3.alloc (.cells #[.int .i64 U2, .int .i64 D2] 32)) 41 32 i0 (.agg #[.int .i64 0, .int .i64 0]) Try.underlying41 hi0 hz0 .i64 .i64 (n : Int) (n : Int) (by omega) (Int.le_refl _) (by rw [hz2]; omega) (by omega)
      rw [Int.toNat_natCast, hz1] at hmk
      clear hb3 HB3
      have HM0 := Lib.hid (mixT_zero (gi (grL a x n n)) (fun _ => 0) (2 * n))
      rw [← HM0.out, World.size_alloc] at HG0
      clear HM0
      go_wp2
      clear hmk
      generalize w3.alloc (.cells #[.int .i64 U2, .int .i64 D2] 32) = W0 at *
      generalize w3.heap.size = mb at *
      go_loopw [27] (fun i_ wr => ∃ k : Nat, k ≤ n ∧ i_ = .int .i64 k ∧ Hid (GRX n (mb + 1) mb U2 D2 W0 (mixT (gi (grL a x n n)) (fun _ => 0) (2 * n) (k * 2)) wr)) (fun i_ _ => n - (intOf i_).toNat)
      case atStart => exact ⟨0, Nat.zero_le _, rfl, HG0⟩
      case round =>
        clear HG0
        obtain ⟨k, hk, rfl, HG⟩ := hrel
        by_cases hlt : k < n
        · have HOK := HOV.out k hlt
          obtain ⟨o1, o2, HE⟩ := HOK
          have HGR := Lib.hid (gi_grL a x n (k := n) (i := k) hlt)
          have HST := Lib.hid (show ((mixT (gi (grL a x n n)) (fun _ => 0) (2 * n) (k * 2)).set (k * 2) (gi (grL a x n n) (k * 2))).set (k * 2 + 1) (gi (grL a x n n) (k * 2 + 1)) = mixT (gi (grL a x n n)) (fun _ => 0) (2 * n) ((k + 1) * 2) by rw [mixT_set, mixT_set, show k * 2 + 1 + 1 = (k + 1) * 2 by omega])
          rw [HGR.out.1, HGR.out.2] at HST
          have HP := Lib.hid (payU_alone a x n n k hlt)
          have HT1 := Lib.hid (tot_onl (n := n) (i := k) hlt)
          have HMV : Hid (frV (payU a (onl n k) x n n) (tot (onl n k) * tot x) = .agg #[.int .i64 (frU (dotr a x k n) (tot x)), .int .i64 (frD (dotr a x k n) (tot x))]) := Lib.hid (by rw [HP.out, HT1.out, Int.one_mul]; rfl)
          have HFE : Hid (frV (gU a x n k) (gP a x n) = .agg #[.int .i64 (frU (gU a x n k) (gP a x n)), .int .i64 (frD (gU a x n k) (gP a x n))]) := Lib.hid rfl
          rw [HFE.out] at HE
          clear HP HGR HFE
          generalize frU (dotr a x k n) (tot x) = U1 at *
          generalize frD (dotr a x k n) (tot x) = D1 at *
          generalize frU (gU a x n k) (gP a x n) = U at *
          generalize frD (gU a x n k) (gP a x n) = V at *
          have HOVR := Lib.hid (fun W => HE ▸ over_any U1 D1 U2 D2 W o1 o2)
          clear HE o1 o2
          have m1 := HG.out.m0
          have m2 := HG.out.m1
          go_wp2
          go_region_law ((first
            | (go_simp; go_at_call 80; refine (alone_impl n k _ (by omega) hlt).mono ?_; rintro e w5 ⟨rfl, ho, hb⟩; have HG5 := Lib.hid ((HG.out.next (Quiet.below (B := wr.heap.size) ⟨1, rfl⟩)).next hb); have HO := Lib.hid ho.ints; have m3 := HG5.out.m0; have m4 := HG5.out.m1; clear ho hb HG)
            | (go_simp; go_at_call 79; refine (HMV.out ▸ meanPay_any b o rb ro cc n n c n cx _ _ a (onl n k) x w5 (HT.out.keep (Keep.below (below_up HB4.out HG5.out.up))) HO.out (HY.out.keep (Keep.below (below_up HB4.out HG5.out.up))) (HPB.out k) (by rw [HT1.out]; omega) HTX.out).mono ?_; rintro e w6 ⟨rfl, hb⟩; have HG6 := Lib.hid (HG5.out.next hb); have m5 := HG6.out.m0; have m6 := HG6.out.m1; clear hb HG5)
            | (go_simp; go_at_call 81; refine (HOVR.out _).mono ?_; rintro e w7 ⟨rfl, hb⟩; have HG7 := Lib.hid (HG6.out.next hb); have q1 := HG7.out.cell (k := k * 2) (by omega); have q2 := HG7.out.cell (k := k * 2 + 1) (by omega); have z1 := HG7.out.frozen (k := k * 2) (by omega); have z2 := HG7.out.frozen (k := k * 2 + 1) (by omega); clear hb HG6)))
          all_goals
            have HG8 := Lib.hid ((HG7.out.set (k := k * 2) (by omega) U).set (k := k * 2 + 1) (by omega) V)
            rw [HST.out] at HG8
            clear m1 m2 m3 m4 m5 m6 q1 q2 z1 z2
            go_wp2
            go_roundw
            case rel => exact ⟨k + 1, by omega, by go_num, Lib.hid (by first | exact HG8.out | exact HG8.out.next (Quiet.below ⟨1, rfl⟩) | exact HG8.out.next (Quiet.below ⟨_, rfl⟩))⟩
            case measure => simp [intOf]; omega
        · obtain rfl : k = n := by omega
          have HNW := Lib.hid (show NewF w (grF a x) (.returned (.slice (some ⟨mb + 1, 0, none⟩) k k)) wr from by
            refine NewF.from HB4.out ?_
            have e : mixT (gi (grL a x k k)) (fun _ => 0) (2 * k) (k * 2) = grF a x := by
              rw [HGF.out, show k * 2 = 2 * k by omega, mixT_all, ← grL_len a x k k]
              exact list_range _
            have ho := HG.out.own
            rw [e] at ho
            exact ⟨_, _, _, mb + 1, rfl, ho.frs.len, ho, HG.out.up⟩)
          go_wp2
          go_ret
          exact HNW.out
    · have HN := Lib.hid (grF_no (a := a) (x := x) (fun h => hs (by have := h.2; rw [hl] at this; exact this)))
      have HS := Lib.hid (fun W (k : Keep w W) => (hvs.trans (pb_false hs)) ▸ ValidShares_impl X nx cx x (n : Int) W (HY.out.keep k))
      clear hv hs hl hlx hvs
      go_enter Try.func42, Try.ntmps42
      go_wp2_with fail
      refine HC.out.mono ?_
      rintro e w1 ⟨rfl, hb⟩
      have HB1 := Lib.hid (show Below w.heap.size w w1 from hb)
      clear hb HC
      have HC := Lib.hid (HS.out w1 (Keep.below HB1.out))
      go_wp2_with fail
      refine HC.out.mono ?_
      rintro e w2 ⟨rfl, hq⟩
      have HB2 := Lib.hid (below_quiet HB1.out hq)
      clear hq HC HB1
      go_wp2
      go_ret
      exact NewF.empty HB2.out HN.out
  · rw [pb_false hv] at HC
    have HN := Lib.hid (grF_no (a := a) (x := x) (fun h => hv h.1))
    clear hv hl hlx
    go_enter Try.func42, Try.ntmps42
    go_wp2_with fail
    refine HC.out.mono ?_
    rintro e w1 ⟨rfl, hb⟩
    go_wp2
    go_ret
    exact NewF.empty hb HN.out
end Go.Proofs.Ytgmcmblcljfofaa

