/- Texts merged: CO K7 Y3 Asc Y5 K2 K3 Math22 Z4 V8 V9 Mix K6 Ones. -/
import Derived.Test.YtoekpbcdgmejcaaQ6
import Derived.Laws.Tables
import Derived.Laws.Rows
/- A table as an array, by the program. -/
namespace Go.Proofs.Ytoekpbcdgmejcaa
open Go.RowKit

theorem blk_row {w g t cs} (h : Blk w g t cs) (c : Array Value) : Blk (w.setRow g c) g t c := setRow_heap w g cs c t (0, 0) h
theorem row_other (w : World) (g k : Nat) (c : Array Value) (h : k ≠ g) : (w.setRow g c).heap[k]? = w.heap[k]? := by
  simp only [World.setRow, Array.getElem?_modify, if_neg (Ne.symm h)]
theorem blk_row_other {w g k t cs} (h : Blk w k t cs) (c : Array Value) (hne : k ≠ g) : Blk (w.setRow g c) k t cs := (row_other w g k c hne).trans h
theorem below_row {B : Nat} {a w : World} (h : Below B a w) {g : Nat} (hg : B ≤ g) (c : Array Value) : Below B a (w.setRow g c) :=
  ⟨h.os, h.tape, h.output, by simpa [World.setRow] using h.size, fun k hk => (row_other w g k c (by omega)).trans (h.block k hk)⟩

/-- A table on its way into an array: the result's box, and the variable. -/
structure CW (a : List (List Int)) (m : Nat) (w : World) (i j : Nat) (W : World) : Prop where
  box : Blk W w.heap.size 82 (cs9 fun _ _ => 0)
  var : Blk W (w.heap.size + 1) 82 (cs9 (part9 a m i j))
  below : Below w.heap.size w W
theorem CW.start (a : List (List Int)) (m : Nat) (w : World) : CW a m w 0 0 ((w.alloc (.cells (cs9 fun _ _ => 0) 82)).alloc (.cells (cs9 fun _ _ => 0) 82)) :=
  ⟨blk_old (blk_new _ _ _) _, by rw [part9_zero]; have := blk_new (w.alloc (.cells (cs9 fun _ _ => 0) 82)) 82 (cs9 fun _ _ => 0); rw [World.size_alloc] at this; exact this, below_up (below_alloc _ _) (below_alloc _ _)⟩
theorem CW.put {a m w i j W} (h : CW a m w i j W) (hi : i < 3) (hj : j < m) (hm : m ≤ 3) : CW a m w i (j + 1) (W.setCell ⟨w.heap.size + 1, i * 3 + j, none⟩ (.int .i64 (g2 a i j))) :=
  ⟨blk_other h.box (by show w.heap.size ≠ w.heap.size + 1; omega) _, by have := blk_set h.var (i * 3 + j) (.int .i64 (g2 a i j)); rw [cs9_set _ hi (by omega), part9_next a m i j hj] at this; exact this, h.below.setCell (by show w.heap.size ≤ w.heap.size + 1; omega) _⟩
theorem CW.row {a m w i W} (h : CW a m w i m W) : CW a m w (i + 1) 0 W := ⟨h.box, by rw [← part9_row]; exact h.var, h.below⟩
theorem CW.keep {a m w i j W} (h : CW a m w i j W) : Keep w W := Keep.below h.below

set_option maxRecDepth 100000 in
set_option maxHeartbeats 3200000 in
theorem cellsOf_any (b o : Nat) (rb ro cc : Nat → Nat) (n m c : Nat) (a : List (List Int)) (w : World) (ht : Tab w b o rb ro cc n m a) :
    Calls Try.prog 83 #[.slice (some ⟨b, o, none⟩) n c] w (Ret (.agg (cs9 (full9 a n m))) w) := by
  have HT := Lib.hid ht
  have hn1 := ht.n1
  have hn3 := ht.n3
  have hm1 := ht.m1
  have hm3 := ht.m3
  have HS := Lib.hid (CW.start a m w)
  clear ht
  go_enter Try.func83, Try.ntmps83
  go_wp2
  go_loopw [10] (fun i_ wr => ∃ i : Nat, i ≤ n ∧ i_ = .int .i64 i ∧ Hid (CW a m w i 0 wr)) (fun i_ _ => n - (intOf i_).toNat)
  case atStart => exact ⟨0, Nat.zero_le _, rfl, HS⟩
  case round =>
    clear HS
    obtain ⟨i, hi, rfl, HC⟩ := hrel
    by_cases hlt : i < n
    · have c1 := HC.out.keep _ _ (HT.out.row i hlt)
      go_wp2
      clear c1
      go_loopw [17] (fun j_ wi => ∃ j : Nat, j ≤ m ∧ j_ = .int .i64 j ∧ Hid (CW a m w i j wi)) (fun j_ _ => m - (intOf j_).toNat)
      case atStart => exact ⟨0, Nat.zero_le _, rfl, HC⟩
      case round =>
        clear HC
        obtain ⟨j, hj, rfl, HC⟩ := hrel
        by_cases hjl : j < m
        · have c2 := HC.out.keep _ _ (HT.out.cell i j hlt hjl)
          have c3 := blk_cell HC.out.var (cs9_get _ (by omega : i < 3) (by omega : j < 3))
          have c4 := blk_frozen HC.out.var (i * 3 + j)
          have HN := Lib.hid (HC.out.put (by omega) hjl hm3)
          have hi3 : (i : Int) < 3 := by omega
          have hj3 : (j : Int) < 3 := by omega
          generalize g2 a i j = x at *
          go_wp2
          clear c2 c3 c4
          go_roundw
          case rel => exact ⟨j + 1, by omega, by go_num, HN⟩
          case measure => simp [intOf]; omega
        · obtain rfl : j = m := by omega
          have HN := Lib.hid HC.out.row
          go_wp2
          go_roundw
          case rel => exact ⟨i + 1, by omega, by go_num, HN⟩
          case measure => simp [intOf]; omega
    · obtain rfl : i = n := by omega
      have HV := Lib.hid (show Blk wr (w.heap.size + 1) 82 (cs9 (full9 a i m)) by rw [← part9_all]; exact HC.out.var)
      have HX := Lib.hid HC.out.box
      have HB := Lib.hid HC.out.below
      clear HC
      generalize full9 a i m = F at *
      generalize wr = W0 at *
      have HSZ : Hid ((Try.prog.info? 82).map (·.size) = some (cs9 F).size) := Lib.hid (by show _ = some 9; kernel_rfl)
      have HS1 : Hid ((cs9 F).all (·.oneCell') = true) := Lib.hid (by simp [cs9, Value.oneCell'])
      go_wp2_with (first | (refine wpList_load_row rfl 82 _ rfl (w.heap.size + 1) rfl 82 (cs9 F) (0, 0) _ HV.out und_cells rfl HSZ.out ?_) | (refine wpList_store_row rfl 82 _ _ rfl w.heap.size (cs9 F) rfl rfl 82 _ HX.out HSZ.out rfl HS1.out ?_))
      have BB := Lib.hid (blk_row HX.out (cs9 F))
      have HBX := Lib.hid (below_row HB.out (g := w.heap.size) (Nat.le_refl _) (cs9 F))
      clear HX HV HB
      generalize W0.setRow w.heap.size (cs9 F) = W9 at *
      refine bodyPost_ret (v := .agg (cs9 F)) (results_cell_row (by rfl) _ _ w.heap.size 82 (cs9 F) (0, 0) _ (by rfl) BB.out und_cells rfl HSZ.out) rfl ?_
      exact ⟨rfl, HBX.out⟩
end Go.Proofs.Ytoekpbcdgmejcaa

/- Even tables, by both programs. -/
namespace Go.Proofs.Ytoekpbcdgmejcaa
open Go.RowKit

theorem VQ.len2 {a : List (List Int)} {n : Nat} (v : VQ a) (hl : a.length = n) : (gr a 0).length = n := by have := v.2; omega
/-- A square that is the same with rows as columns. -/
structure EvP (a : List (List Int)) : Prop where
  q : VQ a
  e : ∀ i j, i < a.length → j < a.length → g2 a i j = g2 a j i


theorem g2_flipT {a : List (List Int)} {n m i j : Nat} (hi : i < m) (hj : j < n) : g2 (flip a n m) i j = g2 a j i := by
  unfold g2
  rw [gr_flip hi, gi_col hj]
  rfl

/-- The table is even just if the arrays of it and it turned are the same. -/
theorem even_cells {a : List (List Int)} (v : VQ a) : EvP a ↔ cs9 (full9 a a.length a.length) = cs9 (full9 (flip a a.length a.length) a.length a.length) := by
  constructor
  · intro h
    refine cs9_congr fun r c _ _ => ?_
    unfold full9
    by_cases e : r < a.length ∧ c < a.length
    · rw [if_pos e, if_pos e, g2_flipT e.1 e.2]; exact h.e r c e.1 e.2
    · rw [if_neg e, if_neg e]
  · intro h
    refine ⟨v, fun i j hi hj => ?_⟩
    have h3 := v.1.n3
    have e1 := cs9_get (full9 a a.length a.length) (i := i) (j := j) (by omega) (by omega)
    have e2 := cs9_get (full9 (flip a a.length a.length) a.length a.length) (i := i) (j := j) (by omega) (by omega)
    rw [h, e2] at e1
    injection e1 with e1
    injection e1 with _ e1
    unfold full9 at e1
    rw [if_pos ⟨hi, hj⟩, if_pos ⟨hi, hj⟩, g2_flipT hi hj] at e1
    exact e1.symm

set_option maxRecDepth 100000 in
set_option maxHeartbeats 1600000 in
theorem IsEven_impl (A : Option Addr) (n c : Nat) (a : List (List Int)) (w : World) (hx : IntRows w A n c a) :
    Calls Try.prog 40 #[.slice A n c] w (Ret (.bool (pb (EvP a))) w) := by
  have HX := Lib.hid hx
  have hl := hx.len
  clear hx
  by_cases hv : VQ a
  · have HC := Lib.hid (pb_true hv ▸ ValidSquare_impl A n c a w HX.out)
    have hm : (gr a 0).length = n := by have := hv.2; omega
    obtain ⟨b, o, rb, ro, cc, rfl, tab⟩ := HX.out.tab hv.1
    rw [hm] at tab
    have HT := Lib.hid tab
    have HEC := Lib.hid (by have := even_cells hv; rw [hl] at this; exact this)
    have HVF := Lib.hid hv
    clear tab hm
    go_enter Try.func40, Try.ntmps40
    go_wp2_with fail
    refine HC.out.mono ?_
    rintro e w1 ⟨rfl, hq⟩
    have HB1 := Lib.hid (show Below w.heap.size w w1 from hq.below)
    clear hq HC
    have HC := Lib.hid (cellsOf_any b o rb ro cc n n c a w1 (HT.out.keep (Keep.below HB1.out)))
    go_wp2_with fail
    refine HC.out.mono ?_
    rintro e w2 ⟨rfl, hb⟩
    have HB2 := Lib.hid (below_up HB1.out hb)
    clear hb HC HB1
    have HC := Lib.hid (turned_any b o rb ro cc n n c a w2 (HT.out.keep (Keep.below HB2.out)))
    go_wp2_with fail
    refine HC.out.mono ?_
    rintro e w3 ⟨rfl, ho, hb, -⟩
    have HB3 := Lib.hid (below_up HB2.out hb)
    have hvf := HVF.out.1.flip
    rw [hl, HVF.out.len2 hl] at hvf
    obtain ⟨b2, o2, rb2, ro2, cc2, e2, t2⟩ := ho.rows.tab hvf
    injection e2 with e2
    injection e2 with e3 e4
    subst e3
    subst e4
    have hm2 : (gr (flip a n n) 0).length = n := by have := HT.out.n1; rw [gr_flip (by omega)]; simp
    rw [hm2] at t2
    have HT2 := Lib.hid t2
    clear ho hb HC HB2 hvf t2 hm2
    have HC := Lib.hid (cellsOf_any _ _ rb2 ro2 cc2 n n n (flip a n n) w3 HT2.out)
    have heq := fun W => eq9_op (full9 a n n) (full9 (flip a n n) n n) W
    have hg : Try.prog.eqGuardType Try.prog.depth 82 = false := by kernel_rfl
    by_cases he : EvP a
    · have HN := Lib.hid (pb_true he)
      rw [pb_true (HEC.out.1 he)] at heq
      clear he hv hl
      generalize full9 a n n = F at *
      generalize full9 (flip a n n) n n = G at *
      go_wp2_with fail
      refine HC.out.mono ?_
      rintro e w4 ⟨rfl, hb⟩
      have HB4 := Lib.hid (below_up HB3.out hb)
      clear hb HC HB3
      go_wp2
      go_ret
      exact ⟨ret_bool HN.out.symm, HB4.out⟩
    · have HN := Lib.hid (pb_false he)
      rw [pb_false (fun h => he (HEC.out.2 h))] at heq
      clear he hv hl
      generalize full9 a n n = F at *
      generalize full9 (flip a n n) n n = G at *
      go_wp2_with fail
      refine HC.out.mono ?_
      rintro e w4 ⟨rfl, hb⟩
      have HB4 := Lib.hid (below_up HB3.out hb)
      clear hb HC HB3
      go_wp2
      go_ret
      exact ⟨ret_bool HN.out.symm, HB4.out⟩
  · have HC := Lib.hid (pb_false hv ▸ ValidSquare_impl A n c a w HX.out)
    have HN := Lib.hid (pb_false (p := EvP a) (fun h => hv h.q))
    clear hv hl
    go_enter Try.func40, Try.ntmps40
    go_wp2_with fail
    refine HC.out.mono ?_
    rintro e w1 ⟨rfl, hq⟩
    go_wp2
    go_ret
    exact ⟨ret_bool HN.out.symm, hq.below⟩
end Go.Proofs.Ytoekpbcdgmejcaa

/- Rows compared, by the laws; squares turned. -/
namespace Go.Proofs.Ytoekpbcdgmejcaa
open Go.RowKit

theorem VQ.m {a : List (List Int)} {k : Nat} (v : VQ a) (h : a.length = k) : (gr a 0).length = k := by have := v.2; omega
theorem VQ.flip {a : List (List Int)} {k : Nat} (v : VQ a) (h : a.length = k) : VQ (flip a k k) := by
  have h1 := v.1.flip
  rw [h, v.m h] at h1
  refine ⟨h1, ?_⟩
  have := v.1.n1
  rw [flip_len, gr_flip (by omega)]
  simp
theorem VQ.even {a : List (List Int)} {k : Nat} (v : VQ a) (h : a.length = k) : Even a k := by have h1 := v.1.even; rw [v.m h] at h1; exact h1
theorem VQ.evenP {a : List (List Int)} {k : Nat} (v : VQ a) (h : a.length = k) : EvP a ↔ Go.Proofs.Ytoekpbcdgmejcaa.flip a k k = a := by
  constructor
  · intro e
    refine gr_ext (by rw [flip_len, h]) fun i hi => ?_
    rw [flip_len] at hi
    refine gi_ext (by rw [gr_flip hi, (v.1.rows i (by omega)).1, v.m h]; simp) fun j hj => ?_
    rw [gr_flip hi] at hj
    have hj' : j < k := by simpa using hj
    have := g2_flipT (a := a) (n := k) (m := k) hi hj'
    unfold g2 at this
    rw [this]
    exact e.e j i (by omega) (by omega)
  · intro e
    refine ⟨v, fun i j hi hj => ?_⟩
    have := g2_flipT (a := a) (n := k) (m := k) (i := i) (j := j) (by omega) (by omega)
    rw [e] at this
    exact this

end Go.Proofs.Ytoekpbcdgmejcaa

/- Ascending lists, by the laws. -/
namespace Go.Proofs.Ytoekpbcdgmejcaa
open Go.RowKit

/-- Each number is more than the one ahead of it. -/
def AscL (xs : List Int) : Prop := ∀ j, 1 ≤ j → j < xs.length → gi xs (j - 1) < gi xs j
set_option maxHeartbeats 800000 in
theorem ascends_any (A : Option Addr) (n c : Nat) (xs : List Int) (w : World) (hx : Ints w A n c xs) (ha : AscL xs) :
    Calls Try.prog 24 #[.slice A n c] w fun e w' => e = .returned (.bool true) ∧ Quiet w w' := by
  have HL := Lib.hid hx.len
  have HX := Lib.hid hx
  have HA := Lib.hid ha
  have hmx := hx.max
  clear hx ha
  go_enter Try.func24, Try.ntmps24
  go_wp2
  go_loopw [3] (fun i wr => ∃ k : Nat, 1 ≤ k ∧ k ≤ n + 1 ∧ i = .int .i64 k ∧ Quiet w wr) (fun i _ => n + 1 - (intOf i).toNat)
  case atStart => exact ⟨1, by omega, by omega, rfl, Quiet.refl _⟩
  case round =>
    obtain ⟨k, h1, hk, rfl, q, rfl⟩ := hrel
    by_cases hlt : k < n
    · obtain ⟨b, o, rfl, hc⟩ := HX.out.at_ (by omega)
      obtain ⟨l, rfl⟩ : ∃ l, k = l + 1 := ⟨k - 1, by omega⟩
      have c1 := hc (l + 1) hlt
      have c2 := hc l (by omega)
      have hlt2 := HA.out (l + 1) (by omega) (by rw [HL.out]; exact hlt)
      rw [Nat.add_sub_cancel] at hlt2
      have hcs : ((l + 1 : Nat) : Int) - 1 = (l : Int) := by omega
      clear hc
      generalize gi xs (l + 1) = x at *
      generalize gi xs l = y at *
      have hle : decide (x ≤ y) = false := decide_eq_false (by omega)
      have hl1 : l < n := by omega
      have hln : (l : Int) < (n : Int) := by omega
      go_wp2
      go_quiet (fail)
      go_wp2
      go_roundw
      case rel => exact ⟨l + 1 + 1, by omega, by omega, by go_num, ⟨_, rfl⟩⟩
      case measure => simp [intOf]; omega
    · go_wp2
      go_ret
      exact ⟨rfl, ⟨_, rfl⟩⟩
end Go.Proofs.Ytoekpbcdgmejcaa

/- Rows among rows, ascending lists, by the laws. -/
namespace Go.Proofs.Ytoekpbcdgmejcaa
open Go.RowKit

set_option maxHeartbeats 800000 in
theorem inRows_any (A B : Option Addr) (n c m d : Nat) (xs : List (List Int)) (ys : List Int) (w : World) (hx : IntRows w A n c xs) (hy : Ints w B m d ys) :
    Calls Try.prog 18 #[.slice A n c, .slice B m d] w fun e w' => e = .returned (.bool (pb (ys ∈ xs))) ∧ Quiet w w' := by
  have HL := Lib.hid hx.len
  have HX := Lib.hid hx
  have HY := Lib.hid hy
  have hmx := hx.max
  clear hx hy
  go_enter Try.func18, Try.ntmps18
  go_wp2
  go_loopw [5] (fun i wr => ∃ k : Nat, k ≤ n ∧ i = .int .i64 k ∧ Hid (∀ j, j < k → gr xs j ≠ ys) ∧ Quiet w wr) (fun i _ => n - (intOf i).toNat)
  case atStart => exact ⟨0, Nat.zero_le _, rfl, Lib.hid (fun _ h => absurd h (by omega)), Quiet.refl _⟩
  case round =>
    obtain ⟨k, hk, rfl, HALL, hq⟩ := hrel
    by_cases hlt : k < n
    · obtain ⟨b, o, rfl, hc⟩ := (HX.out.keep (Keep.quiet hq)).at_ (by omega)
      obtain ⟨R, cR, c1, hR⟩ := hc k hlt
      have HQ := Lib.hid hq
      have HC := Lib.hid (equalInts_any _ _ _ _ _ _ (gr xs k) ys wr hR (HY.out.keep (Keep.quiet hq)))
      clear hc hR hq
      by_cases he : gr xs k = ys
      · have HR := Lib.hid (pb_true (p := ys ∈ xs) (by rw [← he]; exact gr_mem (by rw [HL.out]; exact hlt)))
        rw [show eqI (gr xs k) ys = true by unfold eqI; exact decide_eq_true he] at HC
        clear he
        go_wp2_with fail
        refine HC.out.mono ?_
        rintro e w2 ⟨rfl, hq⟩
        have HQ2 := Lib.hid (HQ.out.trans hq)
        clear hq HC HQ c1
        go_wp2
        go_ret
        exact ⟨ret_bool HR.out.symm, HQ2.out⟩
      · rw [show eqI (gr xs k) ys = false by unfold eqI; exact decide_eq_false he] at HC
        have HN := Lib.hid (show ∀ j, j < k + 1 → gr xs j ≠ ys from fun j hj => by
          by_cases e : j = k
          · subst e; exact he
          · exact HALL.out j (by omega))
        clear he
        go_wp2_with fail
        refine HC.out.mono ?_
        rintro e w2 ⟨rfl, hq⟩
        have HQ2 := Lib.hid (HQ.out.trans hq)
        clear hq HC HQ c1
        go_wp2
        go_roundw
        case rel => exact ⟨k + 1, by omega, by go_num, HN, HQ2.out⟩
        case measure => simp [intOf]; omega
    · obtain rfl : k = n := by omega
      have HR := Lib.hid (pb_false (p := ys ∈ xs) (fun h => by
        obtain ⟨j, hj, e⟩ := List.mem_iff_getElem.1 h
        exact HALL.out j (by rw [← HL.out]; exact hj) (by rw [gr_get hj]; exact e)))
      have HQ2 := Lib.hid hq
      clear hq
      go_wp2
      go_ret
      exact ⟨ret_bool HR.out.symm, HQ2.out⟩

end Go.Proofs.Ytoekpbcdgmejcaa

/- Stable strategies, by the program. -/
namespace Go.Proofs.Ytoekpbcdgmejcaa
open Go.RowKit

/-- The leads of strategy i over j: against i, and against j. -/
def leadI (a : List (List Int)) (i j : Nat) : Int := g2 a i i - g2 a j i
def leadJ (a : List (List Int)) (i j : Nat) : Int := g2 a i j - g2 a j j

set_option maxRecDepth 100000 in
set_option maxHeartbeats 1600000 in
theorem leadsOf_any (A : Option Addr) (n c : Nat) (a : List (List Int)) (w : World) (i j : Nat) (hx : IntRows w A n c a) (hq : VQ a) (hi : i < n) (hj : j < n) :
    Calls Try.prog 58 #[.slice A n c, .int .i64 i, .int .i64 j] w (Ret (.tuple #[.int .i64 (leadI a i j), .int .i64 (leadJ a i j)]) w) := by
  have HX := Lib.hid hx
  obtain ⟨b, o, rb, ro, cc, rfl, tab⟩ := hx.tab hq.1
  have hl := hx.len
  have hm : (gr a 0).length = n := by have := hq.2; omega
  rw [hm] at tab
  have HT := Lib.hid tab
  have hn3 := tab.n3
  have B11 := tab.bd i i hi hi
  have B21 := tab.bd j i hj hi
  have B12 := tab.bd i j hi hj
  have B22 := tab.bd j j hj hj
  have HA1 := Lib.hid (dotr_alone a n i i hi)
  have HA2 := Lib.hid (dotr_alone a n j i hi)
  have HA3 := Lib.hid (dotr_alone a n i j hj)
  have HA4 := Lib.hid (dotr_alone a n j j hj)
  unfold leadI leadJ
  clear tab hm hl hq hx
  have Z0 := Lib.hid (Below.refl w.heap.size w)
  go_enter Try.func58, Try.ntmps58
  have HC := Lib.hid (alone_impl n i w (by omega) hi)
  go_wp2_with fail
  refine HC.out.mono ?_
  rintro e w1 ⟨rfl, ho, hb⟩
  have Z1 := Lib.hid (below_up Z0.out hb)
  have O1 := Lib.hid ho.ints
  clear ho hb HC Z0
  have HC := Lib.hid (payAgainst_any a (onl n i) n b o c n rb ro cc _ w1 (HT.out.keep (Keep.below Z1.out)) O1.out (onl_bds n i))
  go_wp2_with fail
  refine HC.out.mono ?_
  rintro e w2 ⟨pa, pw, rfl, hp, hb⟩
  have Z2 := Lib.hid (below_up Z1.out hb)
  have P := Lib.hid hp
  clear hp hb HC Z1 O1
  have HC := Lib.hid (alone_impl n j w2 (by omega) hj)
  go_wp2_with fail
  refine HC.out.mono ?_
  rintro e w3 ⟨rfl, ho, hb⟩
  have Z3 := Lib.hid (below_up Z2.out hb)
  have P3 := Lib.hid (P.out.keep (Keep.below hb))
  have O1 := Lib.hid ho.ints
  clear ho hb HC Z2 P
  have HC := Lib.hid (payAgainst_any a (onl n j) n b o c n rb ro cc _ w3 (HT.out.keep (Keep.below Z3.out)) O1.out (onl_bds n j))
  go_wp2_with fail
  refine HC.out.mono ?_
  rintro e w4 ⟨pb_, pv, rfl, hp, hb⟩
  have Z4 := Lib.hid (below_up Z3.out hb)
  have P4 := Lib.hid (P3.out.keep (Keep.below hb))
  have Q4 := Lib.hid hp
  clear hp hb HC Z3 O1 P3
  have HC := Lib.hid (HA1.out ▸ payAt_any a (onl n i) n pa pw b o c n rb ro cc _ w4 P4.out i hi)
  go_wp2_with fail
  refine HC.out.mono ?_
  rintro e w5 ⟨rfl, hb⟩
  have Z5 := Lib.hid (below_up Z4.out hb)
  have P5 := Lib.hid (P4.out.keep (Keep.below hb))
  have Q5 := Lib.hid (Q4.out.keep (Keep.below hb))
  clear hb HC Z4 P4 Q4
  have HC := Lib.hid (HA2.out ▸ payAt_any a (onl n i) n pa pw b o c n rb ro cc _ w5 P5.out j hj)
  go_wp2_with fail
  refine HC.out.mono ?_
  rintro e w6 ⟨rfl, hb⟩
  have Z6 := Lib.hid (below_up Z5.out hb)
  have Q6 := Lib.hid (Q5.out.keep (Keep.below hb))
  clear hb HC Z5 P5 Q5
  have HC := Lib.hid (HA3.out ▸ payAt_any a (onl n j) n pb_ pv b o c n rb ro cc _ w6 Q6.out i hi)
  go_wp2_with fail
  refine HC.out.mono ?_
  rintro e w7 ⟨rfl, hb⟩
  have Z7 := Lib.hid (below_up Z6.out hb)
  have Q7 := Lib.hid (Q6.out.keep (Keep.below hb))
  clear hb HC Z6 Q6
  have HC := Lib.hid (HA4.out ▸ payAt_any a (onl n j) n pb_ pv b o c n rb ro cc _ w7 Q7.out j hj)
  go_wp2_with fail
  refine HC.out.mono ?_
  rintro e w8 ⟨rfl, hb⟩
  have Z8 := Lib.hid (below_up Z7.out hb)
  clear hb HC Z7 Q7
  go_wp2
  go_ret2
  exact ⟨rfl, Z8.out⟩

/-- A strategy with these leads holds. -/
def HoldL (x y : Int) : Prop := 0 < x ∨ x = 0 ∧ 0 < y
theorem holdL_iff (a : List (List Int)) (i j : Nat) : HoldL (leadI a i j) (leadJ a i j) ↔ HoldP a i j := by
  unfold HoldL HoldP leadI leadJ
  omega
set_option maxHeartbeats 400000 in
theorem holdsL_any (x y : Int) (w : World) : Calls Try.prog 59 #[.int .i64 x, .int .i64 y] w fun e w' => e = .returned (.bool (pb (HoldL x y))) ∧ Quiet w w' := by
  by_cases h1 : 0 < x
  · rw [pb_true (p := HoldL x y) (.inl h1)]
    go_enter Try.func59, Try.ntmps59
    go_wp2
    go_ret
    exact ⟨rfl, Quiet.refl _⟩
  · have h1' : decide (0 < x) = false := decide_eq_false h1
    by_cases h2 : x = 0
    · subst h2
      by_cases h3 : 0 < y
      · rw [pb_true (p := HoldL 0 y) (.inr ⟨rfl, h3⟩)]
        go_enter Try.func59, Try.ntmps59
        go_wp2
        go_ret
        exact ⟨rfl, Quiet.refl _⟩
      · rw [pb_false (p := HoldL 0 y) (by unfold HoldL; omega)]
        have h3' : decide (0 < y) = false := decide_eq_false h3
        go_enter Try.func59, Try.ntmps59
        go_wp2
        go_ret
        exact ⟨rfl, Quiet.refl _⟩
    · rw [pb_false (p := HoldL x y) (by unfold HoldL; omega)]
      have h2' : (x == 0) = false := by rw [beq_eq_false_iff_ne]; exact h2
      go_enter Try.func59, Try.ntmps59
      go_wp2
      go_ret
      exact ⟨rfl, Quiet.refl _⟩

set_option maxRecDepth 100000 in
set_option maxHeartbeats 1600000 in
theorem isStable_any (A : Option Addr) (n c : Nat) (a : List (List Int)) (w : World) (i : Nat) (hx : IntRows w A n c a) (hq : VQ a) (hi : i < n) :
    Calls Try.prog 48 #[.slice A n c, .int .i64 i] w (Ret (.bool (pb (StP a i n))) w) := by
  have HX := Lib.hid hx
  have HV := Lib.hid hq
  have hn3 : n ≤ 3 := by have := hq.1.n3; have := hx.len; omega
  clear hx hq
  go_enter Try.func48, Try.ntmps48
  go_wp2
  go_loopw [8] (fun j wi => ∃ l : Nat, l ≤ n ∧ j = .int .i64 l ∧ Hid (StP a i l) ∧ Hid (Below w.heap.size w wi)) (fun j _ => n - (intOf j).toNat)
  case atStart => exact ⟨0, Nat.zero_le _, rfl, Lib.hid (StP.zero a i), Lib.hid (Below.refl _ _)⟩
  case round =>
    obtain ⟨l, hl, rfl, HP, HB⟩ := hrel
    by_cases hll : l < n
    · by_cases e : i = l
      · subst e
        have HN := Lib.hid (StP.succ.2 ⟨HP.out, .inl rfl⟩)
        go_wp2
        go_roundw
        case rel => exact ⟨i + 1, by omega, by go_num, HN, HB⟩
        case measure => simp [intOf]; omega
      · have hne : ((l : Int) != (i : Int)) = true := by simp; omega
        have HC := Lib.hid (leadsOf_any A n c a wr i l (HX.out.keep (Keep.below HB.out)) HV.out hi hll)
        have HK := Lib.hid (fun W => holdsL_any (leadI a i l) (leadJ a i l) W)
        by_cases hh : HoldP a i l
        · rw [pb_true ((holdL_iff a i l).2 hh)] at HK
          have HN := Lib.hid (StP.succ.2 ⟨HP.out, .inr hh⟩)
          clear hh e
          go_wp2_with fail
          refine HC.out.mono ?_
          rintro e w1 ⟨rfl, hb⟩
          have HB1 := Lib.hid (below_up HB.out hb)
          clear hb HC HB
          go_wp2_with fail
          refine (HK.out _).mono ?_
          rintro e w2 ⟨rfl, hq⟩
          have HB2 := Lib.hid (below_quiet HB1.out hq)
          clear hq HK HB1
          go_wp2
          go_roundw
          case rel => exact ⟨l + 1, by omega, by go_num, HN, HB2⟩
          case measure => simp [intOf]; omega
        · rw [pb_false (fun h => hh ((holdL_iff a i l).1 h))] at HK
          have HN := Lib.hid (pb_false (p := StP a i n) (fun h => (h l hll).elim e hh))
          clear hh e
          go_wp2_with fail
          refine HC.out.mono ?_
          rintro e w1 ⟨rfl, hb⟩
          have HB1 := Lib.hid (below_up HB.out hb)
          clear hb HC HB
          go_wp2_with fail
          refine (HK.out _).mono ?_
          rintro e w2 ⟨rfl, hq⟩
          have HB2 := Lib.hid (below_quiet HB1.out hq)
          clear hq HK HB1
          go_wp2
          go_ret
          exact ⟨ret_bool HN.out.symm, HB2.out⟩
    · obtain rfl : l = n := by omega
      have HN := Lib.hid (pb_true HP.out)
      go_wp2
      go_ret
      exact ⟨ret_bool HN.out.symm, HB.out⟩

theorem stF_le (a : List (List Int)) : (stF a).length ≤ 100 := by
  unfold stF
  split
  · rename_i h
    have := (pb_iff.1 h).1.n3
    have := stL_len a a.length a.length
    omega
  · simp

set_option maxRecDepth 100000 in
set_option maxHeartbeats 1600000 in
theorem StableOf_impl (A : Option Addr) (n c : Nat) (a : List (List Int)) (w : World) (hx : IntRows w A n c a) :
    Calls Try.prog 13 #[.slice A n c] w (NewI w (stF a)) := by
  have HX := Lib.hid hx
  have hl := hx.len
  by_cases hv : VQ a
  · have HC := Lib.hid (pb_true hv ▸ ValidSquare_impl A n c a w hx)
    have HF := Lib.hid (show stF a = stL a n n by unfold stF; rw [if_pos (pb_true hv), hl])
    have HV := Lib.hid hv
    have hn3 : n ≤ 3 := by have := hv.1.n3; omega
    clear hx hl hv
    go_enter Try.func13, Try.ntmps13
    go_wp2_with fail
    refine HC.out.mono ?_
    rintro e w1 ⟨rfl, hq⟩
    have HQ := Lib.hid hq
    have HX1 := Lib.hid (HX.out.keep (Keep.quiet hq))
    have HS0 := Lib.hid (IU.nil w1)
    clear hq HC HX
    go_wp2
    go_loopw [3, 10] (fun v i wr => ∃ k : Nat, k ≤ n ∧ i = .int .i64 k ∧ Hid (IU w1 v (stL a n k) wr)) (fun _ i _ => n - (intOf i).toNat)
    case atStart => exact ⟨0, Nat.zero_le _, rfl, HS0⟩
    case round =>
      clear HS0
      obtain ⟨k, hk, rfl, HI⟩ := hrel
      obtain ⟨Av, cv, rfl⟩ := HI.out.bi.form
      by_cases hlt : k < n
      · have HC := Lib.hid (isStable_any A n c a wr k (HX1.out.keep (Keep.below HI.out.up)) HV.out hlt)
        by_cases hs : StP a k n
        · rw [pb_true hs] at HC
          have HCS := Lib.hid (stL_yes hs)
          have HML := Lib.hid (stL_len a n k)
          clear hs
          generalize stL a n k = ys at *
          go_wp2_with fail
          refine HC.out.mono ?_
          rintro e w2 ⟨rfl, hb⟩
          have HI2 := Lib.hid (HI.out.next hb)
          clear hb HC HI
          have hb := below_alloc w2 (.cells #[iv (k : Int)] 3)
          have HB4 := Lib.hid (HI2.out.bi.below hb).own
          have HN := Lib.hid (cell_one_new w2 (iv (k : Int)) 3)
          have hwz := HI2.out.up.size
          clear hb
          obtain ⟨i0, hi0, hz0, hz1, hz2⟩ := info_parts Try.info_int
          go_wp2_with (at_builtin; refine wpList_append_own_at _ rfl _ _ 26 rfl w1.heap.size 3 i0 (.int .i64 0) 1 8 Try.underlying26 hi0 hz0 hz1 hz2 rfl (by decide) _ ys.length (ys.map iv) rfl HB4.out ⟨w2.heap.size, 0, none⟩ 1 1 [iv (k : Int)] rfl rfl ?c1 ?c2 ?c3 ?c4 ?c5 ?_)
          case c1 => exact HN.out
          case c2 => intro u hu; simp at hu; subst hu; rfl
          case c3 => have := HML.out; unfold maxLen; omega
          case c4 => have := HML.out; omega
          case c5 => simp; omega
          intro v' w5 hown' hgrow _ hat
          have HI5 := Lib.hid (HI2.out.push hown' hgrow (by simpa using hat))
          clear HB4 HN hown' hgrow hat HI2
          go_wp2
          go_roundw
          case rel => exact ⟨k + 1, by omega, by go_num, Lib.hid (by rw [HCS.out]; exact HI5.out)⟩
          case measure => simp [intOf]; omega
        · rw [pb_false hs] at HC
          have HCS := Lib.hid (stL_no hs)
          clear hs
          go_wp2_with fail
          refine HC.out.mono ?_
          rintro e w2 ⟨rfl, hb⟩
          have HI2 := Lib.hid (HI.out.next hb)
          clear hb HC HI
          go_wp2
          go_roundw
          case rel => exact ⟨k + 1, by omega, by go_num, Lib.hid (by rw [HCS.out]; exact HI2.out)⟩
          case measure => simp [intOf]; omega
      · obtain rfl : k = n := by omega
        have HNW := Lib.hid (NewI.quiet HQ.out (HI.out.new (by have := stL_len a k k; omega) (fun y hy => by have := stL_bd a k k y hy; omega)))
        go_wp2
        go_ret
        rw [HF.out]
        exact HNW.out
  · have HC := Lib.hid (pb_false hv ▸ ValidSquare_impl A n c a w hx)
    have HF := Lib.hid (show stF a = [] by unfold stF; rw [if_neg (by rw [pb_false hv]; decide)])
    clear hx hl hv
    go_enter Try.func13, Try.ntmps13
    go_wp2_with fail
    refine HC.out.mono ?_
    rintro e w1 ⟨rfl, hq⟩
    go_wp2
    go_ret
    rw [HF.out]
    exact ⟨none, 0, 0, 0, rfl, rfl, OwnI.nil _ _ _ _, hq.below⟩
end Go.Proofs.Ytoekpbcdgmejcaa

/- Barriers, by both programs. -/
namespace Go.Proofs.Ytoekpbcdgmejcaa
open Go.RowKit

/-- The barrier of a strategy with these leads: above and below the line. -/
noncomputable def barU (x y : Int) : Int := if pb (HoldL x y) = true then (if 0 ≤ y then 1 else x) else 0
noncomputable def barD (x y : Int) : Int := if pb (HoldL x y) = true then (if 0 ≤ y then 1 else x - y) else 1
theorem bar_no {x y : Int} (h : ¬ HoldL x y) : barU x y = 0 ∧ barD x y = 1 := by
  unfold barU barD; rw [if_neg (by rw [pb_false h]; decide), if_neg (by rw [pb_false h]; decide)]; exact ⟨rfl, rfl⟩
theorem bar_one {x y : Int} (h : HoldL x y) (hy : 0 ≤ y) : barU x y = 1 ∧ barD x y = 1 := by
  unfold barU barD; rw [if_pos (pb_true h), if_pos (pb_true h), if_pos hy, if_pos hy]; exact ⟨rfl, rfl⟩
theorem bar_mid {x y : Int} (h : HoldL x y) (hy : ¬ 0 ≤ y) : barU x y = x ∧ barD x y = x - y ∧ 0 < x := by
  unfold barU barD; rw [if_pos (pb_true h), if_pos (pb_true h), if_neg hy, if_neg hy]; refine ⟨rfl, rfl, ?_⟩; unfold HoldL at h; omega
theorem lead_bd {a : List (List Int)} {n i j : Nat} (hq : VQ a) (hl : a.length = n) (hi : i < n) (hj : j < n) : (-18 ≤ leadI a i j ∧ leadI a i j ≤ 18) ∧ -18 ≤ leadJ a i j ∧ leadJ a i j ≤ 18 := by
  have hm : (gr a 0).length = n := by have := hq.2; omega
  have b1 := hq.1.bd (i := i) (j := i) (by omega) (by omega)
  have b2 := hq.1.bd (i := j) (j := i) (by omega) (by omega)
  have b3 := hq.1.bd (i := i) (j := j) (by omega) (by omega)
  have b4 := hq.1.bd (i := j) (j := j) (by omega) (by omega)
  unfold leadI leadJ
  omega
structure BOk (a : List (List Int)) (i j : Int) : Prop where
  q : VQ a
  ri : InR i 0 ((a.length : Int) - 1)
  rj : InR j 0 ((a.length : Int) - 1)
  ne : i ≠ j
noncomputable def barF (a : List (List Int)) (i j : Int) : Value := if pb (BOk a i j) = true then frV (barU (leadI a i.toNat j.toNat) (leadJ a i.toNat j.toNat)) (barD (leadI a i.toNat j.toNat) (leadJ a i.toNat j.toNat)) else .agg #[.int .i64 0, .int .i64 0]
theorem barF_yes {a i j} (h : BOk a i j) : barF a i j = frV (barU (leadI a i.toNat j.toNat) (leadJ a i.toNat j.toNat)) (barD (leadI a i.toNat j.toNat) (leadJ a i.toNat j.toNat)) := by rw [barF, if_pos (pb_true h)]
theorem barF_no {a i j} (h : ¬ BOk a i j) : barF a i j = .agg #[.int .i64 0, .int .i64 0] := by rw [barF, if_neg (by rw [pb_false h]; decide)]
theorem barF_form (a : List (List Int)) (i j : Int) : ∃ U D, barF a i j = .agg #[.int .i64 U, .int .i64 D] := by
  unfold barF
  split
  · exact frV_form _ _
  · exact ⟨_, _, rfl⟩

theorem PF.upq {w W W' : World} {n : Nat} (h : PF w W) (k : Below (W.drewN n).heap.size (W.drewN n) W') : PF w W' := PF.up (W := W.drewN n) ⟨h.box, below_drewN h.below n⟩ k
theorem PF.upqq {w W W' : World} {n m : Nat} (h : PF w W) (k : Below ((W.drewN n).drewN m).heap.size ((W.drewN n).drewN m) W') : PF w W' := PF.up (W := (W.drewN n).drewN m) ⟨h.box, below_drewN (below_drewN h.below n) m⟩ k

set_option maxRecDepth 100000 in
set_option maxHeartbeats 3200000 in
theorem barrier_any (A : Option Addr) (n c : Nat) (a : List (List Int)) (w : World) (i j : Nat) (hx : IntRows w A n c a) (hq : VQ a) (hi : i < n) (hj : j < n) :
    Calls Try.prog 67 #[.slice A n c, .int .i64 i, .int .i64 j] w (Ret (frV (barU (leadI a i j) (leadJ a i j)) (barD (leadI a i j) (leadJ a i j))) w) := by
  obtain ⟨b, o, rb, ro, cc, rfl, tab⟩ := hx.tab hq.1
  have hl := hx.len
  have hm : (gr a 0).length = n := by have := hq.2; omega
  rw [hm] at tab
  have HPF := Lib.hid (PF.start w)
  have r1 := HPF.out.keep _ _ (tab.row i hi)
  have r2 := HPF.out.keep _ _ (tab.row j hj)
  have c11 := HPF.out.keep _ _ (tab.cell i i hi hi)
  have c21 := HPF.out.keep _ _ (tab.cell j i hj hi)
  have c12 := HPF.out.keep _ _ (tab.cell i j hi hj)
  have c22 := HPF.out.keep _ _ (tab.cell j j hj hj)
  have hin : (i : Int) < (n : Int) := by omega
  have hjn : (j : Int) < (n : Int) := by omega
  obtain ⟨b1, b2⟩ := tab.bd i i hi hi
  obtain ⟨b3, b4⟩ := tab.bd j i hj hi
  obtain ⟨b5, b6⟩ := tab.bd i j hi hj
  obtain ⟨b7, b8⟩ := tab.bd j j hj hj
  unfold leadI leadJ
  generalize g2 a i i = p at *
  generalize g2 a j i = q at *
  generalize g2 a i j = s at *
  generalize g2 a j j = t at *
  clear tab hm hl hq hx hi hj
  by_cases h1 : p - q < 0
  · rw [(bar_no (by unfold HoldL; omega)).1, (bar_no (by unfold HoldL; omega)).2]
    have d1 : decide (p - q < 0) = true := decide_eq_true h1
    have HC := Lib.hid (fun W => frac_any 0 1 W (by unfold Mid; omega) (by unfold Mid; omega) (by omega))
    go_enter Try.func67, Try.ntmps67
    go_wp2_with fail
    go_quiet (fail)
    go_wp2
    go_quiet (fail)
    clear c11 c21 c12 c22 r1 r2
    go_wp2_with fail
    refine (HC.out _).mono ?_
    rintro e w1 ⟨rfl, hb⟩
    have HPF1 := Lib.hid (by first | exact HPF.out.upq hb | exact HPF.out.upqq hb)
    clear hb HC HPF
    have HFV : Hid (frV 0 1 = .agg #[.int .i64 (frU 0 1), .int .i64 (frD 0 1)]) := Lib.hid rfl
    rw [HFV.out]
    generalize frU 0 1 = U at *
    generalize frD 0 1 = D at *
    have HPF := HPF1
    clear HPF1
    have c0 := blk_cell HPF.out.box (i := 0) rfl
    have c1 := blk_cell HPF.out.box (i := 1) rfl
    have f0 := blk_frozen HPF.out.box 0
    have f1 := blk_frozen HPF.out.box 1
    go_wp2
    clear c0 c1 f0 f1
    have B1 := blk_set (blk_set HPF.out.box 0 (.int .i64 U)) 1 (.int .i64 D)
    have r0 := blk_cell B1 (i := 0) (v := .int .i64 U) rfl
    have r1 := blk_cell B1 (i := 1) (v := .int .i64 D) rfl
    have HBX := Lib.hid ((HPF.out.below.setCell (p := ⟨w.heap.size, 0, none⟩) (Nat.le_refl _) (.int .i64 U)).setCell (p := ⟨w.heap.size, 1, none⟩) (Nat.le_refl _) (.int .i64 D))
    clear B1 HPF
    generalize (w1.setCell ⟨w.heap.size, 0, none⟩ (.int .i64 U)).setCell ⟨w.heap.size, 1, none⟩ (.int .i64 D) = WE at *
    refine bodyPost_ret (v := .agg #[.int .i64 U, .int .i64 D]) (by simp [results, Try.results67, go_sem, r0, r1]) rfl ?_
    exact ⟨by rw [HFV.out], HBX.out⟩
  have d1 : decide (p - q < 0) = false := decide_eq_false h1
  by_cases h2 : p - q = 0
  · have e2 : (p - q == 0) = true := by rw [beq_iff_eq]; exact h2
    by_cases h3 : s - t ≤ 0
    · rw [(bar_no (by unfold HoldL; omega)).1, (bar_no (by unfold HoldL; omega)).2]
      have d3 : decide (s - t ≤ 0) = true := decide_eq_true h3
      have HC := Lib.hid (fun W => frac_any 0 1 W (by unfold Mid; omega) (by unfold Mid; omega) (by omega))
      go_enter Try.func67, Try.ntmps67
      go_wp2_with fail
      go_quiet (fail)
      go_wp2
      go_quiet (fail)
      clear c11 c21 c12 c22 r1 r2
      go_wp2_with fail
      refine (HC.out _).mono ?_
      rintro e w1 ⟨rfl, hb⟩
      have HPF1 := Lib.hid (by first | exact HPF.out.upq hb | exact HPF.out.upqq hb)
      clear hb HC HPF
      have HFV : Hid (frV 0 1 = .agg #[.int .i64 (frU 0 1), .int .i64 (frD 0 1)]) := Lib.hid rfl
      rw [HFV.out]
      generalize frU 0 1 = U at *
      generalize frD 0 1 = D at *
      have HPF := HPF1
      clear HPF1
      have c0 := blk_cell HPF.out.box (i := 0) rfl
      have c1 := blk_cell HPF.out.box (i := 1) rfl
      have f0 := blk_frozen HPF.out.box 0
      have f1 := blk_frozen HPF.out.box 1
      go_wp2
      clear c0 c1 f0 f1
      have B1 := blk_set (blk_set HPF.out.box 0 (.int .i64 U)) 1 (.int .i64 D)
      have r0 := blk_cell B1 (i := 0) (v := .int .i64 U) rfl
      have r1 := blk_cell B1 (i := 1) (v := .int .i64 D) rfl
      have HBX := Lib.hid ((HPF.out.below.setCell (p := ⟨w.heap.size, 0, none⟩) (Nat.le_refl _) (.int .i64 U)).setCell (p := ⟨w.heap.size, 1, none⟩) (Nat.le_refl _) (.int .i64 D))
      clear B1 HPF
      generalize (w1.setCell ⟨w.heap.size, 0, none⟩ (.int .i64 U)).setCell ⟨w.heap.size, 1, none⟩ (.int .i64 D) = WE at *
      refine bodyPost_ret (v := .agg #[.int .i64 U, .int .i64 D]) (by simp [results, Try.results67, go_sem, r0, r1]) rfl ?_
      exact ⟨by rw [HFV.out], HBX.out⟩
    · have d3 : decide (s - t ≤ 0) = false := decide_eq_false h3
      have d4 : decide (0 ≤ s - t) = true := decide_eq_true (by omega)
      rw [(bar_one (by unfold HoldL; omega) (by omega)).1, (bar_one (by unfold HoldL; omega) (by omega)).2]
      have HC := Lib.hid (fun W => frac_any 1 1 W (by unfold Mid; omega) (by unfold Mid; omega) (by omega))
      go_enter Try.func67, Try.ntmps67
      go_wp2_with fail
      go_quiet (fail)
      go_wp2
      go_quiet (fail)
      clear c11 c21 c12 c22 r1 r2
      go_wp2_with fail
      refine (HC.out _).mono ?_
      rintro e w1 ⟨rfl, hb⟩
      have HPF1 := Lib.hid (by first | exact HPF.out.upq hb | exact HPF.out.upqq hb)
      clear hb HC HPF
      have HFV : Hid (frV 1 1 = .agg #[.int .i64 (frU 1 1), .int .i64 (frD 1 1)]) := Lib.hid rfl
      rw [HFV.out]
      generalize frU 1 1 = U at *
      generalize frD 1 1 = D at *
      have HPF := HPF1
      clear HPF1
      have c0 := blk_cell HPF.out.box (i := 0) rfl
      have c1 := blk_cell HPF.out.box (i := 1) rfl
      have f0 := blk_frozen HPF.out.box 0
      have f1 := blk_frozen HPF.out.box 1
      go_wp2
      clear c0 c1 f0 f1
      have B1 := blk_set (blk_set HPF.out.box 0 (.int .i64 U)) 1 (.int .i64 D)
      have r0 := blk_cell B1 (i := 0) (v := .int .i64 U) rfl
      have r1 := blk_cell B1 (i := 1) (v := .int .i64 D) rfl
      have HBX := Lib.hid ((HPF.out.below.setCell (p := ⟨w.heap.size, 0, none⟩) (Nat.le_refl _) (.int .i64 U)).setCell (p := ⟨w.heap.size, 1, none⟩) (Nat.le_refl _) (.int .i64 D))
      clear B1 HPF
      generalize (w1.setCell ⟨w.heap.size, 0, none⟩ (.int .i64 U)).setCell ⟨w.heap.size, 1, none⟩ (.int .i64 D) = WE at *
      refine bodyPost_ret (v := .agg #[.int .i64 U, .int .i64 D]) (by simp [results, Try.results67, go_sem, r0, r1]) rfl ?_
      exact ⟨by rw [HFV.out], HBX.out⟩
  · have e2 : (p - q == 0) = false := by rw [beq_eq_false_iff_ne]; exact h2
    by_cases h4 : 0 ≤ s - t
    · have d4 : decide (0 ≤ s - t) = true := decide_eq_true h4
      rw [(bar_one (by unfold HoldL; omega) (by omega)).1, (bar_one (by unfold HoldL; omega) (by omega)).2]
      have HC := Lib.hid (fun W => frac_any 1 1 W (by unfold Mid; omega) (by unfold Mid; omega) (by omega))
      go_enter Try.func67, Try.ntmps67
      go_wp2_with fail
      go_quiet (fail)
      go_wp2
      go_quiet (fail)
      clear c11 c21 c12 c22 r1 r2
      go_wp2_with fail
      refine (HC.out _).mono ?_
      rintro e w1 ⟨rfl, hb⟩
      have HPF1 := Lib.hid (by first | exact HPF.out.upq hb | exact HPF.out.upqq hb)
      clear hb HC HPF
      have HFV : Hid (frV 1 1 = .agg #[.int .i64 (frU 1 1), .int .i64 (frD 1 1)]) := Lib.hid rfl
      rw [HFV.out]
      generalize frU 1 1 = U at *
      generalize frD 1 1 = D at *
      have HPF := HPF1
      clear HPF1
      have c0 := blk_cell HPF.out.box (i := 0) rfl
      have c1 := blk_cell HPF.out.box (i := 1) rfl
      have f0 := blk_frozen HPF.out.box 0
      have f1 := blk_frozen HPF.out.box 1
      go_wp2
      clear c0 c1 f0 f1
      have B1 := blk_set (blk_set HPF.out.box 0 (.int .i64 U)) 1 (.int .i64 D)
      have r0 := blk_cell B1 (i := 0) (v := .int .i64 U) rfl
      have r1 := blk_cell B1 (i := 1) (v := .int .i64 D) rfl
      have HBX := Lib.hid ((HPF.out.below.setCell (p := ⟨w.heap.size, 0, none⟩) (Nat.le_refl _) (.int .i64 U)).setCell (p := ⟨w.heap.size, 1, none⟩) (Nat.le_refl _) (.int .i64 D))
      clear B1 HPF
      generalize (w1.setCell ⟨w.heap.size, 0, none⟩ (.int .i64 U)).setCell ⟨w.heap.size, 1, none⟩ (.int .i64 D) = WE at *
      refine bodyPost_ret (v := .agg #[.int .i64 U, .int .i64 D]) (by simp [results, Try.results67, go_sem, r0, r1]) rfl ?_
      exact ⟨by rw [HFV.out], HBX.out⟩
    · have d4 : decide (0 ≤ s - t) = false := decide_eq_false h4
      rw [(bar_mid (x := p - q) (y := s - t) (by unfold HoldL; omega) h4).1, (bar_mid (x := p - q) (y := s - t) (by unfold HoldL; omega) h4).2.1]
      have HC := Lib.hid (fun W => frac_any (p - q) (p - q - (s - t)) W (by unfold Mid; omega) (by unfold Mid; omega) (by omega))
      go_enter Try.func67, Try.ntmps67
      go_wp2_with fail
      go_quiet (fail)
      go_wp2
      go_quiet (fail)
      clear c11 c21 c12 c22 r1 r2
      go_wp2_with fail
      refine (HC.out _).mono ?_
      rintro e w1 ⟨rfl, hb⟩
      have HPF1 := Lib.hid (by first | exact HPF.out.upq hb | exact HPF.out.upqq hb)
      clear hb HC HPF
      have HFV : Hid (frV (p - q) (p - q - (s - t)) = .agg #[.int .i64 (frU (p - q) (p - q - (s - t))), .int .i64 (frD (p - q) (p - q - (s - t)))]) := Lib.hid rfl
      rw [HFV.out]
      generalize frU (p - q) (p - q - (s - t)) = U at *
      generalize frD (p - q) (p - q - (s - t)) = D at *
      have HPF := HPF1
      clear HPF1
      have c0 := blk_cell HPF.out.box (i := 0) rfl
      have c1 := blk_cell HPF.out.box (i := 1) rfl
      have f0 := blk_frozen HPF.out.box 0
      have f1 := blk_frozen HPF.out.box 1
      go_wp2
      clear c0 c1 f0 f1
      have B1 := blk_set (blk_set HPF.out.box 0 (.int .i64 U)) 1 (.int .i64 D)
      have r0 := blk_cell B1 (i := 0) (v := .int .i64 U) rfl
      have r1 := blk_cell B1 (i := 1) (v := .int .i64 D) rfl
      have HBX := Lib.hid ((HPF.out.below.setCell (p := ⟨w.heap.size, 0, none⟩) (Nat.le_refl _) (.int .i64 U)).setCell (p := ⟨w.heap.size, 1, none⟩) (Nat.le_refl _) (.int .i64 D))
      clear B1 HPF
      generalize (w1.setCell ⟨w.heap.size, 0, none⟩ (.int .i64 U)).setCell ⟨w.heap.size, 1, none⟩ (.int .i64 D) = WE at *
      refine bodyPost_ret (v := .agg #[.int .i64 U, .int .i64 D]) (by simp [results, Try.results67, go_sem, r0, r1]) rfl ?_
      exact ⟨by rw [HFV.out], HBX.out⟩

set_option maxHeartbeats 400000 in
theorem isStrategy_any (A : Option Addr) (n c : Nat) (i : Int) (w : World) (_ : n ≤ 5864062014805) :
    Calls Try.prog 57 #[.int .i64 i, .slice A n c] w fun e w' => e = .returned (.bool (pb (InR i 0 ((n : Int) - 1)))) ∧ Quiet w w' := by
  by_cases h1 : 0 ≤ i
  · by_cases h2 : i < (n : Int)
    · rw [pb_true (p := InR i 0 ((n : Int) - 1)) ⟨h1, by omega⟩]
      go_enter Try.func57, Try.ntmps57
      go_wp2
      go_ret
      exact ⟨rfl, Quiet.refl _⟩
    · rw [pb_false (p := InR i 0 ((n : Int) - 1)) (fun h => by have := h.2; omega)]
      have h2' : decide (i < (n : Int)) = false := decide_eq_false h2
      go_enter Try.func57, Try.ntmps57
      go_wp2
      go_ret
      exact ⟨rfl, Quiet.refl _⟩
  · rw [pb_false (p := InR i 0 ((n : Int) - 1)) (fun h => h1 h.1)]
    have h1' : decide (0 ≤ i) = false := decide_eq_false h1
    go_enter Try.func57, Try.ntmps57
    go_wp2
    go_ret
    exact ⟨rfl, Quiet.refl _⟩

set_option maxRecDepth 100000 in
set_option maxHeartbeats 3200000 in
theorem BarrierOf_spec (A : Option Addr) (n c : Nat) (a : List (List Int)) (i j : Int) (w : World) (hx : IntRows w A n c a) (_ : Fit i) (_ : Fit j) :
    Calls Try.prog 26 #[.slice A n c, .int .i64 i, .int .i64 j] w (Ret (.tuple #[barF a i j, .bool (pb (BOk a i j))]) w) := by
  have hmx := hx.max
  have HX := Lib.hid hx
  have hl := hx.len
  have HPF := Lib.hid (PF.start w)
  clear hx
  by_cases hv : VQ a
  · have hn1 := hv.1.n1
    have hn3 := hv.1.n3
    by_cases hi : InR i 0 ((n : Int) - 1)
    · by_cases hj : InR j 0 ((n : Int) - 1)
      · by_cases hij : i = j
        · have HNO := Lib.hid (show barF a i j = .agg #[.int .i64 0, .int .i64 0] ∧ pb (BOk a i j) = false from ⟨barF_no (fun h => h.ne hij), pb_false (fun h => h.ne hij)⟩)
          have HC := Lib.hid (pb_true hv ▸ validSquare_any A n c a _ (HX.out.keep HPF.out.keep))
          have HI := Lib.hid (fun W => pb_true hi ▸ inRange_any i 0 ((n : Int) - 1) W)
          have HJ := Lib.hid (fun W => pb_true hj ▸ inRange_any j 0 ((n : Int) - 1) W)
          subst hij
          clear hv
          go_enter Try.func26, Try.ntmps26
          go_wp2_with fail
          refine HC.out.mono ?_
          rintro e w1 ⟨rfl, hb⟩
          have HPF1 := Lib.hid (HPF.out.up hb.below)
          clear hb HC HPF
          go_wp2_with fail
          refine (HI.out _).mono ?_
          rintro e w2 ⟨rfl, rfl⟩
          clear HI
          go_wp2_with fail
          refine (HJ.out _).mono ?_
          rintro e w3 ⟨rfl, rfl⟩
          clear HJ
          have HPF := HPF1
          clear HPF1
          have c0 := blk_cell HPF.out.box (i := 0) rfl
          have c1 := blk_cell HPF.out.box (i := 1) rfl
          have f0 := blk_frozen HPF.out.box 0
          have f1 := blk_frozen HPF.out.box 1
          go_wp2
          clear c0 c1 f0 f1
          have B1 := blk_set (blk_set HPF.out.box 0 (.int .i64 0)) 1 (.int .i64 0)
          have r0 := blk_cell B1 (i := 0) (v := .int .i64 0) rfl
          have r1 := blk_cell B1 (i := 1) (v := .int .i64 0) rfl
          have HBX := Lib.hid ((HPF.out.below.setCell (p := ⟨w.heap.size, 0, none⟩) (Nat.le_refl _) (.int .i64 0)).setCell (p := ⟨w.heap.size, 1, none⟩) (Nat.le_refl _) (.int .i64 0))
          clear B1 HPF
          generalize (w1.setCell ⟨w.heap.size, 0, none⟩ (.int .i64 0)).setCell ⟨w.heap.size, 1, none⟩ (.int .i64 0) = WE at *
          refine bodyPost_ret (v := .tuple #[.agg #[.int .i64 0, .int .i64 0], .bool false]) (by simp [results, Try.results26, go_sem, r0, r1]) rfl ?_
          exact ⟨by rw [HNO.out.1, HNO.out.2], HBX.out⟩
        · have HOK := Lib.hid (show BOk a i j from ⟨hv, by rw [hl]; exact hi, by rw [hl]; exact hj, hij⟩)
          have HI := Lib.hid (fun W => pb_true hi ▸ inRange_any i 0 ((n : Int) - 1) W)
          have HJ := Lib.hid (fun W => pb_true hj ▸ inRange_any j 0 ((n : Int) - 1) W)
          have HC := Lib.hid (pb_true hv ▸ validSquare_any A n c a _ (HX.out.keep HPF.out.keep))
          have HQ := Lib.hid hv
          rw [barF_yes HOK.out, pb_true HOK.out]
          obtain ⟨i', rfl⟩ : ∃ i' : Nat, i = i' := ⟨i.toNat, by unfold InR at hi; omega⟩
          obtain ⟨j', rfl⟩ : ∃ j' : Nat, j = j' := ⟨j.toNat, by unfold InR at hj; omega⟩
          rw [Int.toNat_natCast, Int.toNat_natCast]
          have hi1 : i' < n := by unfold InR at hi; omega
          have hj1 : j' < n := by unfold InR at hj; omega
          have hne : ((i' : Int) == (j' : Int)) = false := by rw [beq_eq_false_iff_ne]; exact hij
          have HLB := Lib.hid (lead_bd hv hl hi1 hj1)
          clear hi hj hij hv HOK
          go_enter Try.func26, Try.ntmps26
          go_wp2_with fail
          refine HC.out.mono ?_
          rintro e w1 ⟨rfl, hb⟩
          have HPF1 := Lib.hid (HPF.out.up hb.below)
          clear hb HC HPF
          go_wp2_with fail
          refine (HI.out _).mono ?_
          rintro e w2 ⟨rfl, rfl⟩
          clear HI
          go_wp2_with fail
          refine (HJ.out _).mono ?_
          rintro e w3 ⟨rfl, rfl⟩
          clear HJ
          have HC := Lib.hid (barrier_any A n c a w1 i' j' (HX.out.keep HPF1.out.keep) HQ.out hi1 hj1)
          go_wp2_with fail
          refine HC.out.mono ?_
          rintro e w4 ⟨rfl, hb⟩
          have HPF4 := Lib.hid (HPF1.out.up hb)
          clear hb HC HPF1
          have HFV : Hid (frV (barU (leadI a i' j') (leadJ a i' j')) (barD (leadI a i' j') (leadJ a i' j')) = .agg #[.int .i64 (frU (barU (leadI a i' j') (leadJ a i' j')) (barD (leadI a i' j') (leadJ a i' j'))), .int .i64 (frD (barU (leadI a i' j') (leadJ a i' j')) (barD (leadI a i' j') (leadJ a i' j')))]) := Lib.hid rfl
          rw [HFV.out]
          generalize frU (barU (leadI a i' j') (leadJ a i' j')) (barD (leadI a i' j') (leadJ a i' j')) = U at *
          generalize frD (barU (leadI a i' j') (leadJ a i' j')) (barD (leadI a i' j') (leadJ a i' j')) = D at *
          have HPF := HPF4
          clear HPF4
          have c0 := blk_cell HPF.out.box (i := 0) rfl
          have c1 := blk_cell HPF.out.box (i := 1) rfl
          have f0 := blk_frozen HPF.out.box 0
          have f1 := blk_frozen HPF.out.box 1
          go_wp2
          clear c0 c1 f0 f1
          have B1 := blk_set (blk_set HPF.out.box 0 (.int .i64 U)) 1 (.int .i64 D)
          have r0 := blk_cell B1 (i := 0) (v := .int .i64 U) rfl
          have r1 := blk_cell B1 (i := 1) (v := .int .i64 D) rfl
          have HBX := Lib.hid ((HPF.out.below.setCell (p := ⟨w.heap.size, 0, none⟩) (Nat.le_refl _) (.int .i64 U)).setCell (p := ⟨w.heap.size, 1, none⟩) (Nat.le_refl _) (.int .i64 D))
          clear B1 HPF
          generalize (w4.setCell ⟨w.heap.size, 0, none⟩ (.int .i64 U)).setCell ⟨w.heap.size, 1, none⟩ (.int .i64 D) = WE at *
          refine bodyPost_ret (v := .tuple #[.agg #[.int .i64 U, .int .i64 D], .bool true]) (by simp [results, Try.results26, go_sem, r0, r1]) rfl ?_
          exact ⟨by rw [HFV.out], HBX.out⟩
      · have HNO := Lib.hid (show barF a i j = .agg #[.int .i64 0, .int .i64 0] ∧ pb (BOk a i j) = false from ⟨barF_no (fun h => hj (by have := h.rj; rw [hl] at this; exact this)), pb_false (fun h => hj (by have := h.rj; rw [hl] at this; exact this))⟩)
        have HC := Lib.hid (pb_true hv ▸ validSquare_any A n c a _ (HX.out.keep HPF.out.keep))
        have HI := Lib.hid (fun W => pb_true hi ▸ inRange_any i 0 ((n : Int) - 1) W)
        have HJ := Lib.hid (fun W => pb_false hj ▸ inRange_any j 0 ((n : Int) - 1) W)
        clear hv
        go_enter Try.func26, Try.ntmps26
        go_wp2_with fail
        refine HC.out.mono ?_
        rintro e w1 ⟨rfl, hb⟩
        have HPF1 := Lib.hid (HPF.out.up hb.below)
        clear hb HC HPF
        go_wp2_with fail
        refine (HI.out _).mono ?_
        rintro e w2 ⟨rfl, rfl⟩
        clear HI
        go_wp2_with fail
        refine (HJ.out _).mono ?_
        rintro e w3 ⟨rfl, rfl⟩
        clear HJ
        have HPF := HPF1
        clear HPF1
        have c0 := blk_cell HPF.out.box (i := 0) rfl
        have c1 := blk_cell HPF.out.box (i := 1) rfl
        have f0 := blk_frozen HPF.out.box 0
        have f1 := blk_frozen HPF.out.box 1
        go_wp2
        clear c0 c1 f0 f1
        have B1 := blk_set (blk_set HPF.out.box 0 (.int .i64 0)) 1 (.int .i64 0)
        have r0 := blk_cell B1 (i := 0) (v := .int .i64 0) rfl
        have r1 := blk_cell B1 (i := 1) (v := .int .i64 0) rfl
        have HBX := Lib.hid ((HPF.out.below.setCell (p := ⟨w.heap.size, 0, none⟩) (Nat.le_refl _) (.int .i64 0)).setCell (p := ⟨w.heap.size, 1, none⟩) (Nat.le_refl _) (.int .i64 0))
        clear B1 HPF
        generalize (w1.setCell ⟨w.heap.size, 0, none⟩ (.int .i64 0)).setCell ⟨w.heap.size, 1, none⟩ (.int .i64 0) = WE at *
        refine bodyPost_ret (v := .tuple #[.agg #[.int .i64 0, .int .i64 0], .bool false]) (by simp [results, Try.results26, go_sem, r0, r1]) rfl ?_
        exact ⟨by rw [HNO.out.1, HNO.out.2], HBX.out⟩
    · have HNO := Lib.hid (show barF a i j = .agg #[.int .i64 0, .int .i64 0] ∧ pb (BOk a i j) = false from ⟨barF_no (fun h => hi (by have := h.ri; rw [hl] at this; exact this)), pb_false (fun h => hi (by have := h.ri; rw [hl] at this; exact this))⟩)
      have HC := Lib.hid (pb_true hv ▸ validSquare_any A n c a _ (HX.out.keep HPF.out.keep))
      have HI := Lib.hid (fun W => pb_false hi ▸ inRange_any i 0 ((n : Int) - 1) W)
      clear hv
      go_enter Try.func26, Try.ntmps26
      go_wp2_with fail
      refine HC.out.mono ?_
      rintro e w1 ⟨rfl, hb⟩
      have HPF1 := Lib.hid (HPF.out.up hb.below)
      clear hb HC HPF
      go_wp2_with fail
      refine (HI.out _).mono ?_
      rintro e w2 ⟨rfl, rfl⟩
      clear HI
      have HPF := HPF1
      clear HPF1
      have c0 := blk_cell HPF.out.box (i := 0) rfl
      have c1 := blk_cell HPF.out.box (i := 1) rfl
      have f0 := blk_frozen HPF.out.box 0
      have f1 := blk_frozen HPF.out.box 1
      go_wp2
      clear c0 c1 f0 f1
      have B1 := blk_set (blk_set HPF.out.box 0 (.int .i64 0)) 1 (.int .i64 0)
      have r0 := blk_cell B1 (i := 0) (v := .int .i64 0) rfl
      have r1 := blk_cell B1 (i := 1) (v := .int .i64 0) rfl
      have HBX := Lib.hid ((HPF.out.below.setCell (p := ⟨w.heap.size, 0, none⟩) (Nat.le_refl _) (.int .i64 0)).setCell (p := ⟨w.heap.size, 1, none⟩) (Nat.le_refl _) (.int .i64 0))
      clear B1 HPF
      generalize (w1.setCell ⟨w.heap.size, 0, none⟩ (.int .i64 0)).setCell ⟨w.heap.size, 1, none⟩ (.int .i64 0) = WE at *
      refine bodyPost_ret (v := .tuple #[.agg #[.int .i64 0, .int .i64 0], .bool false]) (by simp [results, Try.results26, go_sem, r0, r1]) rfl ?_
      exact ⟨by rw [HNO.out.1, HNO.out.2], HBX.out⟩
  · have HNO := Lib.hid (show barF a i j = .agg #[.int .i64 0, .int .i64 0] ∧ pb (BOk a i j) = false from ⟨barF_no (fun h => hv h.q), pb_false (fun h => hv h.q)⟩)
    have HC := Lib.hid (pb_false hv ▸ validSquare_any A n c a _ (HX.out.keep HPF.out.keep))
    clear hv
    go_enter Try.func26, Try.ntmps26
    go_wp2_with fail
    refine HC.out.mono ?_
    rintro e w1 ⟨rfl, hb⟩
    have HPF1 := Lib.hid (HPF.out.up hb.below)
    clear hb HC HPF
    have HPF := HPF1
    clear HPF1
    have c0 := blk_cell HPF.out.box (i := 0) rfl
    have c1 := blk_cell HPF.out.box (i := 1) rfl
    have f0 := blk_frozen HPF.out.box 0
    have f1 := blk_frozen HPF.out.box 1
    go_wp2
    clear c0 c1 f0 f1
    have B1 := blk_set (blk_set HPF.out.box 0 (.int .i64 0)) 1 (.int .i64 0)
    have r0 := blk_cell B1 (i := 0) (v := .int .i64 0) rfl
    have r1 := blk_cell B1 (i := 1) (v := .int .i64 0) rfl
    have HBX := Lib.hid ((HPF.out.below.setCell (p := ⟨w.heap.size, 0, none⟩) (Nat.le_refl _) (.int .i64 0)).setCell (p := ⟨w.heap.size, 1, none⟩) (Nat.le_refl _) (.int .i64 0))
    clear B1 HPF
    generalize (w1.setCell ⟨w.heap.size, 0, none⟩ (.int .i64 0)).setCell ⟨w.heap.size, 1, none⟩ (.int .i64 0) = WE at *
    refine bodyPost_ret (v := .tuple #[.agg #[.int .i64 0, .int .i64 0], .bool false]) (by simp [results, Try.results26, go_sem, r0, r1]) rfl ?_
    exact ⟨by rw [HNO.out.1, HNO.out.2], HBX.out⟩

set_option maxRecDepth 100000 in
set_option maxHeartbeats 3200000 in
theorem BarrierOf_impl (A : Option Addr) (n c : Nat) (a : List (List Int)) (i j : Int) (w : World) (hx : IntRows w A n c a) (_ : Fit i) (_ : Fit j) :
    Calls Try.prog 21 #[.slice A n c, .int .i64 i, .int .i64 j] w (Ret (.tuple #[barF a i j, .bool (pb (BOk a i j))]) w) := by
  have hmx := hx.max
  have HX := Lib.hid hx
  have hl := hx.len
  have HPF := Lib.hid (PF.start w)
  clear hx
  by_cases hv : VQ a
  · have hn1 := hv.1.n1
    have hn3 := hv.1.n3
    by_cases hi : InR i 0 ((n : Int) - 1)
    · by_cases hj : InR j 0 ((n : Int) - 1)
      · by_cases hij : i = j
        · have HNO := Lib.hid (show barF a i j = .agg #[.int .i64 0, .int .i64 0] ∧ pb (BOk a i j) = false from ⟨barF_no (fun h => h.ne hij), pb_false (fun h => h.ne hij)⟩)
          have HC := Lib.hid (pb_true hv ▸ ValidSquare_impl A n c a _ (HX.out.keep HPF.out.keep))
          have HI := Lib.hid (fun W => pb_true hi ▸ isStrategy_any A n c i W hmx)
          have HJ := Lib.hid (fun W => pb_true hj ▸ isStrategy_any A n c j W hmx)
          subst hij
          clear hv
          go_enter Try.func21, Try.ntmps21
          go_wp2_with fail
          refine HC.out.mono ?_
          rintro e w1 ⟨rfl, hb⟩
          have HPF1 := Lib.hid (HPF.out.up hb.below)
          clear hb HC HPF
          go_wp2_with fail
          refine (HI.out _).mono ?_
          rintro e w2 ⟨rfl, hb⟩
          have HPF2 := Lib.hid (HPF1.out.up hb.below)
          clear hb HI HPF1
          go_wp2_with fail
          refine (HJ.out _).mono ?_
          rintro e w3 ⟨rfl, hb⟩
          have HPF3 := Lib.hid (HPF2.out.up hb.below)
          clear hb HJ HPF2
          have HPF := HPF3
          clear HPF3
          have c0 := blk_cell HPF.out.box (i := 0) rfl
          have c1 := blk_cell HPF.out.box (i := 1) rfl
          have f0 := blk_frozen HPF.out.box 0
          have f1 := blk_frozen HPF.out.box 1
          go_wp2
          clear c0 c1 f0 f1
          have B1 := blk_set (blk_set HPF.out.box 0 (.int .i64 0)) 1 (.int .i64 0)
          have r0 := blk_cell B1 (i := 0) (v := .int .i64 0) rfl
          have r1 := blk_cell B1 (i := 1) (v := .int .i64 0) rfl
          have HBX := Lib.hid ((HPF.out.below.setCell (p := ⟨w.heap.size, 0, none⟩) (Nat.le_refl _) (.int .i64 0)).setCell (p := ⟨w.heap.size, 1, none⟩) (Nat.le_refl _) (.int .i64 0))
          clear B1 HPF
          generalize (w3.setCell ⟨w.heap.size, 0, none⟩ (.int .i64 0)).setCell ⟨w.heap.size, 1, none⟩ (.int .i64 0) = WE at *
          refine bodyPost_ret (v := .tuple #[.agg #[.int .i64 0, .int .i64 0], .bool false]) (by simp [results, Try.results21, go_sem, r0, r1]) rfl ?_
          exact ⟨by rw [HNO.out.1, HNO.out.2], HBX.out⟩
        · have HOK := Lib.hid (show BOk a i j from ⟨hv, by rw [hl]; exact hi, by rw [hl]; exact hj, hij⟩)
          have HI := Lib.hid (fun W => pb_true hi ▸ isStrategy_any A n c i W hmx)
          have HJ := Lib.hid (fun W => pb_true hj ▸ isStrategy_any A n c j W hmx)
          have HC := Lib.hid (pb_true hv ▸ ValidSquare_impl A n c a _ (HX.out.keep HPF.out.keep))
          have HQ := Lib.hid hv
          rw [barF_yes HOK.out, pb_true HOK.out]
          obtain ⟨i', rfl⟩ : ∃ i' : Nat, i = i' := ⟨i.toNat, by unfold InR at hi; omega⟩
          obtain ⟨j', rfl⟩ : ∃ j' : Nat, j = j' := ⟨j.toNat, by unfold InR at hj; omega⟩
          rw [Int.toNat_natCast, Int.toNat_natCast]
          have hi1 : i' < n := by unfold InR at hi; omega
          have hj1 : j' < n := by unfold InR at hj; omega
          have hne : ((i' : Int) == (j' : Int)) = false := by rw [beq_eq_false_iff_ne]; exact hij
          have HLB := Lib.hid (lead_bd hv hl hi1 hj1)
          clear hi hj hij hv HOK
          go_enter Try.func21, Try.ntmps21
          go_wp2_with fail
          refine HC.out.mono ?_
          rintro e w1 ⟨rfl, hb⟩
          have HPF1 := Lib.hid (HPF.out.up hb.below)
          clear hb HC HPF
          go_wp2_with fail
          refine (HI.out _).mono ?_
          rintro e w2 ⟨rfl, hb⟩
          have HPF2 := Lib.hid (HPF1.out.up hb.below)
          clear hb HI HPF1
          go_wp2_with fail
          refine (HJ.out _).mono ?_
          rintro e w3 ⟨rfl, hb⟩
          have HPF3 := Lib.hid (HPF2.out.up hb.below)
          clear hb HJ HPF2
          have HC := Lib.hid (leadsOf_any A n c a w3 i' j' (HX.out.keep HPF3.out.keep) HQ.out hi1 hj1)
          go_wp2_with fail
          refine HC.out.mono ?_
          rintro e w4 ⟨rfl, hb⟩
          have HPF4 := Lib.hid (HPF3.out.up hb)
          clear hb HC HPF3
          obtain ⟨⟨x1, x2⟩, y1, y2⟩ := HLB.out
          clear HLB
          generalize leadI a i' j' = x at *
          generalize leadJ a i' j' = y at *
          have HK := Lib.hid (fun W => holdsL_any x y W)
          by_cases hh : HoldL x y
          · rw [pb_true hh] at HK
            by_cases hy : 0 ≤ y
            · have HBE := Lib.hid (show frV (barU x y) (barD x y) = frV 1 1 by rw [(bar_one hh hy).1, (bar_one hh hy).2])
              clear hh
              go_wp2_with fail
              refine (HK.out _).mono ?_
              rintro e w20 ⟨rfl, hb⟩
              have HPF20 := Lib.hid (HPF4.out.up hb.below)
              clear hb HK HPF4
              have HC := Lib.hid (fracOf_any 1 1 w20 (by unfold Mid; omega) (by unfold Mid; omega) (by omega))
              go_wp2_with fail
              refine HC.out.mono ?_
              rintro e w21 ⟨rfl, hb⟩
              have HPF21 := Lib.hid (HPF20.out.up hb)
              clear hb HC HPF20
              have HFV : Hid (frV 1 1 = .agg #[.int .i64 (frU 1 1), .int .i64 (frD 1 1)]) := Lib.hid rfl
              rw [HFV.out]
              generalize frU 1 1 = U at *
              generalize frD 1 1 = D at *
              have HPF := HPF21
              clear HPF21
              have c0 := blk_cell HPF.out.box (i := 0) rfl
              have c1 := blk_cell HPF.out.box (i := 1) rfl
              have f0 := blk_frozen HPF.out.box 0
              have f1 := blk_frozen HPF.out.box 1
              go_wp2
              clear c0 c1 f0 f1
              have B1 := blk_set (blk_set HPF.out.box 0 (.int .i64 U)) 1 (.int .i64 D)
              have r0 := blk_cell B1 (i := 0) (v := .int .i64 U) rfl
              have r1 := blk_cell B1 (i := 1) (v := .int .i64 D) rfl
              have HBX := Lib.hid ((HPF.out.below.setCell (p := ⟨w.heap.size, 0, none⟩) (Nat.le_refl _) (.int .i64 U)).setCell (p := ⟨w.heap.size, 1, none⟩) (Nat.le_refl _) (.int .i64 D))
              clear B1 HPF
              generalize (w21.setCell ⟨w.heap.size, 0, none⟩ (.int .i64 U)).setCell ⟨w.heap.size, 1, none⟩ (.int .i64 D) = WE at *
              refine bodyPost_ret (v := .tuple #[.agg #[.int .i64 U, .int .i64 D], .bool true]) (by simp [results, Try.results21, go_sem, r0, r1]) rfl ?_
              exact ⟨by rw [HBE.out, HFV.out], HBX.out⟩
            · obtain ⟨hu, hd, hp⟩ := bar_mid hh hy
              have HBE := Lib.hid (show frV (barU x y) (barD x y) = frV x (x - y) by rw [hu, hd])
              clear hh hu hd
              go_wp2_with fail
              refine (HK.out _).mono ?_
              rintro e w20 ⟨rfl, hb⟩
              have HPF20 := Lib.hid (HPF4.out.up hb.below)
              clear hb HK HPF4
              have HC := Lib.hid (fracOf_any x (x - y) w20 (by unfold Mid; omega) (by unfold Mid; omega) (by omega))
              go_wp2_with fail
              refine HC.out.mono ?_
              rintro e w21 ⟨rfl, hb⟩
              have HPF21 := Lib.hid (HPF20.out.up hb)
              clear hb HC HPF20
              have HFV : Hid (frV x (x - y) = .agg #[.int .i64 (frU x (x - y)), .int .i64 (frD x (x - y))]) := Lib.hid rfl
              rw [HFV.out]
              generalize frU x (x - y) = U at *
              generalize frD x (x - y) = D at *
              have HPF := HPF21
              clear HPF21
              have c0 := blk_cell HPF.out.box (i := 0) rfl
              have c1 := blk_cell HPF.out.box (i := 1) rfl
              have f0 := blk_frozen HPF.out.box 0
              have f1 := blk_frozen HPF.out.box 1
              go_wp2
              clear c0 c1 f0 f1
              have B1 := blk_set (blk_set HPF.out.box 0 (.int .i64 U)) 1 (.int .i64 D)
              have r0 := blk_cell B1 (i := 0) (v := .int .i64 U) rfl
              have r1 := blk_cell B1 (i := 1) (v := .int .i64 D) rfl
              have HBX := Lib.hid ((HPF.out.below.setCell (p := ⟨w.heap.size, 0, none⟩) (Nat.le_refl _) (.int .i64 U)).setCell (p := ⟨w.heap.size, 1, none⟩) (Nat.le_refl _) (.int .i64 D))
              clear B1 HPF
              generalize (w21.setCell ⟨w.heap.size, 0, none⟩ (.int .i64 U)).setCell ⟨w.heap.size, 1, none⟩ (.int .i64 D) = WE at *
              refine bodyPost_ret (v := .tuple #[.agg #[.int .i64 U, .int .i64 D], .bool true]) (by simp [results, Try.results21, go_sem, r0, r1]) rfl ?_
              exact ⟨by rw [HBE.out, HFV.out], HBX.out⟩
          · rw [pb_false hh] at HK
            have HBE := Lib.hid (show frV (barU x y) (barD x y) = frV 0 1 by rw [(bar_no hh).1, (bar_no hh).2])
            clear hh
            go_wp2_with fail
            refine (HK.out _).mono ?_
            rintro e w20 ⟨rfl, hb⟩
            have HPF20 := Lib.hid (HPF4.out.up hb.below)
            clear hb HK HPF4
            have HC := Lib.hid (fracOf_any 0 1 w20 (by unfold Mid; omega) (by unfold Mid; omega) (by omega))
            go_wp2_with fail
            refine HC.out.mono ?_
            rintro e w21 ⟨rfl, hb⟩
            have HPF21 := Lib.hid (HPF20.out.up hb)
            clear hb HC HPF20
            have HFV : Hid (frV 0 1 = .agg #[.int .i64 (frU 0 1), .int .i64 (frD 0 1)]) := Lib.hid rfl
            rw [HFV.out]
            generalize frU 0 1 = U at *
            generalize frD 0 1 = D at *
            have HPF := HPF21
            clear HPF21
            have c0 := blk_cell HPF.out.box (i := 0) rfl
            have c1 := blk_cell HPF.out.box (i := 1) rfl
            have f0 := blk_frozen HPF.out.box 0
            have f1 := blk_frozen HPF.out.box 1
            go_wp2
            clear c0 c1 f0 f1
            have B1 := blk_set (blk_set HPF.out.box 0 (.int .i64 U)) 1 (.int .i64 D)
            have r0 := blk_cell B1 (i := 0) (v := .int .i64 U) rfl
            have r1 := blk_cell B1 (i := 1) (v := .int .i64 D) rfl
            have HBX := Lib.hid ((HPF.out.below.setCell (p := ⟨w.heap.size, 0, none⟩) (Nat.le_refl _) (.int .i64 U)).setCell (p := ⟨w.heap.size, 1, none⟩) (Nat.le_refl _) (.int .i64 D))
            clear B1 HPF
            generalize (w21.setCell ⟨w.heap.size, 0, none⟩ (.int .i64 U)).setCell ⟨w.heap.size, 1, none⟩ (.int .i64 D) = WE at *
            refine bodyPost_ret (v := .tuple #[.agg #[.int .i64 U, .int .i64 D], .bool true]) (by simp [results, Try.results21, go_sem, r0, r1]) rfl ?_
            exact ⟨by rw [HBE.out, HFV.out], HBX.out⟩
      · have HNO := Lib.hid (show barF a i j = .agg #[.int .i64 0, .int .i64 0] ∧ pb (BOk a i j) = false from ⟨barF_no (fun h => hj (by have := h.rj; rw [hl] at this; exact this)), pb_false (fun h => hj (by have := h.rj; rw [hl] at this; exact this))⟩)
        have HC := Lib.hid (pb_true hv ▸ ValidSquare_impl A n c a _ (HX.out.keep HPF.out.keep))
        have HI := Lib.hid (fun W => pb_true hi ▸ isStrategy_any A n c i W hmx)
        have HJ := Lib.hid (fun W => pb_false hj ▸ isStrategy_any A n c j W hmx)
        clear hv
        go_enter Try.func21, Try.ntmps21
        go_wp2_with fail
        refine HC.out.mono ?_
        rintro e w1 ⟨rfl, hb⟩
        have HPF1 := Lib.hid (HPF.out.up hb.below)
        clear hb HC HPF
        go_wp2_with fail
        refine (HI.out _).mono ?_
        rintro e w2 ⟨rfl, hb⟩
        have HPF2 := Lib.hid (HPF1.out.up hb.below)
        clear hb HI HPF1
        go_wp2_with fail
        refine (HJ.out _).mono ?_
        rintro e w3 ⟨rfl, hb⟩
        have HPF3 := Lib.hid (HPF2.out.up hb.below)
        clear hb HJ HPF2
        have HPF := HPF3
        clear HPF3
        have c0 := blk_cell HPF.out.box (i := 0) rfl
        have c1 := blk_cell HPF.out.box (i := 1) rfl
        have f0 := blk_frozen HPF.out.box 0
        have f1 := blk_frozen HPF.out.box 1
        go_wp2
        clear c0 c1 f0 f1
        have B1 := blk_set (blk_set HPF.out.box 0 (.int .i64 0)) 1 (.int .i64 0)
        have r0 := blk_cell B1 (i := 0) (v := .int .i64 0) rfl
        have r1 := blk_cell B1 (i := 1) (v := .int .i64 0) rfl
        have HBX := Lib.hid ((HPF.out.below.setCell (p := ⟨w.heap.size, 0, none⟩) (Nat.le_refl _) (.int .i64 0)).setCell (p := ⟨w.heap.size, 1, none⟩) (Nat.le_refl _) (.int .i64 0))
        clear B1 HPF
        generalize (w3.setCell ⟨w.heap.size, 0, none⟩ (.int .i64 0)).setCell ⟨w.heap.size, 1, none⟩ (.int .i64 0) = WE at *
        refine bodyPost_ret (v := .tuple #[.agg #[.int .i64 0, .int .i64 0], .bool false]) (by simp [results, Try.results21, go_sem, r0, r1]) rfl ?_
        exact ⟨by rw [HNO.out.1, HNO.out.2], HBX.out⟩
    · have HNO := Lib.hid (show barF a i j = .agg #[.int .i64 0, .int .i64 0] ∧ pb (BOk a i j) = false from ⟨barF_no (fun h => hi (by have := h.ri; rw [hl] at this; exact this)), pb_false (fun h => hi (by have := h.ri; rw [hl] at this; exact this))⟩)
      have HC := Lib.hid (pb_true hv ▸ ValidSquare_impl A n c a _ (HX.out.keep HPF.out.keep))
      have HI := Lib.hid (fun W => pb_false hi ▸ isStrategy_any A n c i W hmx)
      clear hv
      go_enter Try.func21, Try.ntmps21
      go_wp2_with fail
      refine HC.out.mono ?_
      rintro e w1 ⟨rfl, hb⟩
      have HPF1 := Lib.hid (HPF.out.up hb.below)
      clear hb HC HPF
      go_wp2_with fail
      refine (HI.out _).mono ?_
      rintro e w2 ⟨rfl, hb⟩
      have HPF2 := Lib.hid (HPF1.out.up hb.below)
      clear hb HI HPF1
      have HPF := HPF2
      clear HPF2
      have c0 := blk_cell HPF.out.box (i := 0) rfl
      have c1 := blk_cell HPF.out.box (i := 1) rfl
      have f0 := blk_frozen HPF.out.box 0
      have f1 := blk_frozen HPF.out.box 1
      go_wp2
      clear c0 c1 f0 f1
      have B1 := blk_set (blk_set HPF.out.box 0 (.int .i64 0)) 1 (.int .i64 0)
      have r0 := blk_cell B1 (i := 0) (v := .int .i64 0) rfl
      have r1 := blk_cell B1 (i := 1) (v := .int .i64 0) rfl
      have HBX := Lib.hid ((HPF.out.below.setCell (p := ⟨w.heap.size, 0, none⟩) (Nat.le_refl _) (.int .i64 0)).setCell (p := ⟨w.heap.size, 1, none⟩) (Nat.le_refl _) (.int .i64 0))
      clear B1 HPF
      generalize (w2.setCell ⟨w.heap.size, 0, none⟩ (.int .i64 0)).setCell ⟨w.heap.size, 1, none⟩ (.int .i64 0) = WE at *
      refine bodyPost_ret (v := .tuple #[.agg #[.int .i64 0, .int .i64 0], .bool false]) (by simp [results, Try.results21, go_sem, r0, r1]) rfl ?_
      exact ⟨by rw [HNO.out.1, HNO.out.2], HBX.out⟩
  · have HNO := Lib.hid (show barF a i j = .agg #[.int .i64 0, .int .i64 0] ∧ pb (BOk a i j) = false from ⟨barF_no (fun h => hv h.q), pb_false (fun h => hv h.q)⟩)
    have HC := Lib.hid (pb_false hv ▸ ValidSquare_impl A n c a _ (HX.out.keep HPF.out.keep))
    clear hv
    go_enter Try.func21, Try.ntmps21
    go_wp2_with fail
    refine HC.out.mono ?_
    rintro e w1 ⟨rfl, hb⟩
    have HPF1 := Lib.hid (HPF.out.up hb.below)
    clear hb HC HPF
    have HPF := HPF1
    clear HPF1
    have c0 := blk_cell HPF.out.box (i := 0) rfl
    have c1 := blk_cell HPF.out.box (i := 1) rfl
    have f0 := blk_frozen HPF.out.box 0
    have f1 := blk_frozen HPF.out.box 1
    go_wp2
    clear c0 c1 f0 f1
    have B1 := blk_set (blk_set HPF.out.box 0 (.int .i64 0)) 1 (.int .i64 0)
    have r0 := blk_cell B1 (i := 0) (v := .int .i64 0) rfl
    have r1 := blk_cell B1 (i := 1) (v := .int .i64 0) rfl
    have HBX := Lib.hid ((HPF.out.below.setCell (p := ⟨w.heap.size, 0, none⟩) (Nat.le_refl _) (.int .i64 0)).setCell (p := ⟨w.heap.size, 1, none⟩) (Nat.le_refl _) (.int .i64 0))
    clear B1 HPF
    generalize (w1.setCell ⟨w.heap.size, 0, none⟩ (.int .i64 0)).setCell ⟨w.heap.size, 1, none⟩ (.int .i64 0) = WE at *
    refine bodyPost_ret (v := .tuple #[.agg #[.int .i64 0, .int .i64 0], .bool false]) (by simp [results, Try.results21, go_sem, r0, r1]) rfl ?_
    exact ⟨by rw [HNO.out.1, HNO.out.2], HBX.out⟩

end Go.Proofs.Ytoekpbcdgmejcaa

/- Stable strategies: they rest, alone and twice, and have barriers. Plain. -/
namespace Go.Proofs.Ytoekpbcdgmejcaa

theorem mem_stL {a : List (List Int)} {n : Nat} {x : Int} : ∀ {k}, x ∈ stL a n k ↔ ∃ i, i < k ∧ StP a i n ∧ x = (i : Int)
  | 0 => by simp [stL]
  | k + 1 => by
    have ih := mem_stL (a := a) (n := n) (x := x) (k := k)
    by_cases h : StP a k n
    · rw [stL_yes h, List.mem_append, List.mem_singleton, ih]
      constructor
      · rintro (⟨i, h1, h2, h3⟩ | h1)
        · exact ⟨i, by omega, h2, h3⟩
        · exact ⟨k, by omega, h, h1⟩
      · rintro ⟨i, h1, h2, h3⟩
        by_cases e : i = k
        · subst e; exact .inr h3
        · exact .inl ⟨i, by omega, h2, h3⟩
    · rw [stL_no h, ih]
      constructor
      · rintro ⟨i, h1, h2, h3⟩; exact ⟨i, by omega, h2, h3⟩
      · rintro ⟨i, h1, h2, h3⟩
        by_cases e : i = k
        · subst e; exact absurd h2 h
        · exact ⟨i, by omega, h2, h3⟩
theorem mem_stF {a : List (List Int)} (v : VQ a) {x : Int} : x ∈ stF a ↔ ∃ i, i < a.length ∧ StP a i a.length ∧ x = (i : Int) := by
  unfold stF; rw [if_pos (pb_true v)]; exact mem_stL
theorem stL_asc (a : List (List Int)) (n : Nat) : ∀ k, AscL (stL a n k)
  | 0 => fun j h1 h2 => by simp [stL] at h2
  | k + 1 => by
    have ih := stL_asc a n k
    by_cases h : StP a k n
    · rw [stL_yes h]
      intro j h1 h2
      rw [List.length_append, List.length_singleton] at h2
      by_cases e : j < (stL a n k).length
      · rw [gi_snoc_lt e, gi_snoc_lt (by omega)]; exact ih j h1 e
      · obtain rfl : j = (stL a n k).length := by omega
        rw [gi_snoc_eq, gi_snoc_lt (by omega)]
        exact (stL_bd a n k _ (gi_mem (by omega))).2
    · rw [stL_no h]; exact ih
theorem stF_asc (a : List (List Int)) : AscL (stF a) := by
  unfold stF
  split
  · exact stL_asc a _ _
  · intro j h1 h2; simp at h2
theorem hold_le {a : List (List Int)} {i : Nat} {n : Nat} (h : StP a i n) {k : Nat} (hk : k < n) : g2 a k i ≤ g2 a i i := by
  rcases h k hk with rfl | h
  · exact Int.le_refl _
  · unfold HoldP at h; omega
theorem st_rest {a : List (List Int)} (v : VQ a) {i : Nat} (hi : i < a.length) (h : StP a i a.length) : RQ a (onl a.length i) := by
  refine ⟨v, onl_VS hi, fun j hj hp k hk => ?_⟩
  rw [gi_onl hj] at hp
  have e : j = i := by
    by_cases e : j = i
    · exact e
    · rw [if_neg e] at hp; omega
  subst e
  rw [dotr_alone a _ k j hj, dotr_alone a _ j j hj]
  exact hold_le h hk
theorem st_pair {a : List (List Int)} (v : VQ a) {i : Nat} (hi : i < a.length) (h : StP a i a.length) : [(i : Int), (i : Int)] ∈ pureR a (flip a a.length a.length) := by
  have hf := v.flip rfl
  have hm := v.m rfl
  have hg : VG a (flip a a.length a.length) := ⟨v.1, hf.1, by rw [flip_len], by rw [hm, gr_flip (by omega)]; simp⟩
  unfold pureR
  rw [if_pos (pb_true hg), allRests_mem]
  refine ⟨i, i, hi, by omega, rfl, fun k hk => hold_le h hk, fun k hk => ?_⟩
  rw [hm] at hk
  rw [g2_flipT hi hk, g2_flipT hi hi]
  exact hold_le h hk
theorem stF_at {a : List (List Int)} (v : VQ a) {q : Nat} (hq : q < (stF a).length) : ∃ i, i < a.length ∧ StP a i a.length ∧ gi (stF a) q = (i : Int) := (mem_stF v).1 (gi_mem hq)
theorem stF_len (a : List (List Int)) : (stF a).length ≤ 3 := by
  by_cases v : VQ a
  · unfold stF; rw [if_pos (pb_true v)]; have := stL_len a a.length a.length; have := v.1.n3; omega
  · unfold stF; rw [if_neg (by rw [pb_false v]; decide)]; simp
theorem pureR_len {a b : List (List Int)} : (pureR a b).length ≤ 9 := by
  by_cases v : VG a b
  · have h1 := allRests_len a b a.length (gr a 0).length v.ta.m3 a.length
    have h2 := v.ta.n3
    unfold pureR; rw [if_pos (pb_true v)]; omega
  · unfold pureR; rw [if_neg (by rw [pb_false v]; decide)]; simp
end Go.Proofs.Ytoekpbcdgmejcaa

/- The shares of some strategies at which these have as much, by the model. -/
namespace Go.Proofs.Ytoekpbcdgmejcaa
open Go.RowKit
open V (sumN detN rowC colC cofN minorN skip sgn Asc)

/-- The first j numbers of row p of the differences; the first i rows. -/
def dfR (a : List (List Int)) (r : Nat → Nat) (p j : Nat) : List Int := (List.range j).map fun q => mf a r p q
def dfL (a : List (List Int)) (r : Nat → Nat) (k i : Nat) : List (List Int) := (List.range i).map fun p => dfR a r p k
theorem dfR_succ (a : List (List Int)) (r : Nat → Nat) (p j : Nat) : dfR a r p (j + 1) = dfR a r p j ++ [mf a r p j] := by simp [dfR, List.range_succ]
theorem dfL_succ (a : List (List Int)) (r : Nat → Nat) (k i : Nat) : dfL a r k (i + 1) = dfL a r k i ++ [dfR a r i k] := by simp [dfL, List.range_succ]
theorem dfR_len (a : List (List Int)) (r : Nat → Nat) (p j : Nat) : (dfR a r p j).length = j := by simp [dfR]
theorem dfL_len (a : List (List Int)) (r : Nat → Nat) (k i : Nat) : (dfL a r k i).length = i := by simp [dfL]
theorem dfL_sq (a : List (List Int)) (r : Nat → Nat) (k : Nat) : Sq k (dfL a r k k) (mf a r) :=
  ⟨dfL_len _ _ _ _, fun p hp => by rw [gr_get (by rw [dfL_len]; exact hp)]; simp [dfL, dfR], fun p q hp hq => by
    unfold g2; rw [gr_get (by rw [dfL_len]; exact hp), gi_get (by simp [dfL, dfR]; exact hq)]; simp [dfL, dfR]⟩
theorem dfR_zero {a : List (List Int)} {r : Nat → Nat} {p j : Nat} (h : p = 0) : dfR a r p (j + 1) = dfR a r p j ++ [1] := by subst h; exact dfR_succ _ _ _ _
theorem dfR_next {a : List (List Int)} {r : Nat → Nat} {p j : Nat} (h : p ≠ 0) : dfR a r p (j + 1) = dfR a r p j ++ [g2 a (r p) (r j) - g2 a (r 0) (r j)] := by
  rw [dfR_succ, mf, if_neg h]
theorem mf_odd {a : List (List Int)} {r : Nat → Nat} {k c : Nat} (hk : k ≤ 3) (hc : c < k) (h : c % 2 = 1) : gi (kY a r r k) c = -(detN (k - 1) (minorN (mf a r) 0 c)) := by
  rw [← mf_cof hk hc, cofN_odd (by omega)]
theorem mf_even {a : List (List Int)} {r : Nat → Nat} {k c : Nat} (hk : k ≤ 3) (hc : c < k) (h : ¬ c % 2 = 1) : gi (kY a r r k) c = detN (k - 1) (minorN (mf a r) 0 c) := by
  rw [← mf_cof hk hc, cofN_even (by omega)]

/-- Shares of some strategies at which these have as much, and that they are at rest; or that there are none. -/
def NewW (w : World) (a : List (List Int)) (k : Nat) (r : Nat → Nat) (e : Ending) (w' : World) : Prop :=
  (LevAt a k r ∧ ∃ A1 c1 g, e = .returned (.tuple #[.slice A1 a.length c1, .bool true]) ∧ OwnI w.heap.size w'.heap.size w' g A1 a.length c1 (shr a.length r (kY a r r k) k) ∧ Below w.heap.size w w') ∨
  (¬ LevAt a k r ∧ ∃ v, e = .returned (.tuple #[v, .bool false]) ∧ Below w.heap.size w w')

theorem newW_of {w w' : World} {a : List (List Int)} {k n : Nat} {r : Nat → Nat} {A : Option Addr} {c g : Nat} (hl : a.length = n) (ho : OwnI w.heap.size w'.heap.size w' g A n c (shr n r (kY a r r k) k)) (hb : Below w.heap.size w w') :
    NewW w a k r (.returned (.tuple #[.slice A n c, .bool (pb (LevAt a k r))])) w' := by
  subst hl
  by_cases h : LevAt a k r
  · rw [pb_true h]; exact .inl ⟨h, A, c, g, rfl, ho, hb⟩
  · rw [pb_false h]; exact .inr ⟨h, _, rfl, hb⟩

set_option maxRecDepth 100000 in
set_option maxHeartbeats 6400000 in
theorem restOn_any (b o : Nat) (rb ro cc : Nat → Nat) (n c k cx : Nat) (X : Option Addr) (a : List (List Int)) (r : Nat → Nat) (w : World) (ht : Tab w b o rb ro cc n n a) (hx : Pl w X k cx r n) (hq : VQ a) (hl : a.length = n) (h1 : 1 ≤ k) (hk : k ≤ 3) (hr : Asc n k r) :
    Calls Try.prog 99 #[.slice (some ⟨b, o, none⟩) n c, .slice X k cx] w (NewW w a k r) := by
  have HT := Lib.hid ht
  have HX := Lib.hid hx
  have HV := Lib.hid hq
  have HL := Lib.hid hl
  have HR := Lib.hid (show Asc a.length k r by rw [hl]; exact hr)
  have hn3 := ht.n3
  have HAB := Lib.hid (mf_ab hq.1 hq.2 (show Asc a.length k r by rw [hl]; exact hr))
  obtain ⟨bx, ox, rfl, hcx⟩ := hx.ints.at_ (by omega)
  have c0 := hcx 0 (by omega)
  rw [gi_lstN (by omega)] at c0
  simp only [Nat.add_zero] at c0
  have HC0 := Lib.hid c0
  have hr0 := hx.lt 0 (by omega)
  have HR0 := Lib.hid (ht.row (r 0) hr0)
  have HCX := Lib.hid hcx
  have HS0 := Lib.hid (TM.start w)
  obtain ⟨i0, hi0, hz0, hz1, hz2⟩ := info_parts Try.infoI
  clear ht hx hq hl hr hcx c0
  go_enter Try.func99, Try.ntmps99
  go_wp2
  go_loopw [7, 8] (fun v i wr => ∃ (p : Nat) (vs : List Value), p ≤ k ∧ i = .int .i64 p ∧ Hid (TM w v vs (dfL a r k p) wr)) (fun _ i _ => k - (intOf i).toNat)
  case atStart => exact ⟨0, [], Nat.zero_le _, rfl, HS0⟩
  case round =>
    clear HS0
    obtain ⟨p, vs, hp, rfl, HTM⟩ := hrel
    obtain ⟨Av, cv, rfl⟩ := HTM.out.bo.form
    by_cases hlt : p < k
    · have HI := Lib.hid HTM.out.row
      clear HTM
      have c1 := HCX.out p hlt
      rw [gi_lstN hlt] at c1
      have HC1 := Lib.hid c1
      have hrp := HX.out.lt p hlt
      have HRW := Lib.hid (HT.out.row (r p) hrp)
      clear c1
      go_wp2
      generalize wr.heap.size = N at *
      go_loopw [9, 10] (fun u j wi => ∃ (q : Nat), q ≤ k ∧ j = .int .i64 q ∧ Hid (TN w N (.slice Av (dfL a r k p).length cv) vs (dfL a r k p) u (dfR a r p q) wi)) (fun _ j _ => k - (intOf j).toNat)
      case atStart => exact ⟨0, Nat.zero_le _, rfl, HI⟩
      case round =>
        clear HI
        obtain ⟨q, hq, rfl, HI⟩ := hrel
        obtain ⟨Au, cu, rfl⟩ := HI.out.bi.form
        by_cases hlm : q < k
        · have HML := Lib.hid (dfR_len a r p q)
          by_cases hp0 : p = 0
          · have hpz : ((p : Int) == 0) = true := by simp; omega
            have HRS := Lib.hid (dfR_zero (a := a) (r := r) (j := q) hp0)
            clear hp0
            have hHs := HI.out.hs
            have hlh := HI.out.lh
            generalize dfR a r p q = ys at *
            have hb := below_alloc wr (.cells #[iv 1] 3)
            have HB4 := Lib.hid ((HI.out.bi.below hb).own)
            have HN := Lib.hid (cell_one_new wr (iv 1) 3)
            have hyl : ys.length ≤ 3 := by have := HML.out; omega
            clear hb
            go_wp2_with (at_builtin; refine wpList_append_own_at _ rfl _ _ 26 rfl N 3 i0 (.int .i64 0) 1 8 Try.underlying26 hi0 hz0 hz1 hz2 rfl (by decide) _ ys.length (ys.map iv) rfl HB4.out ⟨wr.heap.size, 0, none⟩ 1 1 [iv 1] rfl rfl ?c1 ?c2 ?c3 ?c4 ?c5 ?_)
            case c1 => exact HN.out
            case c2 => intro u hu; simp at hu; subst hu; rfl
            case c3 => unfold maxLen; omega
            case c4 => omega
            case c5 => simp; omega
            intro v' w5 hown' hgrow _ hat
            have HI5 := Lib.hid (HI.out.push hown' hgrow (by simpa using hat))
            clear HB4 HN hown' hgrow hat HI
            go_wp2
            go_roundw
            case rel => exact ⟨q + 1, by omega, by go_num, Lib.hid (by rw [HRS.out]; exact HI5.out)⟩
            case measure => simp [intOf]; omega
          · have hpz : ((p : Int) == 0) = false := by simp; omega
            have HRS := Lib.hid (dfR_next (a := a) (r := r) (p := p) (j := q) hp0)
            have c2 := HCX.out q hlm
            rw [gi_lstN hlm] at c2
            have hsq := HX.out.lt q hlm
            have c3 := HT.out.cell (r p) (r q) hrp hsq
            have c4 := HT.out.cell (r 0) (r q) hr0 hsq
            obtain ⟨z1, z2⟩ := HT.out.bd (r p) (r q) hrp hsq
            obtain ⟨z3, z4⟩ := HT.out.bd (r 0) (r q) hr0 hsq
            have HKA := Lib.hid (And.intro (And.intro (And.intro HC1.out HRW.out) (And.intro c2 c3)) (And.intro (And.intro HC0.out HR0.out) c4))
            have HKB := Lib.hid (show (_ ∧ _) ∧ _ from And.intro (And.intro (And.intro (Keep.below HI.out.up _ _ HC1.out) (Keep.below HI.out.up _ _ HRW.out)) (And.intro (Keep.below HI.out.up _ _ c2) (Keep.below HI.out.up _ _ c3))) (And.intro (And.intro (Keep.below HI.out.up _ _ HC0.out) (Keep.below HI.out.up _ _ HR0.out)) (Keep.below HI.out.up _ _ c4)))
            have hHs := HI.out.hs
            have hlh := HI.out.lh
            have hk0 : 0 < k := by omega
            have hk0' : (0 : Int) < (k : Int) := by omega
            have HPR := Lib.hid hrp
            have HSQ := Lib.hid hsq
            clear c2 c3 c4
            generalize g2 a (r p) (r q) = x at *
            generalize g2 a (r 0) (r q) = y at *
            generalize dfR a r p q = ys at *
            have hyl : ys.length ≤ 3 := by have := HML.out; omega
            generalize hrr : r p = R at *
            have HRR := Lib.hid hrr
            generalize hss : r q = S at *
            have HSS := Lib.hid hss
            generalize hzz : r 0 = Z at *
            have HZZ := Lib.hid hzz
            clear hrr hss hzz
            have HW : Hid (IntKind.i64.wrap (x - y) = x - y) := Lib.hid (wrapIn (by omega))
            have k1 := HKB.out.1.1.1
            have k2 := HKB.out.1.1.2
            have k3 := HKB.out.1.2.1
            have k4 := HKB.out.1.2.2
            have k5 := HKB.out.2.1.1
            have k6 := HKB.out.2.1.2
            have k7 := HKB.out.2.2
            go_wp2
            go_region_held3 (fun W => ((W.cell? ⟨bx, ox + p, none⟩ = some (.int .i64 R) ∧ W.cell? ⟨b, o + R, none⟩ = some (.slice (some ⟨rb R, ro R, none⟩) n (cc R))) ∧ (W.cell? ⟨bx, ox + q, none⟩ = some (.int .i64 S) ∧ W.cell? ⟨rb R, ro R + S, none⟩ = some (.int .i64 x))) ∧ ((W.cell? ⟨bx, ox, none⟩ = some (.int .i64 Z) ∧ W.cell? ⟨b, o + Z, none⟩ = some (.slice (some ⟨rb Z, ro Z, none⟩) n (cc Z))) ∧ W.cell? ⟨rb Z, ro Z + S, none⟩ = some (.int .i64 y)))
              (first | exact HKK.out | exact HKB.out | go_keep)
              ((refine step_append_lies _ (by rfl) _ _ _ (by rfl) N 3 i0 _ 1 8 Try.underlying26 hi0 hz0 hz1 hz2 rfl (by omega) (.slice Au ys.length cu) ys.length (ys.map iv) (by rfl) ((HI.out.bi.own.alloc _).drew) ⟨wr.heap.size, 0, none⟩ 1 1 [iv (IntKind.i64.wrap (x - y))] (by rfl) (by rfl) (World.news_of_block (w := (wr.alloc (.cells #[iv (IntKind.i64.wrap (x - y))] 3)).drew) (cs := #[iv (IntKind.i64.wrap (x - y))]) (t := 3) (fr := (0, 0)) (heap_alloc_new wr _)) (by simp [Value.oneCell', iv]) (by omega) (by unfold maxLen; omega) (by omega) (by simp; omega) (wr.heap.size + 1) (by simp) ?_; intro gg cap w1 hown1 hgrow hat hlt1; rw [HW.out] at hown1; have HI2 := Lib.hid (HI.out.push2 ((below_alloc wr _).drew) hown1 hgrow hlt1); have HKK := Lib.hid (And.intro (And.intro (And.intro (Keep.below HI2.out.up _ _ HKA.out.1.1.1) (Keep.below HI2.out.up _ _ HKA.out.1.1.2)) (And.intro (Keep.below HI2.out.up _ _ HKA.out.1.2.1) (Keep.below HI2.out.up _ _ HKA.out.1.2.2))) (And.intro (And.intro (Keep.below HI2.out.up _ _ HKA.out.2.1.1) (Keep.below HI2.out.up _ _ HKA.out.2.1.2)) (Keep.below HI2.out.up _ _ HKA.out.2.2))); clear hown1 hgrow hat hlt1 HI))
            clear k1 k2 k3 k4 k5 k6 k7
            go_wp2
            go_roundw
            case rel => exact ⟨q + 1, by omega, by go_num, Lib.hid (by rw [HRS.out]; first | exact HI2.out | exact HI2.out.qu ⟨1, rfl⟩ | exact HI2.out.qu ⟨_, rfl⟩)⟩
            case measure => simp [intOf]; omega
        · obtain rfl : q = k := by omega
          have HBD := Lib.hid (show ∀ x ∈ dfR a r p q, -27 ≤ x ∧ x ≤ 27 from fun x hx => by
            obtain ⟨j, hj, rfl⟩ := List.mem_map.1 hx
            exact HAB.out p j hlt (List.mem_range.1 hj))
          obtain ⟨Ar, nr, cr, gg, e, rfl, ho, _⟩ := HI.out.bi.owns (by rw [dfR_len]; omega) (fun x hx => by have := HBD.out x hx; omega)
          injection e with e1 _ e3
          subst e1
          subst e3
          have HO := Lib.hid ho
          have HML := Lib.hid (dfR_len a r p q)
          have HTL := Lib.hid (dfL_len a r q p)
          have HMS := Lib.hid (dfL_succ a r q p)
          have hb := below_alloc wr (.cells #[.slice Au (dfR a r p q).length cu] 26)
          have HB4 := Lib.hid (HI.out.bo.below hb).own
          have HN := Lib.hid (cell_one_new wr (.slice Au (dfR a r p q).length cu) 26)
          have hHs := HI.out.hs
          have hlh := HI.out.lh
          clear hb ho HBD
          generalize dfR a r p q = ys at *
          generalize dfL a r q p = ms at *
          obtain ⟨i0', hi0', hz0', hz1', hz2'⟩ := info_parts Try.info_row
          go_wp2_with (at_builtin; refine wpList_append_own_at _ rfl _ _ 23 rfl w.heap.size 26 i0' (.slice none 0 0) 1 24 Try.underlying23 hi0' hz0' hz1' hz2' rfl (by decide) _ ms.length vs rfl HB4.out ⟨wr.heap.size, 0, none⟩ 1 1 [.slice Au ys.length cu] rfl rfl ?d1 ?d2 ?d3 ?d4 ?d5 ?_)
          case d2 => rfl
          case d3 => have := HTL.out; unfold maxLen; omega
          case d4 => have := HTL.out; omega
          case d5 => omega
          intro v' w5 hown' hgrow _ hat
          have HT5 := Lib.hid (HI.out.done HO.out hown' hgrow (by simpa using hat))
          clear HB4 HN hown' hgrow hat HI HO
          go_wp2
          go_roundw
          case rel => exact ⟨p + 1, _, by omega, by go_num, Lib.hid (by rw [HMS.out]; exact HT5.out)⟩
          case measure => simp [intOf]; omega
    · obtain rfl : p = k := by omega
      obtain ⟨A', n', c', gg, e, hn', hown⟩ := HTM.out.bo.owns (by rw [dfL_len]; omega)
      injection e with e1 e2 e3
      subst e1
      subst e2
      subst e3
      have HSQ := Lib.hid (dfL_sq a r p)
      have HML := Lib.hid HSQ.out.len
      have HIR := Lib.hid hown.rows
      rw [HML.out] at HIR ⊢
      have HB := Lib.hid HTM.out.up
      have HSM := Lib.hid (HSQ.out.small hk HAB.out)
      have HDT := Lib.hid (mf_det (a := a) (r := r) h1 hk)
      have HYL := Lib.hid (kY_len a r r p)
      have HBD := Lib.hid (det_small hk HAB.out)
      clear hown HTM hn'
      have HC := Lib.hid (det_any p hk _ _ _ _ wr HIR.out HSQ.out HAB.out)
      by_cases hd0 : detN p (mf a r) = 0
      · have HNO := Lib.hid (show ¬ LevAt a p r from fun h => by
          have := (lev_sum h.1 (by rw [kY_len]; omega)).1
          rw [kY_len, ← HDT.out] at this
          exact this hd0)
        rw [hd0] at HC
        clear hd0
        go_wp2_with fail
        refine HC.out.mono ?_
        rintro e w1 ⟨rfl, hb⟩
        have HB1 := Lib.hid (below_up HB.out hb)
        clear hb HC
        go_wp2
        go_ret2
        exact .inr ⟨HNO.out, _, rfl, HB1.out⟩
      have hdz : (detN p (mf a r) == 0) = false := by simpa using hd0
      have HD0 := Lib.hid hd0
      clear hd0
      generalize hD : detN p (mf a r) = D at *
      have HDD := Lib.hid hD
      obtain ⟨D1, D2⟩ := HBD.out
      clear hD
      go_wp2_with fail
      refine HC.out.mono ?_
      rintro e w1 ⟨rfl, hb⟩
      have HB1 := Lib.hid (below_up HB.out hb)
      have HIR1 := Lib.hid (HIR.out.keep (Keep.below hb))
      clear hb HC HB HIR
      have HS1 := Lib.hid (IU.start w1)
      have HZ : Hid (zsg (kY a r r p) p = if D < 0 then -1 else 1) := Lib.hid (by unfold zsg; rw [← HDT.out])
      have HZO := Lib.hid (zsg_or (kY a r r p) p)
      have HYB := Lib.hid (fun q (hq : q < p) => kY_bd HV.out.1 hk HR.out (by rw [← HV.out.2]; exact HR.out) (p := q) (by rw [kY_len]; exact hq))
      go_wp2
      generalize zsg (kY a r r p) p = z at *
      go_loopw [11, 12] (fun v i wr => ∃ (c : Nat), c ≤ p ∧ i = .int .i64 c ∧ Hid (IU w1 v (sgL (kY a r r p) z c) wr) ∧ Hid (∀ q, q < c → 0 < z * gi (kY a r r p) q)) (fun _ i _ => p - (intOf i).toNat)
      case atStart => exact ⟨0, Nat.zero_le _, rfl, HS1, Lib.hid (fun _ h => absurd h (by omega))⟩
      case round =>
        clear HS1
        obtain ⟨c, hc, rfl, HI, HALL⟩ := hrel
        obtain ⟨Av, cv, rfl⟩ := HI.out.bi.form
        by_cases hlt : c < p
        · have HC := Lib.hid (minor_any _ p _ _ 0 c wr (HIR1.out.keep (Keep.below HI.out.up)) HSM.out HSQ.out.even (by omega) (by omega))
          have HYC := HYB.out c hlt
          have HBC := Lib.hid (det_small (k := p - 1) (by omega) (HAB.out.minor' (by omega) 0 c))
          have HOD := Lib.hid (mf_odd (a := a) (r := r) hk hlt)
          have HEV := Lib.hid (mf_even (a := a) (r := r) hk hlt)
          have HSS := Lib.hid (sgL_succ (kY a r r p) z c)
          have HSL := Lib.hid (sgL_len (kY a r r p) z c)
          have HNX : Hid (0 < z * gi (kY a r r p) c → ∀ q, q < c + 1 → 0 < z * gi (kY a r r p) q) := Lib.hid (fun h q hq => by
            by_cases e : q = c
            · subst e; exact h
            · exact HALL.out q (by omega))
          have HNO : Hid (¬ 0 < z * gi (kY a r r p) c → ¬ LevAt a p r) := Lib.hid (fun h l => by
            have := (lev_sum l.1 (by rw [kY_len]; omega)).2 c (by rw [kY_len]; exact hlt)
            rw [kY_len] at this
            have e : zsg (kY a r r p) p = z := by rw [HZ.out]; unfold zsg; rw [← HDT.out]
            rw [e] at this; exact h this)
          go_wp2_with fail
          refine HC.out.mono ?_
          rintro e w2 ⟨A2, n2, c2, g2_, rfl, hn2, ho, hb⟩
          have HI2 := Lib.hid (HI.out.next hb)
          have HQ2 := Lib.hid (HSQ.out.minor' (r := 0) (c := c) (by omega) hlt)
          have HO2 := Lib.hid ho.rows
          obtain rfl : n2 = p - 1 := hn2.trans HQ2.out.len
          clear hb HC hn2 ho HI
          have HC := Lib.hid (det_any (p - 1) (by omega) _ _ _ _ w2 HO2.out HQ2.out (HAB.out.minor' (by omega) 0 c))
          have HBN := HBC.out
          generalize detN (p - 1) (minorN (mf a r) 0 c) = d at *
          generalize hyy : gi (kY a r r p) c = y at *
          have HYY := Lib.hid hyy
          clear hyy
          go_wp2_with fail
          refine HC.out.mono ?_
          rintro e w3 ⟨rfl, hb⟩
          have HI3 := Lib.hid (HI2.out.next hb)
          have HIR3 := Lib.hid (HIR1.out.keep (Keep.below HI3.out.up))
          clear hb HC HI2 HO2 HQ2
          have HC := Lib.hid (HDD.out ▸ det_any p hk _ _ _ _ w3 HIR3.out HSQ.out HAB.out)
          obtain ⟨y1, y2⟩ := HYC
          obtain ⟨b1, b2⟩ := HBN
          by_cases hpp : c % 2 = 1
          · by_cases hdn : D < 0
            · skip
              have HY1 := Lib.hid (HOD.out hpp)
              have HZ1 := Lib.hid (show z = -1 by rw [HZ.out, if_pos hdn])
              have e0 : ((c : Int) % 2 == 1) = true := by simp; omega
              have e1 : decide (D < 0) = true := by simpa using hdn
              have HVL := Lib.hid (show z * y = d by rw [HZ1.out, HY1.out]; omega)
              clear HY1 HZ1 HOD HEV HZ HZO
              by_cases hle : d ≤ 0
              · have HX2 := Lib.hid (HNO.out (by rw [HVL.out]; omega))
                clear HNO HNX
                go_wp2_with fail
                refine HC.out.mono ?_
                rintro e w4 ⟨rfl, hb⟩
                have HI4 := Lib.hid (HI3.out.next hb)
                clear hb HC HI3 HIR3
                have HB5 := Lib.hid (below_up HB1.out HI4.out.up)
                go_wp2
                go_ret2
                exact .inr ⟨HX2.out, _, rfl, HB5.out⟩
              · have HX2 := Lib.hid (HNX.out (by rw [HVL.out]; omega))
                clear HNO HNX
                go_wp2_with fail
                refine HC.out.mono ?_
                rintro e w4 ⟨rfl, hb⟩
                have HI4 := Lib.hid (HI3.out.next hb)
                clear hb HC HI3 HIR3
                rw [HVL.out] at HSS
                have hyl : (sgL (kY a r r p) z c).length ≤ 3 := by rw [HSL.out]; omega
                have HYY2 := Lib.hid (show sgL (kY a r r p) z c = sgL (kY a r r p) z c from rfl)
                generalize sgL (kY a r r p) z c = ys at *
                have hb := below_alloc w4 (.cells #[iv (d)] 3)
                have HB4 := Lib.hid ((HI4.out.bi.below hb).own)
                have HN := Lib.hid (cell_one_new w4 (iv (d)) 3)
                have hwz := HI4.out.up.size
                clear hb
                go_wp2_with (at_builtin; refine wpList_append_own_at _ rfl _ _ 26 rfl w1.heap.size 3 i0 (.int .i64 0) 1 8 Try.underlying26 hi0 hz0 hz1 hz2 rfl (by decide) _ ys.length (ys.map iv) rfl HB4.out ⟨w4.heap.size, 0, none⟩ 1 1 [iv (d)] rfl rfl ?c1 ?c2 ?c3 ?c4 ?c5 ?_)
                case c1 => exact HN.out
                case c2 => intro u hu; simp at hu; subst hu; rfl
                case c3 => unfold maxLen; omega
                case c4 => omega
                case c5 => simp; omega
                intro v' w5 hown' hgrow _ hat
                have HI5 := Lib.hid (HI4.out.push hown' hgrow (by simpa using hat))
                clear HB4 HN hown' hgrow hat HI4
                go_wp2
                go_roundw
                case rel => exact ⟨c + 1, by omega, by go_num, Lib.hid (by rw [HSS.out]; exact HI5.out), HX2⟩
                case measure => simp [intOf]; omega
            · skip
              have HY1 := Lib.hid (HOD.out hpp)
              have HZ1 := Lib.hid (show z = 1 by rw [HZ.out, if_neg hdn])
              have e0 : ((c : Int) % 2 == 1) = true := by simp; omega
              have e1 : decide (D < 0) = false := by simpa using hdn
              have HVL := Lib.hid (show z * y = -d by rw [HZ1.out, HY1.out]; omega)
              clear HY1 HZ1 HOD HEV HZ HZO
              by_cases hle : -d ≤ 0
              · have HX2 := Lib.hid (HNO.out (by rw [HVL.out]; omega))
                clear HNO HNX
                go_wp2_with fail
                refine HC.out.mono ?_
                rintro e w4 ⟨rfl, hb⟩
                have HI4 := Lib.hid (HI3.out.next hb)
                clear hb HC HI3 HIR3
                have HB5 := Lib.hid (below_up HB1.out HI4.out.up)
                go_wp2
                go_ret2
                exact .inr ⟨HX2.out, _, rfl, HB5.out⟩
              · have HX2 := Lib.hid (HNX.out (by rw [HVL.out]; omega))
                clear HNO HNX
                go_wp2_with fail
                refine HC.out.mono ?_
                rintro e w4 ⟨rfl, hb⟩
                have HI4 := Lib.hid (HI3.out.next hb)
                clear hb HC HI3 HIR3
                rw [HVL.out] at HSS
                have hyl : (sgL (kY a r r p) z c).length ≤ 3 := by rw [HSL.out]; omega
                have HYY2 := Lib.hid (show sgL (kY a r r p) z c = sgL (kY a r r p) z c from rfl)
                generalize sgL (kY a r r p) z c = ys at *
                have hb := below_alloc w4 (.cells #[iv (-d)] 3)
                have HB4 := Lib.hid ((HI4.out.bi.below hb).own)
                have HN := Lib.hid (cell_one_new w4 (iv (-d)) 3)
                have hwz := HI4.out.up.size
                clear hb
                go_wp2_with (at_builtin; refine wpList_append_own_at _ rfl _ _ 26 rfl w1.heap.size 3 i0 (.int .i64 0) 1 8 Try.underlying26 hi0 hz0 hz1 hz2 rfl (by decide) _ ys.length (ys.map iv) rfl HB4.out ⟨w4.heap.size, 0, none⟩ 1 1 [iv (-d)] rfl rfl ?c1 ?c2 ?c3 ?c4 ?c5 ?_)
                case c1 => exact HN.out
                case c2 => intro u hu; simp at hu; subst hu; rfl
                case c3 => unfold maxLen; omega
                case c4 => omega
                case c5 => simp; omega
                intro v' w5 hown' hgrow _ hat
                have HI5 := Lib.hid (HI4.out.push hown' hgrow (by simpa using hat))
                clear HB4 HN hown' hgrow hat HI4
                go_wp2
                go_roundw
                case rel => exact ⟨c + 1, by omega, by go_num, Lib.hid (by rw [HSS.out]; exact HI5.out), HX2⟩
                case measure => simp [intOf]; omega
          · by_cases hdn : D < 0
            · skip
              have HY1 := Lib.hid (HEV.out hpp)
              have HZ1 := Lib.hid (show z = -1 by rw [HZ.out, if_pos hdn])
              have e0 : ((c : Int) % 2 == 1) = false := by simp; omega
              have e1 : decide (D < 0) = true := by simpa using hdn
              have HVL := Lib.hid (show z * y = -d by rw [HZ1.out, HY1.out]; omega)
              clear HY1 HZ1 HOD HEV HZ HZO
              by_cases hle : -d ≤ 0
              · have HX2 := Lib.hid (HNO.out (by rw [HVL.out]; omega))
                clear HNO HNX
                go_wp2_with fail
                refine HC.out.mono ?_
                rintro e w4 ⟨rfl, hb⟩
                have HI4 := Lib.hid (HI3.out.next hb)
                clear hb HC HI3 HIR3
                have HB5 := Lib.hid (below_up HB1.out HI4.out.up)
                go_wp2
                go_ret2
                exact .inr ⟨HX2.out, _, rfl, HB5.out⟩
              · have HX2 := Lib.hid (HNX.out (by rw [HVL.out]; omega))
                clear HNO HNX
                go_wp2_with fail
                refine HC.out.mono ?_
                rintro e w4 ⟨rfl, hb⟩
                have HI4 := Lib.hid (HI3.out.next hb)
                clear hb HC HI3 HIR3
                rw [HVL.out] at HSS
                have hyl : (sgL (kY a r r p) z c).length ≤ 3 := by rw [HSL.out]; omega
                have HYY2 := Lib.hid (show sgL (kY a r r p) z c = sgL (kY a r r p) z c from rfl)
                generalize sgL (kY a r r p) z c = ys at *
                have hb := below_alloc w4 (.cells #[iv (-d)] 3)
                have HB4 := Lib.hid ((HI4.out.bi.below hb).own)
                have HN := Lib.hid (cell_one_new w4 (iv (-d)) 3)
                have hwz := HI4.out.up.size
                clear hb
                go_wp2_with (at_builtin; refine wpList_append_own_at _ rfl _ _ 26 rfl w1.heap.size 3 i0 (.int .i64 0) 1 8 Try.underlying26 hi0 hz0 hz1 hz2 rfl (by decide) _ ys.length (ys.map iv) rfl HB4.out ⟨w4.heap.size, 0, none⟩ 1 1 [iv (-d)] rfl rfl ?c1 ?c2 ?c3 ?c4 ?c5 ?_)
                case c1 => exact HN.out
                case c2 => intro u hu; simp at hu; subst hu; rfl
                case c3 => unfold maxLen; omega
                case c4 => omega
                case c5 => simp; omega
                intro v' w5 hown' hgrow _ hat
                have HI5 := Lib.hid (HI4.out.push hown' hgrow (by simpa using hat))
                clear HB4 HN hown' hgrow hat HI4
                go_wp2
                go_roundw
                case rel => exact ⟨c + 1, by omega, by go_num, Lib.hid (by rw [HSS.out]; exact HI5.out), HX2⟩
                case measure => simp [intOf]; omega
            · skip
              have HY1 := Lib.hid (HEV.out hpp)
              have HZ1 := Lib.hid (show z = 1 by rw [HZ.out, if_neg hdn])
              have e0 : ((c : Int) % 2 == 1) = false := by simp; omega
              have e1 : decide (D < 0) = false := by simpa using hdn
              have HVL := Lib.hid (show z * y = d by rw [HZ1.out, HY1.out]; omega)
              clear HY1 HZ1 HOD HEV HZ HZO
              by_cases hle : d ≤ 0
              · have HX2 := Lib.hid (HNO.out (by rw [HVL.out]; omega))
                clear HNO HNX
                go_wp2_with fail
                refine HC.out.mono ?_
                rintro e w4 ⟨rfl, hb⟩
                have HI4 := Lib.hid (HI3.out.next hb)
                clear hb HC HI3 HIR3
                have HB5 := Lib.hid (below_up HB1.out HI4.out.up)
                go_wp2
                go_ret2
                exact .inr ⟨HX2.out, _, rfl, HB5.out⟩
              · have HX2 := Lib.hid (HNX.out (by rw [HVL.out]; omega))
                clear HNO HNX
                go_wp2_with fail
                refine HC.out.mono ?_
                rintro e w4 ⟨rfl, hb⟩
                have HI4 := Lib.hid (HI3.out.next hb)
                clear hb HC HI3 HIR3
                rw [HVL.out] at HSS
                have hyl : (sgL (kY a r r p) z c).length ≤ 3 := by rw [HSL.out]; omega
                have HYY2 := Lib.hid (show sgL (kY a r r p) z c = sgL (kY a r r p) z c from rfl)
                generalize sgL (kY a r r p) z c = ys at *
                have hb := below_alloc w4 (.cells #[iv (d)] 3)
                have HB4 := Lib.hid ((HI4.out.bi.below hb).own)
                have HN := Lib.hid (cell_one_new w4 (iv (d)) 3)
                have hwz := HI4.out.up.size
                clear hb
                go_wp2_with (at_builtin; refine wpList_append_own_at _ rfl _ _ 26 rfl w1.heap.size 3 i0 (.int .i64 0) 1 8 Try.underlying26 hi0 hz0 hz1 hz2 rfl (by decide) _ ys.length (ys.map iv) rfl HB4.out ⟨w4.heap.size, 0, none⟩ 1 1 [iv (d)] rfl rfl ?c1 ?c2 ?c3 ?c4 ?c5 ?_)
                case c1 => exact HN.out
                case c2 => intro u hu; simp at hu; subst hu; rfl
                case c3 => unfold maxLen; omega
                case c4 => omega
                case c5 => simp; omega
                intro v' w5 hown' hgrow _ hat
                have HI5 := Lib.hid (HI4.out.push hown' hgrow (by simpa using hat))
                clear HB4 HN hown' hgrow hat HI4
                go_wp2
                go_roundw
                case rel => exact ⟨c + 1, by omega, by go_num, Lib.hid (by rw [HSS.out]; exact HI5.out), HX2⟩
                case measure => simp [intOf]; omega
        · obtain rfl : c = p := by omega
          have HLV := Lib.hid (show LevP (kY a r r c) from lev_of HZO.out (fun q hq => HALL.out q (by rw [HYL.out] at hq; exact hq)))
          have HSL := Lib.hid (sgL_len (kY a r r c) z c)
          have HCL := Lib.hid (show ClrP (sgL (kY a r r c) z c) from (LevP.clr (.inl fun q hq => by rw [sgL_len] at hq; rw [gi_sgL hq]; exact HALL.out q hq) (by rw [sgL_len]; omega)))
          have HMD := Lib.hid (show ∀ q, q < (sgL (kY a r r c) z c).length → Mid (gi (sgL (kY a r r c) z c) q) from fun q hq => by
            rw [sgL_len] at hq; rw [gi_sgL hq]
            have := HYB.out q hq
            unfold Mid
            rcases HZO.out with e | e <;> rw [e] <;> omega)
          have HSB := Lib.hid (show ∀ y ∈ sgL (kY a r r c) z c, -1000000000000000 ≤ y ∧ y ≤ 1000000000000000 from fun y hy => by
            obtain ⟨q, hq, rfl⟩ := List.mem_map.1 hy
            have := HYB.out q (List.mem_range.1 hq)
            rcases HZO.out with e | e <;> rw [e] <;> omega)
          have HIN := Lib.hid (HI.out.ints (by rw [HSL.out]; omega) HSB.out)
          have HB2 := Lib.hid (below_up HB1.out HI.out.up)
          have HSR := Lib.hid (shr_sgL (X := kY a r r c) HZO.out (n := n) (r := r) HYL.out)
          have HSV := Lib.hid (shr_VS (n := n) (kY_len a r r c) (by rw [← HL.out]; exact HR.out) (HLV.out.clr (by rw [kY_len]; omega)) (fun q hq => HYB.out q (by rw [HYL.out] at hq; exact hq)))
          have HC := Lib.hid (cleared_any Av _ cv _ wr HIN.out HMD.out (by rw [HSL.out]; exact hk))
          clear HSB HI HMD
          rw [HSL.out] at HC HIN ⊢
          go_wp2_with fail
          refine HC.out.mono ?_
          rintro e w2 hcl
          obtain ⟨A2, n2, c2, g2_, rfl, hn2, ho, hb⟩ : ∃ Av nq cq gg, e = .returned (.tuple #[.slice Av nq cq, .bool true]) ∧ nq = (sgL (kY a r r c) z c).length ∧ OwnI wr.heap.size w2.heap.size w2 gg Av nq cq (clrL (sgL (kY a r r c) z c) (gcdL (sgL (kY a r r c) z c) (sgL (kY a r r c) z c).length) (sgL (kY a r r c) z c).length) ∧ Below wr.heap.size wr w2 := by
            rcases hcl with ⟨_, h⟩ | ⟨h, _⟩
            · exact h
            · exact absurd HCL.out h
          rw [HSL.out] at hn2
          subst hn2
          have HO2 := Lib.hid ho.ints
          have HB3 := Lib.hid (below_up HB2.out hb)
          clear hcl ho hb HC HIN HB2
          have HC := Lib.hid (spread_any n n2 c2 cx A2 _ _ r w2 HO2.out ⟨HX.out.ints.keep (Keep.below HB3.out), HX.out.lt⟩ (by omega) hk)
          go_wp2_with fail
          refine HC.out.mono ?_
          rintro e w3 ⟨A3, n3, c3, g3, rfl, hn3', ho, hb⟩
          have HB4 := Lib.hid (below_up HB3.out hb)
          have hsz := HB3.out.size
          have HO3 := Lib.hid (show OwnI w.heap.size w3.heap.size w3 g3 A3 n3 c3 (shr n r (kY a r r n2) n2) from by
            rw [← HSR.out]; exact ho.mono hsz (Nat.le_refl _))
          obtain rfl : n3 = n := hn3'.trans (putL_len _ _ _ _)
          clear hn3' ho hb HC HB3 HO2 hsz
          have HC := Lib.hid (fits_any b o rb ro cc n3 c c3 A3 a _ w3 (HT.out.keep (Keep.below HB4.out)) HO3.out.ints (fun j hj => HSV.out.2.1 j (by rw [show (shr n3 r (kY a r r n2) n2).length = n3 from putL_len _ _ _ _]; exact hj)))
          have HRP := Lib.hid (show pb (RestP a (shr n3 r (kY a r r n2) n2) n3) = pb (LevAt a n2 r) from pb_congr (by
            unfold LevAt; rw [HL.out]; exact ⟨fun h => ⟨HLV.out, h⟩, fun h => h.2⟩))
          rw [HRP.out] at HC
          go_wp2_with fail
          refine HC.out.mono ?_
          rintro e w4 ⟨rfl, hb⟩
          have HB5 := Lib.hid (below_up HB4.out hb)
          have HO5 := Lib.hid ((HO3.out.below hb).mono (Nat.le_refl _) hb.size)
          clear hb HC HB4 HO3
          go_wp2
          go_ret2
          exact newW_of HL.out HO5.out HB5.out
end Go.Proofs.Ytoekpbcdgmejcaa

/- Best shares by a part of a table, by the model. -/
namespace Go.Proofs.Ytoekpbcdgmejcaa
open Go.RowKit
open V (sumN detN rowC colC cofN minorN skip sgn Asc Kern)

/-- Shares by a part, and that they are best; or that there are none. -/
def NewK (w : World) (a : List (List Int)) (k : Nat) (r s : Nat → Nat) (e : Ending) (w' : World) : Prop :=
  (KerP a k r s ∧ ∃ A1 c1 A2 c2, e = .returned (.tuple #[.slice A1 a.length c1, .slice A2 (gr a 0).length c2, .bool true]) ∧ Ints w' A1 a.length c1 (shr a.length r (kX a r s k) k) ∧
    Ints w' A2 (gr a 0).length c2 (shr (gr a 0).length s (kY a r s k) k) ∧ Below w.heap.size w w') ∨
  (¬ KerP a k r s ∧ ∃ v1 v2, e = .returned (.tuple #[v1, v2, .bool false]) ∧ Below w.heap.size w w')
theorem flip_tr {xss : List (List Int)} {k : Nat} {f : Nat → Nat → Int} (h : Sq k xss f) : Sq k (flip xss k k) (trN f) :=
  ⟨flip_len _ _ _, fun p hp => by rw [gr_flip hp]; simp, fun p q hp hq => by
    unfold g2; rw [gr_flip hp, gi_col hq]; exact h.eq q p hq hp⟩
theorem Pl.keep {w w' : World} {X k c r n} (h : Pl w X k c r n) (q : Keep w w') : Pl w' X k c r n := ⟨h.ints.keep q, h.lt⟩

/-- What cleared answers, with its flag as a letter. -/
def ClrV (w' : World) (xs : List Int) (ok : Bool) (v : Value) : Prop :=
  (ok = true ∧ ClrP xs ∧ ∃ A c, v = .slice A xs.length c ∧ Ints w' A xs.length c (clrL xs (gcdL xs xs.length) xs.length)) ∨ (ok = false ∧ ¬ ClrP xs)
theorem NewC.uni {w w' : World} {xs : List Int} {e : Ending} (h : NewC w xs e w') : ∃ ok v, e = .returned (.tuple #[v, .bool ok]) ∧ Below w.heap.size w w' ∧ ClrV w' xs ok v := by
  rcases h with ⟨h1, A, n, c, g, rfl, rfl, ho, hb⟩ | ⟨h1, rfl, hb⟩
  · exact ⟨true, _, rfl, hb, .inl ⟨rfl, h1, A, c, rfl, ho.ints⟩⟩
  · exact ⟨false, _, rfl, hb, .inr ⟨rfl, h1⟩⟩
theorem ClrV.keep {w' w2 : World} {xs : List Int} {ok : Bool} {v : Value} (h : ClrV w' xs ok v) (k : Keep w' w2) : ClrV w2 xs ok v := by
  rcases h with ⟨h1, h2, A, c, h3, h4⟩ | h
  · exact .inl ⟨h1, h2, A, c, h3, h4.keep k⟩
  · exact .inr h
theorem mid_of {x : Int} (h : -648 ≤ x ∧ x ≤ 648) : Mid x := by unfold Mid; omega

end Go.Proofs.Ytoekpbcdgmejcaa

/- The value's shares, by the model. -/
namespace Go.Proofs.Ytoekpbcdgmejcaa
open Go.RowKit
open V (Asc)

/-- The best shares of a table. -/
def NewV (w : World) (a : List (List Int)) (e : Ending) (w' : World) : Prop :=
  ∃ A1 c1 A2 c2, e = .returned (.tuple #[.slice A1 a.length c1, .slice A2 (gr a 0).length c2]) ∧ Ints w' A1 a.length c1 (bx a) ∧ Ints w' A2 (gr a 0).length c2 (by_ a) ∧ Below w.heap.size w w'
theorem NewK.no {w w' : World} {a : List (List Int)} {k : Nat} {r s : Nat → Nat} {e : Ending} (h : NewK w a k r s e w') (hn : ¬ KerP a k r s) : ∃ v1 v2, e = .returned (.tuple #[v1, v2, .bool false]) ∧ Below w.heap.size w w' := by
  rcases h with ⟨h1, _⟩ | ⟨_, h⟩
  · exact absurd h1 hn
  · exact h
theorem NewK.yes {w w' : World} {a : List (List Int)} {k : Nat} {r s : Nat → Nat} {e : Ending} (h : NewK w a k r s e w') (hn : KerP a k r s) :
    ∃ A1 c1 A2 c2, e = .returned (.tuple #[.slice A1 a.length c1, .slice A2 (gr a 0).length c2, .bool true]) ∧ Ints w' A1 a.length c1 (shr a.length r (kX a r s k) k) ∧
      Ints w' A2 (gr a 0).length c2 (shr (gr a 0).length s (kY a r s k) k) ∧ Below w.heap.size w w' := by
  rcases h with ⟨_, h⟩ | ⟨h1, _⟩
  · exact h
  · exact absurd hn h1
theorem memL_pl {w : World} {A : Option Addr} {n c S m : Nat} (h : Ints w A n c (memL S m)) (e : n = (memL S m).length) : Pl w A n c (idx S m) m := by
  subst e
  exact ⟨by rw [← memL_idx]; exact h, (idx_asc S m).1⟩

end Go.Proofs.Ytoekpbcdgmejcaa

/- A list that a call owns; numbers of which the first have turned. -/
namespace Go.Proofs.Ytoekpbcdgmejcaa
open Go.RowKit

/-- A list that a call owns, in block g from its beginning on. -/
structure NX (w : World) (n g : Nat) (L : List Int) (W : World) : Prop where
  own : OwnI w.heap.size W.heap.size W g (some ⟨g, 0, none⟩) n n L
  up : Below w.heap.size w W
  lo : w.heap.size ≤ g
theorem NX.next {w n g L W W'} (h : NX w n g L W) (k : Below W.heap.size W W') : NX w n g L W' := ⟨(h.own.below k).mono (Nat.le_refl _) k.size, below_up h.up k, h.lo⟩
theorem NX.cell {w n g L W} (h : NX w n g L W) {i : Nat} (hi : i < n) : W.cell? ⟨g, i, none⟩ = some (.int .i64 (gi L i)) := by
  obtain ⟨b, o, e, hc⟩ := h.own.ints.at_ (by omega)
  injection e with e
  injection e with e1 e2
  subst e1
  subst e2
  have := hc i hi
  rw [Nat.zero_add] at this
  exact this
theorem NX.frozen {w n g L W} (h : NX w n g L W) {i : Nat} (hi : i < n) : W.frozen? ⟨g, i, none⟩ = false := by
  obtain ⟨o, e, _, _, hf⟩ := h.own.own (by omega)
  injection e with e
  injection e with _ e2
  subst e2
  have := hf i hi
  rw [Nat.zero_add] at this
  exact this
theorem NX.set {w n g L W} (h : NX w n g L W) {i : Nat} (hi : i < n) {v : Int} (hv : -9223372036854775808 ≤ v ∧ v ≤ 9223372036854775807) : NX w n g (L.set i v) (W.setCell ⟨g, i, none⟩ (.int .i64 v)) := by
  have h1 := h.own.set hi hv
  rw [Nat.zero_add] at h1
  exact ⟨h1.mono (Nat.le_refl _) (by simp [World.setCell]), h.up.setCell (p := ⟨g, i, none⟩) h.lo _, h.lo⟩
/-- Numbers of which the first k have turned. -/
def mixT (f h : Nat → Int) (n k : Nat) : List Int := (List.range n).map fun i => if i < k then f i else h i
theorem mixT_len (f h : Nat → Int) (n k : Nat) : (mixT f h n k).length = n := by simp [mixT]
theorem gi_mixT {f h : Nat → Int} {n k i : Nat} (hi : i < n) : gi (mixT f h n k) i = if i < k then f i else h i := by
  rw [gi_get (by rw [mixT_len]; exact hi)]; simp [mixT]
theorem mixT_set {f h : Nat → Int} {n k : Nat} : (mixT f h n k).set k (f k) = mixT f h n (k + 1) := gi_ext (by rw [List.length_set, mixT_len, mixT_len]) fun i hi => by
  rw [List.length_set, mixT_len] at hi
  rw [gi_mixT hi]
  by_cases e : i = k
  · subst e; rw [gi_set_eq (by rw [mixT_len]; exact hi), if_pos (by omega)]
  · rw [gi_set_ne (by rw [mixT_len]; exact hi) e, gi_mixT hi]
    by_cases h2 : i < k
    · rw [if_pos h2, if_pos (by omega)]
    · rw [if_neg h2, if_neg (by omega)]
theorem mixT_zero (f h : Nat → Int) (n : Nat) : mixT f h n 0 = (List.range n).map h := gi_ext (by rw [mixT_len]; simp) fun i hi => by
  rw [mixT_len] at hi
  rw [gi_mixT hi, if_neg (by omega), gi_get (by simpa using hi)]; simp
theorem mixT_all (f h : Nat → Int) (n : Nat) : mixT f h n n = (List.range n).map f := gi_ext (by rw [mixT_len]; simp) fun i hi => by
  rw [mixT_len] at hi
  rw [gi_mixT hi, if_pos hi, gi_get (by simpa using hi)]; simp
theorem list_range (x : List Int) : (List.range x.length).map (gi x) = x := gi_ext (by simp) fun i hi => by
  have hi' : i < x.length := by simpa using hi
  rw [gi_get hi]; simp
theorem gi_range {f : Nat → Int} {n i : Nat} (h : i < n) : gi ((List.range n).map f) i = f i := by rw [gi_get (by simpa using h)]; simp

end Go.Proofs.Ytoekpbcdgmejcaa

/- Fields, by both programs. -/
namespace Go.Proofs.Ytoekpbcdgmejcaa
open Go.RowKit

/-- A square of numbers of at least 1. -/
structure VF (a : List (List Int)) : Prop where
  q : VQ a
  p : ∀ i j, i < a.length → j < a.length → 1 ≤ g2 a i j

set_option maxRecDepth 100000 in
set_option maxHeartbeats 1600000 in
theorem validField_any (A : Option Addr) (n c : Nat) (a : List (List Int)) (w : World) (hx : IntRows w A n c a) :
    Calls Try.prog 73 #[.slice A n c] w fun e w' => e = .returned (.bool (pb (VF a))) ∧ Quiet w w' := by
  have HX := Lib.hid hx
  have hl := hx.len
  clear hx
  by_cases hv : VQ a
  · have HC := Lib.hid (pb_true hv ▸ validSquare_any A n c a w HX.out)
    have hm : (gr a 0).length = n := by have := hv.2; omega
    have hn3 := hv.1.n3
    rw [hl] at hn3
    obtain ⟨b, o, rb, ro, cc, rfl, tab⟩ := HX.out.tab hv.1
    rw [hm] at tab
    have HT := Lib.hid tab
    have HV := Lib.hid hv
    have HL := Lib.hid hl
    clear tab hm hv hl
    go_enter Try.func73, Try.ntmps73
    go_wp2_with fail
    refine HC.out.mono ?_
    rintro e w1 ⟨rfl, hq⟩
    have HQ1 := Lib.hid hq
    clear hq HC
    go_wp2
    go_loopw [3] (fun i_ wr => ∃ i : Nat, i ≤ n ∧ i_ = .int .i64 i ∧ Hid (∀ k j, k < i → j < n → 1 ≤ g2 a k j) ∧ Hid (Quiet w wr)) (fun i_ _ => n - (intOf i_).toNat)
    case atStart => exact ⟨0, Nat.zero_le _, rfl, Lib.hid (fun _ _ h => absurd h (by omega)), HQ1⟩
    case round =>
      clear HQ1
      obtain ⟨i, hi, rfl, HALL, HQ⟩ := hrel
      by_cases hlt : i < n
      · go_wp2
        go_loopw [4] (fun j_ wi => ∃ j : Nat, j ≤ n ∧ j_ = .int .i64 j ∧ Hid (∀ l, l < j → 1 ≤ g2 a i l) ∧ Hid (Quiet w wi)) (fun j_ _ => n - (intOf j_).toNat)
        case atStart => exact ⟨0, Nat.zero_le _, rfl, Lib.hid (fun _ h => absurd h (by omega)), HQ⟩
        case round =>
          clear HQ
          obtain ⟨j, hj, rfl, HROW, HQ⟩ := hrel
          by_cases hjl : j < n
          · have c1 := Keep.quiet HQ.out _ _ (HT.out.row i hlt)
            have c2 := Keep.quiet HQ.out _ _ (HT.out.cell i j hlt hjl)
            by_cases hp : g2 a i j < 1
            · have HN := Lib.hid (pb_false (p := VF a) (fun h => by have := h.p i j (by rw [HL.out]; exact hlt) (by rw [HL.out]; exact hjl); omega))
              generalize g2 a i j = x at *
              go_wp2
              go_ret
              exact ⟨ret_bool HN.out.symm, HQ.out⟩
            · have HN := Lib.hid (show ∀ l, l < j + 1 → 1 ≤ g2 a i l from fun l hl => by
                by_cases e : l = j
                · subst e; omega
                · exact HROW.out l (by omega))
              generalize g2 a i j = x at *
              go_wp2
              go_roundw
              case rel => exact ⟨j + 1, by omega, by go_num, HN, HQ⟩
              case measure => simp [intOf]; omega
          · obtain rfl : j = n := by omega
            have HN := Lib.hid (show ∀ k l, k < i + 1 → l < j → 1 ≤ g2 a k l from fun k l hk hl => by
                by_cases e : k = i
                · subst e; exact HROW.out l hl
                · exact HALL.out k l (by omega) hl)
            go_wp2
            go_roundw
            case rel => exact ⟨i + 1, by omega, by go_num, HN, HQ⟩
            case measure => simp [intOf]; omega
      · obtain rfl : i = n := by omega
        have HN := Lib.hid (pb_true (p := VF a) ⟨HV.out, fun k j hk hj => HALL.out k j (by rw [← HL.out]; exact hk) (by rw [← HL.out]; exact hj)⟩)
        go_wp2
        go_ret
        exact ⟨ret_bool HN.out.symm, HQ.out⟩
  · have HC := Lib.hid (pb_false hv ▸ validSquare_any A n c a w HX.out)
    have HN := Lib.hid (pb_false (p := VF a) (fun h => hv h.q))
    clear hv hl
    go_enter Try.func73, Try.ntmps73
    go_wp2_with fail
    refine HC.out.mono ?_
    rintro e w1 ⟨rfl, hq⟩
    go_wp2
    go_ret
    exact ⟨ret_bool HN.out.symm, hq⟩
/-- All the numbers of some lists, one behind the other. -/
theorem catL_all {xss : List (List Int)} {z : Int} : ∀ {i}, i ≤ xss.length → ((∀ x ∈ catL xss i, z ≤ x) ↔ ∀ p, p < i → ∀ x ∈ gr xss p, z ≤ x)
  | 0, _ => ⟨fun _ p h => absurd h (by omega), fun _ x h => by simp [catL] at h⟩
  | i + 1, hi => by
    have ih := catL_all (xss := xss) (z := z) (i := i) (by omega)
    constructor
    · intro h p hp x hx
      by_cases e : p = i
      · subst e; exact h x (by rw [catL, List.mem_append]; exact .inr hx)
      · exact ih.1 (fun y hy => h y (by rw [catL, List.mem_append]; exact .inl hy)) p (by omega) x hx
    · intro h x hx
      rw [catL, List.mem_append] at hx
      rcases hx with hx | hx
      · exact ih.2 (fun p hp => h p (by omega)) x hx
      · exact h i (by omega) x hx
theorem mem_gi {xs : List Int} {x : Int} (h : x ∈ xs) : ∃ k, k < xs.length ∧ gi xs k = x := by
  obtain ⟨k, hk, rfl⟩ := List.mem_iff_getElem.1 h
  exact ⟨k, hk, gi_get hk⟩
theorem lst_all {xs : List Int} {z : Int} (h0 : 0 < xs.length) : z ≤ lst xs ↔ ∀ x ∈ xs, z ≤ x := by
  constructor
  · intro h x hx
    obtain ⟨k, hk, rfl⟩ := mem_gi hx
    have := mn_le (xs := xs) (k := xs.length - 1) (j := k) (by omega)
    unfold lst at h
    omega
  · intro h
    obtain ⟨j, hj, e⟩ := mn_mem (xs := xs) (xs.length - 1)
    unfold lst
    rw [e]
    exact h _ (gi_mem (by omega))
theorem field_least {a : List (List Int)} (v : VQ a) (h0 : 0 < (catL a a.length).length) : VF a ↔ 1 ≤ lst (catL a a.length) := by
  rw [lst_all h0, catL_all (Nat.le_refl _)]
  constructor
  · intro h p hp x hx
    obtain ⟨k, hk, rfl⟩ := mem_gi hx
    have := (v.1.rows p hp).1
    exact h.p p k hp (by have := v.2; omega)
  · intro h
    refine ⟨v, fun i j hi hj => h i hi _ (gi_mem ?_)⟩
    have := (v.1.rows i hi).1
    have := v.2
    omega
theorem VT.smallrows {a : List (List Int)} (v : VT a) : ∀ p, p < a.length → (gr a p).length ≤ 3 ∧ 0 < (gr a p).length ∧ ∀ x ∈ gr a p, -1000000 ≤ x ∧ x ≤ 1000000 := fun p hp => by
  have h := v.rows p hp
  have h1 := h.1
  have := v.m1
  have := v.m3
  refine ⟨by omega, by omega, fun x hx => ?_⟩
  obtain ⟨k, hk, rfl⟩ := mem_gi hx
  have := h.2 k hk
  unfold InR at this
  omega
theorem catL_pos {a : List (List Int)} (v : VT a) : 0 < (catL a a.length).length := by
  obtain ⟨l, hl⟩ : ∃ l, a.length = l + 1 := ⟨a.length - 1, by have := v.n1; omega⟩
  rw [hl, catL, List.length_append]
  have := (v.smallrows l (by omega)).2.1
  omega

set_option maxRecDepth 100000 in
set_option maxHeartbeats 1600000 in
theorem ValidField_impl (A : Option Addr) (n c : Nat) (a : List (List Int)) (w : World) (hx : IntRows w A n c a) :
    Calls Try.prog 45 #[.slice A n c] w (Ret (.bool (pb (VF a))) w) := by
  have HX := Lib.hid hx
  have hl := hx.len
  clear hx
  by_cases hv : VQ a
  · have HC := Lib.hid (pb_true hv ▸ ValidSquare_impl A n c a w HX.out)
    have hn3 := hv.1.n3
    rw [hl] at hn3
    have HSR := Lib.hid hv.1.smallrows
    have HPOS := Lib.hid (by have := catL_pos hv.1; rw [hl] at this; exact this)
    have HFL := Lib.hid (by have := field_least hv (catL_pos hv.1); rw [hl] at this; exact this)
    have HK := Lib.hid (fun W (k : Quiet w W) => Concat_any A n c a W (HX.out.keep (Keep.quiet k)) (by omega) (fun p hp => (HSR.out p hp).1) (fun p hp => (HSR.out p hp).2.1) (fun p hp => (HSR.out p hp).2.2) HPOS.out)
    clear hv hl
    generalize catL a n = ys at *
    have d1 : ∀ z : Int, (decide (1 ≤ z)) = decide (1 ≤ z) := fun _ => rfl
    clear d1
    go_enter Try.func45, Try.ntmps45
    go_wp2_with fail
    refine HC.out.mono ?_
    rintro e w1 ⟨rfl, hq⟩
    have HC2 := Lib.hid (HK.out w1 hq)
    have HB1 := Lib.hid (show Below w.heap.size w w1 from hq.below)
    clear hq HC HK
    go_wp2_with fail
    refine HC2.out.mono ?_
    rintro e w2 ⟨A2, n2, c2, g2_, rfl, hn2, ho, hb⟩
    have HB2 := Lib.hid (below_up HB1.out hb)
    have HI := Lib.hid ho.ints
    have hp2 : 0 < n2 := by rw [hn2]; exact HPOS.out
    clear hn2 ho hb HC2 HB1
    have HC := Lib.hid (Min_any A2 n2 c2 ys w2 HI.out hp2)
    by_cases hge : 1 ≤ lst ys
    · have HN := Lib.hid (pb_true (HFL.out.2 hge))
      generalize lst ys = z at *
      go_wp2_with fail
      refine HC.out.mono ?_
      rintro e w3 ⟨rfl, hq⟩
      have HB3 := Lib.hid (below_quiet HB2.out hq)
      clear hq HC HB2
      go_wp2
      go_ret
      exact ⟨ret_bool HN.out.symm, HB3.out⟩
    · have HN := Lib.hid (pb_false (fun h => hge (HFL.out.1 h)))
      have hd : decide (1 ≤ lst ys) = false := decide_eq_false hge
      generalize lst ys = z at *
      go_wp2_with fail
      refine HC.out.mono ?_
      rintro e w3 ⟨rfl, hq⟩
      have HB3 := Lib.hid (below_quiet HB2.out hq)
      clear hq HC HB2
      go_wp2
      go_ret
      exact ⟨ret_bool HN.out.symm, HB3.out⟩
  · have HC := Lib.hid (pb_false hv ▸ ValidSquare_impl A n c a w HX.out)
    have HN := Lib.hid (pb_false (p := VF a) (fun h => hv h.q))
    clear hv hl
    go_enter Try.func45, Try.ntmps45
    go_wp2_with fail
    refine HC.out.mono ?_
    rintro e w1 ⟨rfl, hq⟩
    go_wp2
    go_ret
    exact ⟨ret_bool HN.out.symm, hq.below⟩

end Go.Proofs.Ytoekpbcdgmejcaa

/- One block alone has turned: what is elsewhere stays; new lists whose block is known. -/
namespace Go.Proofs.Ytoekpbcdgmejcaa
open Go.RowKit
theorem eqI_same (xs : List Int) : eqI xs xs = true := eqI_yes rfl fun _ _ => rfl
theorem OwnI.one {lo hi g w w' b A n c xs} (h : OwnI lo hi w b A n c xs) (k : One g w w') (hne : b ≠ g) : OwnI lo hi w' b A n c xs := h.of_block fun _ => k.block b hne
theorem One.below {S g : Nat} {a w w' : World} (h : Below S a w) (k : One g w w') (hg : S ≤ g) : Below S a w' := Touch.below h (k.touch (Nat.le_refl g) (Nat.lt_succ_self g)) hg
theorem NewI.ge {w w' : World} {ys : List Int} {e : Ending} (h : NewI w ys e w') :
    ∃ Av c gg, e = .returned (.slice Av ys.length c) ∧ OwnI w.heap.size w'.heap.size w' gg Av ys.length c ys ∧ w.heap.size ≤ gg ∧ Below w.heap.size w w' := by
  obtain ⟨Av, n, c, gg, rfl, rfl, ho, hb⟩ := h
  by_cases h0 : 0 < ys.length
  · obtain ⟨o, e, h1, h2, hf⟩ := ho.own h0
    exact ⟨Av, c, gg, rfl, ho, h1, hb⟩
  · exact ⟨Av, c, w.heap.size, rfl, ⟨ho.ints, fun hn => absurd hn h0⟩, Nat.le_refl _, hb⟩
end Go.Proofs.Ytoekpbcdgmejcaa

