/- Texts merged: CO LO4 LO5 LO6 LO7 LO8 C9A Put RI C9B Math64 C9C D4 K4 Math20 Z4 V8 V9 Z5 C92 C95 C9D Math72 Math67 C9S. -/
import Derived.Test.YtidoahicgiaodaaQ9
import Derived.Laws.Tables
import Derived.Laws.Rows
/- A table as an array, by the program. -/
namespace Go.Proofs.Ytidoahicgiaodaa
open Go.RowKit

theorem blk_row {w g t cs} (h : Blk w g t cs) (c : Array Value) : Blk (w.setRow g c) g t c := setRow_heap w g cs c t (0, 0) h
theorem row_other (w : World) (g k : Nat) (c : Array Value) (h : k ≠ g) : (w.setRow g c).heap[k]? = w.heap[k]? := by
  simp only [World.setRow, Array.getElem?_modify, if_neg (Ne.symm h)]
theorem blk_row_other {w g k t cs} (h : Blk w k t cs) (c : Array Value) (hne : k ≠ g) : Blk (w.setRow g c) k t cs := (row_other w g k c hne).trans h
theorem below_row {B : Nat} {a w : World} (h : Below B a w) {g : Nat} (hg : B ≤ g) (c : Array Value) : Below B a (w.setRow g c) :=
  ⟨h.os, h.tape, h.output, by simpa [World.setRow] using h.size, fun k hk => (row_other w g k c (by omega)).trans (h.block k hk)⟩

end Go.Proofs.Ytidoahicgiaodaa

/- What is left over, by the program: rows compared at marks, beaten rows. -/
namespace Go.Proofs.Ytidoahicgiaodaa
open Go.RowKit

def cs3 (x : Nat → Int) : Array Value := #[.int .i64 (x 0), .int .i64 (x 1), .int .i64 (x 2)]
def bs3 (h : Nat → Bool) : Array Value := #[.bool (h 0), .bool (h 1), .bool (h 2)]
theorem cs3_get (x : Nat → Int) {k : Nat} (h : k < 3) : (cs3 x)[k]? = some (.int .i64 (x k)) := by
  have : k = 0 ∨ k = 1 ∨ k = 2 := by omega
  rcases this with rfl | rfl | rfl <;> rfl
theorem bs3_get (x : Nat → Bool) {k : Nat} (h : k < 3) : (bs3 x)[k]? = some (.bool (x k)) := by
  have : k = 0 ∨ k = 1 ∨ k = 2 := by omega
  rcases this with rfl | rfl | rfl <;> rfl
/-- Less at all marks. -/
def LA (x y : Nat → Int) (h : Nat → Bool) (l : Nat) : Prop := ∀ j, j < l → h j = true → x j < y j

end Go.Proofs.Ytidoahicgiaodaa

/- What is left over, by the program: is a row beaten. -/
namespace Go.Proofs.Ytidoahicgiaodaa
open Go.RowKit

/-- One of the first l own rows that are marked is more than row i at all marks of the other. -/
def BM (f : Nat → Nat → Int) (own h : Nat → Bool) (i l : Nat) : Prop := ∃ k, k < l ∧ own k = true ∧ LA (f i) (f k) h 3

end Go.Proofs.Ytidoahicgiaodaa

/- What is left over, by the program: who stays. -/
namespace Go.Proofs.Ytidoahicgiaodaa
open Go.RowKit

theorem und_marks : Try.prog.underlying 89 = some (.array 3 4) := by kernel_rfl
noncomputable def stM (f : Nat → Nat → Int) (own h : Nat → Bool) : Nat → Bool := fun i => own i && !pb (BM f own h i 3)
/-- The first k of them. -/
def partB (s : Nat → Bool) (k : Nat) : Nat → Bool := fun j => if j < k then s j else false
theorem partB_zero (s : Nat → Bool) : bs3 (partB s 0) = #[.bool false, .bool false, .bool false] := by simp [bs3, partB]
theorem partB_set (s : Nat → Bool) {k : Nat} (h : k < 3) : (bs3 (partB s k)).setIfInBounds k (.bool (s k)) = bs3 (partB s (k + 1)) := by
  have : k = 0 ∨ k = 1 ∨ k = 2 := by omega
  rcases this with rfl | rfl | rfl <;> simp [bs3, partB]
theorem partB_all (s : Nat → Bool) : bs3 (partB s 3) = bs3 s := by simp [bs3, partB]
end Go.Proofs.Ytidoahicgiaodaa

/- What is left over, by the program: all marks, and the marked. -/
namespace Go.Proofs.Ytidoahicgiaodaa
open Go.RowKit

/-- The boxes of allMarks. -/
structure AW (w : World) (n k : Nat) (W : World) : Prop where
  box : Blk W w.heap.size 89 #[.bool false, .bool false, .bool false]
  var : Blk W (w.heap.size + 1) 89 (bs3 fun j => decide (j < k))
  below : Below w.heap.size w W
theorem AW.start (n : Nat) (w : World) : AW w n 0 ((w.alloc (.cells #[.bool false, .bool false, .bool false] 89)).alloc (.cells #[.bool false, .bool false, .bool false] 89)) :=
  ⟨blk_old (blk_new _ _ _) _, by have := blk_new (w.alloc (.cells #[.bool false, .bool false, .bool false] 89)) 89 #[.bool false, .bool false, .bool false]; rw [World.size_alloc] at this; exact this, below_up (below_alloc _ _) (below_alloc _ _)⟩
theorem AW.put {w n k W} (u : AW w n k W) (hk : k < 3) : AW w n (k + 1) (W.setCell ⟨w.heap.size + 1, k, none⟩ (.bool true)) :=
  ⟨blk_other u.box (by show w.heap.size ≠ w.heap.size + 1; omega) _, by
    have := blk_set u.var k (.bool true)
    have e : (bs3 fun j => decide (j < k)).setIfInBounds k (.bool true) = bs3 fun j => decide (j < k + 1) := by
      have : k = 0 ∨ k = 1 ∨ k = 2 := by omega
      rcases this with rfl | rfl | rfl <;> simp [bs3]
    rw [e] at this; exact this, u.below.setCell (by show w.heap.size ≤ w.heap.size + 1; omega) _⟩
set_option maxRecDepth 100000 in
set_option maxHeartbeats 3200000 in
theorem allMarks_any (n : Nat) (w : World) (hn : n ≤ 3) :
    Calls Try.prog 114 #[.int .i64 n] w (Ret (.agg (bs3 fun j => decide (j < n))) w) := by
  have HS := Lib.hid (AW.start n w)
  go_enter Try.func114, Try.ntmps114
  go_wp2
  generalize (w.alloc (.cells #[.bool false, .bool false, .bool false] 89)).alloc (.cells #[.bool false, .bool false, .bool false] 89) = W5 at *
  go_loopw [6] (fun s wr => ∃ k : Nat, k ≤ n ∧ s = .int .i64 k ∧ Hid (AW w n k wr)) (fun s _ => n - (intOf s).toNat)
  case atStart => exact ⟨0, by omega, rfl, HS⟩
  case round =>
    clear HS
    obtain ⟨k, hk, rfl, HU⟩ := hrel
    by_cases hlt : k < n
    · have hk3 : (k : Int) < 3 := by omega
      have HN := Lib.hid (HU.out.put (by omega))
      have c2 := blk_cell HU.out.var (bs3_get (fun j => decide (j < k)) (show k < 3 by omega))
      have c3 := blk_frozen HU.out.var k
      clear HU
      go_wp2
      clear c2 c3
      go_roundw
      case rel => exact ⟨k + 1, by omega, by go_num, HN⟩
      case measure => simp [intOf]; omega
    · obtain rfl : k = n := by omega
      have HV := Lib.hid HU.out.var
      have HX := Lib.hid HU.out.box
      have HB := Lib.hid HU.out.below
      clear HU
      obtain ⟨F, hF⟩ : ∃ F : Nat → Bool, F = fun j => decide (j < k) := ⟨_, rfl⟩
      rw [← hF] at HV
      have HF := Lib.hid hF
      clear hF
      generalize wr = W0 at *
      have HSZ : Hid ((Try.prog.info? 89).map (·.size) = some (bs3 F).size) := Lib.hid (by show _ = some 3; kernel_rfl)
      have HS1 : Hid ((bs3 F).all (·.oneCell') = true) := Lib.hid (by simp [bs3, Value.oneCell'])
      go_wp2_with (first | (refine wpList_load_row rfl 89 _ rfl (w.heap.size + 1) rfl 89 (bs3 F) (0, 0) _ HV.out und_marks rfl HSZ.out ?_) | (refine wpList_store_row rfl 89 _ _ rfl w.heap.size (bs3 F) rfl rfl 89 _ HX.out HSZ.out rfl HS1.out ?_))
      have BB := Lib.hid (blk_row HX.out (bs3 F))
      have HBX := Lib.hid (below_row HB.out (g := w.heap.size) (by omega) (bs3 F))
      clear HX HV HB
      generalize W0.setRow w.heap.size (bs3 F) = W9 at *
      refine bodyPost_ret (v := .agg (bs3 F)) (results_cell_row (by rfl) _ _ w.heap.size 89 (bs3 F) (0, 0) _ (by rfl) BB.out und_marks rfl HSZ.out) rfl ?_
      exact ⟨by rw [HF.out], HBX.out⟩
end Go.Proofs.Ytidoahicgiaodaa

/- What is left over, by the program: the marked. -/
namespace Go.Proofs.Ytidoahicgiaodaa
open Go.RowKit

theorem selL_yes {f : Nat → Bool} {k : Nat} (h : f k = true) : selL f (k + 1) = selL f k ++ [(k : Int)] := by simp [selL, List.range_succ, List.filter_append, h]
theorem selL_no {f : Nat → Bool} {k : Nat} (h : f k = false) : selL f (k + 1) = selL f k := by simp [selL, List.range_succ, List.filter_append, h]
theorem selL_small (f : Nat → Bool) (n : Nat) (hn : n ≤ 100) : ∀ y ∈ selL f n, -1000000000000000 ≤ y ∧ y ≤ 1000000000000000 := fun y hy => by
  obtain ⟨k, hk, _, rfl⟩ := selL_mem.1 hy
  omega

set_option maxRecDepth 100000 in
set_option maxHeartbeats 3200000 in
theorem marked_any (m : Nat → Bool) (w : World) : Calls Try.prog 115 #[.agg (bs3 m)] w (NewI w (selL m 3)) := by
  have HB := Lib.hid (below_alloc w (.cells (bs3 m) 89))
  have HK := Lib.hid (blk_new w 89 (bs3 m))
  go_enter Try.func115, Try.ntmps115
  have c0 := blk_cell HK.out (i := 0) (v := .bool (m 0)) rfl
  have c1 := blk_cell HK.out (i := 1) (v := .bool (m 1)) rfl
  have c2 := blk_cell HK.out (i := 2) (v := .bool (m 2)) rfl
  go_wp2
  clear c0 c1 c2 HK
  generalize w.alloc (.cells (bs3 m) 89) = W1 at *
  have HS0 := Lib.hid (IU.nil W1)
  go_loopw [3, 7] (fun v i wr => ∃ k : Nat, k ≤ 3 ∧ i = .int .i64 k ∧ Hid (IU W1 v (selL m k) wr)) (fun _ i _ => 3 - (intOf i).toNat)
  case atStart => exact ⟨0, by omega, rfl, HS0⟩
  case round =>
    clear HS0
    obtain ⟨k, hk, rfl, HI⟩ := hrel
    obtain ⟨Av, cv, rfl⟩ := HI.out.bi.form
    by_cases hlt : k < 3
    · have ix : ∀ W, (Instr.index 89 (.agg #[.bool (m 0), .bool (m 1), .bool (m 2)]) (.int .i64 k)).run Try.prog W = .ok (.bool (m k)) W := by
        have : k = 0 ∨ k = 1 ∨ k = 2 := by omega
        rcases this with rfl | rfl | rfl <;> exact fun _ => by kernel_rfl
      cases hm : m k
      · have HCS := Lib.hid (selL_no hm)
        rw [hm] at ix
        clear hm
        go_wp2
        clear ix
        go_roundw
        case rel => exact ⟨k + 1, by omega, by go_num, Lib.hid (by rw [HCS.out]; exact HI.out)⟩
        case measure => simp [intOf]; omega
      · have HCS := Lib.hid (selL_yes hm)
        rw [hm] at ix
        clear hm
        have HML := Lib.hid (selL_len m k)
        have hb := below_alloc wr (.cells #[iv (k : Int)] 3)
        have HB4 := Lib.hid (HI.out.bi.below hb).own
        have HN := Lib.hid (cell_one_new wr (iv (k : Int)) 3)
        have hwz := HI.out.up.size
        clear hb
        generalize selL m k = ys at *
        obtain ⟨i0, hi0, hz0, hz1, hz2⟩ := info_parts Try.info_int
        go_wp2_with (at_builtin; refine wpList_append_own_at _ rfl _ _ 36 rfl W1.heap.size 3 i0 (.int .i64 0) 1 8 Try.underlying36 hi0 hz0 hz1 hz2 rfl (by decide) _ ys.length (ys.map iv) rfl HB4.out ⟨wr.heap.size, 0, none⟩ 1 1 [iv (k : Int)] rfl rfl ?c1 ?c2 ?c3 ?c4 ?c5 ?_)
        case c1 => exact HN.out
        case c2 => intro u hu; simp at hu; subst hu; rfl
        case c3 => have := HML.out; unfold maxLen; omega
        case c4 => have := HML.out; omega
        case c5 => simp; omega
        intro v' w5 hown' hgrow _ hat
        have HI5 := Lib.hid (HI.out.push hown' hgrow (by simpa using hat))
        clear HB4 HN hown' hgrow hat HI ix
        go_wp2
        go_roundw
        case rel => exact ⟨k + 1, by omega, by go_num, Lib.hid (by rw [HCS.out]; exact HI5.out)⟩
        case measure => simp [intOf]; omega
    · obtain rfl : k = 3 := by omega
      have HNW := Lib.hid (NewI.from HB.out (HI.out.new (by have := selL_len m 3; omega) (selL_small m 3 (by omega))))
      go_wp2
      go_ret
      exact HNW.out
end Go.Proofs.Ytidoahicgiaodaa

/- The parts of trees by rounds, by the program. -/
namespace Go.Proofs.Ytidoahicgiaodaa
open Go.RowKit

theorem IU.cast {wb v ys zs w} (h : IU wb v ys w) (e : ys = zs) : IU wb v zs w := e ▸ h
/-- The cheapest way out of a state, among the first ones. -/
def cw (row : List Int) (from_ : Nat) : Nat → Nat
  | 0 => from_
  | k + 1 => if k ≠ from_ ∧ (cw row from_ k = from_ ∨ gi row k < gi row (cw row from_ k)) then k else cw row from_ k
theorem cw_lt {row : List Int} {s n : Nat} (hs : s < n) : ∀ k, k ≤ n → cw row s k < n
  | 0, _ => hs
  | k + 1, hk => by
    have := cw_lt (row := row) hs k (by omega)
    rw [cw]; split <;> omega
theorem cw_ok (row : List Int) (s : Nat) : ∀ k, (cw row s k = s ∧ ∀ j, j < k → j = s) ∨ (cw row s k ≠ s ∧ ∀ j, j < k → j ≠ s → gi row (cw row s k) ≤ gi row j)
  | 0 => .inl ⟨rfl, fun j h => by omega⟩
  | k + 1 => by
    rw [cw]
    by_cases hk : k = s
    · rw [if_neg (by omega)]
      rcases cw_ok row s k with ⟨h1, h2⟩ | ⟨h1, h2⟩
      · exact .inl ⟨h1, fun j hj => by
          by_cases e : j = k
          · omega
          · exact h2 j (by omega)⟩
      · exact .inr ⟨h1, fun j hj hjs => h2 j (by omega) hjs⟩
    · rcases cw_ok row s k with ⟨h1, h2⟩ | ⟨h1, h2⟩
      · rw [if_pos ⟨hk, .inl h1⟩]
        exact .inr ⟨hk, fun j hj hjs => by
          by_cases e : j = k
          · subst e; exact Int.le_refl _
          · exact absurd (h2 j (by omega)) hjs⟩
      · by_cases hl : gi row k < gi row (cw row s k)
        · rw [if_pos ⟨hk, .inr hl⟩]
          exact .inr ⟨hk, fun j hj hjs => by
            by_cases e : j = k
            · subst e; exact Int.le_refl _
            · have := h2 j (by omega) hjs; omega⟩
        · rw [if_neg (by rintro ⟨_, h | h⟩ <;> omega)]
          exact .inr ⟨h1, fun j hj hjs => by
            by_cases e : j = k
            · subst e; omega
            · exact h2 j (by omega) hjs⟩
def cwL (a : List (List Int)) (r n : Nat) : List Int := ((List.range n).map fun i => (cw (gr a i) i n : Int)).set r r
def cw0 (a : List (List Int)) (n : Nat) : List Int := (List.range n).map fun i => (cw (gr a i) i n : Int)
theorem cw0_len (a : List (List Int)) (n : Nat) : (cw0 a n).length = n := by simp [cw0]
theorem gi_cw0 {a : List (List Int)} {n i : Nat} (h : i < n) : gi (cw0 a n) i = (cw (gr a i) i n : Int) := by rw [gi_get (by rw [cw0_len]; exact h)]; simp [cw0]
theorem cwL_len (a : List (List Int)) (r n : Nat) : (cwL a r n).length = n := by simp [cwL]
theorem gi_cwL {a : List (List Int)} {r n i : Nat} (h : i < n) : gi (cwL a r n) i = if i = r then (r : Int) else (cw (gr a i) i n : Int) := by
  rw [gi_get (by rw [cwL_len]; exact h)]
  simp only [cwL, List.getElem_set, List.getElem_map, List.getElem_range]
  by_cases e : r = i
  · rw [if_pos e, if_pos e.symm]
  · rw [if_neg e, if_neg (fun h => e h.symm)]
theorem cwL_in {a : List (List Int)} {r n : Nat} : InB (cwL a r n) := ⟨fun j hj => by
  rw [cwL_len] at hj ⊢
  rw [gi_cwL hj]
  have := cw_lt (row := gr a j) hj n (Nat.le_refl _)
  split <;> omega⟩
theorem cwL_root {a : List (List Int)} {r n : Nat} (hr : r < n) : gi (cwL a r n) r = r := by rw [gi_cwL hr, if_pos rfl]
theorem cwL_ne {a : List (List Int)} {r n i : Nat} (h2 : 2 ≤ n) (hi : i < n) (hr : i ≠ r) : gi (cwL a r n) i ≠ i := by
  rw [gi_cwL hi, if_neg hr]
  rcases cw_ok (gr a i) i n with ⟨_, h⟩ | ⟨h, _⟩
  · have h1 := h 0 (by omega)
    have h3 := h 1 (by omega)
    omega
  · omega
theorem cwL_least {a : List (List Int)} {r n i j : Nat} (hi : i < n) (hj : j < n) (hr : i ≠ r) (hij : j ≠ i) : g2 a i (gi (cwL a r n) i).toNat ≤ g2 a i j := by
  rw [gi_cwL hi, if_neg hr]
  rcases cw_ok (gr a i) i n with ⟨_, h⟩ | ⟨_, h⟩
  · exact absurd (h j hj) hij
  · simpa [g2] using h j hj hij

set_option maxRecDepth 100000 in
set_option maxHeartbeats 1600000 in
theorem cheapestWay_any (A : Option Addr) (n c : Nat) (row : List Int) (s : Nat) (w : World) (hx : Ints w A n c row) (hs : s < n) (h4 : n ≤ 4) :
    Calls Try.prog 124 #[.slice A n c, .int .i64 s] w fun e w' => e = .returned (.int .i64 ((cw row s n : Nat) : Int)) ∧ w = w' := by
  obtain ⟨b, o, rfl, hc⟩ := hx.at_ (by omega)
  have HC := Lib.hid hc
  clear hx hc
  go_enter Try.func124, Try.ntmps124
  go_wp2
  go_loopw [5, 11] (fun v i wr => ∃ k : Nat, k ≤ n ∧ i = .int .i64 k ∧ v = .int .i64 ((cw row s k : Nat) : Int) ∧ w = wr) (fun _ i _ => n - (intOf i).toNat)
  case atStart => exact ⟨0, Nat.zero_le _, rfl, rfl, rfl⟩
  case round =>
    obtain ⟨k, hk, rfl, rfl, rfl⟩ := hrel
    have hlt' := cw_lt (row := row) hs k hk
    by_cases hlt : k < n
    · have c1 := HC.out k hlt
      have c2 := HC.out _ hlt'
      have HS : Hid (cw row s (k + 1) = if k ≠ s ∧ (cw row s k = s ∨ gi row k < gi row (cw row s k)) then k else cw row s k) := Lib.hid rfl
      generalize cw row s k = q at *
      by_cases hks : k = s
      · have hks' : ((k : Int) != (s : Int)) = false := by simp [hks]
        rw [if_neg (by omega)] at HS
        clear hks
        go_wp2
        go_roundw
        case rel => exact ⟨k + 1, by omega, by go_num, by rw [HS.out], by first | exact rfl | trivial⟩
        case measure => simp [intOf]; omega
      · have hks' : ((k : Int) != (s : Int)) = true := by simp; omega
        by_cases hqs : q = s
        · have hqs' : ((q : Int) == (s : Int)) = true := by simp [hqs]
          rw [if_pos ⟨hks, .inl hqs⟩] at HS
          clear hqs hks
          go_wp2
          go_roundw
          case rel => exact ⟨k + 1, by omega, by go_num, by rw [HS.out], by first | exact rfl | trivial⟩
          case measure => simp [intOf]; omega
        · have hqs' : ((q : Int) == (s : Int)) = false := by rw [beq_eq_false_iff_ne]; omega
          by_cases hl : gi row k < gi row q
          · have hl' : decide (gi row k < gi row q) = true := decide_eq_true hl
            rw [if_pos ⟨hks, .inr hl⟩] at HS
            generalize gi row k = x at *
            generalize gi row q = y at *
            clear hqs hks
            go_wp2
            go_roundw
            case rel => exact ⟨k + 1, by omega, by go_num, by rw [HS.out], by first | exact rfl | trivial⟩
            case measure => simp [intOf]; omega
          · have hl' : decide (gi row k < gi row q) = false := decide_eq_false hl
            rw [if_neg (by rintro ⟨_, h | h⟩ <;> omega)] at HS
            generalize gi row k = x at *
            generalize gi row q = y at *
            clear hqs hks
            go_wp2
            go_roundw
            case rel => exact ⟨k + 1, by omega, by go_num, by rw [HS.out], by first | exact rfl | trivial⟩
            case measure => simp [intOf]; omega
    · obtain rfl : k = n := by omega
      go_wp2
      go_ret
      exact ⟨rfl, by first | exact rfl | trivial⟩
set_option maxRecDepth 100000 in
set_option maxHeartbeats 1600000 in
theorem cheapestWays_any (A : Option Addr) (n c : Nat) (a : List (List Int)) (r : Nat) (w : World) (hx : IntRows w A n c a) (hrow : ∀ i, i < n → (gr a i).length = n) (hr : r < n) (h4 : n ≤ 4) :
    Calls Try.prog 101 #[.slice A n c, .int .i64 r] w (MadeI w n (cwL a r n)) := by
  have HX := Lib.hid hx
  have HR := Lib.hid hrow
  clear hx hrow
  have hmk := run_make_row' (P := Try.prog) 36 3 (.int .i64 0) 8 Try.underlying36 Try.info3 rfl .i64 .i64 n (by omega) (by omega)
  go_enter Try.func101, Try.ntmps101
  go_wp2
  clear hmk
  go_loopw [13] (fun i wr => ∃ k : Nat, k ≤ n ∧ i = .int .i64 k ∧ wr.rowIs w.heap.size 3 n (filled (cw0 a n) k) ∧ Below w.heap.size w wr ∧ Hid (wr.heap.size = w.heap.size + 1)) (fun i _ => n - (intOf i).toNat)
  case atStart => exact ⟨0, Nat.zero_le _, rfl, (World.rowIs_made w _ n 3).congr (fun j _ => by simp [filled]), (Below.refl _ _).alloc (Nat.le_refl _) _, Lib.hid (by simp)⟩
  case round =>
    obtain ⟨k, hk, rfl, hrow, hbel, hsz⟩ := hrel
    by_cases hlt : k < n
    · obtain ⟨b, o, rfl, hc⟩ := (HX.out.keep (Keep.below hbel)).at_ (by omega)
      obtain ⟨R, cc, c1, hI⟩ := hc k hlt
      rw [HR.out k hlt] at c1 hI
      have HC := Lib.hid (cheapestWay_any R n cc (gr a k) k wr hI hlt h4)
      have HG := Lib.hid (gi_cw0 (a := a) hlt)
      clear hc hI
      go_wp2_with fail
      refine HC.out.mono ?_
      rintro e w2 ⟨rfl, rfl⟩
      have c3 := hrow.cell hlt
      simp only [filled, if_neg (Nat.lt_irrefl k)] at c3
      have c4 := hrow.frozen k
      have HFS := Lib.hid (show (wr.setCell ⟨w.heap.size, k, none⟩ (.int .i64 (cw (gr a k) k n : Nat))).rowIs w.heap.size 3 n (filled (cw0 a n) (k + 1)) by
        have h := filled_set (xs := cw0 a n) hrow
        rw [HG.out] at h; exact h)
      clear HC c1
      generalize cw (gr a k) k n = q at *
      go_wp2
      go_roundw
      case rel => exact ⟨k + 1, by omega, by go_num, HFS.out, hbel.setCell (Nat.le_refl _) _, Lib.hid (by simpa using hsz.out)⟩
      case measure => simp [intOf]; omega
    · obtain rfl : k = n := by omega
      have c3 := hrow.cell hr
      have c4 := hrow.frozen r
      rw [show filled (cw0 a k) k r = .int .i64 (gi (cw0 a k) r) by simp [filled, hr]] at c3
      have HRS := Lib.hid (hrow.set r (.int .i64 (r : Int)))
      have HBS := Lib.hid (hbel.setCell (p := ⟨w.heap.size, r, none⟩) (Nat.le_refl _) (.int .i64 (r : Int)))
      have HSZ := Lib.hid (show (wr.setCell ⟨w.heap.size, r, none⟩ (.int .i64 (r : Int))).heap.size = w.heap.size + 1 by simpa using hsz.out)
      have HLL := Lib.hid (cwL_len a r k)
      have HIB := Lib.hid (cwL_in (a := a) (r := r) (n := k))
      have HGW := Lib.hid (fun j (hj : j < k) => gi_cwL (a := a) (r := r) hj)
      have HG0 := Lib.hid (fun j (hj : j < k) => gi_cw0 (a := a) hj)
      clear hrow hbel hsz
      go_wp2
      go_ret
      refine ⟨rfl, OwnI.of_rowIs HLL.out (by omega) (fun x hx => ?_) (Nat.le_refl _) (Nat.lt_succ_self _) HRS.out (fun j hj => ?_), HBS.out, HSZ.out⟩
      · obtain ⟨j, hj, rfl⟩ := List.mem_iff_getElem.1 hx
        rw [← gi_get hj]
        have := HIB.out.bd j hj
        rw [HLL.out] at this; omega
      · rw [HGW.out j hj]
        by_cases e : j = r
        · subst e; simp
        · simp [e, filled, hj, HG0.out j hj]
/-- Where a number stands first. -/
def ixI (xs : List Int) (x : Int) : Int := match (List.range xs.length).find? fun k => gi xs k == x with
  | none => -1
  | some k => (k : Int)
theorem ixI_some {xs : List Int} {x : Int} {k : Nat} (hk : k < xs.length) (e : gi xs k = x) (h : ∀ j, j < k → gi xs j ≠ x) : ixI xs x = k := by
  have : (List.range xs.length).find? (fun k => gi xs k == x) = some k := by
    rw [List.find?_range_eq_some]
    exact ⟨by simpa using e, List.mem_range.2 hk, fun j hj => by simpa using h j hj⟩
  rw [ixI, this]
theorem ixI_none {xs : List Int} {x : Int} (h : ∀ j, j < xs.length → gi xs j ≠ x) : ixI xs x = -1 := by
  have : (List.range xs.length).find? (fun k => gi xs k == x) = none := by
    rw [List.find?_eq_none]
    intro j hj
    simpa using h j (List.mem_range.1 hj)
  rw [ixI, this]
theorem ixI_cases (xs : List Int) (x : Int) : (∃ k, k < xs.length ∧ gi xs k = x ∧ ixI xs x = k) ∨ ((∀ j, j < xs.length → gi xs j ≠ x) ∧ ixI xs x = -1) := by
  unfold ixI
  cases hf : (List.range xs.length).find? fun k => gi xs k == x with
  | none =>
    rw [List.find?_eq_none] at hf
    exact .inr ⟨fun j hj => by simpa using hf j (List.mem_range.2 hj), rfl⟩
  | some k => exact .inl ⟨k, List.mem_range.1 (List.mem_of_find?_eq_some hf), by simpa using List.find?_some hf, rfl⟩
set_option maxRecDepth 100000 in
set_option maxHeartbeats 1600000 in
theorem IndexI_any (A : Option Addr) (n c : Nat) (xs : List Int) (x : Int) (w : World) (hx : Ints w A n c xs) :
    Calls Try.prog 106 #[.slice A n c, .int .i64 x] w fun e w' => e = .returned (.int .i64 (ixI xs x)) ∧ w = w' := by
  have HX := Lib.hid hx
  have HL := Lib.hid hx.len
  have hmx := hx.max
  clear hx
  go_enter Try.func106, Try.ntmps106
  go_wp2
  go_loopw [8] (fun i wr => ∃ k : Nat, k ≤ n ∧ i = .int .i64 k ∧ Hid (∀ j, j < k → gi xs j ≠ x) ∧ w = wr) (fun i _ => n - (intOf i).toNat)
  case atStart => exact ⟨0, Nat.zero_le _, rfl, Lib.hid (fun _ h => absurd h (by omega)), rfl⟩
  case round =>
    obtain ⟨k, hk, rfl, HALL, rfl⟩ := hrel
    by_cases hlt : k < n
    · obtain ⟨b, o, rfl, hc⟩ := HX.out.at_ (by omega)
      have c1 := hc k hlt
      clear hc
      by_cases he : x = gi xs k
      · have he' : (x == gi xs k) = true := by simp [he]
        have HE := Lib.hid (ixI_some (xs := xs) (x := x) (by rw [HL.out]; exact hlt) he.symm HALL.out)
        clear he
        go_wp2
        go_ret
        exact ⟨ret_int HE.out.symm, by first | exact rfl | trivial⟩
      · have he' : (x == gi xs k) = false := by simp [he]
        have HE := Lib.hid he
        clear he
        go_wp2
        go_roundw
        case rel => exact ⟨k + 1, by omega, by go_num, Lib.hid (fun j hj => by
          by_cases e : j = k
          · subst e; exact fun h => HE.out h.symm
          · exact HALL.out j (by omega)), by first | exact rfl | trivial⟩
        case measure => simp [intOf]; omega
    · obtain rfl : k = n := by omega
      have HE := Lib.hid (ixI_none (xs := xs) (x := x) (fun j hj => HALL.out j (by rw [← HL.out]; exact hj)))
      go_wp2
      go_ret
      exact ⟨ret_int HE.out.symm, by first | exact rfl | trivial⟩
theorem ContainsI_any (A : Option Addr) (n c : Nat) (xs : List Int) (x : Int) (w : World) (hx : Ints w A n c xs) :
    Calls Try.prog 126 #[.slice A n c, .int .i64 x] w fun e w' => e = .returned (.bool (xs.contains x)) ∧ w = w' := by
  have HC := Lib.hid (IndexI_any A n c xs x w hx)
  have h2 := hx.max
  have h3 := hx.len
  rcases ixI_cases xs x with ⟨k, hk, e, hi⟩ | ⟨hno, hi⟩
  · have HE := Lib.hid (show xs.contains x = true by rw [List.contains_iff_mem, ← e]; exact gi_mem hk)
    rw [hi] at HC
    clear hx hi e
    go_enter Try.func126, Try.ntmps126
    go_wp2_with fail
    refine HC.out.mono ?_
    rintro e w2 ⟨rfl, rfl⟩
    go_wp2
    go_ret
    exact ⟨ret_bool HE.out.symm, rfl⟩
  · have HE := Lib.hid (show xs.contains x = false by
      rw [Bool.eq_false_iff]
      intro h
      obtain ⟨j, hj, e⟩ := List.mem_iff_getElem.1 (List.contains_iff_mem.1 h)
      rw [← gi_get hj] at e
      exact hno j hj e)
    rw [hi] at HC
    clear hx hi hno
    go_enter Try.func126, Try.ntmps126
    go_wp2_with fail
    refine HC.out.mono ?_
    rintro e w2 ⟨rfl, rfl⟩
    go_wp2
    go_ret
    exact ⟨ret_bool HE.out.symm, rfl⟩
def outB (ring : List Int) : Nat → Bool := fun s => !(ring.contains (s : Int))
set_option maxRecDepth 100000 in
set_option maxHeartbeats 1600000 in
theorem statesOutOf_any (A : Option Addr) (m c n : Nat) (ring : List Int) (w : World) (hx : Ints w A m c ring) (hn : n ≤ 100) :
    Calls Try.prog 103 #[.slice A m c, .int .i64 n] w (NewI w (selL (outB ring) n)) := by
  have HX := Lib.hid hx
  clear hx
  have HS0 := Lib.hid (IU.nil w)
  go_enter Try.func103, Try.ntmps103
  go_wp2
  go_loopw [5, 8] (fun v i wr => ∃ k : Nat, k ≤ n ∧ i = .int .i64 k ∧ Hid (IU w v (selL (outB ring) k) wr)) (fun _ i _ => n - (intOf i).toNat)
  case atStart => exact ⟨0, by omega, rfl, HS0⟩
  case round =>
    clear HS0
    obtain ⟨k, hk, rfl, HI⟩ := hrel
    obtain ⟨Av, cv, rfl⟩ := HI.out.bi.form
    by_cases hlt : k < n
    · have HC := Lib.hid (ContainsI_any A m c ring (k : Int) wr (HX.out.keep (Keep.below HI.out.up)))
      have HML := Lib.hid (selL_len (outB ring) k)
      cases hm : ring.contains (k : Int)
      · rw [hm] at HC
        have HCS := Lib.hid (selL_yes (f := outB ring) (k := k) (by rw [outB, hm]; rfl))
        clear hm
        generalize selL (outB ring) k = ys at *
        go_wp2_with fail
        refine HC.out.mono ?_
        rintro e w2 ⟨rfl, rfl⟩
        have hb := below_alloc wr (.cells #[iv (k : Int)] 3)
        have HB4 := Lib.hid (HI.out.bi.below hb).own
        have HN := Lib.hid (cell_one_new wr (iv (k : Int)) 3)
        have hwz := HI.out.up.size
        clear hb
        obtain ⟨i0, hi0, hz0, hz1, hz2⟩ := info_parts Try.info_int
        go_wp2_with (at_builtin; refine wpList_append_own_at _ rfl _ _ 36 rfl w.heap.size 3 i0 (.int .i64 0) 1 8 Try.underlying36 hi0 hz0 hz1 hz2 rfl (by decide) _ (ys).length ((ys).map iv) rfl HB4.out ⟨wr.heap.size, 0, none⟩ 1 1 [iv (k : Int)] rfl rfl ?c1 ?c2 ?c3 ?c4 ?c5 ?_)
        case c1 => exact HN.out
        case c2 => intro u hu; simp at hu; subst hu; rfl
        case c3 => have := HML.out; unfold maxLen; omega
        case c4 => have := HML.out; omega
        case c5 => simp; omega
        intro v' w5 hown' hgrow _ hat
        have HU5 := Lib.hid (HI.out.push hown' hgrow (by simpa using hat))
        clear HB4 HN hown' hgrow hat
        clear HI HC
        go_wp2
        go_roundw
        case rel => exact ⟨k + 1, by omega, by go_num, Lib.hid (by rw [HCS.out]; exact HU5.out)⟩
        case measure => simp [intOf]; omega
      · rw [hm] at HC
        have HCS := Lib.hid (selL_no (f := outB ring) (k := k) (by rw [outB, hm]; rfl))
        clear hm
        go_wp2_with fail
        refine HC.out.mono ?_
        rintro e w2 ⟨rfl, rfl⟩
        clear HC
        go_wp2
        go_roundw
        case rel => exact ⟨k + 1, by omega, by go_num, Lib.hid (by rw [HCS.out]; exact HI.out)⟩
        case measure => simp [intOf]; omega
    · obtain rfl : k = n := by omega
      have HNW := Lib.hid (HI.out.new (by have := selL_len (outB ring) k; omega) (selL_small _ k hn))
      go_wp2
      go_ret
      exact HNW.out
def cbL (a : List (List Int)) (paid : List Int) (xs ys : List Int) : List Int := xs.flatMap fun s => ys.map fun t => g2 a s.toNat t.toNat - gi paid s.toNat
def cbR (a : List (List Int)) (paid : List Int) (s : Int) (ys : List Int) : List Int := ys.map fun t => g2 a s.toNat t.toNat - gi paid s.toNat
theorem cbL_take (a : List (List Int)) (paid xs ys : List Int) {i : Nat} (h : i < xs.length) : cbL a paid (xs.take (i + 1)) ys = cbL a paid (xs.take i) ys ++ cbR a paid (gi xs i) ys := by
  rw [cbL, cbL, List.take_add_one, List.flatMap_append, List.getElem?_eq_getElem h, gi_get h]; simp [cbR]
theorem cbR_take (a : List (List Int)) (paid : List Int) (s : Int) (ys : List Int) {j : Nat} (h : j < ys.length) : cbR a paid s (ys.take (j + 1)) = cbR a paid s (ys.take j) ++ [g2 a s.toNat (gi ys j).toNat - gi paid s.toNat] := by
  rw [cbR, cbR, List.take_add_one, List.map_append, List.getElem?_eq_getElem h, gi_get h]; rfl
theorem cbR_len (a : List (List Int)) (paid : List Int) (s : Int) (ys : List Int) : (cbR a paid s ys).length = ys.length := by simp [cbR]
theorem cbL_len (a : List (List Int)) (paid ys : List Int) : ∀ xs : List Int, (cbL a paid xs ys).length = xs.length * ys.length
  | [] => by simp [cbL]
  | x :: xs => by
    have h := cbL_len a paid ys xs
    rw [cbL] at h ⊢
    rw [List.flatMap_cons, List.length_append, h, List.length_map, List.length_cons, Nat.succ_mul]; omega
/-- Numbers of states. -/
def StL (n : Nat) (xs : List Int) : Prop := ∀ x ∈ xs, 0 ≤ x ∧ x < n
set_option maxRecDepth 100000 in
set_option maxHeartbeats 3200000 in
theorem costBetween_any (A1 A2 A P : Option Addr) (n1 c1 n2 c2 n c cp : Nat) (xs ys paid : List Int) (a : List (List Int)) (w : World) (h1 : Ints w A1 n1 c1 xs) (h2 : Ints w A2 n2 c2 ys) (hx : IntRows w A n c a) (hp : Ints w P n cp paid)
    (hs : SqB a n 100000) (hpb : ∀ i, i < n → -100000 ≤ gi paid i ∧ gi paid i ≤ 100000) (s1 : StL n xs) (s2 : StL n ys) (l1 : 0 < n1) (l2 : 0 < n2) (m1 : n1 ≤ 4) (m2 : n2 ≤ 4) (h4 : n ≤ 4) :
    Calls Try.prog 127 #[.slice A1 n1 c1, .slice A2 n2 c2, .slice A n c, .slice P n cp] w (Ret (.int .i64 (lst (cbL a paid xs ys))) w) := by
  have H1 := Lib.hid h1
  have H2 := Lib.hid h2
  have HX := Lib.hid hx
  have HP := Lib.hid hp
  have HS := Lib.hid hs
  have HPB := Lib.hid hpb
  have S1 := Lib.hid s1
  have S2 := Lib.hid s2
  have L1 := Lib.hid h1.len
  have L2 := Lib.hid h2.len
  clear h1 h2 hx hp hs hpb s1 s2
  obtain ⟨i0, hi0, hz0, hz1, hz2⟩ := info_parts Try.info_int
  have HU0 := Lib.hid (IU.nil w)
  go_enter Try.func127, Try.ntmps127
  go_wp2
  go_loopw [9, 16] (fun v i wr => ∃ k : Nat, k ≤ n1 ∧ i = .int .i64 k ∧ Hid (IU w v (cbL a paid (xs.take k) ys) wr)) (fun _ i _ => n1 - (intOf i).toNat)
  case atStart => exact ⟨0, Nat.zero_le _, rfl, HU0⟩
  case round =>
    clear HU0
    obtain ⟨k, hk, rfl, HU⟩ := hrel
    obtain ⟨Av, cv, hform⟩ := HU.out.bi.form
    by_cases hlt : k < n1
    · obtain ⟨b1, o1, rfl, hc1⟩ := (H1.out.keep (Keep.below HU.out.up)).at_ (by omega)
      have e1 := hc1 k hlt
      have HT := Lib.hid (cbL_take a paid xs ys (i := k) (by rw [L1.out]; exact hlt))
      have hsk := S1.out _ (gi_mem (show k < xs.length by rw [L1.out]; exact hlt))
      have HLC := Lib.hid (show (cbL a paid (xs.take k) ys).length ≤ 16 by
        rw [cbL_len, List.length_take, L2.out]
        exact Nat.le_trans (Nat.mul_le_mul (Nat.le_trans (Nat.min_le_left _ _) (by omega)) m2) (Nat.le_refl (4 * 4)))
      obtain ⟨s, hs⟩ : ∃ s : Nat, gi xs k = s := ⟨(gi xs k).toNat, by omega⟩
      rw [hs] at e1 HT hsk
      have hsn : s < n := by omega
      clear hc1 hs hsk
      generalize cbL a paid (xs.take k) ys = acc at *
      go_wp2
      clear e1
      go_loopw [9, 22] (fun v j wi => ∃ m : Nat, m ≤ n2 ∧ j = .int .i64 m ∧ Hid (IU w v (acc ++ cbR a paid s (ys.take m)) wi)) (fun _ j _ => n2 - (intOf j).toNat)
      case atStart => exact ⟨0, Nat.zero_le _, rfl, Lib.hid (by simpa [cbR] using HU.out)⟩
      case round =>
        clear HU hform
        obtain ⟨m, hm, rfl, HU⟩ := hrel
        obtain ⟨Av, cv, rfl⟩ := HU.out.bi.form
        by_cases hml : m < n2
        · obtain ⟨b2, o2, rfl, hc2⟩ := (H2.out.keep (Keep.below HU.out.up)).at_ (by omega)
          have e2 := hc2 m hml
          have HT2 := Lib.hid (cbR_take a paid s ys (j := m) (by rw [L2.out]; exact hml))
          have hsk := S2.out _ (gi_mem (show m < ys.length by rw [L2.out]; exact hml))
          obtain ⟨t, ht⟩ : ∃ t : Nat, gi ys m = t := ⟨(gi ys m).toNat, by omega⟩
          rw [ht] at e2 HT2 hsk
          simp only [Int.toNat_natCast] at HT2
          have htn : t < n := by omega
          have HLA := Lib.hid (show (acc ++ cbR a paid s (ys.take m)).length ≤ 20 by rw [List.length_append, cbR_len, List.length_take]; have := HLC.out; omega)
          obtain ⟨bA, oA, rfl, hcA⟩ := HX.out.at_ (by omega)
          obtain ⟨R, cc, a1, hR⟩ := hcA s hsn
          rw [HS.out.row s hsn] at a1 hR
          obtain ⟨bR, oR, rfl, hcR⟩ := hR.at_ (by omega)
          have a2 := hcR t htn
          obtain ⟨bP, oP, rfl, hcP⟩ := HP.out.at_ (by omega)
          have a3 := hcP s hsn
          have b1 := HS.out.bd s t hsn htn
          have b2_ := HPB.out s hsn
          have HG : Hid (g2 a s t = gi (gr a s) t) := Lib.hid rfl
          rw [HG.out] at b1 HT2
          have hwz := HU.out.up.size
          clear hc2 hcA hcR hcP hR ht hsk
          generalize gi (gr a s) t = x at *
          generalize gi paid s = y at *
          have HKA := Lib.hid (And.intro a1 (And.intro a2 a3))
          have r1 := Keep.below HU.out.up _ _ a1
          have r2 := Keep.below HU.out.up _ _ a2
          have r3 := Keep.below HU.out.up _ _ a3
          clear a1 a2 a3
          generalize hpart : cbR a paid s (ys.take m) = part at *
          clear hpart
          generalize hac : acc ++ part = ac2 at *
          have HAC := Lib.hid hac
          clear hac
          go_wp2
          have HW : Hid (IntKind.i64.wrap (x - y) = x - y) := Lib.hid (wrap_in64 (by omega))
          go_region_held3 (fun W => W.cell? ⟨bA, oA + s, none⟩ = some (.slice (some ⟨bR, oR, none⟩) n cc) ∧ W.cell? ⟨bR, oR + t, none⟩ = some (.int .i64 x) ∧ W.cell? ⟨bP, oP + s, none⟩ = some (.int .i64 y))
            (first | go_keep | exact HKK.out)
            ((refine step_append_lies _ (by rfl) _ _ _ (by rfl) w.heap.size 3 i0 _ 1 8 Try.underlying36 hi0 hz0 hz1 hz2 rfl (by omega) (.slice Av ac2.length cv) ac2.length (ac2.map iv) (by rfl) ((HU.out.bi.own.alloc _).drew) ⟨wr.heap.size, 0, none⟩ 1 1 [iv (IntKind.i64.wrap (x - y))] (by rfl) (by rfl) (World.news_of_block (w := (wr.alloc (.cells #[iv (IntKind.i64.wrap (x - y))] 3)).drew) (cs := #[iv (IntKind.i64.wrap (x - y))]) (t := 3) (fr := (0, 0)) (heap_alloc_new wr _)) (by simp [Value.oneCell', iv]) (by omega) (by have := HLA.out; unfold maxLen; omega) (by have := HLA.out; omega) (by simp; omega) (wr.heap.size + 1) (by simp) ?_; intro gg cap w1 hown1 hgrow hat hlt1; rw [HW.out] at hown1; have HU2 := Lib.hid (HU.out.push2 ((below_alloc wr _).drew) hown1 hgrow hlt1); have HKK := Lib.hid (And.intro (Keep.below HU2.out.up _ _ HKA.out.1) (And.intro (Keep.below HU2.out.up _ _ HKA.out.2.1) (Keep.below HU2.out.up _ _ HKA.out.2.2))); clear hown1 hgrow hat hlt1 HU))
          clear r1 r2 r3
          go_wp2
          go_roundw
          case rel => exact ⟨m + 1, by omega, by go_num, Lib.hid (by rw [HT2.out, ← List.append_assoc, HAC.out]; first | exact HU2.out | exact HU2.out.qu ⟨1, rfl⟩ | exact HU2.out.qu ⟨_, rfl⟩)⟩
          case measure => simp [intOf]; omega
        · obtain rfl : m = n2 := by omega
          have HE := Lib.hid (show acc ++ cbR a paid s (ys.take m) = cbL a paid (xs.take (k + 1)) ys by rw [HT.out, ← L2.out, List.take_length])
          go_wp2
          go_roundw
          case rel => exact ⟨k + 1, by omega, by go_num, Lib.hid (HU.out.cast HE.out)⟩
          case measure => simp [intOf]; omega
    · obtain rfl : k = n1 := by omega
      have HE := Lib.hid (show cbL a paid (xs.take k) ys = cbL a paid xs ys by rw [← L1.out, List.take_length])
      have hlen : (cbL a paid (xs.take k) ys).length = k * n2 := by rw [HE.out, cbL_len, L1.out, L2.out]
      have hpos : 0 < k * n2 := Nat.mul_pos l1 l2
      have hle : k * n2 ≤ 16 := Nat.le_trans (Nat.mul_le_mul m1 m2) (Nat.le_refl (4 * 4))
      rw [hform] at HU
      have HIN := Lib.hid (HU.out.ints (by omega) (fun y hy => by
        rw [HE.out, cbL, List.mem_flatMap] at hy
        obtain ⟨s, hs, hy⟩ := hy
        obtain ⟨t, ht, rfl⟩ := List.mem_map.1 hy
        have h1 := S1.out s hs
        have h2 := S2.out t ht
        have h3 := HS.out.bd s.toNat t.toNat (by omega) (by omega)
        have h4 := HPB.out s.toNat (by omega)
        omega))
      have HMC := Lib.hid (Min_any _ _ _ _ _ HIN.out (by omega))
      rw [HE.out] at HMC
      have HB3 := Lib.hid HU.out.up
      rw [hform, HE.out]
      clear HU HIN hlen hpos hle hform
      go_wp2_with fail
      refine HMC.out.mono ?_
      rintro e w3 ⟨rfl, hq⟩
      have HB4 := Lib.hid (below_quiet HB3.out hq)
      clear HMC hq HB3
      go_wp2
      go_ret
      exact ⟨rfl, HB4.out⟩
end Go.Proofs.Ytidoahicgiaodaa

/- A region that ends in one frame but for some slots, whatever the order: walked on once. -/
namespace Go.Proofs.Ytidoahicgiaodaa
open Go.RowKit

/-- A frame with other values in some slots. -/
def frmL (a : Act) : List Nat → List Value → Act
  | d :: ds, u :: us => frmL (a.put (some d) u) ds us
  | _, _ => a
/-- At the end of a region: the frame but for some slots, and F of these and of the world. -/
def PutQ (a : Act) (ds : List Nat) (F : List Value → World → Prop) : Exit → Act → World → Prop
  | .normal, b, v => ∃ us, b = frmL a ds us ∧ F us v
  | _, _, _ => False
theorem PutQ.mk {a b : Act} {ds : List Nat} {F : List Value → World → Prop} {v : World} (us : List Value) (h : b = frmL a ds us) (f : F us v) : PutQ a ds F .normal b v := ⟨us, h, f⟩
theorem region_put {P : Program} {c : Code} {Q : Exit → Act → World → Prop} {a : Act} {w : World} (ds : List Nat) (F : List Value → World → Prop) (h : c.wp P (PutQ a ds F) a w) (k : ∀ us v, F us v → Q .normal (frmL a ds us) v) : c.wp P Q a w :=
  Code.wp_mono (fun e b v h => by
    cases e <;> first | exact (h : False).elim | (obtain ⟨us, rfl, hf⟩ := (h : ∃ us, b = frmL a ds us ∧ F us v); exact k us v hf)) h
end Go.Proofs.Ytidoahicgiaodaa

/- A region that draws its order, by an invariant: each operation is run once, whatever has come up before it. -/
namespace Go.Proofs.Ytidoahicgiaodaa
open Go.RowKit

/-- Operation j has come up. -/
def On (L : Array Bool) (j : Nat) : Prop := L.getD j false = true
theorem On.of_set {L : Array Bool} {i j : Nat} (h : On (L.setIfInBounds i true) j) (hne : i ≠ j) : On L j := by
  unfold On at *; rwa [getD_set_ne false hne] at h
theorem On.old {L : Array Bool} {i j : Nat} (h : On L j) : On (L.setIfInBounds i true) j := by
  unfold On at *; exact getD_set_true h
theorem On.not_start {n j : Nat} (h : On (Array.replicate n false) j) : False := by
  unfold On at h
  rcases Nat.lt_or_ge j n with h' | h'
  · simp [h'] at h
  · simp [h'] at h
/-- What an operation waits for. -/
def waitsOn (ops : Array Oper) (i : Nat) : List Nat :=
  match ops[i]? with
  | some o => (o.after.toList.filter (Region.binds .any)).map (·.on)
  | none => []
def earlierB (ops : Array Oper) : Bool := (List.range ops.size).all fun i => (waitsOn ops i).all fun j => decide (j < i)
theorem mem_waits {ops : Array Oper} {i : Nat} {o : Oper} (ho : ops[i]? = some o) {e : Edge} (he : e ∈ o.after) (hb : Region.binds .any e = true) : e.on ∈ waitsOn ops i := by
  unfold waitsOn; rw [ho]; exact List.mem_map.2 ⟨e, List.mem_filter.2 ⟨by simpa using he, hb⟩, rfl⟩
theorem waits_mem {ops : Array Oper} {i j : Nat} {o : Oper} (ho : ops[i]? = some o) (h : j ∈ waitsOn ops i) : ∃ e ∈ o.after, Region.binds .any e = true ∧ e.on = j := by
  unfold waitsOn at h; rw [ho] at h
  obtain ⟨e, he, hj⟩ := List.mem_map.1 h
  obtain ⟨h1, h2⟩ := List.mem_filter.1 he
  exact ⟨e, by simpa using h1, h2, hj⟩

section
variable {P : Program} {ops : Array Oper} {Q : Exit → Act → World → Prop} {I : Array Bool → Act → World → Prop}
/-- The operation i, run in whatever state the invariant allows. -/
def StepI (P : Program) (ops : Array Oper) (Q : Exit → Act → World → Prop) (I : Array Bool → Act → World → Prop) (i : Nat) : Prop :=
  ∀ L a w, I L a w → ¬ On L i → On (L.setIfInBounds i true) i → (∀ j ∈ waitsOn ops i, On L j) → wpOp P ops Q i (fun a' w' => I (L.setIfInBounds i true) a' w') a w
def StepsI (P : Program) (ops : Array Oper) (Q : Exit → Act → World → Prop) (I : Array Bool → Act → World → Prop) (rs : List Nat) : Prop := ∀ i ∈ rs, StepI P ops Q I i
theorem StepsI.nil : StepsI P ops Q I [] := fun _ h => by cases h
theorem StepsI.cons {i : Nat} {o : Oper} {ws rs : List Nat} (ho : ops[i]? = some o) (hw : waitsOn ops i = ws)
    (h : ∀ L a w, I L a w → ¬ On L i → On (L.setIfInBounds i true) i → (∀ j ∈ ws, On L j) → ∀ K' : Act → World → Prop, Shut (∀ a w, I (L.setIfInBounds i true) a w → K' a w) → if Region.wanted o (yielded ops a.tmps) = true then Oper.wp P o a w K' Q else K' (a.put o.dst undef) w)
    (hs : StepsI P ops Q I rs) : StepsI P ops Q I (i :: rs) := fun j hj => by
  rcases List.mem_cons.1 hj with rfl | hj
  · intro L a w hI hn hi hL
    rw [hw] at hL
    exact wpOp_step ho (fun K' hK => h L a w hI hn hi hL K' hK)
  · exact hs j hj

theorem wpAny_inv (hs : ∀ i, i < ops.size → StepI P ops Q I i) (he : earlierB ops = true) (hend : ∀ L a w, (∀ i, i < ops.size → On L i) → I L a w → Q .normal a w) :
    ∀ (fuel : Nat) (L : Array Bool) (a : Act) (w : World), L.size = ops.size → L.toList.countP (fun b => !b) ≤ fuel → I L a w → wpAny P .any ops Q fuel L a w := by
  have hall : ∀ L : Array Bool, L.size = ops.size → Region.ready .any ops L = [] → ∀ i, i < ops.size → On L i := by
    intro L hL hr i
    induction i using Nat.strongRecOn with
    | _ i ih =>
      intro hi
      apply Classical.byContradiction
      intro hn
      have ho : ops[i]? = some ops[i] := Array.getElem?_eq_getElem hi
      have hmem : i ∈ Region.ready .any ops L := by
        rw [mem_ready]
        refine ⟨?_, ops[i], ho, fun e hee hb => ?_⟩
        · have hiL : i < L.size := by omega
          unfold On at hn
          simp only [Array.getD_eq_getD_getElem?, Array.getElem?_eq_getElem hiL, Option.getD_some] at hn ⊢
          cases hx : L[i] with
          | true => exact absurd hx hn
          | false => rfl
        · have hm := mem_waits ho hee hb
          have hlt : e.on < i := by
            unfold earlierB at he
            have h1 := List.all_eq_true.1 he i (List.mem_range.2 hi)
            have h2 := List.all_eq_true.1 h1 _ hm
            simpa using h2
          exact ih e.on hlt (by omega)
      rw [hr] at hmem
      cases hmem
  intro fuel
  induction fuel with
  | zero =>
    intro L a w hL hc hI
    have hon : ∀ i, i < ops.size → On L i := fun i hi => by
      have hiL : i < L.size := by omega
      have h0 : L.toList.countP (fun b => !b) = 0 := by omega
      rw [List.countP_eq_zero] at h0
      have := h0 L[i] (by simp)
      unfold On
      simp only [Array.getD_eq_getD_getElem?, Array.getElem?_eq_getElem hiL, Option.getD_some]
      simpa using this
    refine ⟨?_, hend L a w hon hI⟩
    cases hr : Region.ready .any ops L with
    | nil => rfl
    | cons i rs =>
      have hi : i ∈ Region.ready .any ops L := by rw [hr]; simp
      obtain ⟨h0, o, ho, _⟩ := mem_ready.1 hi
      have hlt : i < ops.size := (Array.getElem?_eq_some_iff.1 ho).1
      have h1 := hon i hlt
      have hiL : i < L.size := by omega
      unfold On at h1
      simp only [Array.getD_eq_getD_getElem?, Array.getElem?_eq_getElem hiL, Option.getD_some] at h0 h1
      rw [h0] at h1; cases h1
  | succ fuel ih =>
    intro L a w hL hc hI
    refine ⟨fun hr => hend L a w (hall L hL hr) hI, fun i hi => ?_⟩
    obtain ⟨h0, o, ho, hw⟩ := mem_ready.1 hi
    have hlt : i < ops.size := (Array.getElem?_eq_some_iff.1 ho).1
    have hiL : i < L.size := by omega
    refine wpOp_mono (fun a' w' h => ih _ a' w' (by simpa using hL) ?_ h) (hs i hlt L a w hI ?_ ?_ (fun j hj => ?_))
    · have hb : L[i] = false := by simpa [Array.getD_eq_getD_getElem?, Array.getElem?_eq_getElem hiL] using h0
      rw [Array.toList_setIfInBounds, List.countP_set (by simpa using hiL)]
      have h1 : 0 < L.toList.countP (fun b => !b) := List.countP_pos_iff.2 ⟨L[i], by simp, by simp [hb]⟩
      have h2 : (if (!L.toList[i]'(by simpa using hiL)) = true then 1 else 0) = 1 := by simp [hb]
      have h3 : (if (!true) = true then 1 else 0) = 0 := by simp
      rw [h2, h3]
      omega
    · unfold On
      simp only [Array.getD_eq_getD_getElem?, Array.getElem?_eq_getElem hiL, Option.getD_some] at h0 ⊢
      rw [h0]; decide
    · unfold On
      simp [hiL]
    · obtain ⟨e, he1, he2, rfl⟩ := waits_mem ho hj
      exact hw e he1 he2

theorem wp_region_inv {id : Nat} {a : Act} {w : World} {rs : List Nat} (I : Array Bool → Act → World → Prop) (hm : P.follows .mixedOrders = true) (h0 : I (Array.replicate ops.size false) a w.drew)
    (hr : List.range ops.size = rs) (he : earlierB ops = true) (hs : StepsI P ops Q I rs) (hend : ∀ L a w, (∀ i, i ∈ rs → On L i) → I L a w → Q .normal a w) : (Code.region id ops true).wp P Q a w :=
  wp_region_any hm (wpAny_inv (I := I) (fun i hi => hs i (by rw [← hr]; exact List.mem_range.2 hi)) he (fun L a w h => hend L a w (fun i hi => h i (by rw [← hr] at hi; exact List.mem_range.1 hi))) ops.size _ a _ (by simp)
    (by rw [Array.toList_replicate]; exact Nat.le_trans List.countP_le_length (by simp)) h0)
end
/-- A frame with other values in some slots, and what is known of these and of the world. -/
def FI (a0 : Act) (ds : List Nat) (J : Array Bool → List Value → World → Prop) (L : Array Bool) (a : Act) (w : World) : Prop := ∃ us, a = frmL a0 ds us ∧ J L us w
theorem wp_region_invF {P : Program} {ops : Array Oper} {Q : Exit → Act → World → Prop} {id : Nat} {a : Act} {w : World} {rs : List Nat} (ds : List Nat) (J : Array Bool → List Value → World → Prop) (hm : P.follows .mixedOrders = true)
    (h0 : ∃ us, a = frmL a ds us ∧ J (Array.replicate ops.size false) us w.drew)
    (hr : List.range ops.size = rs) (he : earlierB ops = true) (hs : StepsI P ops Q (FI a ds J) rs) (hend : ∀ L us w, (∀ i, i ∈ rs → On L i) → J L us w → Q .normal (frmL a ds us) w) : (Code.region id ops true).wp P Q a w :=
  wp_region_inv (FI a ds J) hm h0 hr he hs (fun L a' w h ⟨us, e, hJ⟩ => by subst e; exact hend L us w h hJ)
end Go.Proofs.Ytidoahicgiaodaa

/- Groups of states, and the costs between them, by the program. -/
namespace Go.Proofs.Ytidoahicgiaodaa
open Go.RowKit

theorem one_own (w : World) (x : Int) (hx : -9223372036854775808 ≤ x ∧ x ≤ 9223372036854775807) :
    OwnI w.heap.size (w.alloc (.cells #[.int .i64 x] 3)).heap.size (w.alloc (.cells #[.int .i64 x] 3)) w.heap.size (some ⟨w.heap.size, 0, none⟩) 1 1 [x] := by
  have hb := blk_new w 3 #[.int .i64 x]
  refine ⟨⟨rfl, Nat.le_refl _, by omega, ?_, fun _ => ⟨_, 0, rfl, fun k hk => ?_⟩⟩, fun _ => ⟨0, rfl, Nat.le_refl _, by simp, fun k _ => blk_frozen hb _⟩⟩
  · intro z hz; simp at hz; subst hz; exact hx
  · rw [Nat.zero_add]
    obtain rfl : k = 0 := by omega
    exact blk_cell hb rfl
/-- A row that is read, appended to rows of their own. -/
theorem TM.pushI {wb wr w6 : World} {v v' : Value} {vs : List Value} {acc : List (List Int)} {R : Option Addr} {p c : Nat} {r : List Int} (h : TM wb v vs acc wr) (hr : Ints wr R p c r) (hR : ∀ b o, R = some ⟨b, o, none⟩ → b < wb.heap.size)
    (hown : w6.ownsRow wb.heap.size 36 1 v' (acc.length + 1) (vs ++ [.slice R p c])) (hgrow : (wr.alloc (.cells #[.slice R p c] 36)).grownBy w6 v.ownBlock) (hn : acc.length ≤ 100) :
    ∃ A cc, v' = .slice A (acc ++ [r]).length cc ∧ IntRows w6 A (acc ++ [r]).length cc (acc ++ [r]) ∧ Below wb.heap.size wb w6 := by
  have hz := h.up.size
  have hv : ∀ k, v.ownBlock = some k → wb.heap.size ≤ k := fun k hk => (h.bo.own.lt k hk).1
  have keep : ∀ b, v.ownBlock ≠ some b → b < wr.heap.size → w6.heap[b]? = wr.heap[b]? := fun b h1 h2 => (hgrow.block b (by simp; omega) (fun e => h1 e.symm)).trans (Below.heap_alloc _ _ _ h2)
  have hl := hr.len
  obtain ⟨h1, h4, G, RR, CC, h2, h3⟩ := h.bo
  rcases hown.2 with ⟨rfl, h0⟩ | ⟨g, cap, cur, rfl, hbg, hg, hnc, hcm, hcs, htake⟩
  · omega
  · rw [Nat.mul_one] at htake hcs
    refine ⟨some ⟨g, 0, none⟩, cap, by rw [List.length_append]; rfl, ⟨rfl, by rw [List.length_append]; exact hnc, by rw [List.length_append]; simp; omega, fun _ => ⟨g, 0, rfl, fun k hk => ?_⟩⟩, ?_⟩
    · rw [List.length_append, List.length_singleton] at hk
      have hcell : w6.cell? ⟨g, 0 + k, none⟩ = (vs ++ [.slice R p c])[k]? := by
        rw [Nat.zero_add]
        simp only [World.cell?, hg]
        have : (vs ++ [.slice R p c])[k]? = cur[k]? := by rw [← htake, List.getElem?_take_of_lt (by omega)]; simp
        exact this.symm
      by_cases hk2 : k < acc.length
      · obtain ⟨a1, a2, a3⟩ := h2 k hk2
        have hvk : k < vs.length := by have := h1.1; omega
        rw [List.getElem?_append_left hvk, a1] at hcell
        rw [gr_snoc_lt hk2]
        exact ⟨RR k, CC k, hcell, (a2.of_block fun hp => keep _ (a3 hp) (a2.lt hp)).ints⟩
      · obtain rfl : k = acc.length := by omega
        have hvl : vs.length = acc.length := by have := h1.1; omega
        rw [← hvl, List.getElem?_concat_length] at hcell
        rw [gr_snoc_eq, ← hvl, hl]
        refine ⟨R, c, hcell, ⟨hr.len, hr.cap, hr.max, hr.wf, fun hp => ?_⟩⟩
        obtain ⟨b, o, e, hc⟩ := hr.at_ hp
        refine ⟨b, o, e, fun i hi => ?_⟩
        have hb := World.block_lt_of_cell? _ _ (hc i hi)
        rw [World.cell?_of_block (w := wr) (keep b (fun e2 => by have := hv b e2; have := hR b o e; omega) hb)]
        exact hc i hi
    · exact ⟨hgrow.os.trans h.up.os, hgrow.tape.trans h.up.tape, hgrow.output.trans h.up.output, Nat.le_trans hz (Nat.le_trans (by simp) hgrow.size), fun k hk => (keep k (fun e => by have := hv k e; omega) (by omega)).trans (h.up.block k hk)⟩
def grpL (oth ring : List Int) : List (List Int) := oth.map (fun s => [s]) ++ [ring]

set_option maxRecDepth 100000 in
set_option maxHeartbeats 1600000 in
theorem groupsOf_any (A1 A2 : Option Addr) (n1 c1 n2 c2 : Nat) (xs ys : List Int) (w : World) (h1 : Ints w A1 n1 c1 xs) (h2 : Ints w A2 n2 c2 ys) (hn : n1 ≤ 20) (h0 : 0 < n2) (hxs : ∀ x ∈ xs, 0 ≤ x ∧ x ≤ 100) :
    Calls Try.prog 105 #[.slice A1 n1 c1, .slice A2 n2 c2] w (KeptR w (grpL xs ys)) := by
  have H1 := Lib.hid h1
  have H2 := Lib.hid h2
  have L1 := Lib.hid h1.len
  have HB := Lib.hid hxs
  clear h1 h2 hxs
  have HT0 := Lib.hid (TM.mk (wb := w) (v := .slice none 0 0) (vs := []) (xss := []) (Bld.nil _ _ _) (Below.refl _ _))
  go_enter Try.func105, Try.ntmps105
  go_wp2
  go_loopw [5, 10] (fun v i wr => ∃ (k : Nat) (vs : List Value), k ≤ n1 ∧ i = .int .i64 k ∧ Hid (TM w v vs ((xs.take k).map fun s => [s]) wr)) (fun _ i _ => n1 - (intOf i).toNat)
  case atStart => exact ⟨0, [], Nat.zero_le _, rfl, HT0⟩
  case round =>
    clear HT0
    obtain ⟨k, vs, hk, rfl, HT⟩ := hrel
    obtain ⟨Av, cv, rfl⟩ := HT.out.bo.form
    have HLA := Lib.hid (show ((xs.take k).map fun s => [s]).length ≤ 20 by rw [List.length_map, List.length_take]; omega)
    by_cases hlt : k < n1
    · obtain ⟨b, o, rfl, hc⟩ := (H1.out.keep (Keep.below HT.out.up)).at_ (by omega)
      have e1 := hc k hlt
      have hx := HB.out _ (gi_mem (show k < xs.length by rw [L1.out]; exact hlt))
      have HS := Lib.hid (show (xs.take (k + 1)).map (fun s => [s]) = (xs.take k).map (fun s => [s]) ++ [[gi xs k]] by
        have hk' : k < xs.length := by rw [L1.out]; exact hlt
        rw [List.take_add_one, List.map_append, List.getElem?_eq_getElem hk', gi_get hk']; rfl)
      clear hc
      generalize gi xs k = x at *
      generalize hac : (xs.take k).map (fun s => [s]) = acc at *
      clear hac
      have hb3 := below_alloc wr (.cells #[.int .i64 x] 3)
      have HB4 := Lib.hid ((HT.out.next hb3).bo.below (below_alloc _ (.cells #[.slice (some ⟨wr.heap.size, 0, none⟩) 1 1] 36))).own
      have HN := Lib.hid (cell_one_new (wr.alloc (.cells #[.int .i64 x] 3)) (.slice (some ⟨wr.heap.size, 0, none⟩) 1 1) 36)
      have HPO := Lib.hid (one_own wr x (by omega))
      have HB3 := Lib.hid hb3
      have hlh : w.heap.size ≤ wr.heap.size := HT.out.up.size
      clear hb3
      obtain ⟨i0, hi0, hz0, hz1, hz2⟩ := info_parts Try.info_row
      go_wp2_with (at_builtin; refine wpList_append_own_at _ rfl _ _ 22 rfl w.heap.size 36 i0 (.slice none 0 0) 1 24 Try.underlying22 hi0 hz0 hz1 hz2 rfl (by decide) _ acc.length vs rfl HB4.out ⟨wr.heap.size + 1, 0, none⟩ 1 1 [.slice (some ⟨wr.heap.size, 0, none⟩) 1 1] rfl rfl ?c1 ?c2 ?c3 ?c4 ?c5 ?_)
      case c1 => have h := HN.out; rw [World.size_alloc] at h; exact h
      case c2 => intro u hu; simp at hu; subst hu; rfl
      case c3 => have := HLA.out; unfold maxLen; omega
      case c4 => have := HLA.out; omega
      case c5 => simp; omega
      intro v' w5 hown' hgrow _ hat
      have HT5 := Lib.hid (HT.out.push (r := [x]) HB3.out HPO.out hown' hgrow (by simpa using hat))
      clear HB4 HN HPO hown' hgrow hat HT e1
      go_wp2
      go_roundw
      case rel => exact ⟨k + 1, _, by omega, by go_num, Lib.hid (by rw [HS.out]; exact HT5.out)⟩
      case measure => simp [intOf]; omega
    · obtain rfl : k = n1 := by omega
      have HE := Lib.hid (show (xs.take k).map (fun s => [s]) ++ [ys] = grpL xs ys by unfold grpL; rw [show xs.take k = xs from by rw [← L1.out]; exact List.take_length])
      have HI2 := Lib.hid (H2.out.keep (Keep.below HT.out.up))
      have HRB : Hid (∀ b o, A2 = some ⟨b, o, none⟩ → b < w.heap.size) := Lib.hid (fun b o e => by
        obtain ⟨b', o', e', hc⟩ := H2.out.at_ h0
        rw [e] at e'
        injection e' with e'
        injection e' with e1 _ _
        rw [e1]
        exact World.block_lt_of_cell? _ _ (hc 0 h0))
      generalize hac : (xs.take k).map (fun s => [s]) = acc at *
      clear hac
      have HB4 := Lib.hid (HT.out.bo.below (below_alloc _ (.cells #[.slice A2 n2 c2] 36))).own
      have HN := Lib.hid (cell_one_new wr (.slice A2 n2 c2) 36)
      have hlh : w.heap.size ≤ wr.heap.size := HT.out.up.size
      obtain ⟨i0, hi0, hz0, hz1, hz2⟩ := info_parts Try.info_row
      go_wp2_with (at_builtin; refine wpList_append_own_at _ rfl _ _ 22 rfl w.heap.size 36 i0 (.slice none 0 0) 1 24 Try.underlying22 hi0 hz0 hz1 hz2 rfl (by decide) _ acc.length vs rfl HB4.out ⟨wr.heap.size, 0, none⟩ 1 1 [.slice A2 n2 c2] rfl rfl (by exact HN.out) ?d2 ?d3 ?d4 ?d5 ?_)
      case d2 => first | (intro u hu; simp at hu; subst hu; rfl) | rfl | simp [Value.oneCell']
      case d3 => have := HLA.out; unfold maxLen; omega
      case d4 => have := HLA.out; omega
      case d5 => first | omega | (simp; omega)
      intro v' w5 hown' hgrow _ hat
      obtain ⟨A6, c6, rfl, hrows, hb6⟩ := HT.out.pushI HI2.out HRB.out hown' hgrow (by have := HLA.out; omega)
      have HR6 := Lib.hid hrows
      have HB6 := Lib.hid hb6
      clear HB4 HN hown' hgrow hat HT hrows hb6
      go_wp2
      go_ret
      exact ⟨A6, c6, by rw [← HE.out]; first | rfl | simp, by have h := HR6.out; rw [HE.out] at h; exact h, HB6.out⟩
/-- The table between groups, under way: its rows' places, the rows that are done, the row that is begun. -/
structure CBw (w : World) (N k : Nat) (F0 : Nat → Value) (res : List (List Int)) (H : Nat) (ub v : Value) (ys : List Int) (W : World) : Prop where
  sp : W.rowIs w.heap.size 36 N (fun j => if j = k then ub else F0 j)
  rows : ∀ j, j < k → ∃ R C G, F0 j = .slice R (gr res j).length C ∧ OwnI (w.heap.size + 1) H W G R (gr res j).length C (gr res j)
  nil_ : ∀ j, k < j → F0 j = .slice none 0 0
  bi : BldI H W.heap.size W v ys
  lh : w.heap.size + 1 ≤ H
  hs : H ≤ W.heap.size
  up : Below w.heap.size w W
theorem CBw.spk {w N k F0 res H ub v ys W} (h : CBw w N k F0 res H ub v ys W) (hk : k < N) : W.cell? ⟨w.heap.size, k, none⟩ = some ub := by have := h.sp.cell hk; rw [if_pos rfl] at this; exact this
theorem rowIs_heap {w w' : World} {b n : Nat} {t : TypeId} {f : Nat → Value} (h : w.rowIs b t n f) (e : w'.heap[b]? = w.heap[b]?) : w'.rowIs b t n f := by
  obtain ⟨c, h1, h2, h3⟩ := h; exact ⟨c, e.trans h1, h2, h3⟩
theorem rowIs_lt {w : World} {b n : Nat} {t : TypeId} {f : Nat → Value} (h : w.rowIs b t n f) : b < w.heap.size := by
  obtain ⟨c, h1, _, _⟩ := h; exact (Array.getElem?_eq_some_iff.1 h1).1
theorem CBw.next {w N k F0 res H ub v ys W W'} (h : CBw w N k F0 res H ub v ys W) (q : Below W.heap.size W W') : CBw w N k F0 res H ub v ys W' :=
  ⟨rowIs_heap h.sp (q.block _ (rowIs_lt h.sp)), fun j hj => let ⟨R, C, G, e, ho⟩ := h.rows j hj; ⟨R, C, G, e, ho.below q⟩, h.nil_, (h.bi.below q).mono q.size, h.lh, Nat.le_trans h.hs q.size, below_up h.up q⟩
theorem CBw.push {w N k F0 res H ub v ys W W'} (h : CBw w N k F0 res H ub v ys W) {gg cap : Nat} {x : Int}
    (hown : W'.ownsRow H 3 1 (.slice (some ⟨gg, 0, none⟩) (ys.length + 1) cap) (ys.length + 1) (ys.map iv ++ [iv x])) (hg : W.grownBy W' v.ownBlock) (hlt : gg < W'.heap.size) :
    CBw w N k F0 res H ub (.slice (some ⟨gg, 0, none⟩) (ys.length + 1) cap) (ys ++ [x]) W' := by
  have hu : ∀ b, v.ownBlock = some b → H ≤ b := fun b hb => (h.bi.own.lt b hb).1
  have hlh := h.lh
  have hhs := h.hs
  have keep : ∀ b, b < H → W'.heap[b]? = W.heap[b]? := fun b h1 => hg.block b (by omega) (fun e => by have := hu b e.symm; omega)
  refine ⟨rowIs_heap h.sp (keep _ (by omega)), fun j hj => ?_, h.nil_, ⟨by rw [List.length_append, List.length_singleton, List.map_append]; exact hown, fun q hq => ?_⟩, h.lh, Nat.le_trans h.hs hg.size, ?_⟩
  · obtain ⟨R, C, G, e, ho⟩ := h.rows j hj
    exact ⟨R, C, G, e, ho.of_block fun hp => keep _ (by obtain ⟨_, _, _, a, _⟩ := ho.own hp; exact a)⟩
  · have : gg = q := by simpa [Value.ownBlock] using hq
    omega
  · exact ⟨hg.os.trans h.up.os, hg.tape.trans h.up.tape, hg.output.trans h.up.output, Nat.le_trans h.up.size hg.size, fun b hb => (keep b (by omega)).trans (h.up.block b hb)⟩
theorem CBw.store {w N k F0 res H ub v ys W} (h : CBw w N k F0 res H ub v ys W) (z : Value) : CBw w N k F0 res H z v ys (W.setCell ⟨w.heap.size, k, none⟩ z) := by
  have hlh := h.lh
  have keep : ∀ b, b ≠ w.heap.size → (W.setCell ⟨w.heap.size, k, none⟩ z).heap[b]? = W.heap[b]? := fun b hb => Below.heap_setCell _ _ _ _ hb
  refine ⟨(h.sp.set k z).congr fun j _ => ?_, fun j hj => ?_, h.nil_, ?_, h.lh, by simpa [World.setCell] using h.hs, h.up.setCell (p := ⟨w.heap.size, k, none⟩) (Nat.le_refl _) z⟩
  · by_cases e : j = k
    · simp [e]
    · simp [e]
  · obtain ⟨R, C, G, e, ho⟩ := h.rows j hj
    exact ⟨R, C, G, e, ho.of_block fun hp => keep _ (by obtain ⟨_, _, a, _, _⟩ := ho.own hp; omega)⟩
  · have := h.bi.of_blocks (w' := W.setCell ⟨w.heap.size, k, none⟩ z) (fun b h1 _ _ => keep b (by omega))
    rw [show (W.setCell ⟨w.heap.size, k, none⟩ z).heap.size = W.heap.size by simp [World.setCell]]
    exact this
theorem CBw.start (w : World) (N : Nat) : CBw w N 0 (fun _ => .slice none 0 0) [] (w.heap.size + 1) (.slice none 0 0) (.slice none 0 0) [] (w.alloc (.cells (madeCells #[.slice none 0 0] N) 36)) :=
  ⟨(World.rowIs_made w _ N 36).congr (fun j _ => by simp), fun j hj => absurd hj (by omega), fun _ _ => rfl, BldI.nil _ _ _, Nat.le_refl _, by simp, below_alloc _ _⟩
theorem CBw.row {w N k F0 res H v ys W} (h : CBw w N k F0 res H v v ys W) (hl : res.length = k) (hm : ys.length ≤ 100) (hb : ∀ y ∈ ys, -1000000000000 ≤ y ∧ y ≤ 1000000000000) :
    CBw w N (k + 1) (fun j => if j = k then v else F0 j) (res ++ [ys]) W.heap.size (.slice none 0 0) (.slice none 0 0) [] W := by
  have hlh := h.lh
  have hhs := h.hs
  refine ⟨h.sp.congr fun j _ => ?_, fun j hj => ?_, fun j hj => ?_, BldI.nil _ _ _, by omega, Nat.le_refl _, h.up⟩
  · by_cases e : j = k + 1
    · subst e
      rw [if_pos rfl, if_neg (by omega)]
      exact h.nil_ (k + 1) (by omega)
    · rw [if_neg e]
  · by_cases e : j = k
    · subst e
      obtain ⟨A, n, c, g, e1, e2, ho, _⟩ := h.bi.owns (by omega) (fun x hx => by have := hb x hx; omega)
      refine ⟨A, c, g, ?_, ?_⟩
      · rw [if_pos rfl, ← hl, gr_snoc_eq, e1, e2]
      · rw [← hl, gr_snoc_eq, ← e2]
        exact ho.mono (by omega) (Nat.le_refl _)
    · obtain ⟨R, C, G, e2, ho⟩ := h.rows j (by omega)
      rw [gr_snoc_lt (by omega)]
      exact ⟨R, C, G, by rw [if_neg e]; exact e2, ho.mono (Nat.le_refl _) hhs⟩
  · rw [if_neg (by omega)]; exact h.nil_ j (by omega)
theorem CBw.done {w N F0 res H ub v ys W} (h : CBw w N N F0 res H ub v ys W) (hl : res.length = N) (hn : N ≤ 100) : IntRows W (some ⟨w.heap.size, 0, none⟩) N N res :=
  ⟨hl, Nat.le_refl _, by omega, fun _ => ⟨_, 0, rfl, fun k hk => by
    obtain ⟨R, C, G, e, ho⟩ := h.rows k hk
    refine ⟨R, C, ?_, ho.ints⟩
    rw [Nat.zero_add, h.sp.cell hk, if_neg (by omega), e]⟩⟩
def cbM (a : List (List Int)) (paid : List Int) (gss : List (List Int)) (g1 : List Int) (m : Nat) : List Int := (gss.take m).map fun g2 => lst (cbL a paid g1 g2)
def cbT (a : List (List Int)) (paid : List Int) (gss : List (List Int)) (k : Nat) : List (List Int) := (gss.take k).map fun g1 => gss.map fun g2 => lst (cbL a paid g1 g2)
theorem cbM_succ (a : List (List Int)) (paid : List Int) (gss : List (List Int)) (g1 : List Int) {m : Nat} (h : m < gss.length) : cbM a paid gss g1 (m + 1) = cbM a paid gss g1 m ++ [lst (cbL a paid g1 (gr gss m))] := by
  rw [cbM, cbM, List.take_add_one, List.map_append, List.getElem?_eq_getElem h, gr_get h]; rfl
theorem cbT_succ (a : List (List Int)) (paid : List Int) (gss : List (List Int)) {k : Nat} (h : k < gss.length) : cbT a paid gss (k + 1) = cbT a paid gss k ++ [cbM a paid gss (gr gss k) gss.length] := by
  rw [cbT, cbT, cbM, List.take_add_one, List.map_append, List.getElem?_eq_getElem h, gr_get h, List.take_length]; rfl
theorem cbM_len (a : List (List Int)) (paid : List Int) (gss : List (List Int)) (g1 : List Int) (m : Nat) : (cbM a paid gss g1 m).length = min m gss.length := by rw [cbM, List.length_map, List.length_take]
theorem cbT_len (a : List (List Int)) (paid : List Int) (gss : List (List Int)) (k : Nat) : (cbT a paid gss k).length = min k gss.length := by rw [cbT, List.length_map, List.length_take]
theorem lst_bd {L : List Int} {lo hi : Int} (h0 : 0 < L.length) (h : ∀ y ∈ L, lo ≤ y ∧ y ≤ hi) : lo ≤ lst L ∧ lst L ≤ hi := by
  obtain ⟨j, hj, e⟩ := mn_at' L (L.length - 1)
  have := h _ (gi_mem (show j < L.length by omega))
  rw [e] at this; exact this
structure R8b (w0 w : World) (N ki H0 : Nat) (F0 : Nat → Value) (res : List (List Int)) (v0 : Value) (ys0 : List Int) (A1 A2 A P : Option Addr) (m1 c1 m2 c2 n c cp : Nat) (x : Int) (L : Array Bool) (u28 u29 u30 u31 u32 u33 u34 u35 u36 u37 u38 u39 u40 u41 : Value) (ub : Value) (uu : Value) (xx : List Int) (q39 : Nat) (Au : Option Addr) (nu : Nat) (cu : Nat) (W : World) : Prop where
  sm : CBw w0 N ki F0 res H0 ub uu xx W
  sz : w.heap.size ≤ W.heap.size
  hx : On L 12 ∨ (xx = ys0 ∧ ub = uu)
  h0 : On L 0 → u28 = .slice (some ⟨w0.heap.size, 0, none⟩) N N
  h1 : On L 1 → u29 = .int .i64 ki
  h2 : On L 2 → u30 = .slice (some ⟨w0.heap.size, 0, none⟩) N N
  h3 : On L 3 → u31 = .int .i64 ki
  h4 : On L 4 → u32 = .pointer (some ⟨w0.heap.size, ki, none⟩)
  h5 : On L 5 → On L 12 ∨ u33 = uu
  h6 : On L 6 → u34 = .slice A1 m1 c1
  h7 : On L 7 → u35 = .slice A2 m2 c2
  h8 : On L 8 → u36 = .slice A n c
  h9 : On L 9 → u37 = .slice P n cp
  h10 : On L 10 → u38 = .int .i64 x
  h11 : On L 11 → On L 10 ∧ (On L 12 ∨ (u39 = .slice (some ⟨q39, 0, none⟩) 1 1 ∧ Blk W q39 3 #[iv x]))
  h12 : On L 12 → On L 10 ∧ (u40 = uu ∧ xx = ys0 ++ [x])
  h13 : On L 13 → u41 = .pointer (some ⟨w0.heap.size, ki, none⟩)
  h14 : On L 14 → On L 12 ∧ ub = uu
  l12 : On L 12 → On L 5
  hf : On L 12 → uu = .slice Au nu cu
theorem R8b.up {w0 w N ki H0 F0 res v0 ys0 A1 A2 A P m1 c1 m2 c2 n c cp x L u28 u29 u30 u31 u32 u33 u34 u35 u36 u37 u38 u39 u40 u41 ub uu xx q39 Au nu cu W W'} (Hy : R8b w0 w N ki H0 F0 res v0 ys0 A1 A2 A P m1 c1 m2 c2 n c cp x L u28 u29 u30 u31 u32 u33 u34 u35 u36 u37 u38 u39 u40 u41 ub uu xx q39 Au nu cu W) (k : Below W.heap.size W W') : R8b w0 w N ki H0 F0 res v0 ys0 A1 A2 A P m1 c1 m2 c2 n c cp x L u28 u29 u30 u31 u32 u33 u34 u35 u36 u37 u38 u39 u40 u41 ub uu xx q39 Au nu cu W' :=
  ⟨Hy.sm.next k, Nat.le_trans Hy.sz k.size, Hy.hx, Hy.h0, Hy.h1, Hy.h2, Hy.h3, Hy.h4, Hy.h5, Hy.h6, Hy.h7, Hy.h8, Hy.h9, Hy.h10, fun o => let ⟨a, b⟩ := (Hy.h11 o); ⟨a, b.imp id (fun ⟨a, b⟩ => ⟨a, blk_below b k⟩)⟩, Hy.h12, Hy.h13, Hy.h14, Hy.l12, Hy.hf⟩

set_option maxRecDepth 100000 in
set_option maxHeartbeats 1600000 in
theorem costsBetween_any (G A P : Option Addr) (N cg n c cp : Nat) (gss : List (List Int)) (paid : List Int) (a : List (List Int)) (w : World) (hg : IntRows w G N cg gss) (hx : IntRows w A n c a) (hp : Ints w P n cp paid)
    (hs : SqB a n 100000) (hpb : ∀ i, i < n → -100000 ≤ gi paid i ∧ gi paid i ≤ 100000) (hgr : ∀ g ∈ gss, StL n g ∧ 0 < g.length ∧ g.length ≤ 4) (hN : N ≤ 4) (h4 : n ≤ 4) :
    Calls Try.prog 104 #[.slice G N cg, .slice A n c, .slice P n cp] w (KeptR w (cbT a paid gss N)) := by
  have HG := Lib.hid hg
  have HLG := Lib.hid hg.len
  have HX := Lib.hid hx
  have HP := Lib.hid hp
  have HS := Lib.hid hs
  have HPB := Lib.hid hpb
  have HGR := Lib.hid hgr
  clear hg hx hp hs hpb hgr
  obtain ⟨i0, hi0, hz0, hz1, hz2⟩ := info_parts Try.info_int
  have hmk := run_make_row' (P := Try.prog) 22 36 (.slice none 0 0) 24 Try.underlying22 Try.info36 rfl .i64 .i64 N (by omega) (by omega)
  have HC0 := Lib.hid (CBw.start w N)
  go_enter Try.func104, Try.ntmps104
  go_wp2
  clear hmk
  go_loopw [17] (fun i wr => ∃ (k : Nat) (F0 : Nat → Value) (H0 : Nat), k ≤ N ∧ i = .int .i64 k ∧ Hid (CBw w N k F0 (cbT a paid gss k) H0 (.slice none 0 0) (.slice none 0 0) [] wr)) (fun i _ => N - (intOf i).toNat)
  case atStart => exact ⟨0, _, _, Nat.zero_le _, rfl, HC0⟩
  case round =>
    clear HC0
    obtain ⟨k, F0, H0, hk, rfl, HC⟩ := hrel
    by_cases hkN : k < N
    · obtain ⟨bG, oG, rfl, hcG⟩ := (HG.out.keep (Keep.below HC.out.up)).at_ (by omega)
      obtain ⟨R1, cc1, e1, hI1⟩ := hcG k hkN
      have HGA := Lib.hid (HG.out.at_ (by omega))
      have HTS := Lib.hid (cbT_succ a paid gss (k := k) (by rw [HLG.out]; exact hkN))
      have HTL := Lib.hid (show (cbT a paid gss k).length = k by rw [cbT_len, HLG.out]; omega)
      obtain ⟨g1a, g1b, g1c⟩ := HGR.out _ (gr_mem (show k < gss.length by rw [HLG.out]; exact hkN))
      have HG1A := Lib.hid g1a
      have HI1 : Hid (∃ R cc, Ints w R (gr gss k).length cc (gr gss k) ∧ R1 = R ∧ cc1 = cc) := Lib.hid (by
        obtain ⟨b', o', e', hc'⟩ := HG.out.at_ (by omega)
        injection e' with e'
        injection e' with ea eb _
        subst ea
        subst eb
        obtain ⟨R, cc, f1, f2⟩ := hc' k hkN
        have f3 := Keep.below HC.out.up _ _ f1
        rw [e1] at f3
        injection f3 with f3
        injection f3 with f4 _ f5
        exact ⟨R, cc, f2, f4, f5⟩)
      obtain ⟨R, cc, hi1w, rfl, rfl⟩ := HI1.out
      have HI1W := Lib.hid hi1w
      clear hcG hI1 g1a HI1 hi1w
      generalize cbT a paid gss k = res at *
      generalize gr gss k = g1 at *
      go_wp2
      clear e1
      go_loopw [24] (fun i wr => ∃ (m : Nat) (v : Value), m ≤ N ∧ i = .int .i64 m ∧ Hid (CBw w N k F0 res H0 v v (cbM a paid gss g1 m) wr)) (fun i _ => N - (intOf i).toNat)
      case atStart => exact ⟨0, _, Nat.zero_le _, rfl, Lib.hid (by simpa [cbM] using HC.out)⟩
      case round =>
        clear HC
        obtain ⟨m, v, hm, rfl, HC⟩ := hrel
        by_cases hmN : m < N
        · obtain ⟨b', o', e', hcG⟩ := HG.out.at_ (by omega)
          injection e' with e'
          injection e' with ea eb _
          subst ea
          subst eb
          obtain ⟨R2, cc2, e2, hI2⟩ := hcG m hmN
          have e2r := Keep.below HC.out.up _ _ e2
          obtain ⟨g2a, g2b, g2c⟩ := HGR.out _ (gr_mem (show m < gss.length by rw [HLG.out]; exact hmN))
          have HMS := Lib.hid (cbM_succ a paid gss g1 (m := m) (by rw [HLG.out]; exact hmN))
          have HML := Lib.hid (cbM_len a paid gss g1 m)
          have hml : (cbM a paid gss g1 m).length ≤ 4 := by rw [HML.out, HLG.out]; omega
          generalize gr gss m = g2 at *
          have HCB : Hid (∀ W, Below w.heap.size w W → Calls Try.prog 127 #[.slice R1 g1.length cc1, .slice R2 g2.length cc2, .slice A n c, .slice P n cp] W (Ret (.int .i64 (lst (cbL a paid g1 g2))) W)) := Lib.hid (fun W hW =>
            costBetween_any R1 R2 A P g1.length cc1 g2.length cc2 n c cp g1 g2 paid a W (HI1W.out.keep (Keep.below hW)) (hI2.keep (Keep.below hW)) (HX.out.keep (Keep.below hW)) (HP.out.keep (Keep.below hW)) HS.out HPB.out HG1A.out g2a g1b g2b g1c g2c h4)
          clear hcG e2 hI2 g2a g2b g2c
          generalize lst (cbL a paid g1 g2) = x at *
          generalize cbM a paid gss g1 m = ys at *
          generalize hwr0 : wr = wr0 at *
          clear hwr0
          go_wp2
          clear e2r
          refine wp_region_invF (rs := [0, 1, 2, 3, 4, 5, 6, 7, 8, 9, 10, 11, 12, 13, 14]) [28, 29, 30, 31, 32, 33, 34, 35, 36, 37, 38, 39, 40, 41] (fun L us W => ∃ u28 u29 u30 u31 u32 u33 u34 u35 u36 u37 u38 u39 u40 u41 ub uu xx q39 Au nu cu, us = [u28, u29, u30, u31, u32, u33, u34, u35, u36, u37, u38, u39, u40, u41] ∧ R8b w wr0 N k H0 F0 res v ys R1 R2 A P g1.length cc1 g2.length cc2 n c cp x L u28 u29 u30 u31 u32 u33 u34 u35 u36 u37 u38 u39 u40 u41 ub uu xx q39 Au nu cu W) (by kernel_rfl) ?_ (by kernel_rfl) (by kernel_rfl) ?_ ?_
          · refine ⟨[u28, u29, u30, u31, u32, u33, u34, u35, u36, u37, u38, u39, u40, u41], ?_, u28, u29, u30, u31, u32, u33, u34, u35, u36, u37, u38, u39, u40, u41, v, v, ys, 0, none, 0, 0, rfl, ?_⟩
            · simp only [frmL, Act.put, List.setIfInBounds_toArray, List.set_cons_zero, List.set_cons_succ]
            exact ⟨HC.out.next (Quiet.below (B := wr0.heap.size) ⟨1, rfl⟩), Nat.le_refl _, .inr ⟨rfl, rfl⟩, fun o => o.not_start.elim, fun o => o.not_start.elim, fun o => o.not_start.elim, fun o => o.not_start.elim, fun o => o.not_start.elim, fun o => o.not_start.elim, fun o => o.not_start.elim, fun o => o.not_start.elim, fun o => o.not_start.elim, fun o => o.not_start.elim, fun o => o.not_start.elim, fun o => o.not_start.elim, fun o => o.not_start.elim, fun o => o.not_start.elim, fun o => o.not_start.elim, fun o => o.not_start.elim, fun o => o.not_start.elim⟩
          · refine StepsI.cons (i := 0) (ws := []) rfl (by kernel_rfl) (fun L a W hI hno hon hw K hK => ?_) ?_
            · obtain ⟨_, rfl, u28, u29, u30, u31, u32, u33, u34, u35, u36, u37, u38, u39, u40, u41, ub, uu, xx, q39, Au, nu, cu, rfl, H⟩ := hI
              simp only [List.getElem_toArray, List.getElem_cons_zero]
              simp only [frmL, Act.put, List.setIfInBounds_toArray, List.set_cons_zero, List.set_cons_succ]
              go_simp
              have HN := H
              refine hK.out _ _ ⟨[.slice (some ⟨w.heap.size, 0, none⟩) N N, u29, u30, u31, u32, u33, u34, u35, u36, u37, u38, u39, u40, u41], ?_, .slice (some ⟨w.heap.size, 0, none⟩) N N, u29, u30, u31, u32, u33, u34, u35, u36, u37, u38, u39, u40, u41, ub, uu, xx, q39, Au, nu, cu, rfl, ?_⟩
              · simp only [frmL, Act.put, List.setIfInBounds_toArray, List.set_cons_zero, List.set_cons_succ]
              · exact ⟨HN.sm, HN.sz, HN.hx.imp On.old id, fun _ => rfl, fun o => HN.h1 (o.of_set (by decide)), fun o => HN.h2 (o.of_set (by decide)), fun o => HN.h3 (o.of_set (by decide)), fun o => HN.h4 (o.of_set (by decide)), fun o => (HN.h5 (o.of_set (by decide))).imp On.old id, fun o => HN.h6 (o.of_set (by decide)), fun o => HN.h7 (o.of_set (by decide)), fun o => HN.h8 (o.of_set (by decide)), fun o => HN.h9 (o.of_set (by decide)), fun o => HN.h10 (o.of_set (by decide)), fun o => let ⟨a, b⟩ := HN.h11 (o.of_set (by decide)); ⟨a.old, b.imp On.old id⟩, fun o => (HN.h12 (o.of_set (by decide))).imp On.old id, fun o => HN.h13 (o.of_set (by decide)), fun o => (HN.h14 (o.of_set (by decide))).imp On.old id, fun o => (HN.l12 (o.of_set (by decide))).old, fun o => HN.hf (o.of_set (by decide))⟩
            refine StepsI.cons (i := 1) (ws := []) rfl (by kernel_rfl) (fun L a W hI hno hon hw K hK => ?_) ?_
            · obtain ⟨_, rfl, u28, u29, u30, u31, u32, u33, u34, u35, u36, u37, u38, u39, u40, u41, ub, uu, xx, q39, Au, nu, cu, rfl, H⟩ := hI
              simp only [List.getElem_toArray, List.getElem_cons_zero, List.getElem_cons_succ]
              simp only [frmL, Act.put, List.setIfInBounds_toArray, List.set_cons_zero, List.set_cons_succ]
              go_simp
              have HN := H
              refine hK.out _ _ ⟨[u28, .int .i64 k, u30, u31, u32, u33, u34, u35, u36, u37, u38, u39, u40, u41], ?_, u28, .int .i64 k, u30, u31, u32, u33, u34, u35, u36, u37, u38, u39, u40, u41, ub, uu, xx, q39, Au, nu, cu, rfl, ?_⟩
              · simp only [frmL, Act.put, List.setIfInBounds_toArray, List.set_cons_zero, List.set_cons_succ]
              · exact ⟨HN.sm, HN.sz, HN.hx.imp On.old id, fun o => HN.h0 (o.of_set (by decide)), fun _ => rfl, fun o => HN.h2 (o.of_set (by decide)), fun o => HN.h3 (o.of_set (by decide)), fun o => HN.h4 (o.of_set (by decide)), fun o => (HN.h5 (o.of_set (by decide))).imp On.old id, fun o => HN.h6 (o.of_set (by decide)), fun o => HN.h7 (o.of_set (by decide)), fun o => HN.h8 (o.of_set (by decide)), fun o => HN.h9 (o.of_set (by decide)), fun o => HN.h10 (o.of_set (by decide)), fun o => let ⟨a, b⟩ := HN.h11 (o.of_set (by decide)); ⟨a.old, b.imp On.old id⟩, fun o => (HN.h12 (o.of_set (by decide))).imp On.old id, fun o => HN.h13 (o.of_set (by decide)), fun o => (HN.h14 (o.of_set (by decide))).imp On.old id, fun o => (HN.l12 (o.of_set (by decide))).old, fun o => HN.hf (o.of_set (by decide))⟩
            refine StepsI.cons (i := 2) (ws := []) rfl (by kernel_rfl) (fun L a W hI hno hon hw K hK => ?_) ?_
            · obtain ⟨_, rfl, u28, u29, u30, u31, u32, u33, u34, u35, u36, u37, u38, u39, u40, u41, ub, uu, xx, q39, Au, nu, cu, rfl, H⟩ := hI
              simp only [List.getElem_toArray, List.getElem_cons_zero, List.getElem_cons_succ]
              simp only [frmL, Act.put, List.setIfInBounds_toArray, List.set_cons_zero, List.set_cons_succ]
              go_simp
              have HN := H
              refine hK.out _ _ ⟨[u28, u29, .slice (some ⟨w.heap.size, 0, none⟩) N N, u31, u32, u33, u34, u35, u36, u37, u38, u39, u40, u41], ?_, u28, u29, .slice (some ⟨w.heap.size, 0, none⟩) N N, u31, u32, u33, u34, u35, u36, u37, u38, u39, u40, u41, ub, uu, xx, q39, Au, nu, cu, rfl, ?_⟩
              · simp only [frmL, Act.put, List.setIfInBounds_toArray, List.set_cons_zero, List.set_cons_succ]
              · exact ⟨HN.sm, HN.sz, HN.hx.imp On.old id, fun o => HN.h0 (o.of_set (by decide)), fun o => HN.h1 (o.of_set (by decide)), fun _ => rfl, fun o => HN.h3 (o.of_set (by decide)), fun o => HN.h4 (o.of_set (by decide)), fun o => (HN.h5 (o.of_set (by decide))).imp On.old id, fun o => HN.h6 (o.of_set (by decide)), fun o => HN.h7 (o.of_set (by decide)), fun o => HN.h8 (o.of_set (by decide)), fun o => HN.h9 (o.of_set (by decide)), fun o => HN.h10 (o.of_set (by decide)), fun o => let ⟨a, b⟩ := HN.h11 (o.of_set (by decide)); ⟨a.old, b.imp On.old id⟩, fun o => (HN.h12 (o.of_set (by decide))).imp On.old id, fun o => HN.h13 (o.of_set (by decide)), fun o => (HN.h14 (o.of_set (by decide))).imp On.old id, fun o => (HN.l12 (o.of_set (by decide))).old, fun o => HN.hf (o.of_set (by decide))⟩
            refine StepsI.cons (i := 3) (ws := []) rfl (by kernel_rfl) (fun L a W hI hno hon hw K hK => ?_) ?_
            · obtain ⟨_, rfl, u28, u29, u30, u31, u32, u33, u34, u35, u36, u37, u38, u39, u40, u41, ub, uu, xx, q39, Au, nu, cu, rfl, H⟩ := hI
              simp only [List.getElem_toArray, List.getElem_cons_zero, List.getElem_cons_succ]
              simp only [frmL, Act.put, List.setIfInBounds_toArray, List.set_cons_zero, List.set_cons_succ]
              go_simp
              have HN := H
              refine hK.out _ _ ⟨[u28, u29, u30, .int .i64 k, u32, u33, u34, u35, u36, u37, u38, u39, u40, u41], ?_, u28, u29, u30, .int .i64 k, u32, u33, u34, u35, u36, u37, u38, u39, u40, u41, ub, uu, xx, q39, Au, nu, cu, rfl, ?_⟩
              · simp only [frmL, Act.put, List.setIfInBounds_toArray, List.set_cons_zero, List.set_cons_succ]
              · exact ⟨HN.sm, HN.sz, HN.hx.imp On.old id, fun o => HN.h0 (o.of_set (by decide)), fun o => HN.h1 (o.of_set (by decide)), fun o => HN.h2 (o.of_set (by decide)), fun _ => rfl, fun o => HN.h4 (o.of_set (by decide)), fun o => (HN.h5 (o.of_set (by decide))).imp On.old id, fun o => HN.h6 (o.of_set (by decide)), fun o => HN.h7 (o.of_set (by decide)), fun o => HN.h8 (o.of_set (by decide)), fun o => HN.h9 (o.of_set (by decide)), fun o => HN.h10 (o.of_set (by decide)), fun o => let ⟨a, b⟩ := HN.h11 (o.of_set (by decide)); ⟨a.old, b.imp On.old id⟩, fun o => (HN.h12 (o.of_set (by decide))).imp On.old id, fun o => HN.h13 (o.of_set (by decide)), fun o => (HN.h14 (o.of_set (by decide))).imp On.old id, fun o => (HN.l12 (o.of_set (by decide))).old, fun o => HN.hf (o.of_set (by decide))⟩
            refine StepsI.cons (i := 4) (ws := [2, 3]) rfl (by kernel_rfl) (fun L a W hI hno hon hw K hK => ?_) ?_
            · obtain ⟨_, rfl, u28, u29, u30, u31, u32, u33, u34, u35, u36, u37, u38, u39, u40, u41, ub, uu, xx, q39, Au, nu, cu, rfl, H⟩ := hI
              simp only [List.getElem_toArray, List.getElem_cons_zero, List.getElem_cons_succ]
              obtain rfl := H.h2 (hw 2 (by simp))
              obtain rfl := H.h3 (hw 3 (by simp))
              simp only [frmL, Act.put, List.setIfInBounds_toArray, List.set_cons_zero, List.set_cons_succ]
              go_simp
              have HN := H
              refine hK.out _ _ ⟨[u28, u29, .slice (some ⟨w.heap.size, 0, none⟩) N N, .int .i64 k, .pointer (some ⟨w.heap.size, k, none⟩), u33, u34, u35, u36, u37, u38, u39, u40, u41], ?_, u28, u29, .slice (some ⟨w.heap.size, 0, none⟩) N N, .int .i64 k, .pointer (some ⟨w.heap.size, k, none⟩), u33, u34, u35, u36, u37, u38, u39, u40, u41, ub, uu, xx, q39, Au, nu, cu, rfl, ?_⟩
              · simp only [frmL, Act.put, List.setIfInBounds_toArray, List.set_cons_zero, List.set_cons_succ]
              · exact ⟨HN.sm, HN.sz, HN.hx.imp On.old id, fun o => HN.h0 (o.of_set (by decide)), fun o => HN.h1 (o.of_set (by decide)), fun o => HN.h2 (o.of_set (by decide)), fun o => HN.h3 (o.of_set (by decide)), fun _ => rfl, fun o => (HN.h5 (o.of_set (by decide))).imp On.old id, fun o => HN.h6 (o.of_set (by decide)), fun o => HN.h7 (o.of_set (by decide)), fun o => HN.h8 (o.of_set (by decide)), fun o => HN.h9 (o.of_set (by decide)), fun o => HN.h10 (o.of_set (by decide)), fun o => let ⟨a, b⟩ := HN.h11 (o.of_set (by decide)); ⟨a.old, b.imp On.old id⟩, fun o => (HN.h12 (o.of_set (by decide))).imp On.old id, fun o => HN.h13 (o.of_set (by decide)), fun o => (HN.h14 (o.of_set (by decide))).imp On.old id, fun o => (HN.l12 (o.of_set (by decide))).old, fun o => HN.hf (o.of_set (by decide))⟩
            refine StepsI.cons (i := 5) (ws := [4]) rfl (by kernel_rfl) (fun L a W hI hno hon hw K hK => ?_) ?_
            · obtain ⟨_, rfl, u28, u29, u30, u31, u32, u33, u34, u35, u36, u37, u38, u39, u40, u41, ub, uu, xx, q39, Au, nu, cu, rfl, H⟩ := hI
              simp only [List.getElem_toArray, List.getElem_cons_zero, List.getElem_cons_succ]
              obtain rfl := H.h4 (hw 4 (by simp))
              have HUB := Lib.hid (H.hx.resolve_left (fun o => hno (H.l12 o))).2
              simp only [frmL, Act.put, List.setIfInBounds_toArray, List.set_cons_zero, List.set_cons_succ]
              have c0 := H.sm.spk hkN
              go_simp
              have HN := H
              refine hK.out _ _ ⟨[u28, u29, u30, u31, .pointer (some ⟨w.heap.size, k, none⟩), ub, u34, u35, u36, u37, u38, u39, u40, u41], ?_, u28, u29, u30, u31, .pointer (some ⟨w.heap.size, k, none⟩), ub, u34, u35, u36, u37, u38, u39, u40, u41, ub, uu, xx, q39, Au, nu, cu, rfl, ?_⟩
              · simp only [frmL, Act.put, List.setIfInBounds_toArray, List.set_cons_zero, List.set_cons_succ]
              · exact ⟨HN.sm, HN.sz, HN.hx.imp On.old id, fun o => HN.h0 (o.of_set (by decide)), fun o => HN.h1 (o.of_set (by decide)), fun o => HN.h2 (o.of_set (by decide)), fun o => HN.h3 (o.of_set (by decide)), fun o => HN.h4 (o.of_set (by decide)), fun _ => .inr HUB.out, fun o => HN.h6 (o.of_set (by decide)), fun o => HN.h7 (o.of_set (by decide)), fun o => HN.h8 (o.of_set (by decide)), fun o => HN.h9 (o.of_set (by decide)), fun o => HN.h10 (o.of_set (by decide)), fun o => let ⟨a, b⟩ := HN.h11 (o.of_set (by decide)); ⟨a.old, b.imp On.old id⟩, fun o => (HN.h12 (o.of_set (by decide))).imp On.old id, fun o => HN.h13 (o.of_set (by decide)), fun o => (HN.h14 (o.of_set (by decide))).imp On.old id, fun _ => hon, fun o => HN.hf (o.of_set (by decide))⟩
            refine StepsI.cons (i := 6) (ws := []) rfl (by kernel_rfl) (fun L a W hI hno hon hw K hK => ?_) ?_
            · obtain ⟨_, rfl, u28, u29, u30, u31, u32, u33, u34, u35, u36, u37, u38, u39, u40, u41, ub, uu, xx, q39, Au, nu, cu, rfl, H⟩ := hI
              simp only [List.getElem_toArray, List.getElem_cons_zero, List.getElem_cons_succ]
              simp only [frmL, Act.put, List.setIfInBounds_toArray, List.set_cons_zero, List.set_cons_succ]
              go_simp
              have HN := H
              refine hK.out _ _ ⟨[u28, u29, u30, u31, u32, u33, .slice R1 g1.length cc1, u35, u36, u37, u38, u39, u40, u41], ?_, u28, u29, u30, u31, u32, u33, .slice R1 g1.length cc1, u35, u36, u37, u38, u39, u40, u41, ub, uu, xx, q39, Au, nu, cu, rfl, ?_⟩
              · simp only [frmL, Act.put, List.setIfInBounds_toArray, List.set_cons_zero, List.set_cons_succ]
              · exact ⟨HN.sm, HN.sz, HN.hx.imp On.old id, fun o => HN.h0 (o.of_set (by decide)), fun o => HN.h1 (o.of_set (by decide)), fun o => HN.h2 (o.of_set (by decide)), fun o => HN.h3 (o.of_set (by decide)), fun o => HN.h4 (o.of_set (by decide)), fun o => (HN.h5 (o.of_set (by decide))).imp On.old id, fun _ => rfl, fun o => HN.h7 (o.of_set (by decide)), fun o => HN.h8 (o.of_set (by decide)), fun o => HN.h9 (o.of_set (by decide)), fun o => HN.h10 (o.of_set (by decide)), fun o => let ⟨a, b⟩ := HN.h11 (o.of_set (by decide)); ⟨a.old, b.imp On.old id⟩, fun o => (HN.h12 (o.of_set (by decide))).imp On.old id, fun o => HN.h13 (o.of_set (by decide)), fun o => (HN.h14 (o.of_set (by decide))).imp On.old id, fun o => (HN.l12 (o.of_set (by decide))).old, fun o => HN.hf (o.of_set (by decide))⟩
            refine StepsI.cons (i := 7) (ws := []) rfl (by kernel_rfl) (fun L a W hI hno hon hw K hK => ?_) ?_
            · obtain ⟨_, rfl, u28, u29, u30, u31, u32, u33, u34, u35, u36, u37, u38, u39, u40, u41, ub, uu, xx, q39, Au, nu, cu, rfl, H⟩ := hI
              simp only [List.getElem_toArray, List.getElem_cons_zero, List.getElem_cons_succ]
              simp only [frmL, Act.put, List.setIfInBounds_toArray, List.set_cons_zero, List.set_cons_succ]
              go_simp
              have HN := H
              refine hK.out _ _ ⟨[u28, u29, u30, u31, u32, u33, u34, .slice R2 g2.length cc2, u36, u37, u38, u39, u40, u41], ?_, u28, u29, u30, u31, u32, u33, u34, .slice R2 g2.length cc2, u36, u37, u38, u39, u40, u41, ub, uu, xx, q39, Au, nu, cu, rfl, ?_⟩
              · simp only [frmL, Act.put, List.setIfInBounds_toArray, List.set_cons_zero, List.set_cons_succ]
              · exact ⟨HN.sm, HN.sz, HN.hx.imp On.old id, fun o => HN.h0 (o.of_set (by decide)), fun o => HN.h1 (o.of_set (by decide)), fun o => HN.h2 (o.of_set (by decide)), fun o => HN.h3 (o.of_set (by decide)), fun o => HN.h4 (o.of_set (by decide)), fun o => (HN.h5 (o.of_set (by decide))).imp On.old id, fun o => HN.h6 (o.of_set (by decide)), fun _ => rfl, fun o => HN.h8 (o.of_set (by decide)), fun o => HN.h9 (o.of_set (by decide)), fun o => HN.h10 (o.of_set (by decide)), fun o => let ⟨a, b⟩ := HN.h11 (o.of_set (by decide)); ⟨a.old, b.imp On.old id⟩, fun o => (HN.h12 (o.of_set (by decide))).imp On.old id, fun o => HN.h13 (o.of_set (by decide)), fun o => (HN.h14 (o.of_set (by decide))).imp On.old id, fun o => (HN.l12 (o.of_set (by decide))).old, fun o => HN.hf (o.of_set (by decide))⟩
            refine StepsI.cons (i := 8) (ws := []) rfl (by kernel_rfl) (fun L a W hI hno hon hw K hK => ?_) ?_
            · obtain ⟨_, rfl, u28, u29, u30, u31, u32, u33, u34, u35, u36, u37, u38, u39, u40, u41, ub, uu, xx, q39, Au, nu, cu, rfl, H⟩ := hI
              simp only [List.getElem_toArray, List.getElem_cons_zero, List.getElem_cons_succ]
              simp only [frmL, Act.put, List.setIfInBounds_toArray, List.set_cons_zero, List.set_cons_succ]
              go_simp
              have HN := H
              refine hK.out _ _ ⟨[u28, u29, u30, u31, u32, u33, u34, u35, .slice A n c, u37, u38, u39, u40, u41], ?_, u28, u29, u30, u31, u32, u33, u34, u35, .slice A n c, u37, u38, u39, u40, u41, ub, uu, xx, q39, Au, nu, cu, rfl, ?_⟩
              · simp only [frmL, Act.put, List.setIfInBounds_toArray, List.set_cons_zero, List.set_cons_succ]
              · exact ⟨HN.sm, HN.sz, HN.hx.imp On.old id, fun o => HN.h0 (o.of_set (by decide)), fun o => HN.h1 (o.of_set (by decide)), fun o => HN.h2 (o.of_set (by decide)), fun o => HN.h3 (o.of_set (by decide)), fun o => HN.h4 (o.of_set (by decide)), fun o => (HN.h5 (o.of_set (by decide))).imp On.old id, fun o => HN.h6 (o.of_set (by decide)), fun o => HN.h7 (o.of_set (by decide)), fun _ => rfl, fun o => HN.h9 (o.of_set (by decide)), fun o => HN.h10 (o.of_set (by decide)), fun o => let ⟨a, b⟩ := HN.h11 (o.of_set (by decide)); ⟨a.old, b.imp On.old id⟩, fun o => (HN.h12 (o.of_set (by decide))).imp On.old id, fun o => HN.h13 (o.of_set (by decide)), fun o => (HN.h14 (o.of_set (by decide))).imp On.old id, fun o => (HN.l12 (o.of_set (by decide))).old, fun o => HN.hf (o.of_set (by decide))⟩
            refine StepsI.cons (i := 9) (ws := []) rfl (by kernel_rfl) (fun L a W hI hno hon hw K hK => ?_) ?_
            · obtain ⟨_, rfl, u28, u29, u30, u31, u32, u33, u34, u35, u36, u37, u38, u39, u40, u41, ub, uu, xx, q39, Au, nu, cu, rfl, H⟩ := hI
              simp only [List.getElem_toArray, List.getElem_cons_zero, List.getElem_cons_succ]
              simp only [frmL, Act.put, List.setIfInBounds_toArray, List.set_cons_zero, List.set_cons_succ]
              go_simp
              have HN := H
              refine hK.out _ _ ⟨[u28, u29, u30, u31, u32, u33, u34, u35, u36, .slice P n cp, u38, u39, u40, u41], ?_, u28, u29, u30, u31, u32, u33, u34, u35, u36, .slice P n cp, u38, u39, u40, u41, ub, uu, xx, q39, Au, nu, cu, rfl, ?_⟩
              · simp only [frmL, Act.put, List.setIfInBounds_toArray, List.set_cons_zero, List.set_cons_succ]
              · exact ⟨HN.sm, HN.sz, HN.hx.imp On.old id, fun o => HN.h0 (o.of_set (by decide)), fun o => HN.h1 (o.of_set (by decide)), fun o => HN.h2 (o.of_set (by decide)), fun o => HN.h3 (o.of_set (by decide)), fun o => HN.h4 (o.of_set (by decide)), fun o => (HN.h5 (o.of_set (by decide))).imp On.old id, fun o => HN.h6 (o.of_set (by decide)), fun o => HN.h7 (o.of_set (by decide)), fun o => HN.h8 (o.of_set (by decide)), fun _ => rfl, fun o => HN.h10 (o.of_set (by decide)), fun o => let ⟨a, b⟩ := HN.h11 (o.of_set (by decide)); ⟨a.old, b.imp On.old id⟩, fun o => (HN.h12 (o.of_set (by decide))).imp On.old id, fun o => HN.h13 (o.of_set (by decide)), fun o => (HN.h14 (o.of_set (by decide))).imp On.old id, fun o => (HN.l12 (o.of_set (by decide))).old, fun o => HN.hf (o.of_set (by decide))⟩
            refine StepsI.cons (i := 10) (ws := [6, 7, 8, 9]) rfl (by kernel_rfl) (fun L a W hI hno hon hw K hK => ?_) ?_
            · obtain ⟨_, rfl, u28, u29, u30, u31, u32, u33, u34, u35, u36, u37, u38, u39, u40, u41, ub, uu, xx, q39, Au, nu, cu, rfl, H⟩ := hI
              simp only [List.getElem_toArray, List.getElem_cons_zero, List.getElem_cons_succ]
              obtain rfl := H.h6 (hw 6 (by simp))
              obtain rfl := H.h7 (hw 7 (by simp))
              obtain rfl := H.h8 (hw 8 (by simp))
              obtain rfl := H.h9 (hw 9 (by simp))
              simp only [frmL, Act.put, List.setIfInBounds_toArray, List.set_cons_zero, List.set_cons_succ]
              go_simp
              go_wp2_with (go_at_call 127; (with_reducible refine (HCB.out W H.sm.up).mono ?_); rintro e w9 ⟨rfl, hb9⟩)
              have HN := H.up hb9
              refine hK.out _ _ ⟨[u28, u29, u30, u31, u32, u33, .slice R1 g1.length cc1, .slice R2 g2.length cc2, .slice A n c, .slice P n cp, .int .i64 x, u39, u40, u41], ?_, u28, u29, u30, u31, u32, u33, .slice R1 g1.length cc1, .slice R2 g2.length cc2, .slice A n c, .slice P n cp, .int .i64 x, u39, u40, u41, ub, uu, xx, q39, Au, nu, cu, rfl, ?_⟩
              · simp only [frmL, Act.put, List.setIfInBounds_toArray, List.set_cons_zero, List.set_cons_succ]
              · exact ⟨HN.sm, HN.sz, HN.hx.imp On.old id, fun o => HN.h0 (o.of_set (by decide)), fun o => HN.h1 (o.of_set (by decide)), fun o => HN.h2 (o.of_set (by decide)), fun o => HN.h3 (o.of_set (by decide)), fun o => HN.h4 (o.of_set (by decide)), fun o => (HN.h5 (o.of_set (by decide))).imp On.old id, fun o => HN.h6 (o.of_set (by decide)), fun o => HN.h7 (o.of_set (by decide)), fun o => HN.h8 (o.of_set (by decide)), fun o => HN.h9 (o.of_set (by decide)), fun _ => rfl, fun o => absurd (H.h11 (o.of_set (by decide))).1 hno, fun o => absurd (H.h12 (o.of_set (by decide))).1 hno, fun o => HN.h13 (o.of_set (by decide)), fun o => (HN.h14 (o.of_set (by decide))).imp On.old id, fun o => (HN.l12 (o.of_set (by decide))).old, fun o => HN.hf (o.of_set (by decide))⟩
            refine StepsI.cons (i := 11) (ws := [10]) rfl (by kernel_rfl) (fun L a W hI hno hon hw K hK => ?_) ?_
            · obtain ⟨_, rfl, u28, u29, u30, u31, u32, u33, u34, u35, u36, u37, u38, u39, u40, u41, ub, uu, xx, q39, Au, nu, cu, rfl, H⟩ := hI
              simp only [List.getElem_toArray, List.getElem_cons_zero, List.getElem_cons_succ]
              obtain rfl := H.h10 (hw 10 (by simp))
              simp only [frmL, Act.put, List.setIfInBounds_toArray, List.set_cons_zero, List.set_cons_succ]
              go_simp
              have HN := H.up (below_alloc W (.cells #[.int .i64 x] 3))
              refine hK.out _ _ ⟨[u28, u29, u30, u31, u32, u33, u34, u35, u36, u37, .int .i64 x, .slice (some ⟨W.heap.size, 0, none⟩) 1 1, u40, u41], ?_, u28, u29, u30, u31, u32, u33, u34, u35, u36, u37, .int .i64 x, .slice (some ⟨W.heap.size, 0, none⟩) 1 1, u40, u41, ub, uu, xx, W.heap.size, Au, nu, cu, rfl, ?_⟩
              · simp only [frmL, Act.put, List.setIfInBounds_toArray, List.set_cons_zero, List.set_cons_succ]
              · exact ⟨HN.sm, HN.sz, HN.hx.imp On.old id, fun o => HN.h0 (o.of_set (by decide)), fun o => HN.h1 (o.of_set (by decide)), fun o => HN.h2 (o.of_set (by decide)), fun o => HN.h3 (o.of_set (by decide)), fun o => HN.h4 (o.of_set (by decide)), fun o => (HN.h5 (o.of_set (by decide))).imp On.old id, fun o => HN.h6 (o.of_set (by decide)), fun o => HN.h7 (o.of_set (by decide)), fun o => HN.h8 (o.of_set (by decide)), fun o => HN.h9 (o.of_set (by decide)), fun o => HN.h10 (o.of_set (by decide)), fun _ => ⟨(hw 10 (by simp)).old, .inr ⟨rfl, blk_new W 3 #[iv x]⟩⟩, fun o => (HN.h12 (o.of_set (by decide))).imp On.old id, fun o => HN.h13 (o.of_set (by decide)), fun o => (HN.h14 (o.of_set (by decide))).imp On.old id, fun o => (HN.l12 (o.of_set (by decide))).old, fun o => HN.hf (o.of_set (by decide))⟩
            refine StepsI.cons (i := 12) (ws := [5, 11, 10]) rfl (by kernel_rfl) (fun L a W hI hno hon hw K hK => ?_) ?_
            · obtain ⟨_, rfl, u28, u29, u30, u31, u32, u33, u34, u35, u36, u37, u38, u39, u40, u41, ub, uu, xx, q39, Au, nu, cu, rfl, H⟩ := hI
              simp only [List.getElem_toArray, List.getElem_cons_zero, List.getElem_cons_succ]
              have e33 := (H.h5 (hw 5 (by simp))).resolve_left hno
              obtain ⟨e39, hb39⟩ := (H.h11 (hw 11 (by simp))).2.resolve_left hno
              have hxx := (H.hx.resolve_left hno).1.symm
              subst hxx
              simp only [frmL, Act.put, List.setIfInBounds_toArray, List.set_cons_zero, List.set_cons_succ]
              rw [if_pos (by rfl)]
              refine wp_append_lies W _ _ _ rfl H0 3 i0 _ 1 8 Try.underlying36 hi0 hz0 hz1 hz2 rfl (by omega) uu ys.length (ys.map iv) (by exact e33) H.sm.bi.own ⟨q39, 0, none⟩ 1 1 [iv x] (by exact e39) (by rfl) (World.news_of_block (w := W) (cs := #[iv x]) (t := 3) (fr := (0, 0)) hb39) (by simp [Value.oneCell', iv]) (by omega) (by unfold maxLen; omega) (by omega) H.sm.hs W.heap.size rfl ?_
              intro gg cap w9 hown1 hgrow hat hlt1
              simp only [Act.put, List.setIfInBounds_toArray, List.set_cons_zero, List.set_cons_succ]
              have HN := H
              refine hK.out _ _ ⟨[u28, u29, u30, u31, u32, u33, u34, u35, u36, u37, u38, u39, .slice (some ⟨gg, 0, none⟩) (ys.length + 1) cap, u41], ?_, u28, u29, u30, u31, u32, u33, u34, u35, u36, u37, u38, u39, .slice (some ⟨gg, 0, none⟩) (ys.length + 1) cap, u41, ub, .slice (some ⟨gg, 0, none⟩) (ys.length + 1) cap, ys ++ [x], q39, some ⟨gg, 0, none⟩, ys.length + 1, cap, rfl, ?_⟩
              · simp only [frmL, Act.put, List.setIfInBounds_toArray, List.set_cons_zero, List.set_cons_succ]
              · exact ⟨H.sm.push hown1 hgrow hlt1, Nat.le_trans H.sz hgrow.size, .inl hon, fun o => HN.h0 (o.of_set (by decide)), fun o => HN.h1 (o.of_set (by decide)), fun o => HN.h2 (o.of_set (by decide)), fun o => HN.h3 (o.of_set (by decide)), fun o => HN.h4 (o.of_set (by decide)), fun _ => .inl hon, fun o => HN.h6 (o.of_set (by decide)), fun o => HN.h7 (o.of_set (by decide)), fun o => HN.h8 (o.of_set (by decide)), fun o => HN.h9 (o.of_set (by decide)), fun o => HN.h10 (o.of_set (by decide)), fun o => ⟨(H.h11 (o.of_set (by decide))).1.old, .inl hon⟩, fun _ => ⟨(hw 10 (by simp)).old, rfl, rfl⟩, fun o => HN.h13 (o.of_set (by decide)), fun o => absurd (H.h14 (o.of_set (by decide))).1 hno, fun _ => (hw 5 (by simp)).old, fun _ => rfl⟩
            refine StepsI.cons (i := 13) (ws := [0, 1, 0, 1, 2, 3, 4, 5, 6, 7, 8, 9, 10, 11, 12]) rfl (by kernel_rfl) (fun L a W hI hno hon hw K hK => ?_) ?_
            · obtain ⟨_, rfl, u28, u29, u30, u31, u32, u33, u34, u35, u36, u37, u38, u39, u40, u41, ub, uu, xx, q39, Au, nu, cu, rfl, H⟩ := hI
              simp only [List.getElem_toArray, List.getElem_cons_zero, List.getElem_cons_succ]
              obtain rfl := H.h0 (hw 0 (by simp))
              obtain rfl := H.h1 (hw 1 (by simp))
              simp only [frmL, Act.put, List.setIfInBounds_toArray, List.set_cons_zero, List.set_cons_succ]
              go_simp
              have HN := H
              refine hK.out _ _ ⟨[.slice (some ⟨w.heap.size, 0, none⟩) N N, .int .i64 k, u30, u31, u32, u33, u34, u35, u36, u37, u38, u39, u40, .pointer (some ⟨w.heap.size, k, none⟩)], ?_, .slice (some ⟨w.heap.size, 0, none⟩) N N, .int .i64 k, u30, u31, u32, u33, u34, u35, u36, u37, u38, u39, u40, .pointer (some ⟨w.heap.size, k, none⟩), ub, uu, xx, q39, Au, nu, cu, rfl, ?_⟩
              · simp only [frmL, Act.put, List.setIfInBounds_toArray, List.set_cons_zero, List.set_cons_succ]
              · exact ⟨HN.sm, HN.sz, HN.hx.imp On.old id, fun o => HN.h0 (o.of_set (by decide)), fun o => HN.h1 (o.of_set (by decide)), fun o => HN.h2 (o.of_set (by decide)), fun o => HN.h3 (o.of_set (by decide)), fun o => HN.h4 (o.of_set (by decide)), fun o => (HN.h5 (o.of_set (by decide))).imp On.old id, fun o => HN.h6 (o.of_set (by decide)), fun o => HN.h7 (o.of_set (by decide)), fun o => HN.h8 (o.of_set (by decide)), fun o => HN.h9 (o.of_set (by decide)), fun o => HN.h10 (o.of_set (by decide)), fun o => let ⟨a, b⟩ := HN.h11 (o.of_set (by decide)); ⟨a.old, b.imp On.old id⟩, fun o => (HN.h12 (o.of_set (by decide))).imp On.old id, fun _ => rfl, fun o => (HN.h14 (o.of_set (by decide))).imp On.old id, fun o => (HN.l12 (o.of_set (by decide))).old, fun o => HN.hf (o.of_set (by decide))⟩
            refine StepsI.cons (i := 14) (ws := [13, 12, 12, 0, 1, 2, 3, 4, 5, 6, 7, 8, 9, 10, 11, 12]) rfl (by kernel_rfl) (fun L a W hI hno hon hw K hK => ?_) ?_
            · obtain ⟨_, rfl, u28, u29, u30, u31, u32, u33, u34, u35, u36, u37, u38, u39, u40, u41, ub, uu, xx, q39, Au, nu, cu, rfl, H⟩ := hI
              simp only [List.getElem_toArray, List.getElem_cons_zero, List.getElem_cons_succ]
              obtain rfl := H.h13 (hw 13 (by simp))
              have e9 := H.hf (hw 12 (by simp))
              subst e9
              obtain rfl := (H.h12 (hw 12 (by simp))).2.1
              simp only [frmL, Act.put, List.setIfInBounds_toArray, List.set_cons_zero, List.set_cons_succ]
              have c0 := H.sm.spk hkN
              have f0 := H.sm.sp.frozen k
              go_simp
              have HN := H
              refine hK.out _ _ ⟨[u28, u29, u30, u31, u32, u33, u34, u35, u36, u37, u38, u39, .slice Au nu cu, .pointer (some ⟨w.heap.size, k, none⟩)], ?_, u28, u29, u30, u31, u32, u33, u34, u35, u36, u37, u38, u39, .slice Au nu cu, .pointer (some ⟨w.heap.size, k, none⟩), .slice Au nu cu, .slice Au nu cu, xx, q39, Au, nu, cu, rfl, ?_⟩
              · simp only [frmL, Act.put, List.setIfInBounds_toArray, List.set_cons_zero, List.set_cons_succ]
              · exact ⟨H.sm.store (.slice Au nu cu), Nat.le_trans H.sz (Nat.le_of_eq (by simp [World.setCell])), .inl (hw 12 (by simp)).old, fun o => HN.h0 (o.of_set (by decide)), fun o => HN.h1 (o.of_set (by decide)), fun o => HN.h2 (o.of_set (by decide)), fun o => HN.h3 (o.of_set (by decide)), fun o => HN.h4 (o.of_set (by decide)), fun _ => .inl (hw 12 (by simp)).old, fun o => HN.h6 (o.of_set (by decide)), fun o => HN.h7 (o.of_set (by decide)), fun o => HN.h8 (o.of_set (by decide)), fun o => HN.h9 (o.of_set (by decide)), fun o => HN.h10 (o.of_set (by decide)), fun o => ⟨(H.h11 (o.of_set (by decide))).1.old, .inl (hw 12 (by simp)).old⟩, fun o => (HN.h12 (o.of_set (by decide))).imp On.old id, fun o => HN.h13 (o.of_set (by decide)), fun _ => ⟨(hw 12 (by simp)).old, rfl⟩, fun o => (HN.l12 (o.of_set (by decide))).old, fun o => HN.hf (o.of_set (by decide))⟩
            exact StepsI.nil
          · rintro L us W hL ⟨u28, u29, u30, u31, u32, u33, u34, u35, u36, u37, u38, u39, u40, u41, ub, uu, xx, q39, Au, nu, cu, rfl, H⟩
            have hY := (H.h12 (hL 12 (by simp))).2.2
            have hU := (H.h14 (hL 14 (by simp))).2
            have HCN := Lib.hid (show CBw w N k F0 res H0 uu uu (ys ++ [x]) W by have h := H.sm; rw [hU, hY] at h; exact h)
            clear H hL hY hU
            simp only [frmL, Act.put, List.setIfInBounds_toArray, List.set_cons_zero, List.set_cons_succ]
            go_wp2
            go_roundw
            case rel => exact ⟨m + 1, uu, by omega, by go_num, Lib.hid (by rw [HMS.out]; exact HCN.out)⟩
            case measure => simp [intOf]; omega
        · obtain rfl : m = N := by omega
          have HRW := Lib.hid (HC.out.row HTL.out (by rw [cbM_len, HLG.out]; omega) (fun y hy => by
            obtain ⟨g2, hg2, rfl⟩ := List.mem_map.1 hy
            obtain ⟨g2a, g2b, g2c⟩ := HGR.out _ (List.mem_of_mem_take hg2)
            have := lst_bd (L := cbL a paid g1 g2) (lo := -200000) (hi := 200000) (by rw [cbL_len]; exact Nat.mul_pos g1b g2b) (fun y hy => by
              rw [cbL, List.mem_flatMap] at hy
              obtain ⟨s, hs, hy⟩ := hy
              obtain ⟨t, ht, rfl⟩ := List.mem_map.1 hy
              have h1 := HG1A.out s hs
              have h2 := g2a t ht
              have h3 := HS.out.bd s.toNat t.toNat (by omega) (by omega)
              have h4 := HPB.out s.toNat (by omega)
              omega)
            omega))
          rw [← HLG.out, ← HTS.out] at HRW
          go_wp2
          go_roundw
          case rel => exact ⟨k + 1, _, _, by omega, by go_num, Lib.hid (by have h := HRW.out; rw [HLG.out] at h; exact h)⟩
          case measure => simp [intOf]; omega
    · obtain rfl : k = N := by omega
      have hlt : (cbT a paid gss k).length = k := by rw [cbT_len, HLG.out]; omega
      have HD := Lib.hid (HC.out.done hlt (by omega))
      have HB := Lib.hid HC.out.up
      have HTL := Lib.hid hlt
      clear HC hlt
      go_wp2
      go_ret
      exact ⟨some ⟨w.heap.size, 0, none⟩, k, by rw [HTL.out]; first | rfl | simp, by rw [HTL.out]; exact HD.out, HB.out⟩

end Go.Proofs.Ytidoahicgiaodaa

/- A step of trees by rounds: what is paid is paid for all trees, then a round costs nothing and is one state. -/
namespace Go.Proofs.Ytidoahicgiaodaa
open Go.RowKit

/-- Costs between states, also put together ones: nothing is below 0 but a way from a state to itself. -/
structure CB (a : List (List Int)) (n : Nat) : Prop where
  len : a.length = n
  row : ∀ i, i < n → (gr a i).length = n
  off : ∀ i j, i < n → j < n → i ≠ j → 0 ≤ g2 a i j ∧ g2 a i j ≤ 20
  dg : ∀ i, i < n → 20 * (n : Int) - 80 ≤ g2 a i i ∧ g2 a i i ≤ 20
  n1 : 1 ≤ n
  n4 : n ≤ 4
theorem VC.cb {a : List (List Int)} (v : VC a) : CB a a.length := by
  have h1 := v.n1
  have h4 := v.n4
  refine ⟨rfl, fun i hi => (v.rows i hi).1, fun i j hi hj _ => ?_, fun i hi => ?_, h1, h4⟩
  · have := (v.rows i hi).2 j hj; unfold InR at this; exact this
  · have := (v.rows i hi).2 i hi; unfold InR at this; unfold g2; omega
theorem CB.sq {a : List (List Int)} {n : Nat} (h : CB a n) : SqB a n 100 := ⟨h.len, h.row, fun i j hi hj => by
  by_cases e : i = j
  · subst e; have := h.dg i hi; have := h.n1; omega
  · have := h.off i j hi hj e; omega⟩
theorem lst_low {L : List Int} {y : Int} (h : y ∈ L) : lst L ≤ y := by
  obtain ⟨j, hj, e⟩ := List.mem_iff_getElem.1 h
  rw [← gi_get hj] at e
  rw [← e]
  exact mn_le' L (by omega)
theorem lst_mem {L : List Int} (h : 0 < L.length) : lst L ∈ L := by
  obtain ⟨j, hj, e⟩ := mn_at' L (L.length - 1)
  rw [lst, ← e]; exact gi_mem (by omega)
/-- What is paid, of all states: of all but the root, as the root pays nothing. -/
theorem pdS_sm {xs : List Int} {r : Nat} (h : gi xs r = 0) : ∀ k, pdS (gi xs) r k = sm xs k
  | 0 => rfl
  | k + 1 => by
    rw [pdS, sm, pdS_sm h k]
    split
    · rename_i e; rw [e, h]; omega
    · rfl
section
variable {a : List (List Int)} {n r : Nat}
theorem paid_root (hr : r < n) : gi (csL a (cwL a r n) n) r = 0 := by rw [gi_csL hr, if_pos (cwL_root hr)]
theorem paid_at (h2 : 2 ≤ n) {i : Nat} (hi : i < n) (hr : i ≠ r) : gi (csL a (cwL a r n) n) i = g2 a i (gi (cwL a r n) i).toNat := by rw [gi_csL hi, if_neg (cwL_ne h2 hi hr)]
theorem paid_bd (c : CB a n) {i : Nat} (hi : i < n) : 0 ≤ gi (csL a (cwL a r n) n) i ∧ gi (csL a (cwL a r n) n) i ≤ 20 := by
  rw [gi_csL hi]
  split
  · omega
  · rename_i hne
    have h1 := (cwL_in (a := a) (r := r) (n := n)).bd i (by rw [cwL_len]; exact hi)
    rw [cwL_len] at h1
    exact c.off i _ hi (by omega) (by omega)
theorem paid_least (c : CB a n) (h2 : 2 ≤ n) {i j : Nat} (hi : i < n) (hj : j < n) (hij : i ≠ j) (hr : r < n) : 0 ≤ g2 a i j - gi (csL a (cwL a r n) n) i := by
  by_cases e : i = r
  · subst e; rw [paid_root hr]; have := c.off i j hi hj hij; omega
  · rw [paid_at h2 hi e]
    have := cwL_least (a := a) hi hj e (Ne.symm hij)
    omega
/-- The cheapest ways, if they lead to the root. -/
theorem cheap_tree (hr : r < n) (hl : Ld (cwL a r n) r) : LF (g2 a) n r (tot (csL a (cwL a r n) n)) := by
  have ht : Tr n r (cwL a r n) := ⟨cwL_len a r n, cwL_in, cwL_root hr, hl⟩
  rw [tot_cs ht, cs_csF]
  refine ⟨fun t htt => ?_, _, ht, rfl⟩
  have key : ∀ k, k ≤ n → csF (g2 a) r (cwL a r n) k ≤ csF (g2 a) r t k := by
    intro k
    induction k with
    | zero => intro _; exact Int.le_refl _
    | succ k ih =>
      intro hk
      have := ih (by omega)
      rw [csF, csF]
      by_cases e : k = r
      · rw [if_pos e, if_pos e]; exact this
      · rw [if_neg e, if_neg e]
        have h1 := htt.2.1.bd k (by rw [htt.1]; omega)
        rw [htt.1] at h1
        have h2 := htt.ne (i := k) (by omega) e
        have := cwL_least (a := a) (r := r) (n := n) (i := k) (j := (gi t k).toNat) (by omega) (by omega) e (by omega)
        omega
  exact key n (Nat.le_refl _)
theorem LF.bd (c : CB a n) {v : Int} (h : LF (g2 a) n r v) : 0 ≤ v ∧ v ≤ 80 := by
  obtain ⟨t, ht, rfl⟩ := h.at_
  have key : ∀ k, k ≤ n → 0 ≤ csF (g2 a) r t k ∧ csF (g2 a) r t k ≤ 20 * k := by
    intro k
    induction k with
    | zero => intro _; simp [csF]
    | succ k ih =>
      intro hk
      have := ih (by omega)
      rw [csF]
      by_cases e : k = r
      · rw [if_pos e]; omega
      · rw [if_neg e]
        have h1 := ht.2.1.bd k (by rw [ht.1]; omega)
        rw [ht.1] at h1
        have h2 := ht.ne (i := k) (by omega) e
        have := c.off k (gi t k).toNat (by omega) (by omega) (by omega)
        omega
  have := key n (Nat.le_refl _)
  have := c.n4
  omega
end
/-- Of every round: it goes round, its states are states, the root is not among them. -/
theorem round_dec2 : ((List.range 5).all fun n => (allW n n).all fun t => (List.range n).all fun r => gi t r != (r : Int) || (List.range n).any (fun i => i != r && gi t i == (i : Int)) || ldB t r ||
    ((List.range (raL t r n).length).all (fun k => nx t (gi (raL t r n) k) == gi (raL t r n) ((k + 1) % (raL t r n).length)) && (raL t r n).all (fun s => decide (0 ≤ s) && decide (s < n) && s != (r : Int)) &&
      decide (2 ≤ (raL t r n).length) && decide ((raL t r n).length ≤ 4) && decide ((othL (raL t r n) n).length + (raL t r n).length = n) && decide ((othL (raL t r n) n).idxOf r < (othL (raL t r n) n).length) && decide ((othL (raL t r n) n).getD ((othL (raL t r n) n).idxOf r) 0 = r))) = true := by decide +kernel
structure Rnd (t : List Int) (n r : Nat) (ring : List Int) (oth : List Nat) : Prop where
  next : ∀ k, k < ring.length → nx t (gi ring k) = gi ring ((k + 1) % ring.length)
  bd : ∀ s ∈ ring, 0 ≤ s ∧ s < n ∧ s ≠ r
  l2 : 2 ≤ ring.length
  l4 : ring.length ≤ 4
  ln : oth.length + ring.length = n
  ix : oth.idxOf r < oth.length
  at_ : oth.getD (oth.idxOf r) 0 = r
theorem rnd_of {n r : Nat} {t : List Int} (h4 : n ≤ 4) (hl : t.length = n) (h : InB t) (hr : r < n) (e : gi t r = r) (hne : ∀ i, i < n → i ≠ r → gi t i ≠ i) (hld : ¬ Ld t r) :
    Rnd t n r (raL t r n) (othL (raL t r n) n) := by
  have h1 := round_dec2
  rw [List.all_eq_true] at h1
  have h2 := h1 n (List.mem_range.2 (by omega))
  rw [List.all_eq_true] at h2
  have h3 := h2 t (by have := h.all; rw [hl] at this; exact this)
  rw [List.all_eq_true] at h3
  have h5 := h3 r (List.mem_range.2 hr)
  have h6 : ldB t r = false := by rw [ldB_pb]; exact pb_false hld
  have h7 : (List.range n).any (fun i => i != r && gi t i == (i : Int)) = false := by
    rw [List.any_eq_false]
    intro i hi
    have := hne i (List.mem_range.1 hi)
    by_cases e2 : i = r
    · simp [e2]
    · simp [e2, this e2]
  rw [h6, h7, e] at h5
  simp only [bne_self_eq_false, Bool.false_or, Bool.and_eq_true, List.all_eq_true, List.mem_range, beq_iff_eq, decide_eq_true_eq, bne_iff_ne, ne_eq] at h5
  obtain ⟨⟨⟨⟨⟨⟨a1, a2⟩, a3⟩, a4⟩, a5⟩, a6⟩, a7⟩ := h5
  exact ⟨a1, fun s hs => ⟨(a2 s hs).1.1, (a2 s hs).1.2, (a2 s hs).2⟩, a3, a4, a5, a6, a7⟩
theorem othL_mem {ring : List Int} {n s : Nat} : s ∈ othL ring n ↔ s < n ∧ (s : Int) ∉ ring := by
  simp [othL, List.mem_filter, List.mem_range]
theorem othL_sel (ring : List Int) (n : Nat) : selL (outB ring) n = (othL ring n).map fun (s : Nat) => (s : Int) := rfl
/-- The groups' places. -/
theorem grp_len (oth : List Nat) (ring : List Int) : (grpL (oth.map fun (s : Nat) => (s : Int)) ring).length = oth.length + 1 := by simp [grpL]
theorem grp_oth {oth : List Nat} {ring : List Int} {x : Nat} (h : x < oth.length) : gr (grpL (oth.map fun (s : Nat) => (s : Int)) ring) x = [((oth.getD x 0 : Nat) : Int)] := by
  rw [gr_get (by rw [grp_len]; omega)]
  simp only [grpL]
  rw [List.getElem_append_left (by simpa using h)]
  simp [List.getD_eq_getElem?_getD, List.getElem?_eq_getElem h]
theorem grp_ring (oth : List Nat) (ring : List Int) : gr (grpL (oth.map fun (s : Nat) => (s : Int)) ring) oth.length = ring := by
  rw [gr_get (by rw [grp_len]; omega)]
  simp only [grpL]
  rw [List.getElem_append_right (by simp)]
  simp
theorem g2_cbT {a : List (List Int)} {paid : List Int} {gss : List (List Int)} {x y : Nat} (hx : x < gss.length) (hy : y < gss.length) : g2 (cbT a paid gss gss.length) x y = lst (cbL a paid (gr gss x) (gr gss y)) := by
  have hl : (cbT a paid gss gss.length).length = gss.length := by rw [cbT_len]; omega
  unfold g2
  rw [gr_get (by rw [hl]; exact hx)]
  simp only [cbT, List.take_length, List.getElem_map]
  rw [gi_get (by simpa using hy), gr_get hx, gr_get hy]
  simp
theorem lst_one (x : Int) : lst [x] = x := rfl
section
variable {a : List (List Int)} {n r : Nat}
/-- The costs between the groups are those with the round as one state. -/
theorem ctr_of (c : CB a n) (hr : r < n) (hld : ¬ Ld (cwL a r n) r) {ring : List Int} (e1 : raL (cwL a r n) r n = ring) {oth : List Nat} (e2 : othL ring n = oth) :
    Ctr (fun i j => g2 a i j - gi (csL a (cwL a r n) n) i) (g2 (cbT a (csL a (cwL a r n) n) (grpL (oth.map fun (s : Nat) => (s : Int)) ring) (oth.length + 1))) n (natL ring) oth ∧ CB (cbT a (csL a (cwL a r n) n) (grpL (oth.map fun (s : Nat) => (s : Int)) ring) (oth.length + 1)) (oth.length + 1) ∧
    Rnd (cwL a r n) n r ring oth ∧ (n, r, oth.idxOf r, natL ring, oth) ∈ shapes := by
  have h4 := c.n4
  have h2 : 2 ≤ n := by
    refine Classical.byContradiction fun h => hld ?_
    have h1 := c.n1
    obtain rfl : n = 1 := by omega
    intro i hi
    rw [cwL_len] at hi ⊢
    obtain rfl : i = 0 := by omega
    obtain rfl : r = 0 := by omega
    exact orS_root (k := 0) rfl 1
  have hR := rnd_of h4 (cwL_len a r n) cwL_in hr (cwL_root hr) (fun i hi hne => cwL_ne h2 hi hne) hld
  have hS := shape_of h4 (cwL_len a r n) cwL_in hr (cwL_root hr) (fun i hi hne => cwL_ne h2 hi hne) hld
  rw [e1, e2] at hR hS
  have hoth : ∀ x, x < oth.length → oth.getD x 0 < n ∧ ((oth.getD x 0 : Nat) : Int) ∉ ring := fun x hx => by
    have hm : oth.getD x 0 ∈ othL ring n := by rw [e2, List.getD_eq_getElem?_getD, List.getElem?_eq_getElem hx]; exact List.getElem_mem hx
    exact othL_mem.1 hm
  have hnod : ∀ x y, x < oth.length → y < oth.length → x ≠ y → oth.getD x 0 ≠ oth.getD y 0 := fun x y hx hy hxy e => by
    have hnd : oth.Nodup := by rw [← e2]; exact List.Nodup.sublist List.filter_sublist List.nodup_range
    rw [List.getD_eq_getElem?_getD, List.getElem?_eq_getElem hx, List.getD_eq_getElem?_getD, List.getElem?_eq_getElem hy] at e
    exact hxy ((List.getElem_inj hnd).1 e)
  have hgl := grp_len oth ring
  have hG : ∀ x y, x < oth.length + 1 → y < oth.length + 1 → g2 (cbT a (csL a (cwL a r n) n) (grpL (oth.map fun (s : Nat) => (s : Int)) ring) (oth.length + 1)) x y = lst (cbL a (csL a (cwL a r n) n) (gr (grpL (oth.map fun (s : Nat) => (s : Int)) ring) x) (gr (grpL (oth.map fun (s : Nat) => (s : Int)) ring) y)) := fun x y hx hy => by
    have := g2_cbT (a := a) (paid := csL a (cwL a r n) n) (gss := grpL (oth.map fun (s : Nat) => (s : Int)) ring) (x := x) (y := y) (by omega) (by omega)
    rw [hgl] at this; exact this
  have hpos : ∀ i j, i < n → j < n → i ≠ j → 0 ≤ g2 a i j - gi (csL a (cwL a r n) n) i := fun i j hi hj hij => paid_least c h2 hi hj hij hr
  have hnat : ∀ s : Nat, s ∈ natL ring ↔ (s : Int) ∈ ring := fun s => by
    rw [natL, List.mem_map]
    constructor
    · rintro ⟨x, hx, rfl⟩
      have := (hR.bd x hx).1
      rw [show ((x.toNat : Nat) : Int) = x by omega]; exact hx
    · intro h; exact ⟨s, h, by simp⟩
  have hcb : ∀ (xs ys : List Int) (v : Int), v ∈ cbL a (csL a (cwL a r n) n) xs ys ↔ ∃ s ∈ xs, ∃ t ∈ ys, v = g2 a s.toNat t.toNat - gi (csL a (cwL a r n) n) s.toNat := fun xs ys v => by
    rw [cbL, List.mem_flatMap]
    constructor
    · rintro ⟨s, hs, h⟩
      obtain ⟨t, ht, rfl⟩ := List.mem_map.1 h
      exact ⟨s, hs, t, ht, rfl⟩
    · rintro ⟨s, hs, t, ht, rfl⟩
      exact ⟨s, hs, List.mem_map.2 ⟨t, ht, rfl⟩⟩
  have hl2 := hR.l2
  have hcl : ∀ xs ys : List Int, 0 < xs.length → 0 < ys.length → 0 < (cbL a (csL a (cwL a r n) n) xs ys).length := fun xs ys h1 h2 => by rw [cbL_len]; exact Nat.mul_pos h1 h2
  refine ⟨⟨fun k hk => ?_, hpos, fun x y hx hy _ => ?_, fun x hx s hs => ?_, fun x hx => ?_, fun y hy s hs => ?_, fun y hy => ?_⟩, ?_, hR, hS⟩
  · rw [natL, List.length_map] at hk
    have hn := hR.next k hk
    have hlt : (k + 1) % ring.length < ring.length := Nat.mod_lt _ (by omega)
    have hb := hR.bd _ (gi_mem hk)
    have q1 : (natL ring).getD k 0 = (gi ring k).toNat := by rw [natL, List.getD_eq_getElem?_getD, List.getElem?_map, List.getElem?_eq_getElem hk, gi_get hk]; rfl
    have q2 : (natL ring).getD ((k + 1) % (natL ring).length) 0 = (gi ring ((k + 1) % ring.length)).toNat := by rw [natL, List.length_map, List.getD_eq_getElem?_getD, List.getElem?_map, List.getElem?_eq_getElem hlt, gi_get hlt]; rfl
    rw [q1, q2, ← hn, paid_at h2 (by omega) (by omega)]
    unfold nx; omega
  · rw [hG x y (by omega) (by omega), grp_oth hx, grp_oth hy]
    simp [cbL, lst_one]
  · rw [hG x _ (by omega) (by omega), grp_oth hx, grp_ring]
    refine lst_low ((hcb _ _ _).2 ⟨_, List.mem_singleton_self _, (s : Int), (hnat s).1 hs, by simp⟩)
  · rw [hG x _ (by omega) (by omega), grp_oth hx, grp_ring]
    obtain ⟨s, hs, t, ht, e⟩ := (hcb _ _ _).1 (lst_mem (hcl [((oth.getD x 0 : Nat) : Int)] ring (by simp) (by omega)))
    rw [List.mem_singleton] at hs
    subst hs
    have hb := hR.bd t ht
    exact ⟨t.toNat, (hnat _).2 (by rw [show ((t.toNat : Nat) : Int) = t by omega]; exact ht), by rw [e]; simp⟩
  · rw [hG _ y (by omega) (by omega), grp_oth hy, grp_ring]
    refine lst_low ((hcb _ _ _).2 ⟨(s : Int), (hnat s).1 hs, _, List.mem_singleton_self _, by simp⟩)
  · rw [hG _ y (by omega) (by omega), grp_oth hy, grp_ring]
    obtain ⟨s, hs, t, ht, e⟩ := (hcb _ _ _).1 (lst_mem (hcl ring [((oth.getD y 0 : Nat) : Int)] (by omega) (by simp)))
    rw [List.mem_singleton] at ht
    subst ht
    have hb := hR.bd s hs
    exact ⟨s.toNat, (hnat _).2 (by rw [show ((s.toNat : Nat) : Int) = s by omega]; exact hs), by rw [e]; simp⟩
  · have hln := hR.ln
    have hgb : ∀ x, x < oth.length + 1 → 0 < (gr (grpL (oth.map fun (s : Nat) => (s : Int)) ring) x).length ∧ ∀ s ∈ gr (grpL (oth.map fun (s : Nat) => (s : Int)) ring) x, 0 ≤ s ∧ s < n := fun x hx => by
      by_cases e : x < oth.length
      · rw [grp_oth e]
        refine ⟨by simp, fun s hs => ?_⟩
        rw [List.mem_singleton] at hs
        have := (hoth x e).1
        omega
      · obtain rfl : x = oth.length := by omega
        rw [grp_ring]
        exact ⟨by omega, fun s hs => ⟨(hR.bd s hs).1, (hR.bd s hs).2.1⟩⟩
    have hdis : ∀ x y, x < oth.length + 1 → y < oth.length + 1 → x ≠ y → ∀ s ∈ gr (grpL (oth.map fun (s : Nat) => (s : Int)) ring) x, ∀ t ∈ gr (grpL (oth.map fun (s : Nat) => (s : Int)) ring) y, s ≠ t := fun x y hx hy hxy s hs t ht e => by
      subst e
      by_cases ex : x < oth.length
      · rw [grp_oth ex, List.mem_singleton] at hs
        subst hs
        by_cases ey : y < oth.length
        · rw [grp_oth ey, List.mem_singleton] at ht
          exact hnod x y ex ey hxy (by omega)
        · obtain rfl : y = oth.length := by omega
          rw [grp_ring] at ht
          exact (hoth x ex).2 ht
      · obtain rfl : x = oth.length := by omega
        rw [grp_ring] at hs
        have ey : y < oth.length := by omega
        rw [grp_oth ey, List.mem_singleton] at ht
        subst ht
        exact (hoth y ey).2 hs
    refine ⟨by rw [cbT_len, hgl]; omega, fun i hi => ?_, fun i j hi hj hij => ?_, fun i hi => ?_, by omega, by omega⟩
    · have hl : (cbT a (csL a (cwL a r n) n) (grpL (oth.map fun (s : Nat) => (s : Int)) ring) (oth.length + 1)).length = oth.length + 1 := by rw [cbT_len, hgl]; omega
      rw [gr_get (by rw [hl]; exact hi)]
      simp only [cbT, List.getElem_map, List.length_map]
      exact hgl
    · rw [hG i j hi hj]
      refine lst_bd (hcl _ _ (hgb i hi).1 (hgb j hj).1) fun v hv => ?_
      obtain ⟨s, hs, t, ht, rfl⟩ := (hcb _ _ _).1 hv
      have b1 := (hgb i hi).2 s hs
      have b2 := (hgb j hj).2 t ht
      have hst := hdis i j hi hj hij s hs t ht
      have q1 := hpos s.toNat t.toNat (by omega) (by omega) (by omega)
      have q2 := c.off s.toNat t.toNat (by omega) (by omega) (by omega)
      have q3 := paid_bd (r := r) c (i := s.toNat) (by omega)
      omega
    · rw [hG i i hi hi]
      refine lst_bd (hcl _ _ (hgb i hi).1 (hgb i hi).1) fun v hv => ?_
      obtain ⟨s, hs, t, ht, rfl⟩ := (hcb _ _ _).1 hv
      have b1 := (hgb i hi).2 s hs
      have b2 := (hgb i hi).2 t ht
      have q3 := paid_bd (r := r) c (i := s.toNat) (by omega)
      by_cases e : s.toNat = t.toNat
      · have q2 := c.dg s.toNat (by omega)
        rw [← e]; omega
      · have q2 := c.off s.toNat t.toNat (by omega) (by omega) e
        omega
/-- .. so that the least tree of the fewer states, and what is paid, is the least tree. -/
theorem round_step (c : CB a n) (hr : r < n) (hld : ¬ Ld (cwL a r n) r) {ring : List Int} (e1 : raL (cwL a r n) r n = ring) {oth : List Nat} (e2 : othL ring n = oth) {v : Int}
    (h : LF (g2 (cbT a (csL a (cwL a r n) n) (grpL (oth.map fun (s : Nat) => (s : Int)) ring) (oth.length + 1))) (oth.length + 1) (oth.idxOf r) v) : LF (g2 a) n r (tot (csL a (cwL a r n) n) + v) := by
  obtain ⟨h1, _, _, h4⟩ := ctr_of c hr hld e1 e2
  have h5 := (ctr h4 h1 h).shift
  rw [pdS_sm (paid_root hr)] at h5
  rw [tot, csL_len, Int.add_comm]; exact h5
end
end Go.Proofs.Ytidoahicgiaodaa

/- Trees by rounds, by the program. -/
namespace Go.Proofs.Ytidoahicgiaodaa
open Go.RowKit

theorem ixI_idx {oth : List Nat} {r : Nat} (h : oth.idxOf r < oth.length) (e : oth.getD (oth.idxOf r) 0 = r) : ixI (oth.map fun (s : Nat) => (s : Int)) (r : Int) = ((oth.idxOf r : Nat) : Int) := by
  have hg : ∀ j, j < oth.length → gi (oth.map fun (s : Nat) => (s : Int)) j = ((oth.getD j 0 : Nat) : Int) := fun j hj => by
    rw [gi_get (by simpa using hj)]
    simp [List.getD_eq_getElem?_getD, List.getElem?_eq_getElem hj]
  refine ixI_some (by simpa using h) (by rw [hg _ h, e]) fun j hj => ?_
  have hjl : j < oth.length := by omega
  rw [hg j hjl, List.getD_eq_getElem?_getD, List.getElem?_eq_getElem hjl]
  have := List.not_of_lt_findIdx (p := fun x => x == r) (xs := oth) (i := j) hj
  intro e2
  simp at this e2
  omega
set_option maxRecDepth 100000 in
set_option maxHeartbeats 1600000 in
theorem costByRounds_any : ∀ F n, n ≤ F → ∀ (A : Option Addr) (c : Nat) (a : List (List Int)) (r : Nat) (w : World), IntRows w A n c a → CB a n → r < n →
    Calls Try.prog 72 #[.slice A n c, .int .i64 r] w fun e w' => (∃ v, e = .returned (.int .i64 v) ∧ LF (g2 a) n r v) ∧ Below w.heap.size w w' := by
  intro F
  induction F with
  | zero => intro n hn A c a r w _ _ hr; omega
  | succ F ih =>
    intro n hF A c a r w hx hc hr
    have IH := Lib.hid ih
    clear ih
    have HX0 := Lib.hid hx
    have HC := Lib.hid hc
    have h4 := hc.n4
    have h1 := hc.n1
    have HSQ := Lib.hid (hc.sq.mono (show (100 : Int) ≤ 100000 by omega))
    have HCW := Lib.hid (cheapestWays_any A n c a r w hx hc.row hr h4)
    have HWL := Lib.hid (cwL_len a r n)
    have HWI := Lib.hid (cwL_in (a := a) (r := r) (n := n))
    have HWR := Lib.hid (cwL_root (a := a) hr)
    have HPB := Lib.hid (fun i (hi : i < n) => paid_bd (r := r) hc hi)
    have HPL := Lib.hid (csL_len a (cwL a r n) n)
    have HCT := Lib.hid (cheap_tree (a := a) hr)
    have HRN := Lib.hid (raL_nil (t := cwL a r n) (r := (r : Int)) (by unfold nx; simpa using HWR.out))
    have HCO : Hid (¬ Ld (cwL a r n) r → _ ∧ _ ∧ _ ∧ _) := Lib.hid (fun h => ctr_of hc hr h rfl rfl)
    have HST := Lib.hid (fun h v => round_step (v := v) hc hr h rfl rfl)
    rw [HWL.out] at HRN
    clear hx hc
    generalize cwL a r n = ways at *
    go_enter Try.func72, Try.ntmps72
    go_wp2_with fail
    refine HCW.out.mono ?_
    rintro e w1 ⟨rfl, ho, hb, -⟩
    have HB1 := Lib.hid hb
    have HX1 := Lib.hid (HX0.out.keep (Keep.below hb))
    have HW1 := Lib.hid ho.ints
    clear hb ho HCW HX0
    have HCC := Lib.hid (costsOf_any A _ n c n a ways w1 HX1.out HW1.out HSQ.out HWI.out h4)
    generalize csL a ways n = paid at *
    go_wp2_with fail
    refine HCC.out.mono ?_
    rintro e w2 ⟨rfl, ho, hb, -⟩
    have HB2 := Lib.hid (HB1.out.trans (hb.mono (HB1.out.size)))
    have HX2 := Lib.hid (HX1.out.keep (Keep.below hb))
    have HW2 := Lib.hid (HW1.out.keep (Keep.below hb))
    have HP2 := Lib.hid ho.ints
    clear hb ho HCC HX1 HW1 HB1
    generalize hgz : w1.heap.size = gp at *
    clear hgz
    have HRC := Lib.hid (roundApart_any r _ n n ways w2 HW2.out HWI.out h4)
    generalize hring : raL ways r n = ring at *
    have HRING := Lib.hid hring
    clear hring
    go_wp2_with fail
    refine HRC.out.mono ?_
    rintro e w3 ⟨Ar, nr, cr, gr_, rfl, hnr, ho, hb⟩
    have HB3 := Lib.hid (HB2.out.trans (hb.mono (HB2.out.size)))
    have HX3 := Lib.hid (HX2.out.keep (Keep.below hb))
    have HP3 := Lib.hid (HP2.out.keep (Keep.below hb))
    have HR3 := Lib.hid ho.ints
    have hmr := ho.ints.max
    have HNR := Lib.hid hnr
    clear hb ho HRC HX2 HW2 HP2 HB2 hnr
    have HSO := Lib.hid (show SumOk paid from ⟨by rw [HPL.out]; omega, fun j hj => by have := HPB.out j (by rw [HPL.out] at hj; exact hj); omega⟩)
    have HTB : Hid (0 ≤ tot paid ∧ tot paid ≤ 80) := Lib.hid (by
      have h := sm_bd (xs := paid) (lo := 0) (hi := 20) (k := paid.length) (fun j hj => HPB.out j (by rw [HPL.out] at hj; exact hj))
      rw [HPL.out] at h
      rw [tot, HPL.out]
      omega)
    by_cases hld : Ld ways r
    · have HV := Lib.hid (HCT.out hld)
      have h0 : nr = 0 := by rw [HNR.out, HRN.out.2 hld]; rfl
      subst h0
      have HSC := Lib.hid (sumOf_any _ _ _ paid w3 HP3.out HSO.out)
      clear hld HCT HCO HST HRN
      go_wp2_with fail
      refine HSC.out.mono ?_
      rintro e w4 ⟨rfl, hq⟩
      have HB4 := Lib.hid (show Below w.heap.size w w4 from HB3.out.trans (Quiet.below hq))
      clear HSC hq
      go_wp2
      go_ret
      exact ⟨⟨_, rfl, HV.out⟩, HB4.out⟩
    · obtain ⟨hctr, hcb, hrnd, hshp⟩ := HCO.out hld
      have HCB := Lib.hid hcb
      have HRD := Lib.hid hrnd
      have HSP := Lib.hid (HST.out hld)
      have hrl := hrnd.l2
      have hrl4 := hrnd.l4
      have hrln := hrnd.ln
      have hnr2 : 0 < nr := by rw [HNR.out]; omega
      have hnrz : ((nr : Int) == 0) = false := by rw [beq_eq_false_iff_ne]; omega
      have HSL := Lib.hid (statesOutOf_any Ar nr cr n ring w3 HR3.out (by omega))
      rw [othL_sel] at HSL
      clear hctr hcb hrnd hshp hld HCT HCO HST HRN
      generalize hoth : othL ring n = oth at *
      have HOTH := Lib.hid hoth
      clear hoth
      go_wp2_with fail
      refine HSL.out.mono ?_
      rintro e w4 ⟨Ao, no, co, go_, rfl, hno, ho, hb⟩
      have HB4 := Lib.hid (HB3.out.trans (hb.mono (HB3.out.size)))
      have HX4 := Lib.hid (HX3.out.keep (Keep.below hb))
      have HP4 := Lib.hid (HP3.out.keep (Keep.below hb))
      have HR4 := Lib.hid (HR3.out.keep (Keep.below hb))
      have HO4 := Lib.hid ho.ints
      have hno2 : no = oth.length := by rw [hno, List.length_map]
      clear hb ho HSL HX3 HP3 HR3 HB3 hno
      subst hno2
      have HOB : Hid (∀ x ∈ oth.map (fun (s : Nat) => (s : Int)), 0 ≤ x ∧ x < n) := Lib.hid (fun x hx => by
        obtain ⟨s, hs, rfl⟩ := List.mem_map.1 hx
        rw [← HOTH.out] at hs
        have := (othL_mem.1 hs).1
        omega)
      have HGC := Lib.hid (groupsOf_any Ao Ar _ co nr cr _ ring w4 HO4.out HR4.out (by omega) hnr2 (fun x hx => by have := HOB.out x hx; omega))
      go_wp2_with fail
      refine HGC.out.mono ?_
      rintro e w5 ⟨Ag, cg, rfl, hrows, hb⟩
      have HB5 := Lib.hid (HB4.out.trans (hb.mono (HB4.out.size)))
      have HX5 := Lib.hid (HX4.out.keep (Keep.below hb))
      have HP5 := Lib.hid (HP4.out.keep (Keep.below hb))
      have HO5 := Lib.hid (HO4.out.keep (Keep.below hb))
      rw [grp_len] at hrows
      have HG5 := Lib.hid hrows
      rw [grp_len]
      clear hb hrows HGC HX4 HP4 HO4 HR4 HB4
      have HBC := Lib.hid (costsBetween_any Ag A _ _ cg n c n _ paid a w5 HG5.out HX5.out HP5.out HSQ.out (fun i hi => by have := HPB.out i hi; omega) (fun g hg => by
        rw [grpL, List.mem_append] at hg
        rcases hg with hg | hg
        · obtain ⟨s, hs, rfl⟩ := List.mem_map.1 hg
          exact ⟨fun x hx => by rw [List.mem_singleton] at hx; subst hx; exact HOB.out _ hs, by simp, by simp⟩
        · rw [List.mem_singleton] at hg
          subst hg
          exact ⟨fun x hx => ⟨(HRD.out.bd x hx).1, (HRD.out.bd x hx).2.1⟩, by omega, hrl4⟩) (by omega) h4)
      go_wp2_with fail
      refine HBC.out.mono ?_
      rintro e w6 ⟨Ab, cb, rfl, hrows, hb⟩
      have HB6 := Lib.hid (HB5.out.trans (hb.mono (HB5.out.size)))
      have HP6 := Lib.hid (HP5.out.keep (Keep.below hb))
      have HO6 := Lib.hid (HO5.out.keep (Keep.below hb))
      rw [HCB.out.len] at hrows
      have HF6 := Lib.hid hrows
      rw [HCB.out.len]
      clear hb hrows HBC HX5 HP5 HO5 HG5 HB5
      generalize cbT a paid (grpL (oth.map fun (s : Nat) => (s : Int)) ring) (oth.length + 1) = b at *
      have HSC := Lib.hid (sumOf_any _ _ _ paid w6 HP6.out HSO.out)
      go_wp2_with fail
      refine HSC.out.mono ?_
      rintro e w7 ⟨rfl, hq⟩
      have HB7 := Lib.hid (show Below w.heap.size w w7 from HB6.out.trans (Quiet.below hq))
      have HO7 := Lib.hid (HO6.out.keep (Keep.quiet hq))
      have HF7 := Lib.hid (HF6.out.keep (Keep.quiet hq))
      clear hq HSC HP6 HO6 HF6 HB6
      have HIC := Lib.hid (IndexI_any Ao _ co _ (r : Int) w7 HO7.out)
      rw [ixI_idx HRD.out.ix HRD.out.at_] at HIC
      have hix := HRD.out.ix
      have HIX := Lib.hid (IH.out (oth.length + 1) (by omega) Ab cb b (oth.idxOf r) w7 HF7.out HCB.out (by omega))
      generalize oth.idxOf r = x0 at *
      go_wp2_with fail
      refine HIC.out.mono ?_
      rintro e w8 ⟨rfl, rfl⟩
      clear HIC
      go_wp2_with fail
      refine HIX.out.mono ?_
      rintro e w9 ⟨⟨v, rfl, hv⟩, hb⟩
      have HV := Lib.hid (HSP.out v hv)
      have hvb := LF.bd HCB.out hv
      have htb := HTB.out
      have HB9 := Lib.hid (show Below w.heap.size w w9 from HB7.out.trans (hb.mono HB7.out.size))
      clear HIX hb hv HB7
      generalize tot paid = T at *
      go_wp2
      go_ret
      exact ⟨⟨_, rfl, HV.out⟩, HB9.out⟩
set_option maxRecDepth 100000 in
set_option maxHeartbeats 1600000 in
theorem TreeByRounds_impl (A : Option Addr) (n c : Nat) (a : List (List Int)) (root : Int) (w : World) (hx : IntRows w A n c a) (hf : Fit root) :
    Calls Try.prog 26 #[.slice A n c, .int .i64 root] w (Ret (.int .i64 (TF a root)) w) := by
  have HX := Lib.hid hx
  have HL := Lib.hid hx.len
  have HC := Lib.hid (isRooted_any A n c a root w hx)
  clear hx
  by_cases hv : VC a ∧ Blw a.length root
  · have HC2 := Lib.hid HC.out
    rw [pb_true hv.1, pb_true hv.2] at HC2
    have hr := hv.2
    unfold Blw at hr
    rw [HL.out] at hr
    have HP := Lib.hid (show TF a root = bw a n root.toNat (n ^ n) by rw [TF, pb_true hv.1, pb_true hv.2, HL.out]; rfl)
    obtain ⟨r, rfl⟩ : ∃ r : Nat, root = r := ⟨root.toNat, by omega⟩
    have hrn : r < n := by omega
    simp only [Int.toNat_natCast] at HP
    have HBL := Lib.hid (LeastT.f.1 (bw_least hv.1 HL.out hrn))
    have HCB := Lib.hid hv.1.cb
    rw [HL.out] at HCB
    clear hv hr HC hf
    go_enter Try.func26, Try.ntmps26
    go_wp2_with fail
    refine HC2.out.mono ?_
    rintro e w1 ⟨rfl, hq⟩
    have HB := Lib.hid (Quiet.below (B := w.heap.size) hq)
    have HX1 := Lib.hid (HX.out.keep (Keep.quiet hq))
    have hz := HB.out.size
    clear HC2 hq
    go_wp2_with fail
    refine (costByRounds_any n n (Nat.le_refl _) A c a r w1 HX1.out HCB.out hrn).mono ?_
    rintro e w2 ⟨⟨v, rfl, hv⟩, hb⟩
    have HE := Lib.hid (show v = TF a (r : Int) by rw [HP.out]; exact hv.one HBL.out)
    have HB2 := Lib.hid (below_up HB.out hb)
    clear hb hv
    go_wp2
    go_ret
    exact ⟨ret_int HE.out, HB2.out⟩
  · have HP := Lib.hid (show TF a root = -1 by
      rw [TF]
      by_cases h : VC a
      · rw [pb_true h, pb_false (fun h2 => hv ⟨h, h2⟩)]; rfl
      · rw [pb_false h]; rfl)
    have HC2 := Lib.hid HC.out
    rw [show (pb (VC a) && pb (Blw a.length root)) = false by
      by_cases h : VC a
      · rw [pb_true h, pb_false (fun h2 => hv ⟨h, h2⟩)]; rfl
      · rw [pb_false h]; rfl] at HC2
    clear hv HC hf
    go_enter Try.func26, Try.ntmps26
    go_wp2_with fail
    refine HC2.out.mono ?_
    rintro e w1 ⟨rfl, hq⟩
    have HB := Lib.hid (Quiet.below (B := w.heap.size) hq)
    clear HC2 hq
    go_wp2
    go_ret
    exact ⟨ret_int HP.out.symm, HB.out⟩
end Go.Proofs.Ytidoahicgiaodaa

/- Pure rests, by the program. -/
namespace Go.Proofs.Ytidoahicgiaodaa
open Go.RowKit

theorem Try.info32b : (Try.prog.info? 36).map (fun i => (i.zero, i.size, i.bytes)) = some (some (.slice none 0 0), 1, 24) := by kernel_rfl

/-- What the loops know: the game, the turned table, the rests so far. -/
structure PS (p : GP) (w : World) (N L : Nat) (wr : World) (v : Value) (vs : List Value) (xs ys rs : List (List Int)) : Prop where
  gt : GT p w wr w.heap.size xs ys
  tn : OwnR N L wr N (some ⟨N, 0, none⟩) p.m p.m (flip xs p.n p.m)
  bd : Bld L wr.heap.size wr v vs rs
  h1 : w.heap.size < N
  h2 : N < L
  h3 : L ≤ wr.heap.size
theorem PS.qu {p w N L wr wr' v vs xs ys rs} (h : PS p w N L wr v vs xs ys rs) (k : Quiet wr wr') : PS p w N L wr' v vs xs ys rs := by
  have kb : Below wr.heap.size wr wr' := k.below
  exact ⟨h.gt.up kb, h.tn.below kb, (h.bd.below kb).mono kb.size, h.h1, h.h2, Nat.le_trans h.h3 kb.size⟩

set_option maxHeartbeats 1000000 in
theorem PureRests_impl (A B : Option Addr) (n c m d : Nat) (xs ys : List (List Int)) (w : World) (hx : IntRows w A n c xs) (hy : IntRows w B m d ys) :
    Calls Try.prog 42 #[.agg #[.slice A n c, .slice B m d]] w (RetR (pureR xs ys) w) := by
  have hb0 := below_alloc w (.cells #[.slice A n c, .slice B m d] 50)
  have b0 := blk_new w 50 #[.slice A n c, .slice B m d]
  have HB := Lib.hid hb0
  have HK := Lib.hid b0
  have HX := Lib.hid (hx.keep (Keep.below hb0))
  have HY := Lib.hid (hy.keep (Keep.below hb0))
  have HX0 := Lib.hid hx
  have HY0 := Lib.hid hy
  clear hx hy hb0 b0
  go_enter Try.func42, Try.ntmps42
  go_wp2_with fail
  generalize w.alloc (.cells #[.slice A n c, .slice B m d] 50) = W1 at *
  have HC := Lib.hid (ValidGame_impl _ _ _ _ _ _ _ _ _ HX.out HY.out)
  by_cases hv : VG xs ys
  · refine ((pb_true hv) ▸ HC.out).mono ?_
    rintro e w1 ⟨rfl, hb⟩
    have hb2 := below_up HB.out hb
    have hk2 := blk_below HK.out hb
    obtain ⟨p, rfl, rfl, rfl, rfl, rfl, rfl, hg⟩ := GV.of HX0.out HY0.out hv
    have HT := Lib.hid (show GT p w w1 w.heap.size xs ys from ⟨hb2, hk2, hg⟩)
    have hn3 := hg.tx.n3
    have hm3 := hg.tx.m3
    have hn1 := hg.tx.n1
    have hm1 := hg.tx.m1
    have HP := Lib.hid (show pureR xs ys = allRests xs ys p.n p.m p.n by rw [pureR, if_pos (pb_true hv), hg.lx, hg.mx])
    have HLY := Lib.hid (show ∀ i, i < p.n → (gr ys i).length = p.m from fun i hi => (hg.ty.ints i hi).len)
    clear hb hv hb2 hk2 hg HX HY HX0 HY0 HB HK HC
    have k0 := HT.out.c0
    go_wp2_with fail
    refine (turned_any _ _ _ _ _ _ _ _ _ _ HT.out.gv.tx).mono ?_
    rintro e w2 ⟨rfl, ho, hb, hlt⟩
    have HS := Lib.hid (show PS p w w1.heap.size w2.heap.size w2 (.slice none 0 0) [] xs ys [] from ⟨HT.out.up hb, ho, Bld.nil _ _ _, blk_lt HT.out.box, hlt, Nat.le_refl _⟩)
    clear ho hb hlt HT k0
    generalize w1.heap.size = N at *
    generalize w2.heap.size = L at *
    have k1 := HS.out.gt.c1
    go_wp2
    clear k1
    go_loopw [4, 18] (fun v s wr => ∃ (i : Nat) (vs : List Value), i ≤ p.n ∧ s = .int .i64 i ∧ Hid (PS p w N L wr v vs xs ys (allRests xs ys p.n p.m i))) (fun _ s _ => p.n - (intOf s).toNat)
    case atStart => exact ⟨0, [], Nat.zero_le _, rfl, HS⟩
    case round =>
      clear HS
      obtain ⟨i, vs, hi, rfl, HS⟩ := hrel
      by_cases hin : i < p.n
      · have s1 := HS.out.gt.gv.ty.row i hin
        go_wp2
        clear s1
        go_loopw [4, 25] (fun v s wj => ∃ (j : Nat) (vs : List Value), j ≤ p.m ∧ s = .int .i64 j ∧ Hid (PS p w N L wj v vs xs ys (allRests xs ys p.n p.m i ++ rowRests xs ys p.n p.m i j))) (fun _ s _ => p.m - (intOf s).toNat)
        case atStart => exact ⟨0, vs, Nat.zero_le _, rfl, Lib.hid (by rw [rowRests, List.append_nil]; exact HS.out)⟩
        case round =>
          clear HS vs
          obtain ⟨j, vs, hj, rfl, HS⟩ := hrel
          by_cases hjm : j < p.m
          · have k0 := HS.out.gt.c0
            have r1 := HS.out.gt.gv.tx.row i hin
            have e1 := HS.out.gt.gv.tx.cell i j hin hjm
            have f1 := HS.out.gt.gv.ty.cell i j hin hjm
            obtain ⟨R, cc, t1, tI⟩ := HS.out.tn.row0 hjm
            have hfl : (gr (flip xs p.n p.m) j).length = p.n := by rw [gr_flip hjm]; simp
            have HQX := Lib.hid tI
            have HQY := Lib.hid (HS.out.gt.gv.ty.ints i hin)
            clear tI
            generalize hcol : gr (flip xs p.n p.m) j = col at *
            have HCOL := Lib.hid hcol
            clear hcol
            have QX := Lib.hid (fun W (hW : Quiet wr W) => Max_any _ _ _ _ W (HQX.out.keep (Keep.quiet hW)) (by omega))
            have QY := Lib.hid (fun W (hW : Quiet wr W) => Max_any _ _ _ _ W (HQY.out.keep (Keep.quiet hW)) (by omega))
            clear HQX HQY hfl
            by_cases h1 : g2 xs i j = mxl col
            · have h1' : (g2 xs i j == mxl col) = true := by simp [h1]
              by_cases h2 : g2 ys i j = mxl (gr ys i)
              · have h2' : (g2 ys i j == mxl (gr ys i)) = true := by simp [h2]
                have HR := Lib.hid (rowRests_yes ((RestAt_iff hin hjm (HLY.out i hin)).2 ⟨by rw [HCOL.out]; exact h1, h2⟩))
                clear h1 h2
                go_wp2
                go_quiet ((go_at_call 88; (first | (with_reducible refine quiet_fit (QX.out _ ?_) (fun m => ?_)) | (with_reducible refine quiet_fit (QY.out _ ?_) (fun m => ?_))); (first | exact ⟨_, rfl⟩ | exact Quiet.two _ _ _); (first | exact drewN_to1 _ _ _ | exact drewN_to2 _ _ _ _)))
                have HS2 := Lib.hid (HS.out.qu ⟨nq, rfl⟩)
                have hlen : (allRests xs ys p.n p.m i ++ rowRests xs ys p.n p.m i j).length ≤ 12 := by
                  have h1 := allRests_len xs ys p.n p.m hm3 i
                  have h2 := rowRests_len xs ys p.n p.m i j
                  rw [List.length_append]; omega
                clear QX QY h1' h2' HS k0 r1 e1 f1 t1
                generalize wr.drewN nq = w2 at *
                have hb3 := below_alloc w2 (.cells #[.int .i64 i, .int .i64 j] 3)
                have hb4 := below_alloc (w2.alloc (.cells #[.int .i64 i, .int .i64 j] 3)) (.cells #[.slice (some ⟨w2.heap.size, 0, none⟩) 2 2] 36)
                have HB4 := Lib.hid ((HS2.out.bd.below hb3).below hb4).own
                have HN := Lib.hid (cell_one_new (w2.alloc (.cells #[.int .i64 i, .int .i64 j] 3)) (.slice (some ⟨w2.heap.size, 0, none⟩) 2 2) 36)
                have hL := HS2.out.h3
                clear hb3 hb4
                generalize hrs : allRests xs ys p.n p.m i ++ rowRests xs ys p.n p.m i j = rs at *
                have HRS := Lib.hid hrs
                clear hrs
                obtain ⟨i0, hi0, hz0, hz1, hz2⟩ := info_parts Try.info32b
                go_wp2_with (at_builtin; refine wpList_append_own_at _ rfl _ _ 22 rfl L 36 i0 (.slice none 0 0) 1 24 Try.underlying22 hi0 hz0 hz1 hz2 rfl (by decide) _ rs.length vs rfl HB4.out ⟨w2.heap.size + 1, 0, none⟩ 1 1 [.slice (some ⟨w2.heap.size, 0, none⟩) 2 2] rfl rfl ?c1 ?c2 ?c3 ?c4 ?c5 ?_)
                case c1 => have h := HN.out; rw [World.size_alloc] at h; exact h
                case c2 => intro u hu; simp at hu; subst hu; rfl
                case c3 => unfold maxLen; omega
                case c4 => omega
                case c5 => simp; omega
                intro v' w5 hown' hgrow _ hat
                obtain ⟨hP, hK⟩ := push_pair HS2.out.bd (by omega) (by omega) hown' hgrow hat hL
                have HS5 := Lib.hid (show PS p w N L w5 v' _ xs ys _ from ⟨HS2.out.gt.up2 hK (by have := HS2.out.h1; have := HS2.out.h2; omega) (by have := HS2.out.h1; have := HS2.out.h2; omega), HS2.out.tn.of_blocks (fun g _ hg _ => hK.block g hg), hP, HS2.out.h1, HS2.out.h2, Nat.le_trans hL hK.size⟩)
                clear HB4 HN hown' hgrow hat hP hK HS2
                go_wp2
                go_roundw
                case rel => exact ⟨j + 1, _, by omega, by go_num, Lib.hid (by rw [HR.out, ← List.append_assoc, HRS.out]; exact HS5.out)⟩
                case measure => simp [intOf]; omega
              · have h2' : (g2 ys i j == mxl (gr ys i)) = false := by simp [h2]
                have HR := Lib.hid (rowRests_no (a := xs) (fun v => h2 ((RestAt_iff hin hjm (HLY.out i hin)).1 v).2))
                clear h1 h2
                go_wp2
                go_quiet ((go_at_call 88; (first | (with_reducible refine quiet_fit (QX.out _ ?_) (fun m => ?_)) | (with_reducible refine quiet_fit (QY.out _ ?_) (fun m => ?_))); (first | exact ⟨_, rfl⟩ | exact Quiet.two _ _ _); (first | exact drewN_to1 _ _ _ | exact drewN_to2 _ _ _ _)))
                have HS2 := Lib.hid (HS.out.qu ⟨nq, rfl⟩)
                go_wp2
                go_roundw
                case rel => exact ⟨j + 1, vs, by omega, by go_num, Lib.hid (by rw [HR.out]; exact HS2.out)⟩
                case measure => simp [intOf]; omega
            · have h1' : (g2 xs i j == mxl col) = false := by simp [h1]
              have HR := Lib.hid (rowRests_no (fun v => h1 (by have := ((RestAt_iff hin hjm (HLY.out i hin)).1 v).1; rw [HCOL.out] at this; exact this)))
              clear h1
              go_wp2
              go_quiet ((go_at_call 88; (first | (with_reducible refine quiet_fit (QX.out _ ?_) (fun m => ?_)) | (with_reducible refine quiet_fit (QY.out _ ?_) (fun m => ?_))); (first | exact ⟨_, rfl⟩ | exact Quiet.two _ _ _); (first | exact drewN_to1 _ _ _ | exact drewN_to2 _ _ _ _)))
              have HS2 := Lib.hid (HS.out.qu ⟨nq, rfl⟩)
              go_wp2
              go_roundw
              case rel => exact ⟨j + 1, vs, by omega, by go_num, Lib.hid (by rw [HR.out]; exact HS2.out)⟩
              case measure => simp [intOf]; omega
          · go_wp2
            go_roundw
            case rel => exact ⟨i + 1, vs, by omega, by go_num, Lib.hid (by have h := HS.out; rw [show j = p.m by omega] at h; rw [allRests]; exact h)⟩
            case measure => simp [intOf]; omega
      · go_wp2
        go_ret
        obtain ⟨A, n, c, g, rfl, hn, ho⟩ := HS.out.bd.owns (by have := allRests_len xs ys p.n p.m hm3 i; omega)
        have e : pureR xs ys = allRests xs ys p.n p.m i := by rw [HP.out, show i = p.n by omega]
        exact ⟨A, n, c, g, rfl, by rw [e]; exact hn, by rw [e]; exact ho.mono (by have := HS.out.h1; have := HS.out.h2; omega) (Nat.le_refl _), HS.out.gt.below⟩
  · have HZ := Lib.hid (show pureR xs ys = [] by rw [pureR, if_neg (by rw [pb_false hv]; decide)])
    refine ((pb_false hv) ▸ HC.out).mono ?_
    rintro e w1 ⟨rfl, hb⟩
    have HB2 := Lib.hid (below_up HB.out hb)
    clear hb hv HC
    go_wp2
    go_ret
    exact ⟨none, 0, 0, 0, rfl, by rw [HZ.out]; rfl, by rw [HZ.out]; exact OwnR.nil _ _ _ _, HB2.out⟩
end Go.Proofs.Ytidoahicgiaodaa

/- Rests, by both programs. -/
namespace Go.Proofs.Ytidoahicgiaodaa
open Go.RowKit

/-- No strategy has more than one with a share. -/
def RestP (a : List (List Int)) (w : List Int) (n : Nat) : Prop := ∀ i, i < n → 0 < gi w i → ∀ k, k < n → dotr a w k n ≤ dotr a w i n
structure RQ (a : List (List Int)) (w : List Int) : Prop where
  q : VQ a
  s : VS w a.length
  r : RestP a w a.length


/-- The greatest of the first k values. -/
def mxd (f : Nat → Int) : Nat → Int
  | 0 => 0
  | k + 1 => if k = 0 ∨ mxd f k < f k then f k else mxd f k
theorem mxd_up {f : Nat → Int} {k : Nat} (h : k = 0 ∨ mxd f k < f k) : mxd f (k + 1) = f k := by rw [mxd, if_pos h]
theorem mxd_same {f : Nat → Int} {k : Nat} (h : ¬ (k = 0 ∨ mxd f k < f k)) : mxd f (k + 1) = mxd f k := by rw [mxd, if_neg h]
theorem mxd_ge (f : Nat → Int) : ∀ {k i}, i < k → f i ≤ mxd f k
  | 0, _, h => absurd h (by omega)
  | k + 1, i, h => by
    by_cases hu : k = 0 ∨ mxd f k < f k
    · rw [mxd_up hu]
      by_cases e : i = k
      · subst e; exact Int.le_refl _
      · have := mxd_ge f (k := k) (i := i) (by omega)
        omega
    · rw [mxd_same hu]
      by_cases e : i = k
      · subst e; omega
      · exact mxd_ge f (by omega)
theorem mxd_at (f : Nat → Int) : ∀ {k}, 0 < k → ∃ i, i < k ∧ mxd f k = f i
  | 0, h => absurd h (by omega)
  | k + 1, _ => by
    by_cases hu : k = 0 ∨ mxd f k < f k
    · exact ⟨k, by omega, mxd_up hu⟩
    · obtain ⟨i, hi, e⟩ := mxd_at f (k := k) (by omega)
      exact ⟨i, by omega, (mxd_same hu).trans e⟩
/-- At rest all that is there has the most. -/
theorem rest_most (a : List (List Int)) (w : List Int) (n : Nat) (hn : 0 < n) : RestP a w n ↔ ∀ i, i < n → 0 < gi w i → dotr a w i n = mxd (fun i => dotr a w i n) n := by
  constructor
  · intro h i hi hp
    obtain ⟨k, hk, e⟩ := mxd_at (fun i => dotr a w i n) hn
    have h1 := h i hi hp k hk
    have h2 := mxd_ge (fun i => dotr a w i n) hi
    have e' : mxd (fun i => dotr a w i n) n = dotr a w k n := e
    have h2' : dotr a w i n ≤ mxd (fun i => dotr a w i n) n := h2
    omega
  · intro h i hi hp k hk
    rw [h i hi hp]
    exact mxd_ge (fun i => dotr a w i n) hk
theorem mxd_bd {f : Nat → Int} {B : Int} (hB : 0 ≤ B) : ∀ {k}, (∀ i, i < k → -B ≤ f i ∧ f i ≤ B) → -B ≤ mxd f k ∧ mxd f k ≤ B
  | 0, _ => by simp only [mxd]; omega
  | k + 1, h => by
    by_cases hu : k = 0 ∨ mxd f k < f k
    · rw [mxd_up hu]; exact h k (by omega)
    · rw [mxd_same hu]; exact mxd_bd hB fun i hi => h i (by omega)

end Go.Proofs.Ytidoahicgiaodaa

/- Shares at which some strategies have as much: the sums of the cofactors of the columns, and the differences to the first row. Plain. -/
namespace Go.Proofs.Ytidoahicgiaodaa
open V (sumN detN rowC colC cofN minorN skip sgn Asc)

/-- The square of a part, as it is. -/
def lf (a : List (List Int)) (r : Nat → Nat) : Nat → Nat → Int := fun p q => g2 a (r p) (r q) + 0
/-- The differences to the first row, behind a row of ones. -/
def mf (a : List (List Int)) (r : Nat → Nat) : Nat → Nat → Int := fun p q => if p = 0 then 1 else g2 a (r p) (r q) - g2 a (r 0) (r q)

theorem rowC_shift {k : Nat} (hk : k ≤ 3) {f g : Nat → Nat → Int} (z : Int) (h : ∀ p q, g p q = f p q + z) {p : Nat} (hp : p < k) : rowC k g p = rowC k f p := by
  have : k = 1 ∨ k = 2 ∨ k = 3 := by omega
  rcases this with rfl | rfl | rfl
  · simp [rowC, sumN, cofN, detN]
  · have : p = 0 ∨ p = 1 := by omega
    rcases this with rfl | rfl <;> simp [rowC, sumN, cofN, sgn, detN, minorN, skip, h] <;> omega
  · obtain ⟨e0, e1, e2⟩ := V.rowC3 f
    obtain ⟨d0, d1, d2⟩ := V.rowC3 g
    have : p = 0 ∨ p = 1 ∨ p = 2 := by omega
    rcases this with rfl | rfl | rfl
    · rw [e0, d0]; simp only [h]; grind
    · rw [e1, d1]; simp only [h]; grind
    · rw [e2, d2]; simp only [h]; grind
theorem lf_kY (a : List (List Int)) (r : Nat → Nat) {k : Nat} (hk : k ≤ 3) : cofL k (trN (lf a r)) k = kY a r r k := by
  unfold kY cofL
  refine List.map_congr_left fun p hp => ?_
  exact (rowC_shift hk 18 (f := trN (lf a r)) (g := trN (kf a r r)) (fun p q => by unfold trN lf kf; omega) (List.mem_range.1 hp)).symm
theorem gi_kY {a : List (List Int)} {r : Nat → Nat} {k : Nat} (hk : k ≤ 3) {c : Nat} (hc : c < k) : gi (kY a r r k) c = colC k (kf a r r) c := by
  unfold kY; rw [gi_cofL hc, rowC_tr hk]
theorem mf_cof {a : List (List Int)} {r : Nat → Nat} {k : Nat} (hk : k ≤ 3) {c : Nat} (hc : c < k) : cofN k (mf a r) 0 c = gi (kY a r r k) c := by
  rw [gi_kY hk hc]
  have : k = 1 ∨ k = 2 ∨ k = 3 := by omega
  rcases this with rfl | rfl | rfl
  · obtain rfl : c = 0 := by omega
    simp [colC, sumN, cofN, sgn, detN]
  · have : c = 0 ∨ c = 1 := by omega
    rcases this with rfl | rfl <;> simp [colC, sumN, cofN, sgn, detN, minorN, skip, mf, kf] <;> omega
  · obtain ⟨e0, e1, e2⟩ := V.colC3 (kf a r r)
    have : c = 0 ∨ c = 1 ∨ c = 2 := by omega
    rcases this with rfl | rfl | rfl
    · rw [e0]; simp [sumN, cofN, sgn, detN, minorN, skip, mf, kf]; grind
    · rw [e1]; simp [sumN, cofN, sgn, detN, minorN, skip, mf, kf]; grind
    · rw [e2]; simp [sumN, cofN, sgn, detN, minorN, skip, mf, kf]; grind
theorem mf_det {a : List (List Int)} {r : Nat → Nat} {k : Nat} (h1 : 1 ≤ k) (hk : k ≤ 3) : detN k (mf a r) = sumN (gi (kY a r r k)) k := by
  obtain ⟨l, rfl⟩ : ∃ l, k = l + 1 := ⟨k - 1, by omega⟩
  rw [detN]
  refine sumN_congr fun j hj => ?_
  rw [← mf_cof hk hj]
  unfold cofN
  rw [Nat.zero_add, show mf a r 0 j = 1 from rfl, Nat.add_sub_cancel, Int.one_mul]
theorem mf_ab {a : List (List Int)} (v : VT a) (h : a.length = (gr a 0).length) {r : Nat → Nat} {k : Nat} (hr : Asc a.length k r) : Ab k (mf a r) := fun p q hp hq => by
  unfold mf
  have h0 := hr.1 0 (by omega)
  have hpp := hr.1 p hp
  have hqq := hr.1 q hq
  have e1 := v.bd hpp (j := r q) (by omega)
  have e2 := v.bd h0 (j := r q) (by omega)
  split <;> omega

/-- All numbers more than 0, or all less. -/
def LevP (X : List Int) : Prop := (∀ p, p < X.length → 0 < gi X p) ∨ ∀ p, p < X.length → gi X p < 0
theorem LevP.clr {X : List Int} (h : LevP X) (h0 : 0 < X.length) : ClrP X := by
  rcases h with h | h
  · exact ⟨⟨0, h0, by have := h 0 h0; omega⟩, .inl fun p hp => by have := h p hp; omega⟩
  · exact ⟨⟨0, h0, by have := h 0 h0; omega⟩, .inr fun p hp => by have := h p hp; omega⟩
def levB (xs : List Int) : Bool := decide (lst xs ≤ 0) && decide (0 ≤ mxl xs)
theorem levB_iff {xs : List Int} (h0 : 0 < xs.length) : levB xs = false ↔ LevP xs := by
  unfold levB lst mxl LevP
  rw [Bool.and_eq_false_iff, decide_eq_false_iff_not, decide_eq_false_iff_not]
  constructor
  · rintro (h | h)
    · exact .inl fun p hp => by have := mn_le (xs := xs) (k := xs.length - 1) (j := p) (by omega); omega
    · exact .inr fun p hp => by have := mx_ge xs (k := xs.length - 1) (j := p) (by omega); omega
  · rintro (h | h)
    · obtain ⟨j, hj, e⟩ := mn_mem (xs := xs) (xs.length - 1)
      exact .inl (by have := h j (by omega); omega)
    · obtain ⟨j, hj, e⟩ := mx_at xs (xs.length - 1)
      exact .inr (by have := h j (by omega); omega)

/-- The first c numbers, times z. -/
def sgL (X : List Int) (z : Int) (c : Nat) : List Int := (List.range c).map fun p => z * gi X p
theorem sgL_succ (X : List Int) (z : Int) (c : Nat) : sgL X z (c + 1) = sgL X z c ++ [z * gi X c] := by simp [sgL, List.range_succ]
theorem sgL_len (X : List Int) (z : Int) (c : Nat) : (sgL X z c).length = c := by simp [sgL]
theorem gi_sgL {X : List Int} {z : Int} {c p : Nat} (h : p < c) : gi (sgL X z c) p = z * gi X p := by
  rw [gi_get (by rw [sgL_len]; exact h)]; simp [sgL]
theorem gcdL_sgL {X : List Int} {z : Int} (hz : z = 1 ∨ z = -1) {k : Nat} : ∀ {j}, j ≤ k → gcdL (sgL X z k) j = gcdL X j
  | 0, _ => rfl
  | j + 1, h => by
    rw [gcdL, gcdL, gcdL_sgL hz (by omega), gi_sgL (by omega)]
    rcases hz with rfl | rfl
    · rw [Int.one_mul]
    · unfold gcdI; rw [Int.neg_one_mul, Int.gcd_neg]
theorem shr_sgL {X : List Int} {z : Int} (hz : z = 1 ∨ z = -1) {n k : Nat} {r : Nat → Nat} (hl : X.length = k) : shr n r (sgL X z k) k = shr n r X k := by
  unfold shr
  rw [sgL_len, hl, gcdL_sgL hz (Nat.le_refl _)]
  congr 1
  unfold clrL
  refine List.map_congr_left fun p hp => ?_
  rw [gi_sgL (List.mem_range.1 hp)]
  rcases hz with rfl | rfl
  · rw [Int.one_mul]
  · rw [show max (-1 * gi X p) (-(-1 * gi X p)) = max (gi X p) (-(gi X p)) by omega]
/-- The sign of the sum. -/
def zsg (X : List Int) (k : Nat) : Int := if sumN (gi X) k < 0 then -1 else 1
theorem zsg_or (X : List Int) (k : Nat) : zsg X k = 1 ∨ zsg X k = -1 := by unfold zsg; split <;> simp
theorem lev_sum {X : List Int} (h : LevP X) (h0 : 0 < X.length) : sumN (gi X) X.length ≠ 0 ∧ ∀ p, p < X.length → 0 < zsg X X.length * gi X p := by
  rcases h with h | h
  · have hs := sumN_pos (f := gi X) (n := X.length) (fun i hi => by have := h i hi; omega) ⟨0, h0, h 0 h0⟩
    refine ⟨by omega, fun p hp => ?_⟩
    unfold zsg; rw [if_neg (by omega), Int.one_mul]; exact h p hp
  · have hs := sumN_pos (f := fun i => (-1) * gi X i) (n := X.length) (fun i hi => by have := h i hi; omega) ⟨0, h0, by have := h 0 h0; omega⟩
    rw [sumN_mul] at hs
    refine ⟨by omega, fun p hp => ?_⟩
    unfold zsg; rw [if_pos (by omega)]; have := h p hp; omega
theorem lev_of {X : List Int} {z : Int} (hz : z = 1 ∨ z = -1) (h : ∀ p, p < X.length → 0 < z * gi X p) : LevP X := by
  rcases hz with rfl | rfl
  · exact .inl fun p hp => by have := h p hp; omega
  · exact .inr fun p hp => by have := h p hp; omega

theorem memL_ge : ∀ R, R < 8 → ∀ n, n < 4 → 1 ≤ R → R < 2 ^ n → 1 ≤ (memL R n).length := by decide
/-- The shares of some strategies are the only ones at which these have as much, and no other one has more. -/
def LevAt (a : List (List Int)) (k : Nat) (r : Nat → Nat) : Prop := LevP (kY a r r k) ∧ RestP a (shr a.length r (kY a r r k) k) a.length
def lvl (a : List (List Int)) (s : Nat) : List Int := shr a.length (idx s a.length) (kY a (idx s a.length) (idx s a.length) (memL s a.length).length) (memL s a.length).length
def LvP (a : List (List Int)) (s : Nat) : Prop := 1 ≤ s ∧ s < 2 ^ a.length ∧ LevAt a (memL s a.length).length (idx s a.length)
noncomputable def resR (a : List (List Int)) : Nat → List (List Int)
  | 0 => []
  | s + 1 => if pb (LvP a s) = true then resR a s ++ [lvl a s] else resR a s
noncomputable def resF (a : List (List Int)) : List (List Int) := if pb (VQ a) = true then resR a 8 else []
theorem resR_yes {a : List (List Int)} {s : Nat} (h : LvP a s) : resR a (s + 1) = resR a s ++ [lvl a s] := by rw [resR, if_pos (pb_true h)]
theorem resR_no {a : List (List Int)} {s : Nat} (h : ¬ LvP a s) : resR a (s + 1) = resR a s := by rw [resR, if_neg (by rw [pb_false h]; decide)]
theorem lvl_len (a : List (List Int)) (s : Nat) : (lvl a s).length = a.length := putL_len _ _ _ _
theorem resR_one (a : List (List Int)) : resR a 1 = [] := by rw [resR_no (fun h => by have := h.1; omega)]; rfl
theorem resR_len (a : List (List Int)) : ∀ s, (resR a s).length ≤ s
  | 0 => by simp [resR]
  | s + 1 => by
    have := resR_len a s
    by_cases h : LvP a s
    · rw [resR_yes h, List.length_append, List.length_singleton]; omega
    · rw [resR_no h]; omega
theorem resR_end {a : List (List Int)} : ∀ {d}, resR a (2 ^ a.length + d) = resR a (2 ^ a.length)
  | 0 => rfl
  | d + 1 => by rw [← Nat.add_assoc, resR_no (fun h => by have := h.2.1; omega), resR_end]
theorem resR_all {a : List (List Int)} (h : a.length ≤ 3) : resR a 8 = resR a (2 ^ a.length) := by
  have h8 : 2 ^ a.length ≤ 8 := pow_le8 h
  have := resR_end (a := a) (d := 8 - 2 ^ a.length)
  rwa [show 2 ^ a.length + (8 - 2 ^ a.length) = 8 by omega] at this
theorem mem_resR {a : List (List Int)} {x : List Int} : ∀ {k}, x ∈ resR a k ↔ ∃ s, s < k ∧ LvP a s ∧ x = lvl a s
  | 0 => by simp [resR]
  | k + 1 => by
    have ih := mem_resR (a := a) (x := x) (k := k)
    by_cases h : LvP a k
    · rw [resR_yes h, List.mem_append, List.mem_singleton, ih]
      constructor
      · rintro (⟨s, h1, h2, h3⟩ | h1)
        · exact ⟨s, by omega, h2, h3⟩
        · exact ⟨k, by omega, h, h1⟩
      · rintro ⟨s, h1, h2, h3⟩
        by_cases e : s = k
        · subst e; exact .inr h3
        · exact .inl ⟨s, by omega, h2, h3⟩
    · rw [resR_no h, ih]
      constructor
      · rintro ⟨s, h1, h2, h3⟩; exact ⟨s, by omega, h2, h3⟩
      · rintro ⟨s, h1, h2, h3⟩
        by_cases e : s = k
        · subst e; exact absurd h2 h
        · exact ⟨s, by omega, h2, h3⟩
theorem lvl_VS {a : List (List Int)} (q : VQ a) {s : Nat} (h : LvP a s) (h8 : s < 8) : VS (lvl a s) a.length := by
  have hk3 : (memL s a.length).length ≤ 3 := by have := memL_le s a.length; have := q.1.n3; omega
  have h1 := memL_ge s h8 a.length (by have := q.1.n3; omega) h.1 h.2.1
  have hr := idx_asc s a.length
  exact shr_VS (kY_len _ _ _ _) hr (h.2.2.1.clr (by rw [kY_len]; omega)) (fun p hp => kY_bd q.1 hk3 hr (by rw [← q.2]; exact hr) hp)
end Go.Proofs.Ytidoahicgiaodaa

/- The shares of some strategies at which these have as much, by the model. -/
namespace Go.Proofs.Ytidoahicgiaodaa
open Go.RowKit
open V (sumN detN rowC colC cofN minorN skip sgn Asc)

/-- The first j numbers of row p of the differences; the first i rows. -/
def dfR (a : List (List Int)) (r : Nat → Nat) (p j : Nat) : List Int := (List.range j).map fun q => mf a r p q
def dfL (a : List (List Int)) (r : Nat → Nat) (k i : Nat) : List (List Int) := (List.range i).map fun p => dfR a r p k
theorem dfR_succ (a : List (List Int)) (r : Nat → Nat) (p j : Nat) : dfR a r p (j + 1) = dfR a r p j ++ [mf a r p j] := by simp [dfR, List.range_succ]
theorem dfL_succ (a : List (List Int)) (r : Nat → Nat) (k i : Nat) : dfL a r k (i + 1) = dfL a r k i ++ [dfR a r i k] := by simp [dfL, List.range_succ]
theorem dfR_len (a : List (List Int)) (r : Nat → Nat) (p j : Nat) : (dfR a r p j).length = j := by simp [dfR]
theorem dfL_len (a : List (List Int)) (r : Nat → Nat) (k i : Nat) : (dfL a r k i).length = i := by simp [dfL]
theorem dfL_sq (a : List (List Int)) (r : Nat → Nat) (k : Nat) : Sq k (dfL a r k k) (mf a r) :=
  ⟨dfL_len _ _ _ _, fun p hp => by rw [gr_get (by rw [dfL_len]; exact hp)]; simp [dfL, dfR], fun p q hp hq => by
    unfold g2; rw [gr_get (by rw [dfL_len]; exact hp), gi_get (by simp [dfL, dfR]; exact hq)]; simp [dfL, dfR]⟩
theorem dfR_zero {a : List (List Int)} {r : Nat → Nat} {p j : Nat} (h : p = 0) : dfR a r p (j + 1) = dfR a r p j ++ [1] := by subst h; exact dfR_succ _ _ _ _
theorem dfR_next {a : List (List Int)} {r : Nat → Nat} {p j : Nat} (h : p ≠ 0) : dfR a r p (j + 1) = dfR a r p j ++ [g2 a (r p) (r j) - g2 a (r 0) (r j)] := by
  rw [dfR_succ, mf, if_neg h]
theorem mf_odd {a : List (List Int)} {r : Nat → Nat} {k c : Nat} (hk : k ≤ 3) (hc : c < k) (h : c % 2 = 1) : gi (kY a r r k) c = -(detN (k - 1) (minorN (mf a r) 0 c)) := by
  rw [← mf_cof hk hc, cofN_odd (by omega)]
theorem mf_even {a : List (List Int)} {r : Nat → Nat} {k c : Nat} (hk : k ≤ 3) (hc : c < k) (h : ¬ c % 2 = 1) : gi (kY a r r k) c = detN (k - 1) (minorN (mf a r) 0 c) := by
  rw [← mf_cof hk hc, cofN_even (by omega)]

end Go.Proofs.Ytidoahicgiaodaa

/- Best shares by a part of a table, by the model. -/
namespace Go.Proofs.Ytidoahicgiaodaa
open Go.RowKit
open V (sumN detN rowC colC cofN minorN skip sgn Asc Kern)

/-- Shares by a part, and that they are best; or that there are none. -/
def NewK (w : World) (a : List (List Int)) (k : Nat) (r s : Nat → Nat) (e : Ending) (w' : World) : Prop :=
  (KerP a k r s ∧ ∃ A1 c1 A2 c2, e = .returned (.tuple #[.slice A1 a.length c1, .slice A2 (gr a 0).length c2, .bool true]) ∧ Ints w' A1 a.length c1 (shr a.length r (kX a r s k) k) ∧
    Ints w' A2 (gr a 0).length c2 (shr (gr a 0).length s (kY a r s k) k) ∧ Below w.heap.size w w') ∨
  (¬ KerP a k r s ∧ ∃ v1 v2, e = .returned (.tuple #[v1, v2, .bool false]) ∧ Below w.heap.size w w')
theorem flip_tr {xss : List (List Int)} {k : Nat} {f : Nat → Nat → Int} (h : Sq k xss f) : Sq k (flip xss k k) (trN f) :=
  ⟨flip_len _ _ _, fun p hp => by rw [gr_flip hp]; simp, fun p q hp hq => by
    unfold g2; rw [gr_flip hp, gi_col hq]; exact h.eq q p hq hp⟩
theorem Pl.keep {w w' : World} {X k c r n} (h : Pl w X k c r n) (q : Keep w w') : Pl w' X k c r n := ⟨h.ints.keep q, h.lt⟩

/-- What cleared answers, with its flag as a letter. -/
def ClrV (w' : World) (xs : List Int) (ok : Bool) (v : Value) : Prop :=
  (ok = true ∧ ClrP xs ∧ ∃ A c, v = .slice A xs.length c ∧ Ints w' A xs.length c (clrL xs (gcdL xs xs.length) xs.length)) ∨ (ok = false ∧ ¬ ClrP xs)
theorem NewC.uni {w w' : World} {xs : List Int} {e : Ending} (h : NewC w xs e w') : ∃ ok v, e = .returned (.tuple #[v, .bool ok]) ∧ Below w.heap.size w w' ∧ ClrV w' xs ok v := by
  rcases h with ⟨h1, A, n, c, g, rfl, rfl, ho, hb⟩ | ⟨h1, rfl, hb⟩
  · exact ⟨true, _, rfl, hb, .inl ⟨rfl, h1, A, c, rfl, ho.ints⟩⟩
  · exact ⟨false, _, rfl, hb, .inr ⟨rfl, h1⟩⟩
theorem ClrV.keep {w' w2 : World} {xs : List Int} {ok : Bool} {v : Value} (h : ClrV w' xs ok v) (k : Keep w' w2) : ClrV w2 xs ok v := by
  rcases h with ⟨h1, h2, A, c, h3, h4⟩ | h
  · exact .inl ⟨h1, h2, A, c, h3, h4.keep k⟩
  · exact .inr h
theorem mid_of {x : Int} (h : -648 ≤ x ∧ x ≤ 648) : Mid x := by unfold Mid; omega

end Go.Proofs.Ytidoahicgiaodaa

/- The value's shares, by the model. -/
namespace Go.Proofs.Ytidoahicgiaodaa
open Go.RowKit
open V (Asc)

/-- The best shares of a table. -/
def NewV (w : World) (a : List (List Int)) (e : Ending) (w' : World) : Prop :=
  ∃ A1 c1 A2 c2, e = .returned (.tuple #[.slice A1 a.length c1, .slice A2 (gr a 0).length c2]) ∧ Ints w' A1 a.length c1 (bx a) ∧ Ints w' A2 (gr a 0).length c2 (by_ a) ∧ Below w.heap.size w w'
theorem NewK.no {w w' : World} {a : List (List Int)} {k : Nat} {r s : Nat → Nat} {e : Ending} (h : NewK w a k r s e w') (hn : ¬ KerP a k r s) : ∃ v1 v2, e = .returned (.tuple #[v1, v2, .bool false]) ∧ Below w.heap.size w w' := by
  rcases h with ⟨h1, _⟩ | ⟨_, h⟩
  · exact absurd h1 hn
  · exact h
theorem NewK.yes {w w' : World} {a : List (List Int)} {k : Nat} {r s : Nat → Nat} {e : Ending} (h : NewK w a k r s e w') (hn : KerP a k r s) :
    ∃ A1 c1 A2 c2, e = .returned (.tuple #[.slice A1 a.length c1, .slice A2 (gr a 0).length c2, .bool true]) ∧ Ints w' A1 a.length c1 (shr a.length r (kX a r s k) k) ∧
      Ints w' A2 (gr a 0).length c2 (shr (gr a 0).length s (kY a r s k) k) ∧ Below w.heap.size w w' := by
  rcases h with ⟨_, h⟩ | ⟨h1, _⟩
  · exact h
  · exact absurd hn h1
theorem memL_pl {w : World} {A : Option Addr} {n c S m : Nat} (h : Ints w A n c (memL S m)) (e : n = (memL S m).length) : Pl w A n c (idx S m) m := by
  subst e
  exact ⟨by rw [← memL_idx]; exact h, (idx_asc S m).1⟩

end Go.Proofs.Ytidoahicgiaodaa

/- The rests of a table, by the model. -/
namespace Go.Proofs.Ytidoahicgiaodaa
open Go.RowKit
open V (sumN detN rowC colC cofN minorN skip sgn Asc)

theorem shl_val' {n : Nat} (h : n ≤ 3) : ∃ P : Nat, wrap64 ((2 : Int) ^ n) = (P : Int) ∧ P = 2 ^ n := by
  refine ⟨2 ^ n, ?_, rfl⟩
  have : n = 0 ∨ n = 1 ∨ n = 2 ∨ n = 3 := by omega
  rcases this with rfl | rfl | rfl | rfl <;> (unfold wrap64; decide)
theorem NewT.from {w w1 w2 : World} {xss : List (List Int)} {e : Ending} (h : Below w.heap.size w w1) (k : NewT w1 xss e w2) : NewT w xss e w2 := by
  obtain ⟨A, n, c, g, e1, e2, ho, hb⟩ := k
  exact ⟨A, n, c, g, e1, e2, ho.mono h.size (Nat.le_refl _), below_up h hb⟩
theorem TM.new {wb vs xss w} {A : Option Addr} {n c : Nat} (h : TM wb (.slice A n c) vs xss w) (hm : xss.length ≤ 100) : NewT wb xss (.returned (.slice A n c)) w := by
  obtain ⟨A', n', c', gg, e, hn', hown⟩ := h.bo.owns (by omega)
  injection e with e1 e2 e3
  subst e1
  subst e2
  subst e3
  exact ⟨_, _, _, gg, rfl, hn', hown, h.up⟩
theorem NewT.none {w w' : World} {xss : List (List Int)} (h : Below w.heap.size w w') (hx : xss = []) : NewT w xss (.returned (.slice none 0 0)) w' := by
  subst hx
  exact ⟨_, _, _, 0, rfl, rfl, OwnR.nil _ _ _ _, h⟩
theorem resF_yes {a : List (List Int)} (h : VQ a) : resF a = resR a 8 := by unfold resF; rw [if_pos (pb_true h)]
theorem resF_no {a : List (List Int)} (h : ¬ VQ a) : resF a = [] := by unfold resF; rw [if_neg (by rw [pb_false h]; decide)]

end Go.Proofs.Ytidoahicgiaodaa

/- Best replies, by the program. -/
namespace Go.Proofs.Ytidoahicgiaodaa
open Go.RowKit

theorem Try.info_row9 : (Try.prog.info? 36).map (fun i => (i.zero, i.size, i.bytes)) = some (some (.slice none 0 0), 1, 24) := by kernel_rfl
/-- Where a number stands. -/
def atB (x : Int) (xs : List Int) : Nat → Bool := fun k => decide (gi xs k = x)
/-- The best replies, when one plays an act now. -/
def brF (pays : List Int) (now : Nat) : List Int := if gi pays now = mxl pays then [] else selL (atB (mxl pays) pays) pays.length
theorem brF_len (pays : List Int) (now : Nat) : (brF pays now).length ≤ pays.length := by
  unfold brF; split
  · simp
  · exact selL_len _ _
theorem brF_mem {pays : List Int} {now : Nat} {y : Int} : y ∈ brF pays now ↔ gi pays now ≠ mxl pays ∧ ∃ k : Nat, k < pays.length ∧ gi pays k = mxl pays ∧ y = k := by
  unfold brF; split
  · rename_i h; simp [h]
  · rename_i h; rw [selL_mem]; simp [atB, h]
def colOf (xs : List (List Int)) (n j : Nat) : List Int := (List.range n).map fun i => g2 xs i j
theorem colOf_len (xs : List (List Int)) (n j : Nat) : (colOf xs n j).length = n := by simp [colOf]
theorem gi_colOf {xs : List (List Int)} {n i j : Nat} (h : i < n) : gi (colOf xs n j) i = g2 xs i j := gi_col h
theorem flip_colOf {xs : List (List Int)} {n m j : Nat} (h : j < m) : gr (flip xs n m) j = colOf xs n j := gr_flip h
def mvA (j : Nat) (l : List Int) : List (List Int) := l.map fun r => [r, (j : Int)]
def mvB (i : Nat) (l : List Int) : List (List Int) := l.map fun c => [(i : Int), c]
theorem mvA_len (j : Nat) (l : List Int) : (mvA j l).length = l.length := by simp [mvA]
theorem mvB_len (j : Nat) (l : List Int) : (mvB j l).length = l.length := by simp [mvB]
theorem mvA_step (j : Nat) {l : List Int} {k : Nat} (h : k < l.length) : mvA j (l.take (k + 1)) = mvA j (l.take k) ++ [[gi l k, (j : Int)]] := by
  rw [mvA, mvA, List.take_add_one, List.map_append, List.getElem?_eq_getElem h, gi_get h]; rfl
theorem mvB_step (j : Nat) {l : List Int} {k : Nat} (h : k < l.length) : mvB j (l.take (k + 1)) = mvB j (l.take k) ++ [[(j : Int), gi l k]] := by
  rw [mvB, mvB, List.take_add_one, List.map_append, List.getElem?_eq_getElem h, gi_get h]; rfl
/-- The pairs to which a pair leads. -/
def repL (xs ys : List (List Int)) (n i j : Nat) : List (List Int) := mvA j (brF (colOf xs n j) i) ++ mvB i (brF (gr ys i) j)
noncomputable def repF (xs ys : List (List Int)) (i j : Int) : List (List Int) := if (pb (VG xs ys) && pb (Blw xs.length i) && pb (Blw (gr xs 0).length j)) = true then repL xs ys xs.length i.toNat j.toNat else []

set_option maxRecDepth 100000 in
set_option maxHeartbeats 3200000 in
theorem indexesOf_any (x : Int) (A : Option Addr) (n c : Nat) (xs : List Int) (w : World) (hx : Ints w A n c xs) (hn : n ≤ 100) :
    Calls Try.prog 80 #[.int .i64 x, .slice A n c] w (NewI w (selL (atB x xs) n)) := by
  have HX := Lib.hid hx
  clear hx
  have HS0 := Lib.hid (IU.nil w)
  go_enter Try.func80, Try.ntmps80
  go_wp2
  go_loopw [5, 10] (fun v i wr => ∃ k : Nat, k ≤ n ∧ i = .int .i64 k ∧ Hid (IU w v (selL (atB x xs) k) wr)) (fun _ i _ => n - (intOf i).toNat)
  case atStart => exact ⟨0, by omega, rfl, HS0⟩
  case round =>
    clear HS0
    obtain ⟨k, hk, rfl, HI⟩ := hrel
    obtain ⟨Av, cv, rfl⟩ := HI.out.bi.form
    by_cases hlt : k < n
    · obtain ⟨b, o, rfl, hc⟩ := (HX.out.keep (Keep.below HI.out.up)).at_ (by omega)
      have c1 := hc k hlt
      clear hc
      by_cases hm : gi xs k = x
      · have hm' : (gi xs k == x) = true := by simp [hm]
        have HCS := Lib.hid (selL_yes (f := atB x xs) (k := k) (by simp [atB, hm]))
        clear hm
        have HML := Lib.hid (selL_len (atB x xs) k)
        have hb := below_alloc wr (.cells #[iv (k : Int)] 3)
        have HB4 := Lib.hid (HI.out.bi.below hb).own
        have HN := Lib.hid (cell_one_new wr (iv (k : Int)) 3)
        have hwz := HI.out.up.size
        clear hb
        generalize selL (atB x xs) k = ys at *
        obtain ⟨i0, hi0, hz0, hz1, hz2⟩ := info_parts Try.info_int
        go_wp2_with (at_builtin; refine wpList_append_own_at _ rfl _ _ 36 rfl w.heap.size 3 i0 (.int .i64 0) 1 8 Try.underlying36 hi0 hz0 hz1 hz2 rfl (by decide) _ ys.length (ys.map iv) rfl HB4.out ⟨wr.heap.size, 0, none⟩ 1 1 [iv (k : Int)] rfl rfl ?c1 ?c2 ?c3 ?c4 ?c5 ?_)
        case c1 => exact HN.out
        case c2 => intro u hu; simp at hu; subst hu; rfl
        case c3 => have := HML.out; unfold maxLen; omega
        case c4 => have := HML.out; omega
        case c5 => simp; omega
        intro v' w5 hown' hgrow _ hat
        have HI5 := Lib.hid (HI.out.push hown' hgrow (by simpa using hat))
        clear HB4 HN hown' hgrow hat HI c1
        go_wp2
        go_roundw
        case rel => exact ⟨k + 1, by omega, by go_num, Lib.hid (by rw [HCS.out]; exact HI5.out)⟩
        case measure => simp [intOf]; omega
      · have hm' : (gi xs k == x) = false := by simp [hm]
        have HCS := Lib.hid (selL_no (f := atB x xs) (k := k) (by simp [atB, hm]))
        clear hm
        go_wp2
        go_roundw
        case rel => exact ⟨k + 1, by omega, by go_num, Lib.hid (by rw [HCS.out]; exact HI.out)⟩
        case measure => simp [intOf]; omega
    · obtain rfl : k = n := by omega
      have HNW := Lib.hid (HI.out.new (by have := selL_len (atB x xs) k; omega) (selL_small _ k hn))
      go_wp2
      go_ret
      exact HNW.out
set_option maxRecDepth 100000 in
set_option maxHeartbeats 1600000 in
theorem bestReplies_any (A : Option Addr) (n c : Nat) (xs : List Int) (now : Nat) (w : World) (hx : Ints w A n c xs) (hn : n ≤ 100) (h0 : now < n) :
    Calls Try.prog 129 #[.slice A n c, .int .i64 now] w (NewI w (brF xs now)) := by
  have HC := Lib.hid (Max_any A n c xs w hx (by omega))
  have HX := Lib.hid hx
  have hl := hx.len
  clear hx
  by_cases hm : gi xs now = mxl xs
  · have hm' : (gi xs now == mxl xs) = true := by simp [hm]
    have HE := Lib.hid (show brF xs now = [] by rw [brF, if_pos hm])
    clear hm hl
    go_enter Try.func129, Try.ntmps129
    go_wp2_with fail
    refine HC.out.mono ?_
    rintro e w1 ⟨rfl, hq⟩
    obtain ⟨b, o, rfl, hc⟩ := (HX.out.keep (Keep.quiet hq)).at_ (by omega)
    have c1 := hc now h0
    have HQ := Lib.hid (Quiet.below (B := w.heap.size) hq)
    clear hc hq HC
    go_wp2
    go_ret
    exact NewI.empty HQ.out HE.out
  · have hm' : (gi xs now == mxl xs) = false := by simp [hm]
    have HE := Lib.hid (show selL (atB (mxl xs) xs) n = brF xs now by rw [brF, if_neg hm, hl])
    clear hm hl
    go_enter Try.func129, Try.ntmps129
    go_wp2_with fail
    refine HC.out.mono ?_
    rintro e w1 ⟨rfl, hq⟩
    have HX1 := Lib.hid (HX.out.keep (Keep.quiet hq))
    have HQ := Lib.hid (Quiet.below (B := w.heap.size) hq)
    obtain ⟨b, o, rfl, hc⟩ := (HX.out.keep (Keep.quiet hq)).at_ (by omega)
    have c1 := hc now h0
    clear hc hq HC HX
    go_wp2_with fail
    refine (HE.out ▸ indexesOf_any _ _ _ _ xs _ HX1.out hn).mono ?_
    rintro e w2 hN
    have HN := Lib.hid (NewI.from HQ.out hN)
    obtain ⟨Av, k, cv, gg, rfl, -⟩ := hN
    clear HQ HX1 c1
    go_wp2
    go_ret
    exact HN.out
theorem NewT.is {w w' : World} {a b : List (List Int)} {e : Ending} (h : a = b) (k : NewT w a e w') : NewT w b e w' := h ▸ k
/-- Rows under way, and a list of ints that is read beside them. -/
structure RS (wb : World) (lo hi : Nat) (v : Value) (vs : List Value) (acc : List (List Int)) (gg : Nat) (A : Option Addr) (n c : Nat) (ls : List Int) (wr : World) : Prop where
  tm : TM wb v vs acc wr
  li : OwnI lo hi wr gg A n c ls
  hi_ : hi ≤ wr.heap.size
  far : ∀ k, v.ownBlock = some k → k < lo ∨ hi ≤ k
theorem RS.start {wb w1 w2 : World} {v : Value} {vs : List Value} {acc : List (List Int)} {gg : Nat} {A : Option Addr} {n c : Nat} {ls : List Int} (h : TM wb v vs acc w1) (ho : OwnI w1.heap.size w2.heap.size w2 gg A n c ls) (hb : Below w1.heap.size w1 w2) :
    RS wb w1.heap.size w2.heap.size v vs acc gg A n c ls w2 :=
  ⟨h.next hb, ho, Nat.le_refl _, fun k hk => .inl (h.bo.hi_ k hk)⟩
theorem RS.push {wb wr w6 : World} {lo hi : Nat} {v v' : Value} {vs : List Value} {acc : List (List Int)} {gg n c : Nat} {A : Option Addr} {ls : List Int} {x y : Int} (h : RS wb lo hi v vs acc gg A n c ls wr)
    (hr : OwnI wr.heap.size (wr.heap.size + 1) (wr.alloc (.cells #[.int .i64 x, .int .i64 y] 3)) wr.heap.size (some ⟨wr.heap.size, 0, none⟩) 2 2 [x, y])
    (hown : w6.ownsRow wb.heap.size 36 1 v' (acc.length + 1) (vs ++ [.slice (some ⟨wr.heap.size, 0, none⟩) 2 2]))
    (hgrow : ((wr.alloc (.cells #[.int .i64 x, .int .i64 y] 3)).alloc (.cells #[.slice (some ⟨wr.heap.size, 0, none⟩) 2 2] 36)).grownBy w6 v.ownBlock)
    (hat : v'.ownBlock = v.ownBlock ∨ v'.ownBlock = some ((wr.alloc (.cells #[.int .i64 x, .int .i64 y] 3)).heap.size + 1)) :
    RS wb lo hi v' (vs ++ [.slice (some ⟨wr.heap.size, 0, none⟩) 2 2]) (acc ++ [[x, y]]) gg A n c ls w6 := by
  have h1 := h.hi_
  have hk := below_alloc wr (.cells #[.int .i64 x, .int .i64 y] 3)
  have h3 := hgrow.size
  simp only [World.size_alloc] at h3
  refine ⟨h.tm.push (r := [x, y]) hk (hr.mono (Nat.le_refl _) (by simp)) hown hgrow hat, h.li.of_block fun hn => ?_, by omega, fun k hk => ?_⟩
  · obtain ⟨o, e, hl, hh, _⟩ := h.li.own hn
    refine (hgrow.block gg (by simp; omega) (fun e => ?_)).trans ((Below.heap_alloc _ _ _ (by simp; omega)).trans (hk.block gg (by omega)))
    have := h.far gg e.symm
    omega
  · rcases hat with hat | hat
    · exact h.far k (by rw [← hat]; exact hk)
    · rw [hat] at hk; injection hk with hk; simp at hk; omega

set_option maxRecDepth 100000 in
set_option maxHeartbeats 6400000 in
theorem ReplyMoves_impl (A B : Option Addr) (n c m d : Nat) (xs ys : List (List Int)) (i j : Int) (w : World) (hx : IntRows w A n c xs) (hy : IntRows w B m d ys) (hi : Fit i) (hj : Fit j) :
    Calls Try.prog 116 #[.agg #[.slice A n c, .slice B m d], .int .i64 i, .int .i64 j] w (NewT w (repF xs ys i j)) := by
  have hb0 := below_alloc w (.cells #[.slice A n c, .slice B m d] 50)
  have b0 := blk_new w 50 #[.slice A n c, .slice B m d]
  have HB := Lib.hid hb0
  have HK := Lib.hid b0
  have HX := Lib.hid (hx.keep (Keep.below hb0))
  have HY := Lib.hid (hy.keep (Keep.below hb0))
  have HX0 := Lib.hid hx
  have HY0 := Lib.hid hy
  have HFI := Lib.hid hi
  have HFJ := Lib.hid hj
  clear hx hy hb0 b0 hi hj
  go_enter Try.func116, Try.ntmps116
  go_wp2_with fail
  generalize w.alloc (.cells #[.slice A n c, .slice B m d] 50) = W1 at *
  have HC := Lib.hid (ValidGame_impl _ _ _ _ _ _ _ _ _ HX.out HY.out)
  by_cases hv : VG xs ys
  · refine ((pb_true hv) ▸ HC.out).mono ?_
    rintro e w1 ⟨rfl, hb⟩
    have hb2 := below_up HB.out hb
    have hk2 := blk_below HK.out hb
    obtain ⟨p, rfl, rfl, rfl, rfl, rfl, rfl, hg⟩ := GV.of HX0.out HY0.out hv
    have HT := Lib.hid (show GT p w w1 w.heap.size xs ys from ⟨hb2, hk2, hg⟩)
    have hn3 := hg.tx.n3
    have hm3 := hg.tx.m3
    have hn1 := hg.tx.n1
    have hm1 := hg.tx.m1
    have HP := Lib.hid (show repF xs ys i j = if (pb (Blw p.n i) && pb (Blw p.m j)) = true then repL xs ys p.n i.toNat j.toNat else [] by rw [repF, pb_true hv, hg.lx, hg.mx, Bool.true_and])
    have HLY := Lib.hid (show ∀ i, i < p.n → (gr ys i).length = p.m from fun i hi => (hg.ty.ints i hi).len)
    clear hb hv hb2 hk2 hg HX HY HX0 HY0 HB HK HC
    have k0 := HT.out.c0
    have r0 := HT.out.gv.tx.row 0 hn1
    simp only [Nat.add_zero] at r0
    by_cases hi : Blw p.n i
    · by_cases hj : Blw p.m j
      · have QI := Lib.hid (fun W => pb_true hi ▸ isBelow_any (p.n : Int) i W)
        have QJ := Lib.hid (fun W => pb_true hj ▸ isBelow_any (p.m : Int) j W)
        rw [pb_true hi, pb_true hj, Bool.and_self, if_pos rfl] at HP
        unfold Blw at hi hj
        obtain ⟨x, rfl⟩ : ∃ x : Nat, i = x := ⟨i.toNat, by omega⟩
        obtain ⟨y, rfl⟩ : ∃ y : Nat, j = y := ⟨j.toNat, by omega⟩
        have hxn : x < p.n := by omega
        have hym : y < p.m := by omega
        simp only [Int.toNat_natCast] at HP
        clear hi hj HFI HFJ
        go_wp2_with fail
        refine (QI.out _).mono ?_
        rintro e w2 ⟨rfl, rfl⟩
        go_wp2_with fail
        refine (QJ.out _).mono ?_
        rintro e w2 ⟨rfl, rfl⟩
        clear QI QJ
        go_wp2_with fail
        refine (turned_any _ _ _ _ _ _ _ _ _ _ HT.out.gv.tx).mono ?_
        rintro e w2 ⟨rfl, ho, hb, hlt⟩
        have HT2 := Lib.hid (HT.out.up hb)
        obtain ⟨R, cc, t1, tI⟩ := ho.row0 hym
        rw [flip_colOf hym, colOf_len] at t1 tI
        have HBR := Lib.hid (bestReplies_any _ _ _ _ x _ tI (by omega) hxn)
        have HTM := Lib.hid (TM.mk (wb := w2) (v := .slice none 0 0) (vs := []) (xss := []) (Bld.nil _ _ _) (Below.refl _ _))
        clear ho hb hlt HT k0 r0 tI
        generalize hw1 : w1.heap.size = N at *
        clear hw1
        go_wp2_with fail
        refine HBR.out.mono ?_
        rintro e w3 ⟨Al, nl, cl, gl, rfl, rfl, ho, hb⟩
        have HR := Lib.hid (RS.start HTM.out ho hb)
        have HLL := Lib.hid (show (brF (colOf xs p.n y) x).length ≤ 3 by have := brF_len (colOf xs p.n y) x; rw [colOf_len] at this; omega)
        have HMEM := Lib.hid (show ∀ z ∈ brF (colOf xs p.n y) x, -1000 ≤ z ∧ z ≤ 1000 from fun z hz => by
          obtain ⟨_, k, hk, _, rfl⟩ := brF_mem.1 hz
          rw [colOf_len] at hk; omega)
        clear HBR ho hb HTM t1
        have hl3 := HLL.out
        generalize hls : brF (colOf xs p.n y) x = ls at *
        have HLS := Lib.hid hls
        clear hls
        generalize hlo : w2.heap.size = lo at *
        have HLO := Lib.hid hlo
        clear hlo
        generalize w3.heap.size = hi at *
        go_wp2
        go_loopw [7, 42] (fun v s wr => ∃ (k : Nat) (vs : List Value), k ≤ ls.length ∧ s = .int .i64 k ∧ Hid (RS w2 lo hi v vs (mvA y (ls.take k)) gl Al ls.length cl ls wr)) (fun _ s _ => ls.length - (intOf s).toNat)
        case atStart => exact ⟨0, [], Nat.zero_le _, rfl, HR⟩
        case round =>
          clear HR
          obtain ⟨k, vs, hk, rfl, HR⟩ := hrel
          obtain ⟨Av, cv, rfl⟩ := HR.out.tm.bo.form
          by_cases hkl : k < ls.length
          · obtain ⟨bl, ol, rfl, hcl⟩ := HR.out.li.ints.at_ (by omega)
            have c1 := hcl k hkl
            have HMS := Lib.hid (mvA_step y hkl)
            have HGB := Lib.hid (HMEM.out _ (gi_mem hkl))
            have HLA := Lib.hid (show (mvA y (ls.take k)).length ≤ 3 by rw [mvA_len, List.length_take]; have := HLL.out; omega)
            clear hcl
            have HRT := Lib.hid HR.out.tm
            generalize gi ls k = z at *
            generalize mvA y (ls.take k) = acc at *
            have hb3 := below_alloc wr (.cells #[.int .i64 z, .int .i64 y] 3)
            have hb4 := below_alloc (wr.alloc (.cells #[.int .i64 z, .int .i64 y] 3)) (.cells #[.slice (some ⟨wr.heap.size, 0, none⟩) 2 2] 36)
            have HB4 := Lib.hid ((HRT.out.bo.below hb3).below hb4).own
            have HN := Lib.hid (cell_one_new (wr.alloc (.cells #[.int .i64 z, .int .i64 y] 3)) (.slice (some ⟨wr.heap.size, 0, none⟩) 2 2) 36)
            have HPO := Lib.hid (pair_own (lo := wr.heap.size) (w := wr) z y (by have := HGB.out; omega) (by omega) (Nat.le_refl _))
            have hlh : w2.heap.size ≤ wr.heap.size := HRT.out.up.size
            clear hb3 hb4
            obtain ⟨i0, hi0, hz0, hz1, hz2⟩ := info_parts Try.info_row9
            go_wp2_with (at_builtin; refine wpList_append_own_at _ rfl _ _ 22 rfl w2.heap.size 36 i0 (.slice none 0 0) 1 24 Try.underlying22 hi0 hz0 hz1 hz2 rfl (by decide) _ (acc).length vs rfl HB4.out ⟨wr.heap.size + 1, 0, none⟩ 1 1 [.slice (some ⟨wr.heap.size, 0, none⟩) 2 2] rfl rfl ?c1 ?c2 ?c3 ?c4 ?c5 ?_)
            case c1 => have h := HN.out; rw [World.size_alloc] at h; exact h
            case c2 => intro u hu; simp at hu; subst hu; rfl
            case c3 => have := HLA.out; unfold maxLen; omega
            case c4 => have := HLA.out; omega
            case c5 => simp; omega
            intro v' w5 hown' hgrow _ hat
            have hgrow2 : ((wr.alloc (.cells #[.int .i64 z, .int .i64 y] 3)).alloc (.cells #[.slice (some ⟨wr.heap.size, 0, none⟩) 2 2] 36)).grownBy w5 (Value.slice Av (acc).length cv).ownBlock := hgrow
            have hat2 : v'.ownBlock = (Value.slice Av (acc).length cv).ownBlock ∨ v'.ownBlock = some ((wr.alloc (.cells #[.int .i64 z, .int .i64 y] 3)).heap.size + 1) := by simpa using hat
            have HR5 := Lib.hid (HR.out.push HPO.out hown' hgrow2 hat2)
            clear HB4 HN HPO hown' hgrow hat hgrow2 hat2 HLA
            clear HR HRT c1
            go_wp2
            go_roundw
            case rel => exact ⟨k + 1, _, by omega, by go_num, Lib.hid (by rw [HMS.out]; exact HR5.out)⟩
            case measure => simp [intOf]; omega
          · obtain rfl : k = ls.length := by omega
            have HTM := Lib.hid HR.out.tm
            have HT3 := Lib.hid (HT2.out.up HTM.out.up)
            have HA1 := Lib.hid (show (mvA y (ls.take ls.length)).length ≤ 3 by rw [mvA_len, List.take_length]; exact HLL.out)
            have k1 := HT3.out.c1
            have r1 := HT3.out.gv.ty.row x hxn
            have HIY := Lib.hid (HT3.out.gv.ty.ints x hxn)
            have HBR := Lib.hid (bestReplies_any _ _ _ _ y _ HIY.out (by omega) hym)
            clear HR HIY
            go_wp2_with fail
            refine HBR.out.mono ?_
            rintro e w4 ⟨Am, nm, cm, gm, rfl, rfl, ho, hb⟩
            have HR := Lib.hid (RS.start HTM.out ho hb)
            have HLM := Lib.hid (show (brF (gr ys x) y).length ≤ 3 by have := brF_len (gr ys x) y; rw [HLY.out x hxn] at this; omega)
            have HMEM2 := Lib.hid (show ∀ z ∈ brF (gr ys x) y, -1000 ≤ z ∧ z ≤ 1000 from fun z hz => by
              obtain ⟨_, k, hk, _, rfl⟩ := brF_mem.1 hz
              rw [HLY.out x hxn] at hk; omega)
            clear HBR ho hb HTM r1 k1
            have hm3' := HLM.out
            generalize hms : brF (gr ys x) y = ms at *
            have HMSS := Lib.hid hms
            clear hms
            obtain ⟨wA, hwA⟩ : ∃ wA, wA = wr := ⟨_, rfl⟩
            subst hwA
            generalize hac0 : mvA y (ls.take ls.length) = ac0 at *
            have HAC0 := Lib.hid hac0
            clear hac0
            generalize wA.heap.size = lo2 at *
            generalize w4.heap.size = hi2 at *
            go_wp2
            go_loopw [7, 61] (fun v s wr => ∃ (k : Nat) (vs : List Value), k ≤ ms.length ∧ s = .int .i64 k ∧ Hid (RS w2 lo2 hi2 v vs (ac0 ++ mvB x (ms.take k)) gm Am ms.length cm ms wr)) (fun _ s _ => ms.length - (intOf s).toNat)
            case atStart => exact ⟨0, vs, Nat.zero_le _, rfl, Lib.hid (by simpa [mvB] using HR.out)⟩
            case round =>
              clear HR vs
              obtain ⟨k, vs, hk, rfl, HR⟩ := hrel
              obtain ⟨Av, cv, rfl⟩ := HR.out.tm.bo.form
              by_cases hkm : k < ms.length
              · obtain ⟨bl, ol, rfl, hcl⟩ := HR.out.li.ints.at_ (by omega)
                have c1 := hcl k hkm
                have HMS := Lib.hid (mvB_step x hkm)
                have HGB := Lib.hid (HMEM2.out _ (gi_mem hkm))
                have HLA := Lib.hid (show (ac0 ++ mvB x (ms.take k)).length ≤ 6 by rw [List.length_append, mvB_len, List.length_take]; have := HA1.out; have := HLM.out; omega)
                clear hcl
                have HRT := Lib.hid HR.out.tm
                generalize gi ms k = z at *
                generalize hpart : mvB x (ms.take k) = part at *
                clear hpart
                generalize hacc : ac0 ++ part = acc at *
                have HACC := Lib.hid hacc
                clear hacc
                have hb3 := below_alloc wr (.cells #[.int .i64 x, .int .i64 z] 3)
                have hb4 := below_alloc (wr.alloc (.cells #[.int .i64 x, .int .i64 z] 3)) (.cells #[.slice (some ⟨wr.heap.size, 0, none⟩) 2 2] 36)
                have HB4 := Lib.hid ((HRT.out.bo.below hb3).below hb4).own
                have HN := Lib.hid (cell_one_new (wr.alloc (.cells #[.int .i64 x, .int .i64 z] 3)) (.slice (some ⟨wr.heap.size, 0, none⟩) 2 2) 36)
                have HPO := Lib.hid (pair_own (lo := wr.heap.size) (w := wr) x z (by omega) (by have := HGB.out; omega) (Nat.le_refl _))
                have hlh : w2.heap.size ≤ wr.heap.size := HRT.out.up.size
                clear hb3 hb4
                obtain ⟨i0, hi0, hz0, hz1, hz2⟩ := info_parts Try.info_row9
                go_wp2_with (at_builtin; refine wpList_append_own_at _ rfl _ _ 22 rfl w2.heap.size 36 i0 (.slice none 0 0) 1 24 Try.underlying22 hi0 hz0 hz1 hz2 rfl (by decide) _ (acc).length vs rfl HB4.out ⟨wr.heap.size + 1, 0, none⟩ 1 1 [.slice (some ⟨wr.heap.size, 0, none⟩) 2 2] rfl rfl ?c1 ?c2 ?c3 ?c4 ?c5 ?_)
                case c1 => have h := HN.out; rw [World.size_alloc] at h; exact h
                case c2 => intro u hu; simp at hu; subst hu; rfl
                case c3 => have := HLA.out; unfold maxLen; omega
                case c4 => have := HLA.out; omega
                case c5 => simp; omega
                intro v' w5 hown' hgrow _ hat
                have hgrow2 : ((wr.alloc (.cells #[.int .i64 x, .int .i64 z] 3)).alloc (.cells #[.slice (some ⟨wr.heap.size, 0, none⟩) 2 2] 36)).grownBy w5 (Value.slice Av (acc).length cv).ownBlock := hgrow
                have hat2 : v'.ownBlock = (Value.slice Av (acc).length cv).ownBlock ∨ v'.ownBlock = some ((wr.alloc (.cells #[.int .i64 x, .int .i64 z] 3)).heap.size + 1) := by simpa using hat
                have HR5 := Lib.hid (HR.out.push HPO.out hown' hgrow2 hat2)
                clear HB4 HN HPO hown' hgrow hat hgrow2 hat2 HLA
                clear HR HRT c1
                go_wp2
                go_roundw
                case rel => exact ⟨k + 1, _, by omega, by go_num, Lib.hid (by rw [HMS.out, ← List.append_assoc, HACC.out]; exact HR5.out)⟩
                case measure => simp [intOf]; omega
              · obtain rfl : k = ms.length := by omega
                have HE := Lib.hid (show ac0 ++ mvB x (ms.take ms.length) = repF xs ys x y by rw [HP.out, repL, HLS.out, HMSS.out, List.take_length, ← HAC0.out, List.take_length])
                have HNT := Lib.hid (NewT.from HT2.out.below (HR.out.tm.new (by rw [List.length_append, mvB_len, List.length_take]; have := HA1.out; have := HLM.out; omega)))
                clear HR
                go_wp2
                go_ret
                exact NewT.is HE.out HNT.out
      · have QI := Lib.hid (fun W => pb_true hi ▸ isBelow_any (p.n : Int) i W)
        have QJ := Lib.hid (fun W => pb_false hj ▸ isBelow_any (p.m : Int) j W)
        have HE := Lib.hid (show repF xs ys i j = [] by rw [HP.out, pb_false hj, Bool.and_false]; rfl)
        clear hi hj HP
        go_wp2_with fail
        refine (QI.out _).mono ?_
        rintro e w2 ⟨rfl, rfl⟩
        go_wp2_with fail
        refine (QJ.out _).mono ?_
        rintro e w2 ⟨rfl, rfl⟩
        go_wp2
        go_ret
        exact NewT.none HT.out.below HE.out
    · have QI := Lib.hid (fun W => pb_false hi ▸ isBelow_any (p.n : Int) i W)
      have HE := Lib.hid (show repF xs ys i j = [] by rw [HP.out, pb_false hi, Bool.false_and]; rfl)
      clear hi HP
      go_wp2_with fail
      refine (QI.out _).mono ?_
      rintro e w2 ⟨rfl, rfl⟩
      go_wp2
      go_ret
      exact NewT.none HT.out.below HE.out
  · have HZ := Lib.hid (show repF xs ys i j = [] by rw [repF, pb_false hv]; rfl)
    refine ((pb_false hv) ▸ HC.out).mono ?_
    rintro e w1 ⟨rfl, hb⟩
    have HB2 := Lib.hid (below_up HB.out hb)
    clear hb hv HC
    go_wp2
    go_ret
    exact NewT.none HB2.out HZ.out
end Go.Proofs.Ytidoahicgiaodaa

/- Costs drawn. -/
namespace Go.Proofs.Ytidoahicgiaodaa
open Go.RowKit

set_option maxRecDepth 100000 in
set_option maxHeartbeats 1600000 in
theorem someCosts_any (w0 w : World) (g : Nat) (A : Option Addr) (l c p : Nat) (h : Rdr w0 w g A l c p) (hp : p < 800000000) :
    Calls Try.prog 70 #[.pointer (some ⟨g, 0, none⟩)] w (SomeT w0 g A l c p w) := by
  have HR := Lib.hid h
  have H1 := Lib.hid (one_lit w0 w _ g A l c p w.heap.size 4 [3, 4, 2, 1] h (by omega) (below_alloc w (.cells #[iv 3, iv 4, iv 2, iv 1] 3)) (Nat.le_refl _) (Ints.lit w [3, 4, 2, 1] (by decide) (by decide)) (by omega))
  clear h
  go_enter Try.func70, Try.ntmps70
  go_wp2_with fail
  refine H1.out.mono ?_
  rintro e w1 ⟨n, rfl, hx, hr, hgr⟩
  have hn1 : 1 ≤ n ∧ n ≤ 4 := by simp at hx; omega
  have HR1 := Lib.hid hr
  have HG1 := Lib.hid hgr
  have H2 := Lib.hid (one_lit w0 w1 _ g A l c (p + 1) w1.heap.size 3 [5, 20, 2] hr (by omega) (below_alloc w1 (.cells #[iv 5, iv 20, iv 2] 3)) (Nat.le_refl _) (Ints.lit w1 [5, 20, 2] (by decide) (by decide)) (by omega))
  clear hx hr hgr H1 HR HR1
  go_wp2_with fail
  refine H2.out.mono ?_
  rintro e w2 ⟨x, rfl, hx, hr, hgr⟩
  have hx1 : 2 ≤ x ∧ x ≤ 20 := by simp at hx; omega
  have HG2 := Lib.hid (grown_trans HG1.out hgr)
  obtain ⟨n, rfl⟩ := Int.eq_ofNat_of_zero_le (show 0 ≤ n by omega)
  have H4 := Lib.hid (tableOf_any w0 w2 g A l c (p + 2) n n 0 x hr (by omega) (by omega) (by omega) (by omega) (by omega) (by omega))
  clear hx hr hgr H2 HG1
  go_wp2_with fail
  refine H4.out.mono ?_
  rintro e w4 ⟨Av, cv, vs, xss, p4, rfl, hl, hxs, hto, hp4⟩
  have hr0 : (gr xss 0).length = n := (hxs _ (gr_mem (by omega))).1
  subst hl
  have HSM := Lib.hid (show Small xss from ⟨by omega, fun r hr => ⟨by have := (hxs r hr).1; omega, fun y hy => by have := (hxs r hr).2 y hy; omega⟩⟩)
  have HTO := Lib.hid hto
  have HC := Lib.hid (pick_any w0 w4 g A l c p4 40 hto.rd (by omega))
  clear hxs hto H4
  go_wp2_with fail
  refine HC.out.mono ?_
  rintro e w5 ⟨k, rfl, hk1, _, hr, z, hw⟩
  have hone := Rdr.one (g := g) w4 (.int .i64 (p4 + 1 : Nat)) z
  rw [← hw] at hone
  obtain ⟨k0, k1⟩ := hk1 (by omega)
  have HT5 := Lib.hid (HTO.out.one hr hone)
  clear hr hone hw hk1 HC HTO
  by_cases e1 : k = 0
  · subst e1
    have hx0 : 0 < xss.length := by omega
    obtain ⟨b0, c0, R0, cc0, ev, hb0, hv0, hcell0⟩ := HT5.out.bo.head hx0
    injection ev with ev1 _ ev3
    subst ev1
    subst ev3
    have hx1 : 0 < (gr xss 0).length := by omega
    obtain ⟨b, o, cc, ev, _⟩ := HT5.out.set0 hx0 hx1 (x := 21) (by omega)
    rw [hv0] at ev
    injection ev with ev
    injection ev with ev1 _ ev3
    subst ev1
    subst ev3
    obtain ⟨⟨y, hcy⟩, hfy, hset⟩ := HT5.out.set0_at hx0 hx1 hv0 (x := 21) (by omega)
    have HT6 := Lib.hid hset
    have HS6 := Lib.hid (HSM.out.set0 hx0 (x := 21) (by omega))
    rw [hr0] at hcell0
    clear hset HT5 HSM hv0 hb0
    go_wp2_with fail
    clear hcy hfy hcell0
    generalize w5.setCell ⟨b, o, none⟩ (.int .i64 21) = w6 at *
    have hlen : (xss.set 0 ((gr xss 0).set 0 21)).length = xss.length := by simp
    have hn1 := hn1
    generalize xss.set 0 ((gr xss 0).set 0 21) = yss at *
    have HC := Lib.hid (pick_any w0 w6 g A l c _ 40 HT6.out.rd (by omega))
    go_wp2_with fail
    refine HC.out.mono ?_
    rintro e w7 ⟨k2, rfl, hk1, _, hr, z, hw⟩
    have hone := Rdr.one (g := g) w6 (.int .i64 (p4 + 1 + 1 : Nat)) z
    rw [← hw] at hone
    obtain ⟨k20, k21⟩ := hk1 (by omega)
    have HT7 := Lib.hid (HT6.out.one hr hone)
    clear hr hone hw hk1 HC HT6
    by_cases e2 : k2 = 0
    · subst e2
      have HI := Lib.hid (HT7.out.lit 1)
      clear HT7
      have hWs : (w7.alloc (.cells #[iv 1] 3)).heap.size = w7.heap.size + 1 := by simp
      obtain ⟨Ar, nr, cr, gg, e, hn, ho, _⟩ := HI.out.bi.owns (by simp) (fun x hx => by simp at hx; omega)
      injection e with e1 e2 e3
      subst e1
      subst e2
      subst e3
      have HO := Lib.hid ho
      have hb := below_alloc (w7.alloc (.cells #[iv 1] 3)) (.cells #[.slice (some ⟨w7.heap.size, 0, none⟩) 1 1] 36)
      have HB4 := Lib.hid (HI.out.bo.below hb).own
      have HB4B := Lib.hid (show World.ownsRow _ w2.heap.size 36 1 (.slice (some ⟨b0, 0, none⟩) xss.length cv) xss.length vs by first | exact HB4.out | (have h := HB4.out; rw [hlen] at h; exact h))
      have HN := Lib.hid (cell_one_new (w7.alloc (.cells #[iv 1] 3)) (.slice (some ⟨w7.heap.size, 0, none⟩) 1 1) 36)
      have hHs := HI.out.hs
      have hlh := HI.out.lh
      clear hb ho hn
      obtain ⟨i0, hi0, hz0, hz1, hz2⟩ := info_parts Try.info_row
      go_wp2_with (at_builtin; refine wpList_append_own_at _ rfl _ _ 22 rfl w2.heap.size 36 i0 (.slice none 0 0) 1 24 Try.underlying22 hi0 hz0 hz1 hz2 rfl (by decide) _ xss.length vs rfl HB4B.out ⟨w7.heap.size + 1, 0, none⟩ 1 1 [.slice (some ⟨w7.heap.size, 0, none⟩) 1 1] rfl rfl ?d1 ?d2 ?d3 ?d4 ?d5 ?_)
      case d1 => have := HN.out; rw [hWs] at this; exact this
      case d2 => intro u hu; simp at hu; subst hu; rfl
      case d3 => unfold maxLen; omega
      case d4 => omega
      case d5 => simp; omega
      intro v' w5 hown' hgrow _ hat
      have HT5 := Lib.hid (TI.done (w := w7.alloc (.cells #[iv 1] 3)) (ys := [1]) (xss := yss) (v := .slice (some ⟨b0, 0, none⟩) xss.length cv) (v' := v') (vs := vs) (Ar := some ⟨w7.heap.size, 0, none⟩) (cr := 1) HI.out HO.out (by first | exact hown' | (rw [hlen]; exact hown')) (by first | exact hgrow | (rw [hlen]; exact hgrow)) (by first | (simpa using hat) | (rw [hlen]; simpa using hat)))
      clear HB4 HB4B HN hown' hgrow hat HI HO
      go_wp2
      go_ret
      exact ⟨_, _, _, _, _, rfl, (HS6.out).snoc (by omega) (by omega), HT5.out, by omega, HG2.out⟩
    · go_wp2
      go_ret
      exact ⟨_, _, _, _, _, rfl, HS6.out, HT7.out, by omega, HG2.out⟩
  · obtain ⟨w6, hw6⟩ : ∃ w6, w6 = w5 := ⟨_, rfl⟩
    rw [← hw6] at HT5 ⊢
    have HT6 := HT5
    have hlen : xss.length = xss.length := rfl
    clear HT5 hw6
    have HC := Lib.hid (pick_any w0 w6 g A l c _ 40 HT6.out.rd (by omega))
    go_wp2_with fail
    refine HC.out.mono ?_
    rintro e w7 ⟨k2, rfl, hk1, _, hr, z, hw⟩
    have hone := Rdr.one (g := g) w6 (.int .i64 (p4 + 1 + 1 : Nat)) z
    rw [← hw] at hone
    obtain ⟨k20, k21⟩ := hk1 (by omega)
    have HT7 := Lib.hid (HT6.out.one hr hone)
    clear hr hone hw hk1 HC HT6
    by_cases e2 : k2 = 0
    · subst e2
      have HI := Lib.hid (HT7.out.lit 1)
      clear HT7
      have hWs : (w7.alloc (.cells #[iv 1] 3)).heap.size = w7.heap.size + 1 := by simp
      obtain ⟨Ar, nr, cr, gg, e, hn, ho, _⟩ := HI.out.bi.owns (by simp) (fun x hx => by simp at hx; omega)
      injection e with e1 e2 e3
      subst e1
      subst e2
      subst e3
      have HO := Lib.hid ho
      have hb := below_alloc (w7.alloc (.cells #[iv 1] 3)) (.cells #[.slice (some ⟨w7.heap.size, 0, none⟩) 1 1] 36)
      have HB4 := Lib.hid (HI.out.bo.below hb).own
      have HB4B := Lib.hid (show World.ownsRow _ w2.heap.size 36 1 (.slice Av xss.length cv) xss.length vs by first | exact HB4.out | (have h := HB4.out; rw [hlen] at h; exact h))
      have HN := Lib.hid (cell_one_new (w7.alloc (.cells #[iv 1] 3)) (.slice (some ⟨w7.heap.size, 0, none⟩) 1 1) 36)
      have hHs := HI.out.hs
      have hlh := HI.out.lh
      clear hb ho hn
      obtain ⟨i0, hi0, hz0, hz1, hz2⟩ := info_parts Try.info_row
      go_wp2_with (at_builtin; refine wpList_append_own_at _ rfl _ _ 22 rfl w2.heap.size 36 i0 (.slice none 0 0) 1 24 Try.underlying22 hi0 hz0 hz1 hz2 rfl (by decide) _ xss.length vs rfl HB4B.out ⟨w7.heap.size + 1, 0, none⟩ 1 1 [.slice (some ⟨w7.heap.size, 0, none⟩) 1 1] rfl rfl ?d1 ?d2 ?d3 ?d4 ?d5 ?_)
      case d1 => have := HN.out; rw [hWs] at this; exact this
      case d2 => intro u hu; simp at hu; subst hu; rfl
      case d3 => unfold maxLen; omega
      case d4 => omega
      case d5 => simp; omega
      intro v' w5 hown' hgrow _ hat
      have HT5 := Lib.hid (TI.done (w := w7.alloc (.cells #[iv 1] 3)) (ys := [1]) (xss := xss) (v := .slice Av xss.length cv) (v' := v') (vs := vs) (Ar := some ⟨w7.heap.size, 0, none⟩) (cr := 1) HI.out HO.out (by first | exact hown' | (rw [hlen]; exact hown')) (by first | exact hgrow | (rw [hlen]; exact hgrow)) (by first | (simpa using hat) | (rw [hlen]; simpa using hat)))
      clear HB4 HB4B HN hown' hgrow hat HI HO
      go_wp2
      go_ret
      exact ⟨_, _, _, _, _, rfl, (HSM.out).snoc (by omega) (by omega), HT5.out, by omega, HG2.out⟩
    · go_wp2
      go_ret
      exact ⟨_, _, _, _, _, rfl, HSM.out, HT7.out, by omega, HG2.out⟩
set_option maxHeartbeats 400000 in
theorem DrawLastingOf_any (A : Option Addr) (n c : Nat) (w : World) (h : Bytes w A n c) :
    Calls Try.prog 29 #[.slice A n c] w (DrawnT w) := by
  have H0 := Lib.hid (newReader_any A n c w h)
  clear h
  go_enter Try.func29, Try.ntmps29
  go_wp2_with fail
  refine H0.out.mono ?_
  rintro e w1 ⟨A1, l, c1, rfl, hl, hr, hs⟩
  have H1 := Lib.hid (someCosts_any w w1 w.heap.size A1 l c1 0 hr (by omega))
  clear hr hl H0
  go_wp2_with fail
  refine H1.out.mono ?_
  rintro e w2 ⟨wb, v', vs', xss', p', rfl, hsm, hto, hp, hg⟩
  have hsz := hg.size
  obtain ⟨Av, nv, cv, gg, rfl, hnv, hown⟩ := hto.bo.owns (by have := hsm.n; omega)
  have HO := Lib.hid (hown.mono (show w.heap.size ≤ wb.heap.size by omega) (Nat.le_refl _))
  have HB := Lib.hid hto.rd.below
  have HS := Lib.hid hsm
  clear hsm hto hown hg H1 hnv
  go_wp2
  go_ret
  exact ⟨_, _, _, _, _, rfl, HS.out, HO.out, HB.out⟩

end Go.Proofs.Ytidoahicgiaodaa

/- What lasts, by the program; costs and a state drawn. -/
namespace Go.Proofs.Ytidoahicgiaodaa
open Go.RowKit

noncomputable def tfL (a : List (List Int)) (n : Nat) : List Int := (List.range n).map fun r => TF a ((r : Nat) : Int)
theorem tfL_len (a : List (List Int)) (n : Nat) : (tfL a n).length = n := by simp [tfL]
theorem gi_tfL {a : List (List Int)} {n r : Nat} (h : r < n) : gi (tfL a n) r = TF a (r : Int) := by rw [gi_get (by rw [tfL_len]; exact h)]; simp [tfL]
noncomputable def lasF (a : List (List Int)) : List Int := if pb (VC a) = true then selL (atB (lst (tfL a a.length)) (tfL a a.length)) a.length else []
theorem TF_in {a : List (List Int)} (v : VC a) {r : Nat} (hr : r < a.length) : LF (g2 a) a.length r (TF a (r : Int)) := by
  have h := LeastT.f.1 (bw_least v rfl hr)
  have e : TF a (r : Int) = bw a a.length r (a.length ^ a.length) := by
    rw [TF, pb_true v, pb_true (p := Blw a.length (r : Int)) ⟨by omega, by omega⟩]; simp
  rw [e]; exact h
theorem TF_bd {a : List (List Int)} (v : VC a) {r : Nat} (hr : r < a.length) : 0 ≤ TF a (r : Int) ∧ TF a (r : Int) ≤ 80 := LF.bd v.cb (TF_in v hr)
theorem TF_no {a : List (List Int)} {root : Int} (h : ¬ (VC a ∧ Blw a.length root)) : TF a root = -1 := by
  rw [TF]
  by_cases hv : VC a
  · rw [pb_true hv, pb_false (fun h2 => h ⟨hv, h2⟩)]; rfl
  · rw [pb_false hv]; rfl

set_option maxRecDepth 100000 in
set_option maxHeartbeats 1600000 in
theorem LastingOf_impl (A : Option Addr) (n c : Nat) (a : List (List Int)) (w : World) (hx : IntRows w A n c a) :
    Calls Try.prog 30 #[.slice A n c] w (NewI w (lasF a)) := by
  have HX := Lib.hid hx
  have HL := Lib.hid hx.len
  by_cases hv : VC a
  · have HC := Lib.hid (pb_true hv ▸ ValidCosts_impl A n c a w hx)
    have HV := Lib.hid hv
    have h1 := hv.n1
    have h4 := hv.n4
    rw [HL.out] at h1 h4
    have HF := Lib.hid (show selL (atB (lst (tfL a n)) (tfL a n)) n = lasF a by rw [lasF, if_pos (pb_true hv), HL.out])
    clear hx hv
    have hmk := run_make_row' (P := Try.prog) 36 3 (.int .i64 0) 8 Try.underlying36 Try.info3 rfl .i64 .i64 n (by omega) (by omega)
    go_enter Try.func30, Try.ntmps30
    go_wp2_with fail
    refine HC.out.mono ?_
    rintro e w1 ⟨rfl, hq⟩
    have HX1 := Lib.hid (HX.out.keep (Keep.quiet hq))
    have HB1 := Lib.hid (Quiet.below (B := w.heap.size) hq)
    clear hq HC HX
    have hmk1 := hmk
    clear hmk
    go_wp2
    clear hmk1
    go_loopw [13] (fun i wr => ∃ k : Nat, k ≤ n ∧ i = .int .i64 k ∧ wr.rowIs w1.heap.size 3 n (filled (tfL a n) k) ∧ Below w1.heap.size w1 wr) (fun i _ => n - (intOf i).toNat)
    case atStart => exact ⟨0, Nat.zero_le _, rfl, (World.rowIs_made w1 _ n 3).congr (fun j _ => by simp [filled]), (Below.refl _ _).alloc (Nat.le_refl _) _⟩
    case round =>
      obtain ⟨k, hk, rfl, hrow, hbel⟩ := hrel
      by_cases hlt : k < n
      · have HT := Lib.hid (TreeTried_impl A n c a (k : Int) wr (HX1.out.keep (Keep.below hbel)) (by unfold Fit; omega))
        have HG := Lib.hid (gi_tfL (a := a) hlt)
        have HROW := Lib.hid hrow
        have HBEL := Lib.hid hbel
        clear hrow hbel
        go_wp2_with fail
        refine HT.out.mono ?_
        rintro e w2 ⟨rfl, hb⟩
        have HROW2 := Lib.hid (rowIs_heap HROW.out (hb.block _ (rowIs_lt HROW.out)))
        have HBEL2 := Lib.hid (below_up HBEL.out hb)
        have c3 := HROW2.out.cell hlt
        simp only [filled, if_neg (Nat.lt_irrefl k)] at c3
        have c4 := HROW2.out.frozen k
        have HFS := Lib.hid (show (w2.setCell ⟨w1.heap.size, k, none⟩ (.int .i64 (TF a (k : Int)))).rowIs w1.heap.size 3 n (filled (tfL a n) (k + 1)) by
          have h := filled_set (xs := tfL a n) HROW2.out
          rw [HG.out] at h; exact h)
        clear hb HT HROW HBEL HROW2
        generalize TF a (k : Int) = x at *
        go_wp2
        go_roundw
        case rel => exact ⟨k + 1, by omega, by go_num, HFS.out, HBEL2.out.setCell (p := ⟨w1.heap.size, k, none⟩) (Nat.le_refl _) _⟩
        case measure => simp [intOf]; omega
      · obtain rfl : k = n := by omega
        have HI := Lib.hid (OwnI.of_rowIs (xs := tfL a k) (lo := w1.heap.size) (hi := w1.heap.size + 1) (tfL_len a k) (by omega) (fun x hx => by
          obtain ⟨r, hr, rfl⟩ := List.mem_map.1 hx
          rw [List.mem_range] at hr
          have := TF_bd HV.out (r := r) (by rw [HL.out]; exact hr)
          omega) (Nat.le_refl _) (Nat.lt_succ_self _) hrow (fun j hj => by simp [filled, hj])).ints
        have HB3 := Lib.hid (below_up HB1.out hbel)
        have HMC := Lib.hid (Min_any _ _ _ _ _ HI.out (by omega))
        clear hrow hbel
        generalize hgz : w1.heap.size = gz at *
        clear hgz
        go_wp2_with fail
        refine HMC.out.mono ?_
        rintro e w4 ⟨rfl, hq⟩
        have HI4 := Lib.hid (HI.out.keep (Keep.quiet hq))
        have HB4 := Lib.hid (below_quiet HB3.out hq)
        clear HMC hq HI HB3
        have HIX := Lib.hid (indexesOf_any (lst (tfL a k)) _ k k (tfL a k) w4 HI4.out (by omega))
        rw [HF.out] at HIX
        go_wp2_with fail
        refine HIX.out.mono ?_
        rintro e w5 hN
        have HN := Lib.hid (NewI.from HB4.out hN)
        obtain ⟨Av, kk, cv, gg, rfl, -⟩ := hN
        clear HIX
        go_wp2
        go_ret
        exact HN.out
  · have HC := Lib.hid (pb_false hv ▸ ValidCosts_impl A n c a w hx)
    have HF := Lib.hid (show lasF a = [] by rw [lasF, if_neg (by rw [pb_false hv]; decide)])
    clear hx hv
    go_enter Try.func30, Try.ntmps30
    go_wp2_with fail
    refine HC.out.mono ?_
    rintro e w1 ⟨rfl, hq⟩
    have HB1 := Lib.hid (Quiet.below (B := w.heap.size) hq)
    clear hq HC
    go_wp2
    go_ret
    exact NewI.empty HB1.out HF.out
/-- Costs and a number. -/
def DrawnCR (w : World) (e : Ending) (w' : World) : Prop :=
  ∃ Av n c gg xss i, e = .returned (.tuple #[.slice Av n c, .int .i64 i]) ∧ Small xss ∧ OwnR w.heap.size w'.heap.size w' gg Av n c xss ∧ (-1 ≤ i ∧ i ≤ 8) ∧ Below w.heap.size w w'
theorem OwnR.oneC {lo hi w w' b A n c xss} {g : Nat} (h : OwnR lo hi w b A n c xss) (k : One g w w') (hg : g < lo) : OwnR lo hi w' b A n c xss :=
  h.of_blocks fun i h1 _ _ => k.block i (by omega)
set_option maxRecDepth 100000 in
set_option maxHeartbeats 1600000 in
theorem DrawTreeByRounds_any (A : Option Addr) (n c : Nat) (w : World) (h : Bytes w A n c) :
    Calls Try.prog 25 #[.slice A n c] w (DrawnCR w) := by
  have H0 := Lib.hid (newReader_any A n c w h)
  clear h
  go_enter Try.func25, Try.ntmps25
  go_wp2_with fail
  refine H0.out.mono ?_
  rintro e w1 ⟨A1, l, c1, rfl, hl, hr, hs⟩
  have H1 := Lib.hid (someCosts_any w w1 w.heap.size A1 l c1 0 hr (by omega))
  clear hr hl H0
  go_wp2_with fail
  refine H1.out.mono ?_
  rintro e w2 ⟨wb, v', vs', xss', p', rfl, hsm, hto, hp, hg⟩
  have hsz := hg.size
  obtain ⟨Av, nv, cv, gg, rfl, hnv, hown⟩ := hto.bo.owns (by have := hsm.n; omega)
  have HO := Lib.hid (hown.mono (show w.heap.size + 1 ≤ wb.heap.size by have := hto.gl; omega) (Nat.le_refl _))
  have HRD := Lib.hid hto.rd
  have HS := Lib.hid hsm
  have hn8 : nv ≤ 8 := by rw [hnv]; exact hsm.n
  clear hsm hto hown hg H1 hnv
  have HC := Lib.hid (pick_any w w2 w.heap.size A1 l c1 p' (nv : Int) HRD.out (by omega))
  go_wp2_with fail
  refine HC.out.mono ?_
  rintro e w3 ⟨m, rfl, hk1, hk0, hr, z, hw⟩
  have hone := Rdr.one (g := w.heap.size) w2 (.int .i64 (p' + 1 : Nat)) z
  rw [← hw] at hone
  have hmb : 0 ≤ m ∧ m ≤ 8 := by
    by_cases h : 1 ≤ nv
    · have := hk1 (by omega); omega
    · have := hk0 (by omega); omega
  obtain ⟨m0, m1⟩ := hmb
  have HO3 := Lib.hid ((HO.out.oneC hone (by omega)).mono (Nat.le_refl _) (Nat.le_of_eq hone.size.symm))
  have HR3 := Lib.hid hr
  clear hk1 hk0 hr hw hone HC HO HRD
  have hgw : w.heap.size < w3.heap.size := blk_lt HR3.out.box
  have hal := below_alloc w3 (.cells #[iv m, iv 0, iv 1, iv 4, iv (-1)] 3)
  have HR4 := Lib.hid (HR3.out.below_ hal)
  have HO4 := Lib.hid ((HO3.out.below hal).mono (Nat.le_refl _) hal.size)
  have HIN := Lib.hid (Ints.lit w3 [m, 0, 1, 4, -1] (by simp) (by intro x hx; simp at hx; omega))
  have HC := Lib.hid (one_any w (w3.alloc (.cells #[iv m, iv 0, iv 1, iv 4, iv (-1)] 3)) w.heap.size A1 l c1 (p' + 1) _ 5 5 [m, 0, 1, 4, -1] HR4.out (by omega) HIN.out (by omega) (fun b' o' e' => by injection e' with e'; injection e' with e' _ _; omega))
  clear hal HR3 HO3 HIN
  go_wp2_with fail
  refine HC.out.mono ?_
  rintro e w4 ⟨i, rfl, hx, hr, ho⟩
  have hib : -1 ≤ i ∧ i ≤ 8 := by simp at hx; omega
  have HIB := Lib.hid hib
  have HB8 := Lib.hid hr.below
  have HO8 := Lib.hid ((HO4.out.oneC ho (by omega)).mono (Nat.le_succ _) (Nat.le_of_eq ho.size.symm))
  clear hx hr ho HC HR4 HO4 hib hgw
  go_wp2
  go_ret2
  exact ⟨Av, nv, cv, gg, xss', i, rfl, HS.out, HO8.out, HIB.out, HB8.out⟩

end Go.Proofs.Ytidoahicgiaodaa

/- The least tree costs at least the cheapest ways out, and at most the ways to the root. -/
namespace Go.Proofs.Ytidoahicgiaodaa
open Go.RowKit

/-- The cheapest way out of a state to the first ones. -/
def bF (a : List (List Int)) (i : Nat) : Nat → Int
  | 0 => 21
  | j + 1 => if j = i then bF a i j else if g2 a i j < bF a i j then g2 a i j else bF a i j
def loS (a : List (List Int)) (r n : Nat) : Nat → Int
  | 0 => 0
  | k + 1 => if k = r then loS a r n k else loS a r n k + bF a k n
def hiS (a : List (List Int)) (r : Nat) : Nat → Int
  | 0 => 0
  | k + 1 => if k = r then hiS a r k else hiS a r k + g2 a k r
theorem VC.cell {a : List (List Int)} (v : VC a) {i j : Nat} (hi : i < a.length) (hj : j < a.length) : 0 ≤ g2 a i j ∧ g2 a i j ≤ 20 := by
  have h := (v.rows i hi).2 j hj
  unfold InR at h
  exact h
theorem bF_bd {a : List (List Int)} (v : VC a) {i : Nat} (hi : i < a.length) : ∀ j, j ≤ a.length → 0 ≤ bF a i j ∧ bF a i j ≤ 21
  | 0, _ => by unfold bF; omega
  | j + 1, h => by
    have h1 := bF_bd v hi j (by omega)
    have h2 := v.cell hi (j := j) (by omega)
    rw [bF]
    split
    · exact h1
    · split <;> omega
theorem bF_le {a : List (List Int)} {i : Nat} : ∀ {n j : Nat}, j < n → j ≠ i → bF a i n ≤ g2 a i j
  | n + 1, j, h, hne => by
    rw [bF]
    by_cases e : j = n
    · subst e
      rw [if_neg hne]
      split <;> omega
    · have h1 := bF_le (a := a) (i := i) (n := n) (j := j) (by omega) hne
      split
      · exact h1
      · split <;> omega
theorem loS_bd {a : List (List Int)} (v : VC a) {r : Nat} : ∀ k, k ≤ a.length → 0 ≤ loS a r a.length k ∧ loS a r a.length k ≤ 21 * (k : Int)
  | 0, _ => by simp [loS]
  | k + 1, h => by
    have h1 := loS_bd v (r := r) k (by omega)
    have h2 := bF_bd v (i := k) (by omega) a.length (Nat.le_refl _)
    rw [loS]
    split <;> omega
theorem hiS_bd {a : List (List Int)} (v : VC a) {r : Nat} (hr : r < a.length) : ∀ k, k ≤ a.length → 0 ≤ hiS a r k ∧ hiS a r k ≤ 20 * (k : Int)
  | 0, _ => by simp [hiS]
  | k + 1, h => by
    have h1 := hiS_bd v hr k (by omega)
    have h2 := v.cell (i := k) (j := r) (by omega) hr
    rw [hiS]
    split <;> omega
theorem lo_TF {a : List (List Int)} (v : VC a) {r : Nat} (hr : r < a.length) : loS a r a.length a.length ≤ TF a (r : Int) := by
  obtain ⟨t, ht, e⟩ := (TF_in v hr).at_
  have key : ∀ k, k ≤ a.length → loS a r a.length k ≤ csF (g2 a) r t k := by
    intro k
    induction k with
    | zero => intro _; exact Int.le_refl _
    | succ k ih =>
      intro hk
      have i1 := ih (by omega)
      rw [loS, csF]
      by_cases ek : k = r
      · rw [if_pos ek, if_pos ek]; exact i1
      · rw [if_neg ek, if_neg ek]
        have h1 := ht.2.1.bd k (by rw [ht.1]; omega)
        rw [ht.1] at h1
        have h2 := ht.ne (i := k) (by omega) ek
        have h3 := bF_le (a := a) (i := k) (n := a.length) (j := (gi t k).toNat) (by omega) (by omega)
        omega
  rw [e]
  exact key a.length (Nat.le_refl _)
theorem TF_hi {a : List (List Int)} (v : VC a) {r : Nat} (hr : r < a.length) : TF a (r : Int) ≤ hiS a r a.length := by
  have h := (TF_in v hr).low _ (star_tree a.length r hr)
  have key : ∀ k, k ≤ a.length → csF (g2 a) r (List.replicate a.length (r : Int)) k = hiS a r k := by
    intro k
    induction k with
    | zero => intro _; rfl
    | succ k ih =>
      intro hk
      rw [csF, hiS, ih (by omega)]
      have hg : gi (List.replicate a.length (r : Int)) k = r := by rw [gi_get (by simp; omega)]; simp
      rw [hg, Int.toNat_natCast]
  rw [key a.length (Nat.le_refl _)] at h
  exact h
end Go.Proofs.Ytidoahicgiaodaa

/- A step of trees by rounds, as the model puts a round together. -/
namespace Go.Proofs.Ytidoahicgiaodaa
open Go.RowKit

theorem pdS_ring {n r x0 : Nat} {rN oth : List Nat} (hs : (n, r, x0, rN, oth) ∈ shapes) (q : Nat → Int) : pdS (fun i => if i ∈ rN then q i else 0) r n = tot (rN.map q) := by
  simp only [shapes, List.mem_cons, List.not_mem_nil, or_false, Prod.mk.injEq] at hs
  rcases hs with ⟨rfl, rfl, rfl, rfl, rfl⟩ | ⟨rfl, rfl, rfl, rfl, rfl⟩ | ⟨rfl, rfl, rfl, rfl, rfl⟩ | ⟨rfl, rfl, rfl, rfl, rfl⟩ | ⟨rfl, rfl, rfl, rfl, rfl⟩ | ⟨rfl, rfl, rfl, rfl, rfl⟩ | ⟨rfl, rfl, rfl, rfl, rfl⟩ | ⟨rfl, rfl, rfl, rfl, rfl⟩ | ⟨rfl, rfl, rfl, rfl, rfl⟩ | ⟨rfl, rfl, rfl, rfl, rfl⟩ | ⟨rfl, rfl, rfl, rfl, rfl⟩ | ⟨rfl, rfl, rfl, rfl, rfl⟩ | ⟨rfl, rfl, rfl, rfl, rfl⟩ | ⟨rfl, rfl, rfl, rfl, rfl⟩ | ⟨rfl, rfl, rfl, rfl, rfl⟩ | ⟨rfl, rfl, rfl, rfl, rfl⟩ | ⟨rfl, rfl, rfl, rfl, rfl⟩ | ⟨rfl, rfl, rfl, rfl, rfl⟩ | ⟨rfl, rfl, rfl, rfl, rfl⟩ | ⟨rfl, rfl, rfl, rfl, rfl⟩ | ⟨rfl, rfl, rfl, rfl, rfl⟩ | ⟨rfl, rfl, rfl, rfl, rfl⟩ | ⟨rfl, rfl, rfl, rfl, rfl⟩ | ⟨rfl, rfl, rfl, rfl, rfl⟩ | ⟨rfl, rfl, rfl, rfl, rfl⟩ | ⟨rfl, rfl, rfl, rfl, rfl⟩ | ⟨rfl, rfl, rfl, rfl, rfl⟩ <;> simp [pdS, tot, sm, gi] <;> omega
/-- What the ways of the states of a round cost. -/
def rgS (a : List (List Int)) (t ring : List Int) : Nat → Int
  | 0 => 0
  | k + 1 => rgS a t ring k + g2 a (gi ring k).toNat (gi t (gi ring k).toNat).toNat
theorem rgS_tot (a : List (List Int)) (t ring : List Int) : rgS a t ring ring.length = tot ((natL ring).map fun i => g2 a i (gi t i).toNat) := by
  have key : ∀ k, k ≤ ring.length → rgS a t ring k = sm ((natL ring).map fun i => g2 a i (gi t i).toNat) k := by
    intro k
    induction k with
    | zero => intro _; rfl
    | succ k ih =>
      intro hk
      have hl : k < ((natL ring).map fun i => g2 a i (gi t i).toNat).length := by simp [natL]; omega
      rw [rgS, sm, ih (by omega), gi_get hl]
      simp only [List.getElem_map, natL]
      rw [gi_get (by omega)]
  rw [tot, key _ (Nat.le_refl _)]
  simp [natL]
/-- The rows of the fewer states. -/
def bsR (a : List (List Int)) (ring : List Int) (oth : List Nat) (x : Nat) : List Int := (oth.map fun y => g2 a (oth.getD x 0) y) ++ [lst (ring.map fun s => g2 a (oth.getD x 0) s.toNat)]
def bsL (a : List (List Int)) (t ring : List Int) (y : Nat) : List Int := ring.map fun s => g2 a s.toNat y - g2 a s.toNat (gi t s.toNat).toNat
def bsZ (a : List (List Int)) (t ring : List Int) (oth : List Nat) : List Int := (oth.map fun y => lst (bsL a t ring y)) ++ [0]
def bsT (a : List (List Int)) (t ring : List Int) (oth : List Nat) : List (List Int) := ((List.range oth.length).map fun x => bsR a ring oth x) ++ [bsZ a t ring oth]
theorem bsT_len (a : List (List Int)) (t ring : List Int) (oth : List Nat) : (bsT a t ring oth).length = oth.length + 1 := by simp [bsT]
theorem gr_bsT {a : List (List Int)} {t ring : List Int} {oth : List Nat} {x : Nat} (h : x < oth.length) : gr (bsT a t ring oth) x = bsR a ring oth x := by
  rw [gr_get (by rw [bsT_len]; omega)]
  simp only [bsT]
  rw [List.getElem_append_left (by simpa using h)]
  simp
theorem gr_bsZ (a : List (List Int)) (t ring : List Int) (oth : List Nat) : gr (bsT a t ring oth) oth.length = bsZ a t ring oth := by
  rw [gr_get (by rw [bsT_len]; omega)]
  simp only [bsT]
  rw [List.getElem_append_right (by simp)]
  simp
theorem bsR_len (a : List (List Int)) (ring : List Int) (oth : List Nat) (x : Nat) : (bsR a ring oth x).length = oth.length + 1 := by simp [bsR]
theorem bsZ_len (a : List (List Int)) (t ring : List Int) (oth : List Nat) : (bsZ a t ring oth).length = oth.length + 1 := by simp [bsZ]
section
variable {a : List (List Int)} {t ring : List Int} {oth : List Nat}
theorem bs_xy {x y : Nat} (hx : x < oth.length) (hy : y < oth.length) : g2 (bsT a t ring oth) x y = g2 a (oth.getD x 0) (oth.getD y 0) := by
  unfold g2
  rw [gr_bsT hx, gi_get (by rw [bsR_len]; omega)]
  simp only [bsR]
  rw [List.getElem_append_left (by simpa using hy)]
  simp [g2, List.getD_eq_getElem?_getD, List.getElem?_eq_getElem hy]
theorem bs_xm {x : Nat} (hx : x < oth.length) : g2 (bsT a t ring oth) x oth.length = lst (ring.map fun s => g2 a (oth.getD x 0) s.toNat) := by
  unfold g2
  rw [gr_bsT hx, gi_get (by rw [bsR_len]; omega)]
  simp only [bsR]
  rw [List.getElem_append_right (by simp)]
  simp [g2]
theorem bs_my {y : Nat} (hy : y < oth.length) : g2 (bsT a t ring oth) oth.length y = lst (bsL a t ring (oth.getD y 0)) := by
  unfold g2
  rw [gr_bsZ, gi_get (by rw [bsZ_len]; omega)]
  simp only [bsZ]
  rw [List.getElem_append_left (by simpa using hy)]
  simp [List.getD_eq_getElem?_getD, List.getElem?_eq_getElem hy]
theorem bs_mm : g2 (bsT a t ring oth) oth.length oth.length = 0 := by
  unfold g2
  rw [gr_bsZ, gi_get (by rw [bsZ_len]; omega)]
  simp only [bsZ]
  rw [List.getElem_append_right (by simp)]
  simp
end
section
variable {a : List (List Int)} {n r : Nat}
theorem two_le (c : CB a n) (hr : r < n) (hld : ¬ Ld (cwL a r n) r) : 2 ≤ n := by
  refine Classical.byContradiction fun h => hld ?_
  have h1 := c.n1
  obtain rfl : n = 1 := by omega
  intro i hi
  rw [cwL_len] at hi ⊢
  obtain rfl : i = 0 := by omega
  obtain rfl : r = 0 := by omega
  exact orS_root (k := 0) rfl 1
theorem bs_ctr (c : CB a n) (hr : r < n) (hld : ¬ Ld (cwL a r n) r) {ring : List Int} (e1 : raL (cwL a r n) r n = ring) {oth : List Nat} (e2 : othL ring n = oth) :
    Ctr (fun i j => g2 a i j - (if i ∈ natL ring then g2 a i (gi (cwL a r n) i).toNat else 0)) (g2 (bsT a (cwL a r n) ring oth)) n (natL ring) oth ∧ CB (bsT a (cwL a r n) ring oth) (oth.length + 1) ∧
    Rnd (cwL a r n) n r ring oth ∧ (n, r, oth.idxOf r, natL ring, oth) ∈ shapes := by
  have h4 := c.n4
  have h2 := two_le c hr hld
  have hR := rnd_of h4 (cwL_len a r n) cwL_in hr (cwL_root hr) (fun i hi hne => cwL_ne h2 hi hne) hld
  have hS := shape_of h4 (cwL_len a r n) cwL_in hr (cwL_root hr) (fun i hi hne => cwL_ne h2 hi hne) hld
  rw [e1, e2] at hR hS
  have hoth : ∀ x, x < oth.length → oth.getD x 0 < n ∧ ((oth.getD x 0 : Nat) : Int) ∉ ring := fun x hx => by
    have hm : oth.getD x 0 ∈ othL ring n := by rw [e2, List.getD_eq_getElem?_getD, List.getElem?_eq_getElem hx]; exact List.getElem_mem hx
    exact othL_mem.1 hm
  have hnod : ∀ x y, x < oth.length → y < oth.length → x ≠ y → oth.getD x 0 ≠ oth.getD y 0 := fun x y hx hy hxy e => by
    have hnd : oth.Nodup := by rw [← e2]; exact List.Nodup.sublist List.filter_sublist List.nodup_range
    rw [List.getD_eq_getElem?_getD, List.getElem?_eq_getElem hx, List.getD_eq_getElem?_getD, List.getElem?_eq_getElem hy] at e
    exact hxy ((List.getElem_inj hnd).1 e)
  have hnat : ∀ s : Nat, s ∈ natL ring ↔ (s : Int) ∈ ring := fun s => by
    rw [natL, List.mem_map]
    constructor
    · rintro ⟨x, hx, rfl⟩
      have := (hR.bd x hx).1
      rw [show ((x.toNat : Nat) : Int) = x by omega]; exact hx
    · intro h; exact ⟨s, h, by simp⟩
  have hrn : ∀ s ∈ ring, s.toNat < n ∧ s.toNat ≠ r ∧ ((s.toNat : Nat) : Int) = s ∧ s.toNat ∈ natL ring := fun s hs => by
    have := hR.bd s hs
    exact ⟨by omega, by omega, by omega, List.mem_map.2 ⟨s, hs, rfl⟩⟩
  have hch : ∀ s, s < n → s ≠ r → ∀ j, j < n → j ≠ s → g2 a s (gi (cwL a r n) s).toNat ≤ g2 a s j := fun s hs hsr j hj hjs => cwL_least hs hj hsr hjs
  have hto : ∀ s, s < n → s ≠ r → (gi (cwL a r n) s).toNat < n ∧ (gi (cwL a r n) s).toNat ≠ s := fun s hs hsr => by
    have h1 := (cwL_in (a := a) (r := r) (n := n)).bd s (by rw [cwL_len]; exact hs)
    rw [cwL_len] at h1
    have h3 := cwL_ne (a := a) h2 hs hsr
    exact ⟨by omega, by omega⟩
  have hl2 := hR.l2
  have hln := hR.ln
  refine ⟨⟨fun k hk => ?_, fun i j hi hj hij => ?_, fun x y hx hy _ => ?_, fun x hx s hs => ?_, fun x hx => ?_, fun y hy s hs => ?_, fun y hy => ?_⟩, ?_, hR, hS⟩
  · rw [natL, List.length_map] at hk
    have hn := hR.next k hk
    have hlt : (k + 1) % ring.length < ring.length := Nat.mod_lt _ (by omega)
    have hb := hrn _ (gi_mem hk)
    have q1 : (natL ring).getD k 0 = (gi ring k).toNat := by rw [natL, List.getD_eq_getElem?_getD, List.getElem?_map, List.getElem?_eq_getElem hk, gi_get hk]; rfl
    have q2 : (natL ring).getD ((k + 1) % (natL ring).length) 0 = (gi ring ((k + 1) % ring.length)).toNat := by rw [natL, List.length_map, List.getD_eq_getElem?_getD, List.getElem?_map, List.getElem?_eq_getElem hlt, gi_get hlt]; rfl
    rw [q1, q2, ← hn, if_pos hb.2.2.2]
    unfold nx; omega
  · by_cases e : i ∈ natL ring
    · rw [if_pos e]
      have hb := hrn _ ((hnat i).1 e)
      simp only [Int.toNat_natCast] at hb
      have := hch i hi hb.2.1 j hj (Ne.symm hij)
      omega
    · rw [if_neg e]; have := c.off i j hi hj hij; omega
  · rw [bs_xy hx hy]
    rw [if_neg (fun h => (hoth x hx).2 ((hnat _).1 h))]; omega
  · rw [bs_xm hx]
    rw [if_neg (fun h => (hoth x hx).2 ((hnat _).1 h))]
    have := lst_low (L := ring.map fun s => g2 a (oth.getD x 0) s.toNat) (y := g2 a (oth.getD x 0) s) (List.mem_map.2 ⟨(s : Int), (hnat s).1 hs, by simp⟩)
    omega
  · rw [bs_xm hx]
    obtain ⟨s, hs, e⟩ := List.mem_map.1 (lst_mem (L := ring.map fun s => g2 a (oth.getD x 0) s.toNat) (by rw [List.length_map]; omega))
    refine ⟨s.toNat, (hrn s hs).2.2.2, ?_⟩
    rw [if_neg (fun h => (hoth x hx).2 ((hnat _).1 h)), ← e]; omega
  · rw [bs_my hy]
    rw [if_pos hs]
    exact lst_low (List.mem_map.2 ⟨(s : Int), (hnat s).1 hs, by simp⟩)
  · rw [bs_my hy]
    obtain ⟨s, hs, e⟩ := List.mem_map.1 (lst_mem (L := bsL a (cwL a r n) ring (oth.getD y 0)) (by rw [bsL, List.length_map]; omega))
    refine ⟨s.toNat, (hrn s hs).2.2.2, ?_⟩
    rw [if_pos (hrn s hs).2.2.2, ← e]
  · refine ⟨bsT_len _ _ _ _, fun i hi => ?_, fun i j hi hj hij => ?_, fun i hi => ?_, by omega, by omega⟩
    · by_cases e : i < oth.length
      · rw [gr_bsT e, bsR_len]
      · obtain rfl : i = oth.length := by omega
        rw [gr_bsZ, bsZ_len]
    · by_cases ei : i < oth.length
      · by_cases ej : j < oth.length
        · rw [bs_xy ei ej]
          exact c.off _ _ (hoth i ei).1 (hoth j ej).1 (hnod i j ei ej hij)
        · obtain rfl : j = oth.length := by omega
          rw [bs_xm ei]
          refine lst_bd (by rw [List.length_map]; omega) fun v hv => ?_
          obtain ⟨s, hs, rfl⟩ := List.mem_map.1 hv
          have hb := hrn s hs
          exact c.off _ _ (hoth i ei).1 hb.1 (fun e => (hoth i ei).2 (by rw [e, hb.2.2.1]; exact hs))
      · obtain rfl : i = oth.length := by omega
        have ej : j < oth.length := by omega
        rw [bs_my ej]
        refine lst_bd (by rw [bsL, List.length_map]; omega) fun v hv => ?_
        obtain ⟨s, hs, rfl⟩ := List.mem_map.1 hv
        have hb := hrn s hs
        have hne : oth.getD j 0 ≠ s.toNat := fun e => (hoth j ej).2 (by rw [e, hb.2.2.1]; exact hs)
        have q1 := hch s.toNat hb.1 hb.2.1 _ (hoth j ej).1 hne
        have q2 := c.off s.toNat _ hb.1 (hoth j ej).1 (Ne.symm hne)
        have q3 := hto s.toNat hb.1 hb.2.1
        have q4 := c.off s.toNat _ hb.1 q3.1 (Ne.symm q3.2)
        omega
    · by_cases ei : i < oth.length
      · rw [bs_xy ei ei]
        have := c.dg _ (hoth i ei).1
        omega
      · obtain rfl : i = oth.length := by omega
        rw [bs_mm]; omega
theorem bs_step (c : CB a n) (hr : r < n) (hld : ¬ Ld (cwL a r n) r) {ring : List Int} (e1 : raL (cwL a r n) r n = ring) {oth : List Nat} (e2 : othL ring n = oth) {v : Int}
    (h : LF (g2 (bsT a (cwL a r n) ring oth)) (oth.length + 1) (oth.idxOf r) v) : LF (g2 a) n r (rgS a (cwL a r n) ring ring.length + v) := by
  obtain ⟨h1, _, _, h4⟩ := bs_ctr c hr hld e1 e2
  have h5 := (ctr h4 h1 h).shift
  rw [pdS_ring h4 (fun i => g2 a i (gi (cwL a r n) i).toNat), ← rgS_tot] at h5
  rw [Int.add_comm]; exact h5
theorem rgS_bd (c : CB a n) (hr : r < n) (hld : ¬ Ld (cwL a r n) r) {ring : List Int} (e1 : raL (cwL a r n) r n = ring) : ∀ k, k ≤ ring.length → 0 ≤ rgS a (cwL a r n) ring k ∧ rgS a (cwL a r n) ring k ≤ 20 * k := by
  obtain ⟨_, _, hR, _⟩ := bs_ctr c hr hld e1 rfl
  have h2 := two_le c hr hld
  intro k
  induction k with
  | zero => intro _; simp [rgS]
  | succ k ih =>
    intro hk
    have := ih (by omega)
    have hb := hR.bd _ (gi_mem (show k < ring.length by omega))
    have h1 := (cwL_in (a := a) (r := r) (n := n)).bd (gi ring k).toNat (by rw [cwL_len]; omega)
    rw [cwL_len] at h1
    have h3 := cwL_ne (a := a) (r := r) h2 (i := (gi ring k).toNat) (by omega) (by omega)
    have h5 := c.off (gi ring k).toNat (gi (cwL a r n) (gi ring k).toNat).toNat (by omega) (by omega) (by omega)
    rw [rgS]; omega
end
/-- The least so far, as the model keeps it. -/
def bk (L : List Int) : Nat → Int
  | 0 => -1
  | k + 1 => mn L k
theorem bk_step {L : List Int} {k : Nat} (hk : k < L.length) (h : ∀ j, j < L.length → 0 ≤ gi L j) : bk L (k + 1) = if bk L k < 0 ∨ gi L k < bk L k then gi L k else bk L k := by
  cases k with
  | zero => rw [if_pos (.inl (by show (-1 : Int) < 0; omega))]; rfl
  | succ k =>
    have h2 : 0 ≤ mn L k := by obtain ⟨j, hj, e⟩ := mn_at' L k; rw [← e]; exact h j (by omega)
    show min (mn L k) (gi L (k + 1)) = if mn L k < 0 ∨ gi L (k + 1) < mn L k then gi L (k + 1) else mn L k
    split
    · rename_i hc; rcases hc with hc | hc <;> omega
    · rename_i hc; omega
theorem bk_end {L : List Int} (h : 0 < L.length) : bk L L.length = lst L := by
  obtain ⟨k, e⟩ : ∃ k, L.length = k + 1 := ⟨L.length - 1, by omega⟩
  rw [lst, e]; rfl
theorem bk_bd {L : List Int} {lo hi : Int} (h : ∀ j, j < L.length → lo ≤ gi L j ∧ gi L j ≤ hi) (h0 : lo ≤ -1) (h1 : -1 ≤ hi) : ∀ k, k ≤ L.length → lo ≤ bk L k ∧ bk L k ≤ hi
  | 0, _ => ⟨h0, h1⟩
  | k + 1, hk => by
    obtain ⟨j, hj, e⟩ := mn_at' L k
    show lo ≤ mn L k ∧ mn L k ≤ hi
    rw [← e]; exact h j (by omega)
end Go.Proofs.Ytidoahicgiaodaa

/- The cheapest ways, and a round of them, by the model. -/
namespace Go.Proofs.Ytidoahicgiaodaa
open Go.RowKit

def atS (row : List Int) (s k : Nat) : Int := if cw row s k = s then -1 else (cw row s k : Int)
theorem cwL_take {a : List (List Int)} {r n i : Nat} (h : i < n) : (cwL a r n).take (i + 1) = (cwL a r n).take i ++ [gi (cwL a r n) i] := by
  have hl : i < (cwL a r n).length := by rw [cwL_len]; exact h
  rw [List.take_add_one, List.getElem?_eq_getElem hl, gi_get hl]; rfl
theorem atS_end {a : List (List Int)} {r n i : Nat} (h2 : 2 ≤ n) (hi : i < n) (hr : i ≠ r) : atS (gr a i) i n = gi (cwL a r n) i := by
  have := cwL_ne (a := a) h2 hi hr
  rw [gi_cwL hi, if_neg hr] at this ⊢
  rw [atS, if_neg (by omega)]

set_option maxRecDepth 100000 in
set_option maxHeartbeats 1600000 in
theorem cheapest_any (A : Option Addr) (n c : Nat) (a : List (List Int)) (r : Nat) (w : World) (hx : IntRows w A n c a) (hrow : ∀ i, i < n → (gr a i).length = n) (h2 : 2 ≤ n) (h4 : n ≤ 4) :
    Calls Try.prog 107 #[.slice A n c, .int .i64 r] w (NewI w (cwL a r n)) := by
  have HX := Lib.hid hx
  have HR := Lib.hid hrow
  clear hx hrow
  have HU0 := Lib.hid (IU.start w)
  go_enter Try.func107, Try.ntmps107
  go_wp2
  go_loopw [5, 6] (fun v i wr => ∃ k : Nat, k ≤ n ∧ i = .int .i64 k ∧ Hid (IU w v ((cwL a r n).take k) wr)) (fun _ i _ => n - (intOf i).toNat)
  case atStart => exact ⟨0, Nat.zero_le _, rfl, HU0⟩
  case round =>
    clear HU0
    obtain ⟨k, hk, rfl, HU⟩ := hrel
    obtain ⟨Av, cv, hform⟩ := HU.out.bi.form
    by_cases hlt : k < n
    · have HT := Lib.hid (cwL_take (a := a) (r := r) hlt)
      have HLA := Lib.hid (show ((cwL a r n).take k).length ≤ 4 by rw [List.length_take]; omega)
      have HAE := Lib.hid (fun hr => atS_end (a := a) (r := r) h2 hlt hr)
      have HRT := Lib.hid (fun e : k = r => show gi (cwL a r n) k = (r : Int) by rw [gi_cwL hlt, if_pos e])
      have HBD := Lib.hid (cw_lt (row := gr a k) hlt)
      have HU1 := Lib.hid HU.out
      rw [hform] at HU1
      rw [hform]
      clear HU hform
      generalize gi (cwL a r n) k = g at *
      generalize (cwL a r n).take k = ys at *
      go_wp2
      obtain ⟨wA, hwA⟩ : ∃ wA, wA = wr := ⟨_, rfl⟩
      subst hwA
      go_loopw [7, 8] (fun v i wr => ∃ j : Nat, j ≤ n ∧ i = .int .i64 j ∧ v = .int .i64 (atS (gr a k) k j) ∧ Hid (IU w (.slice Av ys.length cv) ys wr)) (fun _ i _ => n - (intOf i).toNat)
      case atStart => exact ⟨0, Nat.zero_le _, rfl, by simp [atS, cw], HU1⟩
      case round =>
        clear HU1
        obtain ⟨j, hj, rfl, rfl, HU⟩ := hrel
        have hq := HBD.out j hj
        by_cases hjn : j < n
        · have HS : Hid (cw (gr a k) k (j + 1) = if j ≠ k ∧ (cw (gr a k) k j = k ∨ gi (gr a k) j < gi (gr a k) (cw (gr a k) k j)) then j else cw (gr a k) k j) := Lib.hid rfl
          by_cases hjk : j = k
          · have hjk' : ((j : Int) != (k : Int)) = false := by simp [hjk]
            have HN := Lib.hid (show atS (gr a k) k (j + 1) = atS (gr a k) k j by (have e : cw (gr a k) k (j + 1) = cw (gr a k) k j := by rw [HS.out, if_neg (by omega)]); rw [atS, atS, e])
            generalize atS (gr a k) k j = t at *
            clear hjk HS
            go_wp2
            go_region
            all_goals
              go_wp2
              go_roundw
              case rel => exact ⟨j + 1, by omega, by go_num, by rw [HN.out], Lib.hid (by first | exact HU.out | exact HU.out.qu ⟨_, rfl⟩)⟩
              case measure => simp [intOf]; omega
          · have hjk' : ((j : Int) != (k : Int)) = true := by simp; omega
            by_cases hcw : cw (gr a k) k j = k
            · have HA : Hid (atS (gr a k) k j = -1) := Lib.hid (by rw [atS, if_pos hcw])
              have HN := Lib.hid (show atS (gr a k) k (j + 1) = (j : Int) by (have e : cw (gr a k) k (j + 1) = j := by rw [HS.out, if_pos ⟨hjk, .inl hcw⟩]); rw [atS, e, if_neg hjk])
              rw [HA.out]
              clear hjk HS hcw
              go_wp2
              go_region
              all_goals
                go_wp2
                go_roundw
                case rel => exact ⟨j + 1, by omega, by go_num, by rw [HN.out], Lib.hid (by first | exact HU.out | exact HU.out.qu ⟨_, rfl⟩)⟩
                case measure => simp [intOf]; omega
            · have HA := Lib.hid (show atS (gr a k) k j = (cw (gr a k) k j : Int) by rw [atS, if_neg hcw])
              rw [HA.out]
              obtain ⟨bA, oA, rfl, hcA⟩ := (HX.out.keep (Keep.below HU.out.up)).at_ (by omega)
              obtain ⟨R, cc, c1, hI⟩ := hcA k hlt
              rw [HR.out k hlt] at c1 hI
              obtain ⟨bR, oR, rfl, hcR⟩ := hI.at_ (by omega)
              have c2 := hcR j hjn
              have c3 := hcR _ hq
              have hqz : decide (((cw (gr a k) k j : Nat) : Int) < 0) = false := decide_eq_false (by omega)
              by_cases hl : gi (gr a k) j < gi (gr a k) (cw (gr a k) k j)
              · have HN := Lib.hid (show atS (gr a k) k (j + 1) = (j : Int) by (have e : cw (gr a k) k (j + 1) = j := by rw [HS.out, if_pos ⟨hjk, .inr hl⟩]); rw [atS, e, if_neg hjk])
                have hl' : decide (gi (gr a k) j < gi (gr a k) (cw (gr a k) k j)) = true := decide_eq_true hl
                clear hjk HS hcw hcA hI hcR HA
                generalize cw (gr a k) k j = q at *
                generalize gi (gr a k) j = x at *
                generalize gi (gr a k) q = y at *
                go_wp2
                go_region
                all_goals
                  go_wp2
                  go_roundw
                  case rel => exact ⟨j + 1, by omega, by go_num, by rw [HN.out], Lib.hid (by first | exact HU.out | exact HU.out.qu ⟨_, rfl⟩)⟩
                  case measure => simp [intOf]; omega
              · have HN := Lib.hid (show atS (gr a k) k (j + 1) = ((cw (gr a k) k j : Nat) : Int) by (have e : cw (gr a k) k (j + 1) = cw (gr a k) k j := by rw [HS.out, if_neg (by rintro ⟨_, h | h⟩ <;> omega)]); rw [atS, e, if_neg hcw])
                have hl' : decide (gi (gr a k) j < gi (gr a k) (cw (gr a k) k j)) = false := decide_eq_false hl
                clear hjk HS hcw hcA hI hcR HA
                generalize cw (gr a k) k j = q at *
                generalize gi (gr a k) j = x at *
                generalize gi (gr a k) q = y at *
                go_wp2
                go_region
                all_goals
                  go_wp2
                  go_roundw
                  case rel => exact ⟨j + 1, by omega, by go_num, by rw [HN.out], Lib.hid (by first | exact HU.out | exact HU.out.qu ⟨_, rfl⟩)⟩
                  case measure => simp [intOf]; omega
        · obtain rfl : j = n := by omega
          by_cases hkr : k = r
          · have hkr' : ((k : Int) == (r : Int)) = true := by simp [hkr]
            have hg := HRT.out hkr
            subst hg
            generalize atS (gr a k) k j = t at *
            clear hkr HAE HRT
            have hb := below_alloc wr (.cells #[iv (r : Int)] 3)
            have HB4 := Lib.hid (HU.out.bi.below hb).own
            have HN := Lib.hid (cell_one_new wr (iv (r : Int)) 3)
            have hwz := HU.out.up.size
            clear hb
            obtain ⟨i0, hi0, hz0, hz1, hz2⟩ := info_parts Try.info_int
            go_wp2_with (at_builtin; refine wpList_append_own_at _ rfl _ _ 36 rfl w.heap.size 3 i0 (.int .i64 0) 1 8 Try.underlying36 hi0 hz0 hz1 hz2 rfl (by decide) _ (ys).length ((ys).map iv) rfl HB4.out ⟨wr.heap.size, 0, none⟩ 1 1 [iv (r : Int)] rfl rfl ?c1 ?c2 ?c3 ?c4 ?c5 ?_)
            case c1 => exact HN.out
            case c2 => intro u hu; simp at hu; subst hu; rfl
            case c3 => have := HLA.out; unfold maxLen; omega
            case c4 => have := HLA.out; omega
            case c5 => simp; omega
            intro v' w5 hown' hgrow _ hat
            have HU5 := Lib.hid (HU.out.push hown' hgrow (by simpa using hat))
            clear HB4 HN hown' hgrow hat
            clear HU
            go_wp2
            go_roundw
            case rel => exact ⟨k + 1, by omega, by go_num, Lib.hid (by rw [HT.out]; exact HU5.out)⟩
            case measure => simp [intOf]; omega
          · have hkr' : ((k : Int) == (r : Int)) = false := by rw [beq_eq_false_iff_ne]; omega
            have hg := HAE.out hkr
            rw [hg]
            clear hkr HAE HRT hg
            have hb := below_alloc wr (.cells #[iv g] 3)
            have HB4 := Lib.hid (HU.out.bi.below hb).own
            have HN := Lib.hid (cell_one_new wr (iv g) 3)
            have hwz := HU.out.up.size
            clear hb
            obtain ⟨i0, hi0, hz0, hz1, hz2⟩ := info_parts Try.info_int
            go_wp2_with (at_builtin; refine wpList_append_own_at _ rfl _ _ 36 rfl w.heap.size 3 i0 (.int .i64 0) 1 8 Try.underlying36 hi0 hz0 hz1 hz2 rfl (by decide) _ (ys).length ((ys).map iv) rfl HB4.out ⟨wr.heap.size, 0, none⟩ 1 1 [iv g] rfl rfl ?c1 ?c2 ?c3 ?c4 ?c5 ?_)
            case c1 => exact HN.out
            case c2 => intro u hu; simp at hu; subst hu; rfl
            case c3 => have := HLA.out; unfold maxLen; omega
            case c4 => have := HLA.out; omega
            case c5 => simp; omega
            intro v' w5 hown' hgrow _ hat
            have HU5 := Lib.hid (HU.out.push hown' hgrow (by simpa using hat))
            clear HB4 HN hown' hgrow hat
            clear HU
            go_wp2
            go_roundw
            case rel => exact ⟨k + 1, by omega, by go_num, Lib.hid (by rw [HT.out]; exact HU5.out)⟩
            case measure => simp [intOf]; omega
    · obtain rfl : k = n := by omega
      have HE := Lib.hid (show (cwL a r k).take k = cwL a r k by have h := List.take_length (l := cwL a r k); rw [cwL_len] at h; exact h)
      rw [hform] at HU
      have HNW := Lib.hid (HU.out.new (by rw [List.length_take]; omega) (fun y hy => by
        obtain ⟨q, hq, rfl⟩ := List.mem_iff_getElem.1 (List.mem_of_mem_take hy)
        rw [← gi_get hq]
        have := (cwL_in (a := a) (r := r) (n := k)).bd q hq
        rw [cwL_len] at this; omega))
      rw [HE.out] at HNW
      rw [hform, HE.out]
      clear HU hform
      go_wp2
      go_ret
      exact HNW.out
set_option maxRecDepth 100000 in
set_option maxHeartbeats 1600000 in
theorem roundOfS_any (r : Nat) (T : Option Addr) (n ct : Nat) (t : List Int) (w : World) (ht : Ints w T n ct t) (hb : InB t) (h4 : n ≤ 4) (hnr : nx t r = r) :
    Calls Try.prog 108 #[.slice T n ct, .int .i64 r] w (NewI w (raL t r n)) := by
  have HT := Lib.hid ht
  have HL := Lib.hid ht.len
  have HB := Lib.hid hb
  have HOS := Lib.hid (orS_orb hnr)
  clear ht hb hnr
  go_enter Try.func108, Try.ntmps108
  go_wp2
  go_loopw [5] (fun i wr => ∃ k : Nat, k ≤ n ∧ i = .int .i64 k ∧ Hid (∀ j : Nat, j < k → orb t j n = r) ∧ w = wr) (fun i _ => n - (intOf i).toNat)
  case atStart => exact ⟨0, Nat.zero_le _, rfl, Lib.hid (fun _ h => absurd h (by omega)), rfl⟩
  case round =>
    obtain ⟨k, hk, rfl, HALL, rfl⟩ := hrel
    by_cases hlt : k < n
    · go_wp2
      go_loopw [6, 7] (fun a s wi => ∃ m : Nat, m ≤ n ∧ s = .int .i64 m ∧ a = .int .i64 (orS t r k m) ∧ w = wi) (fun _ s _ => n - (intOf s).toNat)
      case atStart => exact ⟨0, Nat.zero_le _, rfl, rfl, rfl⟩
      case round =>
        obtain ⟨m, hm, rfl, rfl, rfl⟩ := hrel
        have ho := orS_in HB.out (r := r) (x := (k : Int)) (by omega) (by rw [HL.out]; omega) m
        rw [HL.out] at ho
        by_cases hr : orS t r k m = r
        · have HN := Lib.hid (show orb t k n = r by rw [← HOS.out]; obtain ⟨d, rfl⟩ : ∃ d, n = m + d := ⟨n - m, by omega⟩; exact orS_root hr d)
          rw [hr]
          have hr0 : ((r : Int) != (r : Int)) = false := by simp
          have hr1 : ((r : Int) == (r : Int)) = true := by simp
          clear hr ho
          by_cases hml : m < n
          · go_wp2
            go_roundw
            case rel => exact ⟨k + 1, by omega, by go_num, Lib.hid (fun i hi => by
              by_cases hik : i = k
              · subst hik; exact HN.out
              · exact HALL.out i (by omega)), by first | exact rfl | trivial⟩
            case measure => simp [intOf]; omega
          · go_wp2
            go_roundw
            case rel => exact ⟨k + 1, by omega, by go_num, Lib.hid (fun i hi => by
              by_cases hik : i = k
              · subst hik; exact HN.out
              · exact HALL.out i (by omega)), by first | exact rfl | trivial⟩
            case measure => simp [intOf]; omega
        · have hr0 : (orS t r k m != (r : Int)) = true := by simp [hr]
          have hr1 : (orS t r k m == (r : Int)) = false := by simp [hr]
          obtain ⟨x, hj⟩ : ∃ x : Nat, orS t r k m = x := ⟨(orS t r k m).toNat, by omega⟩
          by_cases hml : m < n
          · have HS := Lib.hid (orS_step hr)
            rw [hj] at ho hr0 hr1 HS ⊢
            obtain ⟨b, o, rfl, hc⟩ := HT.out.at_ (by omega)
            have c1 := hc x (by omega)
            have HG : Hid (nx t (x : Int) = gi t x) := Lib.hid (by unfold nx; simp)
            have hjn : x < n := by omega
            clear hc hr hj
            go_wp2
            go_roundw
            case rel => exact ⟨m + 1, by omega, by go_num, congrArg (Value.int .i64) (by rw [HS.out, HG.out]), by first | exact rfl | trivial⟩
            case measure => simp [intOf]; omega
          · obtain rfl : m = n := by omega
            have hob : orb t k m = x := by rw [← HOS.out, hj]
            have HRA := Lib.hid (raL_some (t := t) (r := (r : Int)) hlt (by rw [hob, ← hj]; exact hr) HALL.out)
            rw [hob] at HRA
            obtain ⟨p0, hp0, hpe⟩ := round_ex HB.out (by rw [HL.out]; exact h4) (i := k) (by rw [HL.out]; exact hlt)
            rw [HL.out] at hp0 hpe
            rw [hob] at hpe
            obtain ⟨q1, q2, q3⟩ := perI_ok hp0 hpe
            rw [hj] at ho hr0 hr1 ⊢
            have hxn : x < m := by omega
            have H1 := Lib.hid q2
            have H2 := Lib.hid q3
            have HO : Hid (∀ k, 0 ≤ orb t x k ∧ orb t x k < m) := Lib.hid (fun k => by have := orb_in HB.out (x := (x : Int)) (by omega) (by rw [HL.out]; omega) k; rw [HL.out] at this; exact this)
            generalize perI t (x : Int) m = p at *
            have HU0 := Lib.hid (show IU w (.slice (some ⟨w.heap.size, 0, none⟩) 1 1) [(x : Int)] (w.alloc (.cells #[.int .i64 x] 3)) from
              ⟨⟨World.ownsRow_lit w #[.int .i64 x] 1 (Nat.le_refl _) (by unfold maxLen; omega) rfl, fun k hk => by simp [Value.ownBlock] at hk; simp; omega⟩, below_alloc _ _⟩)
            have HK0 := Lib.hid (HT.out.keep (Keep.below HU0.out.up))
            obtain ⟨b, o, rfl, hc⟩ := HK0.out.at_ (by omega)
            have c0 := hc x hxn
            have HG0 : Hid (orb t x 1 = gi t x) := Lib.hid (by show nx t x = _; unfold nx; simp)
            clear hc HK0 q2 q3 hpe hob hj hr ho
            rw [← HG0.out] at c0
            go_wp2
            clear c0
            go_loopw [8, 9] (fun v s wr => ∃ d : Nat, d ≤ p ∧ s = .int .i64 (orb t x (d + 1)) ∧ Hid (IU w v (rfL t x d) wr)) (fun v _ _ => m - (match v with | .slice _ k _ => k | _ => 0))
            case atStart => exact ⟨0, Nat.zero_le _, rfl, HU0⟩
            case round =>
              clear HU0
              obtain ⟨d, hd, rfl, HU⟩ := hrel
              obtain ⟨Av, cv, rfl⟩ := HU.out.bi.form
              by_cases hdp : d < p
              · have hne := H2.out d hdp
                have hne' : (orb t x (d + 1) != (x : Int)) = true := by simp [hne]
                have ho := HO.out (d + 1)
                have HS := Lib.hid (rfL_succ t x d)
                have HN1 : Hid (orb t x (d + 1 + 1) = gi t (orb t x (d + 1)).toNat) := Lib.hid rfl
                obtain ⟨y, hy⟩ : ∃ y : Nat, orb t x (d + 1) = y := ⟨(orb t x (d + 1)).toNat, by omega⟩
                rw [hy] at hne' ho HS HN1 ⊢
                simp only [Int.toNat_natCast] at HN1
                have hyn : y < m := by omega
                have HLM := Lib.hid (rfL_len t x d)
                clear hne hy
                generalize rfL t x d = ys at *
                have hb := below_alloc wr (.cells #[iv (y : Int)] 3)
                have HB4 := Lib.hid (HU.out.bi.below hb).own
                have HN := Lib.hid (cell_one_new wr (iv (y : Int)) 3)
                have hwz := HU.out.up.size
                clear hb
                obtain ⟨i0, hi0, hz0, hz1, hz2⟩ := info_parts Try.info_int
                go_wp2_with (at_builtin; refine wpList_append_own_at _ rfl _ _ 36 rfl w.heap.size 3 i0 (.int .i64 0) 1 8 Try.underlying36 hi0 hz0 hz1 hz2 rfl (by decide) _ (ys).length ((ys).map iv) rfl HB4.out ⟨wr.heap.size, 0, none⟩ 1 1 [iv (y : Int)] rfl rfl ?c1 ?c2 ?c3 ?c4 ?c5 ?_)
                case c1 => exact HN.out
                case c2 => intro u hu; simp at hu; subst hu; rfl
                case c3 => have := HLM.out; unfold maxLen; omega
                case c4 => have := HLM.out; omega
                case c5 => simp; omega
                intro v' w5 hown' hgrow _ hat
                have HU5 := Lib.hid (HU.out.push hown' hgrow (by simpa using hat))
                clear HB4 HN hown' hgrow hat
                have HK5 := Lib.hid (HT.out.keep (Keep.below HU5.out.up))
                obtain ⟨b', o', e', hc⟩ := HK5.out.at_ (by omega)
                injection e' with e'
                injection e' with e1 e2 _
                subst e1
                subst e2
                have c0 := hc y hyn
                rw [← HN1.out] at c0
                have hyl := HLM.out
                clear hc HK5 HU
                go_wp2
                go_roundw
                case rel => exact ⟨d + 1, by omega, rfl, Lib.hid (by rw [HS.out]; exact HU5.out)⟩
                case measure =>
                  obtain ⟨A5, c5, e5⟩ := HU5.out.bi.form
                  rw [e5]
                  simp
                  omega
              · obtain rfl : d = p := by omega
                rw [H1.out]
                have hne' : ((x : Int) != (x : Int)) = false := by simp
                have HNW := Lib.hid (HU.out.new (by rw [rfL_len]; omega) (fun y hy => by
                  obtain ⟨j, _, rfl⟩ := List.mem_map.1 hy
                  have := HO.out j; omega))
                rw [← HRA.out] at HNW ⊢
                go_wp2
                go_ret
                exact HNW.out
    · obtain rfl : k = n := by omega
      have HE := Lib.hid (raL_none (t := t) (r := (r : Int)) HALL.out)
      have HB0 := Lib.hid (below_alloc w (.cells #[] 3))
      go_wp2
      go_ret
      rw [HE.out]
      exact ⟨_, 0, 0, w.heap.size, rfl, rfl, ⟨⟨rfl, Nat.le_refl _, by omega, fun x hx => by simp at hx, fun h => absurd h (by omega)⟩, fun h => absurd h (by omega)⟩, HB0.out⟩
end Go.Proofs.Ytidoahicgiaodaa

