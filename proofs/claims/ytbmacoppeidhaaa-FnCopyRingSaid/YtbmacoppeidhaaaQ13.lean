/- Texts merged: K8 K9 LO8 LO9 LO10 G1 G2 G7 H1 V8 V9 Y2 N22 Math56 Math31 Math40 J1 Math41 K4 Math20 Z4 Z5. -/
import Derived.Test.YtbmacoppeidhaaaQ12
import Derived.Laws.CopyOwn
/- The next shares, by both programs. -/
namespace Go.Proofs.Ytbmacoppeidhaaa
open Go.RowKit

/-- What the next shares are to each other. -/
def nxV (a : List (List Int)) (x : List Int) (n i : Nat) : Int := gi x i * dotr a x i n
def nxL (a : List (List Int)) (x : List Int) (n k : Nat) : List Int := (List.range k).map (nxV a x n)
theorem nxL_succ (a : List (List Int)) (x : List Int) (n k : Nat) : nxL a x n (k + 1) = nxL a x n k ++ [nxV a x n k] := by simp [nxL, List.range_succ]
theorem nxL_len (a : List (List Int)) (x : List Int) (n k : Nat) : (nxL a x n k).length = k := by simp [nxL]
theorem gi_nxL {a : List (List Int)} {x : List Int} {n k i : Nat} (h : i < k) : gi (nxL a x n k) i = nxV a x n i := gi_range h
theorem VQ.len2' {a : List (List Int)} {n : Nat} (v : VQ a) (hl : a.length = n) : (gr a 0).length = n := by have := v.2; omega
theorem dotr_pos {a : List (List Int)} {x : List Int} {i n : Nat} (ha : ∀ j, j < n → 1 ≤ g2 a i j) (hx : ∀ j, j < n → 0 ≤ gi x j) : ∀ {k}, k ≤ n → sm x k ≤ dotr a x i k
  | 0, _ => Int.le_refl _
  | k + 1, h => by
    have h1 := dotr_pos ha hx (k := k) (by omega)
    have h2 := ha k (by omega)
    have h3 := hx k (by omega)
    have h4 : 1 * gi x k ≤ g2 a i k * gi x k := Int.mul_le_mul_of_nonneg_right h2 h3
    simp only [sm, dotr]
    omega
/-- A field and shares. -/
structure FS (a : List (List Int)) (x : List Int) (n : Nat) : Prop where
  f : VF a
  s : VS x (n : Int)
  l : a.length = n
theorem FS.n3 {a x n} (h : FS a x n) : 1 ≤ n ∧ n ≤ 3 := by have := h.f.q.1.n1; have := h.f.q.1.n3; have := h.l; omega
theorem FS.xl {a x n} (h : FS a x n) : x.length = n := by have := h.s.1; omega
theorem FS.x {a x n} (h : FS a x n) : ∀ j, j < n → 0 ≤ gi x j ∧ gi x j ≤ 1000 := VS.bds h.s
theorem FS.a {a x n} (h : FS a x n) {i j : Nat} (hi : i < n) (hj : j < n) : 1 ≤ g2 a i j ∧ g2 a i j ≤ 9 := by
  have hl := h.l
  have h1 := h.f.p i j (by omega) (by omega)
  have h2 := h.f.q.1.bd (i := i) (j := j) (by omega) (by have := h.f.q.2; omega)
  omega
theorem FS.dot {a x n} (h : FS a x n) {i : Nat} (hi : i < n) : 1 ≤ dotr a x i n ∧ dotr a x i n ≤ 27000 := by
  have h0 := h.n3
  have h1 := dotr_pos (a := a) (x := x) (i := i) (n := n) (fun j hj => (h.a hi hj).1) (fun j hj => (h.x j hj).1) (Nat.le_refl n)
  have h2 := dotr_bd (a := a) (w := x) (i := i) (m := n) (fun j hj => by have := h.a hi hj; omega) h.x (Nat.le_refl n)
  have h3 := h.s.2.2
  unfold tot at h3
  rw [h.xl] at h3
  omega
theorem FS.nx {a x n} (h : FS a x n) {i : Nat} (hi : i < n) : 0 ≤ nxV a x n i ∧ nxV a x n i ≤ 27000000 ∧ (0 < gi x i → 0 < nxV a x n i) := by
  have h1 := h.dot hi
  have h2 := h.x i hi
  unfold nxV
  have h3 : 0 * dotr a x i n ≤ gi x i * dotr a x i n := Int.mul_le_mul_of_nonneg_right h2.1 (by omega)
  have h4 : gi x i * dotr a x i n ≤ 1000 * 27000 := Int.mul_le_mul h2.2 h1.2 (by omega) (by omega)
  exact ⟨by omega, by omega, fun h => Int.mul_pos h (by omega)⟩
theorem sm_has {x : List Int} : ∀ {k}, (∀ j, j < k → 0 ≤ gi x j) → 0 < sm x k → ∃ j, j < k ∧ 0 < gi x j
  | 0, _, h => by simp [sm] at h
  | k + 1, hp, h => by
    by_cases e : 0 < gi x k
    · exact ⟨k, by omega, e⟩
    · have h1 := hp k (by omega)
      obtain ⟨j, hj, hp'⟩ := sm_has (x := x) (k := k) (fun j hj => hp j (by omega)) (by simp only [sm] at h; omega)
      exact ⟨j, by omega, hp'⟩
theorem FS.clr {a x n} (h : FS a x n) : ClrP (nxL a x n n) ∧ 0 < gcdL (nxL a x n n) n := by
  have h0 := h.s.2.2
  unfold tot at h0
  rw [h.xl] at h0
  obtain ⟨j, hj, hp⟩ := sm_has (fun j hj => (h.x j hj).1) h0
  have hc : ClrP (nxL a x n n) := by
    refine ⟨⟨j, by rw [nxL_len]; exact hj, ?_⟩, .inl fun p hp => ?_⟩
    · rw [gi_nxL hj]; have := (h.nx hj).2.2 hp; omega
    · rw [nxL_len] at hp; rw [gi_nxL hp]; exact (h.nx hp).1
  exact ⟨hc, (clr_yes (nxL_len a x n n) hc).1⟩
theorem FS.mid {a x n} (h : FS a x n) : ∀ p, p < (nxL a x n n).length → Mid (gi (nxL a x n n) p) := fun p hp => by
  rw [nxL_len] at hp
  rw [gi_nxL hp]
  have := h.nx hp
  unfold Mid
  omega
/-- What NextShares answers. -/
noncomputable def nsF (a : List (List Int)) (x : List Int) : List Int := if pb (VF a ∧ VS x a.length) = true then clrL (nxL a x a.length a.length) (gcdL (nxL a x a.length a.length) a.length) a.length else []
theorem nsF_yes {a : List (List Int)} {x : List Int} {n : Nat} (h : FS a x n) : nsF a x = clrL (nxL a x n n) (gcdL (nxL a x n n) n) n := by
  unfold nsF; rw [if_pos (pb_true ⟨h.f, by rw [h.l]; exact h.s⟩), h.l]
theorem nsF_no {a : List (List Int)} {x : List Int} (h : ¬ (VF a ∧ VS x a.length)) : nsF a x = [] := by unfold nsF; rw [if_neg (by rw [pb_false h]; decide)]
theorem FS.of {a : List (List Int)} {x : List Int} {n : Nat} (hl : a.length = n) (hf : VF a) (hs : VS x (n : Int)) : FS a x n := ⟨hf, hs, hl⟩
theorem nsF_le (a : List (List Int)) (x : List Int) : (nsF a x).length ≤ 100 := by
  by_cases h : VF a ∧ VS x a.length
  · have hf : FS a x a.length := ⟨h.1, h.2, rfl⟩
    have := hf.n3
    rw [nsF_yes hf, clrL_len]; omega
  · rw [nsF_no h]; simp

end Go.Proofs.Ytbmacoppeidhaaa

/- NextShares, by both programs. -/
namespace Go.Proofs.Ytbmacoppeidhaaa
open Go.RowKit

theorem NewI.empty {w w' : World} {ys : List Int} (h : Below w.heap.size w w') (hy : ys = []) : NewI w ys (.returned (.slice none 0 0)) w' := by
  subst hy; exact ⟨none, 0, 0, 0, rfl, rfl, OwnI.nil _ _ _ _, h⟩
theorem NewI.from {w w1 w2 : World} {ys : List Int} {e : Ending} (h : Below w.heap.size w w1) (k : NewI w1 ys e w2) : NewI w ys e w2 := by
  obtain ⟨A, n, c, g, he, hn, ho, hb⟩ := k
  exact ⟨A, n, c, g, he, hn, ho.mono h.size (Nat.le_refl _), below_up h hb⟩


end Go.Proofs.Ytbmacoppeidhaaa

/- What is left over, by the program: the marked. -/
namespace Go.Proofs.Ytbmacoppeidhaaa
open Go.RowKit

theorem selL_yes {f : Nat → Bool} {k : Nat} (h : f k = true) : selL f (k + 1) = selL f k ++ [(k : Int)] := by simp [selL, List.range_succ, List.filter_append, h]
theorem selL_no {f : Nat → Bool} {k : Nat} (h : f k = false) : selL f (k + 1) = selL f k := by simp [selL, List.range_succ, List.filter_append, h]
theorem selL_small (f : Nat → Bool) (n : Nat) (hn : n ≤ 100) : ∀ y ∈ selL f n, -1000000000000000 ≤ y ∧ y ≤ 1000000000000000 := fun y hy => by
  obtain ⟨k, hk, _, rfl⟩ := selL_mem.1 hy
  omega

set_option maxRecDepth 100000 in
set_option maxHeartbeats 3200000 in
theorem marked_any (m : Nat → Bool) (w : World) : Calls Try.prog 68 #[.agg (bs3 m)] w (NewI w (selL m 3)) := by
  have HB := Lib.hid (below_alloc w (.cells (bs3 m) 86))
  have HK := Lib.hid (blk_new w 86 (bs3 m))
  go_enter Try.func68, Try.ntmps68
  have c0 := blk_cell HK.out (i := 0) (v := .bool (m 0)) rfl
  have c1 := blk_cell HK.out (i := 1) (v := .bool (m 1)) rfl
  have c2 := blk_cell HK.out (i := 2) (v := .bool (m 2)) rfl
  go_wp2
  clear c0 c1 c2 HK
  generalize w.alloc (.cells (bs3 m) 86) = W1 at *
  have HS0 := Lib.hid (IU.nil W1)
  go_loopw [3, 7] (fun v i wr => ∃ k : Nat, k ≤ 3 ∧ i = .int .i64 k ∧ Hid (IU W1 v (selL m k) wr)) (fun _ i _ => 3 - (intOf i).toNat)
  case atStart => exact ⟨0, by omega, rfl, HS0⟩
  case round =>
    clear HS0
    obtain ⟨k, hk, rfl, HI⟩ := hrel
    obtain ⟨Av, cv, rfl⟩ := HI.out.bi.form
    by_cases hlt : k < 3
    · have ix : ∀ W, (Instr.index 86 (.agg #[.bool (m 0), .bool (m 1), .bool (m 2)]) (.int .i64 k)).run Try.prog W = .ok (.bool (m k)) W := by
        have : k = 0 ∨ k = 1 ∨ k = 2 := by omega
        rcases this with rfl | rfl | rfl <;> exact fun _ => by kernel_rfl
      cases hm : m k
      · have HCS := Lib.hid (selL_no hm)
        rw [hm] at ix
        clear hm
        go_wp2
        clear ix
        go_roundw
        case rel => exact ⟨k + 1, by omega, by go_num, Lib.hid (by rw [HCS.out]; exact HI.out)⟩
        case measure => simp [intOf]; omega
      · have HCS := Lib.hid (selL_yes hm)
        rw [hm] at ix
        clear hm
        have HML := Lib.hid (selL_len m k)
        have hb := below_alloc wr (.cells #[iv (k : Int)] 3)
        have HB4 := Lib.hid (HI.out.bi.below hb).own
        have HN := Lib.hid (cell_one_new wr (iv (k : Int)) 3)
        have hwz := HI.out.up.size
        clear hb
        generalize selL m k = ys at *
        obtain ⟨i0, hi0, hz0, hz1, hz2⟩ := info_parts Try.info_int
        go_wp2_with (at_builtin; refine wpList_append_own_at _ rfl _ _ 23 rfl W1.heap.size 3 i0 (.int .i64 0) 1 8 Try.underlying23 hi0 hz0 hz1 hz2 rfl (by decide) _ ys.length (ys.map iv) rfl HB4.out ⟨wr.heap.size, 0, none⟩ 1 1 [iv (k : Int)] rfl rfl ?c1 ?c2 ?c3 ?c4 ?c5 ?_)
        case c1 => exact HN.out
        case c2 => intro u hu; simp at hu; subst hu; rfl
        case c3 => have := HML.out; unfold maxLen; omega
        case c4 => have := HML.out; omega
        case c5 => simp; omega
        intro v' w5 hown' hgrow _ hat
        have HI5 := Lib.hid (HI.out.push hown' hgrow (by simpa using hat))
        clear HB4 HN hown' hgrow hat HI ix
        go_wp2
        go_roundw
        case rel => exact ⟨k + 1, by omega, by go_num, Lib.hid (by rw [HCS.out]; exact HI5.out)⟩
        case measure => simp [intOf]; omega
    · obtain rfl : k = 3 := by omega
      have HNW := Lib.hid (NewI.from HB.out (HI.out.new (by have := selL_len m 3; omega) (selL_small m 3 (by omega))))
      go_wp2
      go_ret
      exact HNW.out
end Go.Proofs.Ytbmacoppeidhaaa

/- What is left over: the program's marks and the sets of LO2. Plain. -/
namespace Go.Proofs.Ytbmacoppeidhaaa

/-- f below n, and nothing behind. -/
def cutF (f : Nat → Bool) (n : Nat) : Nat → Bool := fun i => decide (i < n) && f i
theorem bs3_congr {f g : Nat → Bool} (h : ∀ i, i < 3 → f i = g i) : bs3 f = bs3 g := by unfold bs3; rw [h 0 (by omega), h 1 (by omega), h 2 (by omega)]
theorem cut_all (n : Nat) : bs3 (cutF (fun _ => true) n) = bs3 fun j => decide (j < n) := bs3_congr fun i _ => by simp [cutF]
theorem cut_sel {f : Nat → Bool} {n : Nat} (hn : n ≤ 3) : selL (cutF f n) 3 = selL f n := by
  have : n = 0 ∨ n = 1 ∨ n = 2 ∨ n = 3 := by omega
  rcases this with rfl | rfl | rfl | rfl <;> simp [selL, cutF, List.range_succ, List.filter_cons]
theorem BM_cut {a : List (List Int)} {f h : Nat → Bool} {n m i : Nat} (hn : n ≤ 3) (hm : m ≤ 3) (hi : i < n) (F : Nat → Nat → Int) (hF : ∀ r j, r < n → j < m → F r j = g2 a r j) : BM F (cutF f n) (cutF h m) i 3 ↔ BT a f h n m i := by
  constructor
  · rintro ⟨r, _, hr, hl⟩
    simp only [cutF, Bool.and_eq_true, decide_eq_true_eq] at hr
    exact ⟨r, hr.1, hr.2, fun y hy hh => by have := hl y (by omega) (by simp only [cutF, Bool.and_eq_true, decide_eq_true_eq]; exact ⟨hy, hh⟩); rwa [hF i y hi hy, hF r y hr.1 hy] at this⟩
  · rintro ⟨r, h1, h2, h3⟩
    refine ⟨r, by omega, by simp only [cutF, Bool.and_eq_true, decide_eq_true_eq]; exact ⟨h1, h2⟩, fun y _ hy => ?_⟩
    simp only [cutF, Bool.and_eq_true, decide_eq_true_eq] at hy
    rw [hF i y hi hy.1, hF r y h1 hy.1]
    exact h3 y hy.1 hy.2
theorem st_cut {a : List (List Int)} {f h : Nat → Bool} {n m : Nat} (hn : n ≤ 3) (hm : m ≤ 3) (F : Nat → Nat → Int) (hF : ∀ r j, r < n → j < m → F r j = g2 a r j) : bs3 (stM F (cutF f n) (cutF h m)) = bs3 (cutF (stayF a f h n m) n) := by
  apply bs3_congr
  intro i _
  unfold stM
  by_cases hi : i < n
  · rw [pb_congr (BM_cut (f := f) (h := h) hn hm hi F hF)]
    simp [cutF, stayF, hi]
  · simp [cutF, hi]
theorem cut_same {f g : Nat → Bool} {n : Nat} (hn : n ≤ 3) : bs3 (cutF f n) = bs3 (cutF g n) ↔ ∀ i, i < n → f i = g i := by
  constructor
  · intro e i hi
    have h1 := bs3_get (cutF f n) (show i < 3 by omega)
    have h2 := bs3_get (cutF g n) (show i < 3 by omega)
    rw [e, h2] at h1
    simpa [cutF, hi, eq_comm] using h1
  · intro h
    apply bs3_congr
    intro i _
    by_cases hi : i < n
    · simp [cutF, hi, h i hi]
    · simp [cutF, hi]
end Go.Proofs.Ytbmacoppeidhaaa

/- LeftOver, by the program. -/
namespace Go.Proofs.Ytbmacoppeidhaaa
open Go.RowKit

structure R4 (p : GP) (w0 : World) (xs ys : List (List Int)) (f1 f2 : Nat → Nat → Int) (q4 q5 : Nat) (L : Array Bool) (u20 u21 u22 u23 u24 u25 u26 u27 u28 u29 u6 u7 : Value) (q6 : Nat) (q7 : Nat) (g6 : Nat → Bool) (g7 : Nat → Bool) (W : World) : Prop where
  gt : GT p w0 W w0.heap.size xs ys
  k4 : Blk W q4 83 (cs9 f1)
  k5 : Blk W q5 83 (cs9 f2)
  h0 : On L 0 → u20 = .pointer (some ⟨w0.heap.size, 0, none⟩)
  h1 : On L 1 → u21 = .slice (some ⟨p.ba, p.oa, none⟩) p.n p.c
  h2 : On L 2 → u22 = .int .i64 p.n
  h3 : On L 3 → u23 = .agg (bs3 fun j => decide (j < p.n))
  h4 : On L 4 → u24 = .pointer (some ⟨w0.heap.size, 0, none⟩)
  h5 : On L 5 → u25 = .slice (some ⟨p.ba, p.oa, none⟩) p.n p.c
  h6 : On L 6 → u26 = .pointer (some ⟨p.ba, p.oa, none⟩)
  h7 : On L 7 → u27 = .slice (some ⟨p.ra 0, p.pa 0, none⟩) p.m (p.ca 0)
  h8 : On L 8 → u28 = .int .i64 p.m
  h9 : On L 9 → u29 = .agg (bs3 fun j => decide (j < p.m))
  h10 : On L 10 → u6 = .pointer (some ⟨q6, 0, none⟩) ∧ w0.heap.size < q6 ∧ q4 ≠ q6 ∧ q5 ≠ q6 ∧ Blk W q6 86 (bs3 g6)
  h11 : On L 11 → u7 = .pointer (some ⟨q7, 0, none⟩) ∧ w0.heap.size < q7 ∧ q4 ≠ q7 ∧ q5 ≠ q7 ∧ Blk W q7 86 (bs3 g7)
  hne : On L 10 → On L 11 → q6 ≠ q7
  h12 : On L 12 → On L 10 ∧ Blk W q6 86 (bs3 fun j => decide (j < p.n))
  h13 : On L 13 → On L 11 ∧ Blk W q7 86 (bs3 fun j => decide (j < p.m))
theorem R4.up {p w0 xs ys f1 f2 q4 q5 L u20 u21 u22 u23 u24 u25 u26 u27 u28 u29 u6 u7 q6 q7 g6 g7 W W'} (Hy : R4 p w0 xs ys f1 f2 q4 q5 L u20 u21 u22 u23 u24 u25 u26 u27 u28 u29 u6 u7 q6 q7 g6 g7 W) (k : Below W.heap.size W W') : R4 p w0 xs ys f1 f2 q4 q5 L u20 u21 u22 u23 u24 u25 u26 u27 u28 u29 u6 u7 q6 q7 g6 g7 W' :=
  ⟨Hy.gt.up k, blk_below Hy.k4 k, blk_below Hy.k5 k, Hy.h0, Hy.h1, Hy.h2, Hy.h3, Hy.h4, Hy.h5, Hy.h6, Hy.h7, Hy.h8, Hy.h9, fun o => let ⟨a, b, c, d, r⟩ := (Hy.h10 o); ⟨a, b, c, d, blk_below r k⟩, fun o => let ⟨a, b, c, d, r⟩ := (Hy.h11 o); ⟨a, b, c, d, blk_below r k⟩, Hy.hne, fun o => (Hy.h12 o).imp id (fun r => blk_below r k), fun o => (Hy.h13 o).imp id (fun r => blk_below r k)⟩
structure R8 (w0 : World) (q6 q7 : Nat) (f h : Nat → Bool) (L : Array Bool) (u46 u47 u48 u49 u2 u3 : Value) (A1 : Option Addr) (n1 : Nat) (c1 : Nat) (g1 : Nat) (A2 : Option Addr) (n2 : Nat) (c2 : Nat) (g2 : Nat) (W : World) : Prop where
  bl : Below w0.heap.size w0 W
  k6 : Blk W q6 86 (bs3 f)
  k7 : Blk W q7 86 (bs3 h)
  h0 : On L 0 → u46 = .agg (bs3 f)
  h1 : On L 1 → u47 = .slice A1 n1 c1 ∧ SelO w0.heap.size W f 3 A1 n1 c1 g1
  h2 : On L 2 → u48 = .agg (bs3 h)
  h3 : On L 3 → u49 = .slice A2 n2 c2 ∧ SelO w0.heap.size W h 3 A2 n2 c2 g2
  hd : On L 3 → On L 1 ∧ (0 < n1 → 0 < n2 → g1 ≠ g2)
  h4 : On L 4 → On L 1 ∧ u2 = .slice A1 n1 c1
  h5 : On L 5 → On L 3 ∧ u3 = .slice A2 n2 c2
theorem R8.up {w0 q6 q7 f h L u46 u47 u48 u49 u2 u3 A1 n1 c1 g1 A2 n2 c2 g2 W W'} (Hy : R8 w0 q6 q7 f h L u46 u47 u48 u49 u2 u3 A1 n1 c1 g1 A2 n2 c2 g2 W) (k : Below W.heap.size W W') : R8 w0 q6 q7 f h L u46 u47 u48 u49 u2 u3 A1 n1 c1 g1 A2 n2 c2 g2 W' :=
  ⟨below_up Hy.bl k, blk_below Hy.k6 k, blk_below Hy.k7 k, Hy.h0, fun o => (Hy.h1 o).imp id (fun r => r.up k), Hy.h2, fun o => (Hy.h3 o).imp id (fun r => r.up k), Hy.hd, Hy.h4, Hy.h5⟩
structure R9 (w0 : World) (q4 q5 q6 q7 q8 q9 : Nat) (F1 F2 : Nat → Nat → Int) (f' h' : Nat → Bool) (L : Array Bool) (u50 u51 : Value) (g6 : Nat → Bool) (g7 : Nat → Bool) (W : World) : Prop where
  bl : Below w0.heap.size w0 W
  k4 : Blk W q4 83 (cs9 F1)
  k5 : Blk W q5 83 (cs9 F2)
  k6 : Blk W q6 86 (bs3 g6)
  k7 : Blk W q7 86 (bs3 g7)
  k8 : Blk W q8 86 (bs3 f')
  k9 : Blk W q9 86 (bs3 h')
  h0 : On L 0 → u50 = .agg (bs3 f')
  h1 : On L 1 → u51 = .agg (bs3 h')
  h2 : On L 2 → Blk W q6 86 (bs3 f')
  h3 : On L 3 → Blk W q7 86 (bs3 h')
theorem R9.up {w0 q4 q5 q6 q7 q8 q9 F1 F2 f' h' L u50 u51 g6 g7 W W'} (Hy : R9 w0 q4 q5 q6 q7 q8 q9 F1 F2 f' h' L u50 u51 g6 g7 W) (k : Below W.heap.size W W') : R9 w0 q4 q5 q6 q7 q8 q9 F1 F2 f' h' L u50 u51 g6 g7 W' :=
  ⟨below_up Hy.bl k, blk_below Hy.k4 k, blk_below Hy.k5 k, blk_below Hy.k6 k, blk_below Hy.k7 k, blk_below Hy.k8 k, blk_below Hy.k9 k, Hy.h0, Hy.h1, fun o => blk_below (Hy.h2 o) k, fun o => blk_below (Hy.h3 o) k⟩
/-- Two new slices of ints, apart. -/
def NewIX (w : World) (xs ys : List Int) (e : Ending) (w' : World) : Prop :=
  ∃ A n c g B m d h, e = .returned (.tuple #[.slice A n c, .slice B m d]) ∧ n = xs.length ∧ m = ys.length ∧ OwnI w.heap.size w'.heap.size w' g A n c xs ∧ OwnI w.heap.size w'.heap.size w' h B m d ys ∧ Below w.heap.size w w' ∧ (0 < n → 0 < m → g ≠ h)
/-- What LeftOver answers, in memory that is apart. -/
def LeftX (xs ys : List (List Int)) (w : World) (e : Ending) (w' : World) : Prop :=
  (¬ VG xs ys ∧ NewIX w [] [] e w') ∨ VG xs ys ∧ ∃ k, SameS xs.length (gr xs 0).length (loIt xs (flip ys xs.length (gr xs 0).length) xs.length (gr xs 0).length (k + 1)) (loIt xs (flip ys xs.length (gr xs 0).length) xs.length (gr xs 0).length k) ∧
    NewIX w (selL (loIt xs (flip ys xs.length (gr xs 0).length) xs.length (gr xs 0).length k).1 xs.length) (selL (loIt xs (flip ys xs.length (gr xs 0).length) xs.length (gr xs 0).length k).2 (gr xs 0).length) e w'
/-- The lists that are left over. -/
def LoIs (xs ys : List (List Int)) (R C : List Int) : Prop :=
  (¬ VG xs ys ∧ R = [] ∧ C = []) ∨ VG xs ys ∧ ∃ k, SameS xs.length (gr xs 0).length (loIt xs (flip ys xs.length (gr xs 0).length) xs.length (gr xs 0).length (k + 1)) (loIt xs (flip ys xs.length (gr xs 0).length) xs.length (gr xs 0).length k) ∧
    R = selL (loIt xs (flip ys xs.length (gr xs 0).length) xs.length (gr xs 0).length k).1 xs.length ∧ C = selL (loIt xs (flip ys xs.length (gr xs 0).length) xs.length (gr xs 0).length k).2 (gr xs 0).length
theorem LeftX.lists {xs ys w e w'} (h : LeftX xs ys w e w') : ∃ R C, LoIs xs ys R C ∧ NewIX w R C e w' := by
  rcases h with ⟨hv, hn⟩ | ⟨hv, k, hs, hn⟩
  · exact ⟨_, _, .inl ⟨hv, rfl, rfl⟩, hn⟩
  · exact ⟨_, _, .inr ⟨hv, k, hs, rfl, rfl⟩, hn⟩
theorem LeftO.lists {xs ys w e w'} (h : LeftO xs ys w e w') : ∃ R C, LoIs xs ys R C ∧ NewII w R C e w' := by
  rcases h with ⟨hv, hn⟩ | ⟨hv, k, hs, hn⟩
  · exact ⟨_, _, .inl ⟨hv, rfl, rfl⟩, hn⟩
  · exact ⟨_, _, .inr ⟨hv, k, hs, rfl, rfl⟩, hn⟩
theorem LoIs.one {xs ys R C R' C'} (h' : LoIs xs ys R' C') (h : LoIs xs ys R C) : R' = R ∧ C' = C := by
  rcases h with ⟨hv, rfl, rfl⟩ | ⟨hv, k, hs, rfl, rfl⟩
  · rcases h' with ⟨_, rfl, rfl⟩ | ⟨hv', _⟩
    · exact ⟨rfl, rfl⟩
    · exact absurd hv' hv
  · rcases h' with ⟨hv', _⟩ | ⟨_, l, hs', rfl, rfl⟩
    · exact absurd hv hv'
    · have e := loIt_one hs' hs
      exact ⟨selL_congr e.1, selL_congr e.2⟩
theorem LoIs.le {xs ys R C} (h : LoIs xs ys R C) : R.length ≤ 3 ∧ C.length ≤ 3 := by
  rcases h with ⟨_, rfl, rfl⟩ | ⟨hv, k, _, rfl, rfl⟩
  · simp
  · have h1 := selL_len (loIt xs (flip ys xs.length (gr xs 0).length) xs.length (gr xs 0).length k).1 xs.length
    have h2 := selL_len (loIt xs (flip ys xs.length (gr xs 0).length) xs.length (gr xs 0).length k).2 (gr xs 0).length
    have h3 := hv.ta.n3
    have h4 := hv.ta.m3
    omega
/-- The round k of leaving out: the tables and the marks. -/
structure LS (w : World) (xs ys : List (List Int)) (n m : Nat) (F1 F2 : Nat → Nat → Int) (q4 q5 q6 q7 k : Nat) (W : World) : Prop where
  up : Below w.heap.size w W
  k4 : Blk W q4 83 (cs9 F1)
  k5 : Blk W q5 83 (cs9 F2)
  k6 : Blk W q6 86 (bs3 (cutF (loIt xs (flip ys n m) n m k).1 n))
  k7 : Blk W q7 86 (bs3 (cutF (loIt xs (flip ys n m) n m k).2 m))
theorem LS.next {w xs ys n m F1 F2 q4 q5 q6 q7 k W W'} (h : LS w xs ys n m F1 F2 q4 q5 q6 q7 k W) (b : Below W.heap.size W W') : LS w xs ys n m F1 F2 q4 q5 q6 q7 k W' :=
  ⟨below_up h.up b, blk_below h.k4 b, blk_below h.k5 b, blk_below h.k6 b, blk_below h.k7 b⟩
/-- How many of three marks are set. -/
def tB (v : Option Value) : Nat := match v with | some (.bool true) => 1 | _ => 0
def mB (W : World) (q : Nat) : Nat := tB (W.cell? ⟨q, 0, none⟩) + tB (W.cell? ⟨q, 1, none⟩) + tB (W.cell? ⟨q, 2, none⟩)
theorem tB_bool (b : Bool) : tB (some (.bool b)) = b.toNat := by cases b <;> rfl
theorem mB_blk {W q t f} (h : Blk W q t (bs3 f)) : mB W q = (selL f 3).length := by
  have c0 := blk_cell h (i := 0) (v := .bool (f 0)) rfl
  have c1 := blk_cell h (i := 1) (v := .bool (f 1)) rfl
  have c2 := blk_cell h (i := 2) (v := .bool (f 2)) rfl
  unfold mB
  rw [c0, c1, c2, tB_bool, tB_bool, tB_bool]
  have e : (selL f 3).length = ((List.range 3).filter f).length := by simp [selL]
  rw [e]
  simp only [List.range_succ, List.range_zero, List.nil_append, List.filter_append, List.filter_cons, List.filter_nil, List.length_append]
  cases f 0 <;> cases f 1 <;> cases f 2 <;> rfl
theorem cut3 {f g : Nat → Bool} {n : Nat} (hn : n ≤ 3) (h0 : cutF f n 0 = cutF g n 0) (h1 : cutF f n 1 = cutF g n 1) (h2 : cutF f n 2 = cutF g n 2) (i : Nat) (hi : i < n) : f i = g i := by
  have : i = 0 ∨ i = 1 ∨ i = 2 := by omega
  rcases this with rfl | rfl | rfl
  · simpa [cutF, hi] using h0
  · simpa [cutF, hi] using h1
  · simpa [cutF, hi] using h2
theorem cut3' {f g : Nat → Bool} {n : Nat} (h : ∀ i, i < n → f i = g i) : cutF f n 0 = cutF g n 0 ∧ cutF f n 1 = cutF g n 1 ∧ cutF f n 2 = cutF g n 2 := by
  have e : ∀ i, cutF f n i = cutF g n i := fun i => by
    unfold cutF
    by_cases hi : i < n
    · simp [hi, h i hi]
    · simp [hi]
  exact ⟨e 0, e 1, e 2⟩
theorem eqb_op (f g : Nat → Bool) (w : World) : (binOp .eql 86 (.agg (bs3 f)) (.agg (bs3 g))).run Try.prog w = .ok (.bool (decide (f 0 = g 0 ∧ f 1 = g 1 ∧ f 2 = g 2))) w := by
  unfold bs3
  cases f 0 <;> cases f 1 <;> cases f 2 <;> cases g 0 <;> cases g 1 <;> cases g 2 <;> kernel_rfl
/-- The two tables as arrays under way. -/
structure R3 (p : GP) (w0 : World) (xs ys : List (List Int)) (f1 f2 : Nat → Nat → Int) (L : Array Bool) (u13 u14 u15 u16 u17 u18 u19 u4 u5 : Value) (q4 q5 : Nat) (g4 g5 : Nat → Nat → Int) (W : World) : Prop where
  gt : GT p w0 W w0.heap.size xs ys
  h0 : On L 0 → u13 = .pointer (some ⟨w0.heap.size, 0, none⟩)
  h1 : On L 1 → u14 = .slice (some ⟨p.ba, p.oa, none⟩) p.n p.c
  h2 : On L 2 → u15 = .agg (cs9 f1)
  h3 : On L 3 → u16 = .pointer (some ⟨w0.heap.size, 1, none⟩)
  h4 : On L 4 → u17 = .slice (some ⟨p.bb, p.ob, none⟩) p.n p.d
  h5 : On L 5 → On L 6 ∨ ∃ g, u18 = .slice (some ⟨g, 0, none⟩) p.m p.m ∧ IntRows W (some ⟨g, 0, none⟩) p.m p.m (flip ys p.n p.m)
  h6 : On L 6 → u19 = .agg (cs9 f2)
  h7 : On L 7 → u4 = .pointer (some ⟨q4, 0, none⟩) ∧ w0.heap.size < q4 ∧ Blk W q4 83 (cs9 g4)
  h8 : On L 8 → u5 = .pointer (some ⟨q5, 0, none⟩) ∧ w0.heap.size < q5 ∧ Blk W q5 83 (cs9 g5)
  hne : On L 7 → On L 8 → q4 ≠ q5
  h9 : On L 9 → On L 7 ∧ Blk W q4 83 (cs9 f1)
  h10 : On L 10 → On L 8 ∧ Blk W q5 83 (cs9 f2)
theorem R3.up {p w0 xs ys f1 f2 L u13 u14 u15 u16 u17 u18 u19 u4 u5 q4 q5 g4 g5 W W'} (h : R3 p w0 xs ys f1 f2 L u13 u14 u15 u16 u17 u18 u19 u4 u5 q4 q5 g4 g5 W) (k : Below W.heap.size W W') : R3 p w0 xs ys f1 f2 L u13 u14 u15 u16 u17 u18 u19 u4 u5 q4 q5 g4 g5 W' :=
  ⟨h.gt.up k, h.h0, h.h1, h.h2, h.h3, h.h4, fun o => (h.h5 o).imp id (fun ⟨g, e, r⟩ => ⟨g, e, r.keep (Keep.below k)⟩), h.h6, fun o => let ⟨a, b, r⟩ := h.h7 o; ⟨a, b, blk_below r k⟩, fun o => let ⟨a, b, r⟩ := h.h8 o; ⟨a, b, blk_below r k⟩, h.hne, fun o => (h.h9 o).imp id (fun r => blk_below r k), fun o => (h.h10 o).imp id (fun r => blk_below r k)⟩
set_option maxRecDepth 100000 in
set_option maxHeartbeats 1600000 in
theorem LeftOver_impl (A B : Option Addr) (n c m d : Nat) (xs ys : List (List Int)) (w : World) (hx : IntRows w A n c xs) (hy : IntRows w B m d ys) :
    Calls Try.prog 30 #[.agg #[.slice A n c, .slice B m d]] w (LeftX xs ys w) := by
  have hb0 := below_alloc w (.cells #[.slice A n c, .slice B m d] 40)
  have b0 := blk_new w 40 #[.slice A n c, .slice B m d]
  have HB := Lib.hid hb0
  have HK := Lib.hid b0
  have HX := Lib.hid (hx.keep (Keep.below hb0))
  have HY := Lib.hid (hy.keep (Keep.below hb0))
  have HX0 := Lib.hid hx
  have HY0 := Lib.hid hy
  have c0 := blk_cell b0 (i := 0) (v := .slice A n c) rfl
  have c1 := blk_cell b0 (i := 1) (v := .slice B m d) rfl
  clear hx hy hb0 b0
  go_enter Try.func30, Try.ntmps30
  go_wp2_with fail
  generalize w.alloc (.cells #[.slice A n c, .slice B m d] 40) = W1 at *
  have HC := Lib.hid (ValidGame_impl _ _ _ _ _ _ _ _ _ HX.out HY.out)
  by_cases hv : VG xs ys
  · refine ((pb_true hv) ▸ HC.out).mono ?_
    rintro e w1 ⟨rfl, hb⟩
    have HV := Lib.hid hv
    have hb2 := below_up HB.out hb
    have hk2 := blk_below HK.out hb
    obtain ⟨p, rfl, rfl, rfl, rfl, rfl, rfl, hg⟩ := GV.of HX0.out HY0.out hv
    have HT := Lib.hid (show GT p w w1 w.heap.size xs ys from ⟨hb2, hk2, hg⟩)
    have HF := Lib.hid (show VT (flip ys p.n p.m) by have := hv.tb.flip; rw [show ys.length = p.n from HY0.out.len, show (gr ys 0).length = p.m by rw [← hv.m, hg.mx]] at this; exact this)
    have HFM := Lib.hid (show (gr (flip ys p.n p.m) 0).length = p.n from gr_flip0 hg.tx.m1)
    clear hb hv hb2 hk2 hg HX HY HX0 HY0 HB HK HC c0 c1
    go_wp2
    refine wp_region_invF (rs := [0, 1, 2, 3, 4, 5, 6, 7, 8, 9, 10]) [13, 14, 15, 16, 17, 18, 19, 4, 5] (fun L us W => ∃ u13 u14 u15 u16 u17 u18 u19 u4 u5 q4 q5 g4 g5, us = [u13, u14, u15, u16, u17, u18, u19, u4, u5] ∧ R3 p w xs ys (full9 xs p.n p.m) (full9 (flip ys p.n p.m) p.m p.n) L u13 u14 u15 u16 u17 u18 u19 u4 u5 q4 q5 g4 g5 W) (by kernel_rfl) ?_ (by kernel_rfl) (by kernel_rfl) ?_ ?_
    · refine ⟨[undef, undef, undef, undef, undef, undef, undef, undef, undef], ?_, undef, undef, undef, undef, undef, undef, undef, undef, undef, 0, 0, fun _ _ => 0, fun _ _ => 0, rfl, ?_⟩
      · simp only [frmL, Act.put, List.setIfInBounds_toArray, List.set_cons_zero, List.set_cons_succ]
      exact ⟨HT.out.qu ⟨1, rfl⟩, fun o => o.not_start.elim, fun o => o.not_start.elim, fun o => o.not_start.elim, fun o => o.not_start.elim, fun o => o.not_start.elim, fun o => o.not_start.elim, fun o => o.not_start.elim, fun o => o.not_start.elim, fun o => o.not_start.elim, fun o _ => o.not_start.elim, fun o => o.not_start.elim, fun o => o.not_start.elim⟩
    · refine StepsI.cons (i := 0) (ws := []) rfl (by kernel_rfl) (fun L a W hI hno hon hw K hK => ?_) ?_
      · obtain ⟨_, rfl, u13, u14, u15, u16, u17, u18, u19, u4, u5, q4, q5, g4, g5, rfl, H⟩ := hI
        simp only [List.getElem_toArray, List.getElem_cons_zero, frmL, Act.put, List.setIfInBounds_toArray, List.set_cons_zero, List.set_cons_succ]
        go_simp
        have HN := H
        refine hK.out _ _ ⟨[.pointer (some ⟨w.heap.size, 0, none⟩), u14, u15, u16, u17, u18, u19, u4, u5], ?_, .pointer (some ⟨w.heap.size, 0, none⟩), u14, u15, u16, u17, u18, u19, u4, u5, q4, q5, g4, g5, rfl, ?_⟩
        · simp only [frmL, Act.put, List.setIfInBounds_toArray, List.set_cons_zero, List.set_cons_succ]
        · exact ⟨HN.gt, fun _ => rfl, fun o => HN.h1 (o.of_set (by decide)), fun o => HN.h2 (o.of_set (by decide)), fun o => HN.h3 (o.of_set (by decide)), fun o => HN.h4 (o.of_set (by decide)), fun o => (HN.h5 (o.of_set (by decide))).imp On.old id, fun o => HN.h6 (o.of_set (by decide)), fun o => HN.h7 (o.of_set (by decide)), fun o => HN.h8 (o.of_set (by decide)), fun o o2 => HN.hne (o.of_set (by decide)) (o2.of_set (by decide)), fun o => (HN.h9 (o.of_set (by decide))).imp On.old id, fun o => (HN.h10 (o.of_set (by decide))).imp On.old id⟩
      refine StepsI.cons (i := 1) (ws := [0]) rfl (by kernel_rfl) (fun L a W hI hno hon hw K hK => ?_) ?_
      · obtain ⟨_, rfl, u13, u14, u15, u16, u17, u18, u19, u4, u5, q4, q5, g4, g5, rfl, H⟩ := hI
        obtain rfl := H.h0 (hw 0 (by simp))
        simp only [List.getElem_toArray, List.getElem_cons_zero, List.getElem_cons_succ, frmL, Act.put, List.setIfInBounds_toArray, List.set_cons_zero, List.set_cons_succ]
        have c0 := blk_cell H.gt.box (i := 0) rfl
        go_simp
        have HN := H
        refine hK.out _ _ ⟨[.pointer (some ⟨w.heap.size, 0, none⟩), .slice (some ⟨p.ba, p.oa, none⟩) p.n p.c, u15, u16, u17, u18, u19, u4, u5], ?_, .pointer (some ⟨w.heap.size, 0, none⟩), .slice (some ⟨p.ba, p.oa, none⟩) p.n p.c, u15, u16, u17, u18, u19, u4, u5, q4, q5, g4, g5, rfl, ?_⟩
        · simp only [frmL, Act.put, List.setIfInBounds_toArray, List.set_cons_zero, List.set_cons_succ]
        · exact ⟨HN.gt, fun o => HN.h0 (o.of_set (by decide)), fun _ => rfl, fun o => HN.h2 (o.of_set (by decide)), fun o => HN.h3 (o.of_set (by decide)), fun o => HN.h4 (o.of_set (by decide)), fun o => (HN.h5 (o.of_set (by decide))).imp On.old id, fun o => HN.h6 (o.of_set (by decide)), fun o => HN.h7 (o.of_set (by decide)), fun o => HN.h8 (o.of_set (by decide)), fun o o2 => HN.hne (o.of_set (by decide)) (o2.of_set (by decide)), fun o => (HN.h9 (o.of_set (by decide))).imp On.old id, fun o => (HN.h10 (o.of_set (by decide))).imp On.old id⟩
      refine StepsI.cons (i := 2) (ws := [1]) rfl (by kernel_rfl) (fun L a W hI hno hon hw K hK => ?_) ?_
      · obtain ⟨_, rfl, u13, u14, u15, u16, u17, u18, u19, u4, u5, q4, q5, g4, g5, rfl, H⟩ := hI
        obtain rfl := H.h1 (hw 1 (by simp))
        simp only [List.getElem_toArray, List.getElem_cons_zero, List.getElem_cons_succ, frmL, Act.put, List.setIfInBounds_toArray, List.set_cons_zero, List.set_cons_succ]
        go_simp
        go_wp2_with (go_at_call 64; (with_reducible refine (cellsOf_any _ _ _ _ _ _ _ _ xs W H.gt.gv.tx).mono ?_); rintro e w9 ⟨rfl, hb⟩)
        have HN := H.up hb
        refine hK.out _ _ ⟨[u13, .slice (some ⟨p.ba, p.oa, none⟩) p.n p.c, .agg (cs9 (full9 xs p.n p.m)), u16, u17, u18, u19, u4, u5], ?_, u13, .slice (some ⟨p.ba, p.oa, none⟩) p.n p.c, .agg (cs9 (full9 xs p.n p.m)), u16, u17, u18, u19, u4, u5, q4, q5, g4, g5, rfl, ?_⟩
        · simp only [frmL, Act.put, List.setIfInBounds_toArray, List.set_cons_zero, List.set_cons_succ]
        · exact ⟨HN.gt, fun o => HN.h0 (o.of_set (by decide)), fun o => HN.h1 (o.of_set (by decide)), fun _ => rfl, fun o => HN.h3 (o.of_set (by decide)), fun o => HN.h4 (o.of_set (by decide)), fun o => (HN.h5 (o.of_set (by decide))).imp On.old id, fun o => HN.h6 (o.of_set (by decide)), fun o => HN.h7 (o.of_set (by decide)), fun o => HN.h8 (o.of_set (by decide)), fun o o2 => HN.hne (o.of_set (by decide)) (o2.of_set (by decide)), fun o => (HN.h9 (o.of_set (by decide))).imp On.old id, fun o => (HN.h10 (o.of_set (by decide))).imp On.old id⟩
      refine StepsI.cons (i := 3) (ws := []) rfl (by kernel_rfl) (fun L a W hI hno hon hw K hK => ?_) ?_
      · obtain ⟨_, rfl, u13, u14, u15, u16, u17, u18, u19, u4, u5, q4, q5, g4, g5, rfl, H⟩ := hI
        simp only [List.getElem_toArray, List.getElem_cons_zero, List.getElem_cons_succ, frmL, Act.put, List.setIfInBounds_toArray, List.set_cons_zero, List.set_cons_succ]
        go_simp
        have HN := H
        refine hK.out _ _ ⟨[u13, u14, u15, .pointer (some ⟨w.heap.size, 1, none⟩), u17, u18, u19, u4, u5], ?_, u13, u14, u15, .pointer (some ⟨w.heap.size, 1, none⟩), u17, u18, u19, u4, u5, q4, q5, g4, g5, rfl, ?_⟩
        · simp only [frmL, Act.put, List.setIfInBounds_toArray, List.set_cons_zero, List.set_cons_succ]
        · exact ⟨HN.gt, fun o => HN.h0 (o.of_set (by decide)), fun o => HN.h1 (o.of_set (by decide)), fun o => HN.h2 (o.of_set (by decide)), fun _ => rfl, fun o => HN.h4 (o.of_set (by decide)), fun o => (HN.h5 (o.of_set (by decide))).imp On.old id, fun o => HN.h6 (o.of_set (by decide)), fun o => HN.h7 (o.of_set (by decide)), fun o => HN.h8 (o.of_set (by decide)), fun o o2 => HN.hne (o.of_set (by decide)) (o2.of_set (by decide)), fun o => (HN.h9 (o.of_set (by decide))).imp On.old id, fun o => (HN.h10 (o.of_set (by decide))).imp On.old id⟩
      refine StepsI.cons (i := 4) (ws := [3]) rfl (by kernel_rfl) (fun L a W hI hno hon hw K hK => ?_) ?_
      · obtain ⟨_, rfl, u13, u14, u15, u16, u17, u18, u19, u4, u5, q4, q5, g4, g5, rfl, H⟩ := hI
        obtain rfl := H.h3 (hw 3 (by simp))
        simp only [List.getElem_toArray, List.getElem_cons_zero, List.getElem_cons_succ, frmL, Act.put, List.setIfInBounds_toArray, List.set_cons_zero, List.set_cons_succ]
        have c0 := blk_cell H.gt.box (i := 1) rfl
        go_simp
        have HN := H
        refine hK.out _ _ ⟨[u13, u14, u15, .pointer (some ⟨w.heap.size, 1, none⟩), .slice (some ⟨p.bb, p.ob, none⟩) p.n p.d, u18, u19, u4, u5], ?_, u13, u14, u15, .pointer (some ⟨w.heap.size, 1, none⟩), .slice (some ⟨p.bb, p.ob, none⟩) p.n p.d, u18, u19, u4, u5, q4, q5, g4, g5, rfl, ?_⟩
        · simp only [frmL, Act.put, List.setIfInBounds_toArray, List.set_cons_zero, List.set_cons_succ]
        · exact ⟨HN.gt, fun o => HN.h0 (o.of_set (by decide)), fun o => HN.h1 (o.of_set (by decide)), fun o => HN.h2 (o.of_set (by decide)), fun o => HN.h3 (o.of_set (by decide)), fun _ => rfl, fun o => (HN.h5 (o.of_set (by decide))).imp On.old id, fun o => HN.h6 (o.of_set (by decide)), fun o => HN.h7 (o.of_set (by decide)), fun o => HN.h8 (o.of_set (by decide)), fun o o2 => HN.hne (o.of_set (by decide)) (o2.of_set (by decide)), fun o => (HN.h9 (o.of_set (by decide))).imp On.old id, fun o => (HN.h10 (o.of_set (by decide))).imp On.old id⟩
      refine StepsI.cons (i := 5) (ws := [4, 2]) rfl (by kernel_rfl) (fun L a W hI hno hon hw K hK => ?_) ?_
      · obtain ⟨_, rfl, u13, u14, u15, u16, u17, u18, u19, u4, u5, q4, q5, g4, g5, rfl, H⟩ := hI
        obtain rfl := H.h4 (hw 4 (by simp))
        simp only [List.getElem_toArray, List.getElem_cons_zero, List.getElem_cons_succ, frmL, Act.put, List.setIfInBounds_toArray, List.set_cons_zero, List.set_cons_succ]
        go_simp
        go_wp2_with (go_at_call 65; (with_reducible refine (turned_any _ _ _ _ _ _ _ _ ys W H.gt.gv.ty).mono ?_); rintro e w9 ⟨rfl, hown, hb, -⟩)
        have HN := H.up hb
        refine hK.out _ _ ⟨[u13, u14, u15, u16, .slice (some ⟨p.bb, p.ob, none⟩) p.n p.d, .slice (some ⟨W.heap.size, 0, none⟩) p.m p.m, u19, u4, u5], ?_, u13, u14, u15, u16, .slice (some ⟨p.bb, p.ob, none⟩) p.n p.d, .slice (some ⟨W.heap.size, 0, none⟩) p.m p.m, u19, u4, u5, q4, q5, g4, g5, rfl, ?_⟩
        · simp only [frmL, Act.put, List.setIfInBounds_toArray, List.set_cons_zero, List.set_cons_succ]
        · exact ⟨HN.gt, fun o => HN.h0 (o.of_set (by decide)), fun o => HN.h1 (o.of_set (by decide)), fun o => HN.h2 (o.of_set (by decide)), fun o => HN.h3 (o.of_set (by decide)), fun o => HN.h4 (o.of_set (by decide)), fun _ => .inr ⟨_, rfl, hown.rows⟩, fun o => HN.h6 (o.of_set (by decide)), fun o => HN.h7 (o.of_set (by decide)), fun o => HN.h8 (o.of_set (by decide)), fun o o2 => HN.hne (o.of_set (by decide)) (o2.of_set (by decide)), fun o => (HN.h9 (o.of_set (by decide))).imp On.old id, fun o => (HN.h10 (o.of_set (by decide))).imp On.old id⟩
      refine StepsI.cons (i := 6) (ws := [5, 5]) rfl (by kernel_rfl) (fun L a W hI hno hon hw K hK => ?_) ?_
      · obtain ⟨_, rfl, u13, u14, u15, u16, u17, u18, u19, u4, u5, q4, q5, g4, g5, rfl, H⟩ := hI
        obtain ⟨g, rfl, hr⟩ : ∃ g, u18 = .slice (some ⟨g, 0, none⟩) p.m p.m ∧ IntRows W (some ⟨g, 0, none⟩) p.m p.m (flip ys p.n p.m) := by rcases H.h5 (hw 5 (by simp)) with h | h; exact absurd h hno; exact h
        obtain ⟨b9, o9, rb9, ro9, cc9, e9, tab⟩ := hr.tab HF.out
        rw [HFM.out] at tab
        rw [e9] at H
        rw [e9]
        clear e9 hr
        simp only [List.getElem_toArray, List.getElem_cons_zero, List.getElem_cons_succ, frmL, Act.put, List.setIfInBounds_toArray, List.set_cons_zero, List.set_cons_succ]
        go_simp
        go_wp2_with (go_at_call 64; (with_reducible refine (cellsOf_any _ _ _ _ _ _ _ _ (flip ys p.n p.m) W tab).mono ?_); rintro e w9 ⟨rfl, hb⟩)
        have HN := H.up hb
        refine hK.out _ _ ⟨[u13, u14, u15, u16, u17, .slice (some ⟨b9, o9, none⟩) p.m p.m, .agg (cs9 (full9 (flip ys p.n p.m) p.m p.n)), u4, u5], ?_, u13, u14, u15, u16, u17, .slice (some ⟨b9, o9, none⟩) p.m p.m, .agg (cs9 (full9 (flip ys p.n p.m) p.m p.n)), u4, u5, q4, q5, g4, g5, rfl, ?_⟩
        · simp only [frmL, Act.put, List.setIfInBounds_toArray, List.set_cons_zero, List.set_cons_succ]
        · exact ⟨HN.gt, fun o => HN.h0 (o.of_set (by decide)), fun o => HN.h1 (o.of_set (by decide)), fun o => HN.h2 (o.of_set (by decide)), fun o => HN.h3 (o.of_set (by decide)), fun o => HN.h4 (o.of_set (by decide)), fun _ => .inl hon, fun _ => rfl, fun o => HN.h7 (o.of_set (by decide)), fun o => HN.h8 (o.of_set (by decide)), fun o o2 => HN.hne (o.of_set (by decide)) (o2.of_set (by decide)), fun o => (HN.h9 (o.of_set (by decide))).imp On.old id, fun o => (HN.h10 (o.of_set (by decide))).imp On.old id⟩
      refine StepsI.cons (i := 7) (ws := []) rfl (by kernel_rfl) (fun L a W hI hno hon hw K hK => ?_) ?_
      · obtain ⟨_, rfl, u13, u14, u15, u16, u17, u18, u19, u4, u5, q4, q5, g4, g5, rfl, H⟩ := hI
        simp only [List.getElem_toArray, List.getElem_cons_zero, List.getElem_cons_succ, frmL, Act.put, List.setIfInBounds_toArray, List.set_cons_zero, List.set_cons_succ]
        go_simp
        have HN := H.up (below_alloc W (.cells (cs9 fun _ _ => 0) 83))
        refine hK.out _ _ ⟨[u13, u14, u15, u16, u17, u18, u19, .pointer (some ⟨W.heap.size, 0, none⟩), u5], ?_, u13, u14, u15, u16, u17, u18, u19, .pointer (some ⟨W.heap.size, 0, none⟩), u5, W.heap.size, q5, fun _ _ => 0, g5, rfl, ?_⟩
        · simp only [frmL, Act.put, List.setIfInBounds_toArray, List.set_cons_zero, List.set_cons_succ]
        · exact ⟨HN.gt, fun o => HN.h0 (o.of_set (by decide)), fun o => HN.h1 (o.of_set (by decide)), fun o => HN.h2 (o.of_set (by decide)), fun o => HN.h3 (o.of_set (by decide)), fun o => HN.h4 (o.of_set (by decide)), fun o => (HN.h5 (o.of_set (by decide))).imp On.old id, fun o => HN.h6 (o.of_set (by decide)), fun _ => ⟨rfl, blk_lt H.gt.box, blk_new _ _ _⟩, fun o => HN.h8 (o.of_set (by decide)), fun _ o2 => by obtain ⟨_, _, r⟩ := H.h8 (o2.of_set (by decide)); exact Nat.ne_of_gt (blk_lt r), fun o => absurd (H.h9 (o.of_set (by decide))).1 hno, fun o => (HN.h10 (o.of_set (by decide))).imp On.old id⟩
      refine StepsI.cons (i := 8) (ws := []) rfl (by kernel_rfl) (fun L a W hI hno hon hw K hK => ?_) ?_
      · obtain ⟨_, rfl, u13, u14, u15, u16, u17, u18, u19, u4, u5, q4, q5, g4, g5, rfl, H⟩ := hI
        simp only [List.getElem_toArray, List.getElem_cons_zero, List.getElem_cons_succ, frmL, Act.put, List.setIfInBounds_toArray, List.set_cons_zero, List.set_cons_succ]
        go_simp
        have HN := H.up (below_alloc W (.cells (cs9 fun _ _ => 0) 83))
        refine hK.out _ _ ⟨[u13, u14, u15, u16, u17, u18, u19, u4, .pointer (some ⟨W.heap.size, 0, none⟩)], ?_, u13, u14, u15, u16, u17, u18, u19, u4, .pointer (some ⟨W.heap.size, 0, none⟩), q4, W.heap.size, g4, fun _ _ => 0, rfl, ?_⟩
        · simp only [frmL, Act.put, List.setIfInBounds_toArray, List.set_cons_zero, List.set_cons_succ]
        · exact ⟨HN.gt, fun o => HN.h0 (o.of_set (by decide)), fun o => HN.h1 (o.of_set (by decide)), fun o => HN.h2 (o.of_set (by decide)), fun o => HN.h3 (o.of_set (by decide)), fun o => HN.h4 (o.of_set (by decide)), fun o => (HN.h5 (o.of_set (by decide))).imp On.old id, fun o => HN.h6 (o.of_set (by decide)), fun o => HN.h7 (o.of_set (by decide)), fun _ => ⟨rfl, blk_lt H.gt.box, blk_new _ _ _⟩, fun o2 _ => by obtain ⟨_, _, r⟩ := H.h7 (o2.of_set (by decide)); exact Nat.ne_of_lt (blk_lt r), fun o => (HN.h9 (o.of_set (by decide))).imp On.old id, fun o => absurd (H.h10 (o.of_set (by decide))).1 hno⟩
      refine StepsI.cons (i := 9) (ws := [7, 2, 6, 0, 1, 2, 7, 8]) rfl (by kernel_rfl) (fun L a W hI hno hon hw K hK => ?_) ?_
      · obtain ⟨_, rfl, u13, u14, u15, u16, u17, u18, u19, u4, u5, q4, q5, g4, g5, rfl, H⟩ := hI
        have e2 := H.h2 (hw 2 (by simp))
        have h7 := H.h7 (hw 7 (by simp))
        have e4 := h7.1
        have hq4 := h7.2.1
        have hb4 := h7.2.2
        clear h7
        simp only [List.getElem_toArray, List.getElem_cons_zero, List.getElem_cons_succ, frmL, Act.put, List.setIfInBounds_toArray, List.set_cons_zero, List.set_cons_succ]
        have HSZ : Hid ((Try.prog.info? 83).map (·.size) = some (cs9 (full9 xs p.n p.m)).size) := Lib.hid (by show _ = some 9; kernel_rfl)
        have HS1 : Hid ((cs9 (full9 xs p.n p.m)).all (·.oneCell') = true) := Lib.hid (by simp [cs9, Value.oneCell'])
        rw [if_pos (by rfl)]
        refine wp_store_row 83 _ _ rfl q4 (cs9 (full9 xs p.n p.m)) e4 e2 83 (cs9 g4) hb4 HSZ.out rfl HS1.out ?_
        have HN := H
        refine hK.out _ _ ⟨[u13, u14, u15, u16, u17, u18, u19, u4, u5], ?_, u13, u14, u15, u16, u17, u18, u19, u4, u5, q4, q5, full9 xs p.n p.m, g5, rfl, ?_⟩
        · simp only [frmL, Act.put, List.setIfInBounds_toArray, List.set_cons_zero, List.set_cons_succ]
        · exact ⟨H.gt.up2 (below_row (Below.refl (w.heap.size + 1) W) (by omega) _) (by omega) (Nat.lt_succ_self _), fun o => HN.h0 (o.of_set (by decide)), fun o => HN.h1 (o.of_set (by decide)), fun o => HN.h2 (o.of_set (by decide)), fun o => HN.h3 (o.of_set (by decide)), fun o => HN.h4 (o.of_set (by decide)), fun _ => .inl (hw 6 (by simp)).old, fun o => HN.h6 (o.of_set (by decide)), fun _ => ⟨e4, hq4, blk_row hb4 _⟩, fun o => by obtain ⟨a, b, r⟩ := H.h8 (o.of_set (by decide)); exact ⟨a, b, blk_row_other r _ (fun e => H.hne (hw 7 (by simp)) (o.of_set (by decide)) e.symm)⟩, fun o o2 => HN.hne (o.of_set (by decide)) (o2.of_set (by decide)), fun _ => ⟨(hw 7 (by simp)).old, blk_row hb4 _⟩, fun o => by obtain ⟨a, r⟩ := H.h10 (o.of_set (by decide)); exact ⟨a.old, blk_row_other r _ (fun e => H.hne (hw 7 (by simp)) a e.symm)⟩⟩
      refine StepsI.cons (i := 10) (ws := [8, 6, 9, 0, 1, 2, 3, 4, 5, 6, 7, 8, 9]) rfl (by kernel_rfl) (fun L a W hI hno hon hw K hK => ?_) ?_
      · obtain ⟨_, rfl, u13, u14, u15, u16, u17, u18, u19, u4, u5, q4, q5, g4, g5, rfl, H⟩ := hI
        have e2 := H.h6 (hw 6 (by simp))
        have h8 := H.h8 (hw 8 (by simp))
        have e4 := h8.1
        have hq5 := h8.2.1
        have hb5 := h8.2.2
        clear h8
        simp only [List.getElem_toArray, List.getElem_cons_zero, List.getElem_cons_succ, frmL, Act.put, List.setIfInBounds_toArray, List.set_cons_zero, List.set_cons_succ]
        have HSZ : Hid ((Try.prog.info? 83).map (·.size) = some (cs9 (full9 (flip ys p.n p.m) p.m p.n)).size) := Lib.hid (by show _ = some 9; kernel_rfl)
        have HS1 : Hid ((cs9 (full9 (flip ys p.n p.m) p.m p.n)).all (·.oneCell') = true) := Lib.hid (by simp [cs9, Value.oneCell'])
        rw [if_pos (by rfl)]
        refine wp_store_row 83 _ _ rfl q5 (cs9 (full9 (flip ys p.n p.m) p.m p.n)) e4 e2 83 (cs9 g5) hb5 HSZ.out rfl HS1.out ?_
        have HN := H
        refine hK.out _ _ ⟨[u13, u14, u15, u16, u17, u18, u19, u4, u5], ?_, u13, u14, u15, u16, u17, u18, u19, u4, u5, q4, q5, g4, full9 (flip ys p.n p.m) p.m p.n, rfl, ?_⟩
        · simp only [frmL, Act.put, List.setIfInBounds_toArray, List.set_cons_zero, List.set_cons_succ]
        · exact ⟨H.gt.up2 (below_row (Below.refl (w.heap.size + 1) W) (by omega) _) (by omega) (Nat.lt_succ_self _), fun o => HN.h0 (o.of_set (by decide)), fun o => HN.h1 (o.of_set (by decide)), fun o => HN.h2 (o.of_set (by decide)), fun o => HN.h3 (o.of_set (by decide)), fun o => HN.h4 (o.of_set (by decide)), fun _ => .inl (hw 6 (by simp)).old, fun o => HN.h6 (o.of_set (by decide)), fun o => by obtain ⟨a, b, r⟩ := H.h7 (o.of_set (by decide)); exact ⟨a, b, blk_row_other r _ (fun e => H.hne (o.of_set (by decide)) (hw 8 (by simp)) e)⟩, fun _ => ⟨e4, hq5, blk_row hb5 _⟩, fun o o2 => HN.hne (o.of_set (by decide)) (o2.of_set (by decide)), fun o => by obtain ⟨a, r⟩ := H.h9 (o.of_set (by decide)); exact ⟨a.old, blk_row_other r _ (fun e => H.hne a (hw 8 (by simp)) e)⟩, fun _ => ⟨(hw 8 (by simp)).old, blk_row hb5 _⟩⟩
      exact StepsI.nil
      --sorry
    · rintro L us W hL ⟨u13, u14, u15, u16, u17, u18, u19, u4, u5, q4, q5, g4, g5, rfl, H⟩
      have GT4 := Lib.hid H.gt
      have h7 := H.h7 (hL 7 (by simp))
      have h8 := H.h8 (hL 8 (by simp))
      have hq4 := h7.2.1
      have hq5 := h8.2.1
      have HNE := Lib.hid (H.hne (hL 7 (by simp)) (hL 8 (by simp)))
      have K4 := Lib.hid (H.h9 (hL 9 (by simp))).2
      have K5 := Lib.hid (H.h10 (hL 10 (by simp))).2
      obtain rfl := h7.1
      obtain rfl := h8.1
      clear H h7 h8 hL
      simp only [frmL, Act.put, List.setIfInBounds_toArray, List.set_cons_zero, List.set_cons_succ]
      have hn3 := GT4.out.gv0.tx.n3
      have hm3 := GT4.out.gv0.tx.m3
      have hn1 := GT4.out.gv0.tx.n1
      have hm1 := GT4.out.gv0.tx.m1
      go_wp2
      refine wp_region_invF (rs := [0, 1, 2, 3, 4, 5, 6, 7, 8, 9, 10, 11, 12, 13]) [20, 21, 22, 23, 24, 25, 26, 27, 28, 29, 6, 7] (fun L us W => ∃ u20 u21 u22 u23 u24 u25 u26 u27 u28 u29 u6 u7 q6 q7 g6 g7, us = [u20, u21, u22, u23, u24, u25, u26, u27, u28, u29, u6, u7] ∧ R4 p w xs ys (full9 xs p.n p.m) (full9 (flip ys p.n p.m) p.m p.n) q4 q5 L u20 u21 u22 u23 u24 u25 u26 u27 u28 u29 u6 u7 q6 q7 g6 g7 W) (by kernel_rfl) ?_ (by kernel_rfl) (by kernel_rfl) ?_ ?_
      · refine ⟨[undef, undef, undef, undef, undef, undef, undef, undef, undef, undef, undef, undef], ?_, undef, undef, undef, undef, undef, undef, undef, undef, undef, undef, undef, undef, 0, 0, fun _ => false, fun _ => false, rfl, ?_⟩
        · simp only [frmL, Act.put, List.setIfInBounds_toArray, List.set_cons_zero, List.set_cons_succ]
        exact ⟨GT4.out.qu ⟨1, rfl⟩, K4.out, K5.out, fun o => o.not_start.elim, fun o => o.not_start.elim, fun o => o.not_start.elim, fun o => o.not_start.elim, fun o => o.not_start.elim, fun o => o.not_start.elim, fun o => o.not_start.elim, fun o => o.not_start.elim, fun o => o.not_start.elim, fun o => o.not_start.elim, fun o => o.not_start.elim, fun o => o.not_start.elim, fun o _ => o.not_start.elim, fun o => o.not_start.elim, fun o => o.not_start.elim⟩
      · refine StepsI.cons (i := 0) (ws := []) rfl (by kernel_rfl) (fun L a W hI hno hon hw K hK => ?_) ?_
        · obtain ⟨_, rfl, u20, u21, u22, u23, u24, u25, u26, u27, u28, u29, u6, u7, q6, q7, g6, g7, rfl, H⟩ := hI
          simp only [List.getElem_toArray, List.getElem_cons_zero, frmL, Act.put, List.setIfInBounds_toArray, List.set_cons_zero, List.set_cons_succ]
          go_simp
          have HN := H
          refine hK.out _ _ ⟨[.pointer (some ⟨w.heap.size, 0, none⟩), u21, u22, u23, u24, u25, u26, u27, u28, u29, u6, u7], ?_, .pointer (some ⟨w.heap.size, 0, none⟩), u21, u22, u23, u24, u25, u26, u27, u28, u29, u6, u7, q6, q7, g6, g7, rfl, ?_⟩
          · simp only [frmL, Act.put, List.setIfInBounds_toArray, List.set_cons_zero, List.set_cons_succ]
          · exact ⟨HN.gt, HN.k4, HN.k5, fun _ => rfl, fun o => HN.h1 (o.of_set (by decide)), fun o => HN.h2 (o.of_set (by decide)), fun o => HN.h3 (o.of_set (by decide)), fun o => HN.h4 (o.of_set (by decide)), fun o => HN.h5 (o.of_set (by decide)), fun o => HN.h6 (o.of_set (by decide)), fun o => HN.h7 (o.of_set (by decide)), fun o => HN.h8 (o.of_set (by decide)), fun o => HN.h9 (o.of_set (by decide)), fun o => HN.h10 (o.of_set (by decide)), fun o => HN.h11 (o.of_set (by decide)), fun o o2 => HN.hne (o.of_set (by decide)) (o2.of_set (by decide)), fun o => (HN.h12 (o.of_set (by decide))).imp On.old id, fun o => (HN.h13 (o.of_set (by decide))).imp On.old id⟩
        refine StepsI.cons (i := 1) (ws := [0]) rfl (by kernel_rfl) (fun L a W hI hno hon hw K hK => ?_) ?_
        · obtain ⟨_, rfl, u20, u21, u22, u23, u24, u25, u26, u27, u28, u29, u6, u7, q6, q7, g6, g7, rfl, H⟩ := hI
          obtain rfl := H.h0 (hw 0 (by simp))
          simp only [List.getElem_toArray, List.getElem_cons_zero, List.getElem_cons_succ, frmL, Act.put, List.setIfInBounds_toArray, List.set_cons_zero, List.set_cons_succ]
          have c0 := blk_cell H.gt.box (i := 0) rfl
          go_simp
          have HN := H
          refine hK.out _ _ ⟨[.pointer (some ⟨w.heap.size, 0, none⟩), .slice (some ⟨p.ba, p.oa, none⟩) p.n p.c, u22, u23, u24, u25, u26, u27, u28, u29, u6, u7], ?_, .pointer (some ⟨w.heap.size, 0, none⟩), .slice (some ⟨p.ba, p.oa, none⟩) p.n p.c, u22, u23, u24, u25, u26, u27, u28, u29, u6, u7, q6, q7, g6, g7, rfl, ?_⟩
          · simp only [frmL, Act.put, List.setIfInBounds_toArray, List.set_cons_zero, List.set_cons_succ]
          · exact ⟨HN.gt, HN.k4, HN.k5, fun o => HN.h0 (o.of_set (by decide)), fun _ => rfl, fun o => HN.h2 (o.of_set (by decide)), fun o => HN.h3 (o.of_set (by decide)), fun o => HN.h4 (o.of_set (by decide)), fun o => HN.h5 (o.of_set (by decide)), fun o => HN.h6 (o.of_set (by decide)), fun o => HN.h7 (o.of_set (by decide)), fun o => HN.h8 (o.of_set (by decide)), fun o => HN.h9 (o.of_set (by decide)), fun o => HN.h10 (o.of_set (by decide)), fun o => HN.h11 (o.of_set (by decide)), fun o o2 => HN.hne (o.of_set (by decide)) (o2.of_set (by decide)), fun o => (HN.h12 (o.of_set (by decide))).imp On.old id, fun o => (HN.h13 (o.of_set (by decide))).imp On.old id⟩
        refine StepsI.cons (i := 2) (ws := [1]) rfl (by kernel_rfl) (fun L a W hI hno hon hw K hK => ?_) ?_
        · obtain ⟨_, rfl, u20, u21, u22, u23, u24, u25, u26, u27, u28, u29, u6, u7, q6, q7, g6, g7, rfl, H⟩ := hI
          obtain rfl := H.h1 (hw 1 (by simp))
          simp only [List.getElem_toArray, List.getElem_cons_zero, List.getElem_cons_succ, frmL, Act.put, List.setIfInBounds_toArray, List.set_cons_zero, List.set_cons_succ]
          go_simp
          have HN := H
          refine hK.out _ _ ⟨[u20, .slice (some ⟨p.ba, p.oa, none⟩) p.n p.c, .int .i64 p.n, u23, u24, u25, u26, u27, u28, u29, u6, u7], ?_, u20, .slice (some ⟨p.ba, p.oa, none⟩) p.n p.c, .int .i64 p.n, u23, u24, u25, u26, u27, u28, u29, u6, u7, q6, q7, g6, g7, rfl, ?_⟩
          · simp only [frmL, Act.put, List.setIfInBounds_toArray, List.set_cons_zero, List.set_cons_succ]
          · exact ⟨HN.gt, HN.k4, HN.k5, fun o => HN.h0 (o.of_set (by decide)), fun o => HN.h1 (o.of_set (by decide)), fun _ => rfl, fun o => HN.h3 (o.of_set (by decide)), fun o => HN.h4 (o.of_set (by decide)), fun o => HN.h5 (o.of_set (by decide)), fun o => HN.h6 (o.of_set (by decide)), fun o => HN.h7 (o.of_set (by decide)), fun o => HN.h8 (o.of_set (by decide)), fun o => HN.h9 (o.of_set (by decide)), fun o => HN.h10 (o.of_set (by decide)), fun o => HN.h11 (o.of_set (by decide)), fun o o2 => HN.hne (o.of_set (by decide)) (o2.of_set (by decide)), fun o => (HN.h12 (o.of_set (by decide))).imp On.old id, fun o => (HN.h13 (o.of_set (by decide))).imp On.old id⟩
        refine StepsI.cons (i := 3) (ws := [2]) rfl (by kernel_rfl) (fun L a W hI hno hon hw K hK => ?_) ?_
        · obtain ⟨_, rfl, u20, u21, u22, u23, u24, u25, u26, u27, u28, u29, u6, u7, q6, q7, g6, g7, rfl, H⟩ := hI
          obtain rfl := H.h2 (hw 2 (by simp))
          simp only [List.getElem_toArray, List.getElem_cons_zero, List.getElem_cons_succ, frmL, Act.put, List.setIfInBounds_toArray, List.set_cons_zero, List.set_cons_succ]
          go_simp
          go_wp2_with (go_at_call 66; (with_reducible refine (allMarks_any p.n W hn3).mono ?_); rintro e w9 ⟨rfl, hb⟩)
          have HN := H.up hb
          refine hK.out _ _ ⟨[u20, u21, .int .i64 p.n, .agg (bs3 fun j => decide (j < p.n)), u24, u25, u26, u27, u28, u29, u6, u7], ?_, u20, u21, .int .i64 p.n, .agg (bs3 fun j => decide (j < p.n)), u24, u25, u26, u27, u28, u29, u6, u7, q6, q7, g6, g7, rfl, ?_⟩
          · simp only [frmL, Act.put, List.setIfInBounds_toArray, List.set_cons_zero, List.set_cons_succ]
          · exact ⟨HN.gt, HN.k4, HN.k5, fun o => HN.h0 (o.of_set (by decide)), fun o => HN.h1 (o.of_set (by decide)), fun o => HN.h2 (o.of_set (by decide)), fun _ => rfl, fun o => HN.h4 (o.of_set (by decide)), fun o => HN.h5 (o.of_set (by decide)), fun o => HN.h6 (o.of_set (by decide)), fun o => HN.h7 (o.of_set (by decide)), fun o => HN.h8 (o.of_set (by decide)), fun o => HN.h9 (o.of_set (by decide)), fun o => HN.h10 (o.of_set (by decide)), fun o => HN.h11 (o.of_set (by decide)), fun o o2 => HN.hne (o.of_set (by decide)) (o2.of_set (by decide)), fun o => (HN.h12 (o.of_set (by decide))).imp On.old id, fun o => (HN.h13 (o.of_set (by decide))).imp On.old id⟩
        refine StepsI.cons (i := 4) (ws := []) rfl (by kernel_rfl) (fun L a W hI hno hon hw K hK => ?_) ?_
        · obtain ⟨_, rfl, u20, u21, u22, u23, u24, u25, u26, u27, u28, u29, u6, u7, q6, q7, g6, g7, rfl, H⟩ := hI
          simp only [List.getElem_toArray, List.getElem_cons_zero, List.getElem_cons_succ, frmL, Act.put, List.setIfInBounds_toArray, List.set_cons_zero, List.set_cons_succ]
          go_simp
          have HN := H
          refine hK.out _ _ ⟨[u20, u21, u22, u23, .pointer (some ⟨w.heap.size, 0, none⟩), u25, u26, u27, u28, u29, u6, u7], ?_, u20, u21, u22, u23, .pointer (some ⟨w.heap.size, 0, none⟩), u25, u26, u27, u28, u29, u6, u7, q6, q7, g6, g7, rfl, ?_⟩
          · simp only [frmL, Act.put, List.setIfInBounds_toArray, List.set_cons_zero, List.set_cons_succ]
          · exact ⟨HN.gt, HN.k4, HN.k5, fun o => HN.h0 (o.of_set (by decide)), fun o => HN.h1 (o.of_set (by decide)), fun o => HN.h2 (o.of_set (by decide)), fun o => HN.h3 (o.of_set (by decide)), fun _ => rfl, fun o => HN.h5 (o.of_set (by decide)), fun o => HN.h6 (o.of_set (by decide)), fun o => HN.h7 (o.of_set (by decide)), fun o => HN.h8 (o.of_set (by decide)), fun o => HN.h9 (o.of_set (by decide)), fun o => HN.h10 (o.of_set (by decide)), fun o => HN.h11 (o.of_set (by decide)), fun o o2 => HN.hne (o.of_set (by decide)) (o2.of_set (by decide)), fun o => (HN.h12 (o.of_set (by decide))).imp On.old id, fun o => (HN.h13 (o.of_set (by decide))).imp On.old id⟩
        refine StepsI.cons (i := 5) (ws := [4]) rfl (by kernel_rfl) (fun L a W hI hno hon hw K hK => ?_) ?_
        · obtain ⟨_, rfl, u20, u21, u22, u23, u24, u25, u26, u27, u28, u29, u6, u7, q6, q7, g6, g7, rfl, H⟩ := hI
          obtain rfl := H.h4 (hw 4 (by simp))
          simp only [List.getElem_toArray, List.getElem_cons_zero, List.getElem_cons_succ, frmL, Act.put, List.setIfInBounds_toArray, List.set_cons_zero, List.set_cons_succ]
          have c0 := blk_cell H.gt.box (i := 0) rfl
          go_simp
          have HN := H
          refine hK.out _ _ ⟨[u20, u21, u22, u23, .pointer (some ⟨w.heap.size, 0, none⟩), .slice (some ⟨p.ba, p.oa, none⟩) p.n p.c, u26, u27, u28, u29, u6, u7], ?_, u20, u21, u22, u23, .pointer (some ⟨w.heap.size, 0, none⟩), .slice (some ⟨p.ba, p.oa, none⟩) p.n p.c, u26, u27, u28, u29, u6, u7, q6, q7, g6, g7, rfl, ?_⟩
          · simp only [frmL, Act.put, List.setIfInBounds_toArray, List.set_cons_zero, List.set_cons_succ]
          · exact ⟨HN.gt, HN.k4, HN.k5, fun o => HN.h0 (o.of_set (by decide)), fun o => HN.h1 (o.of_set (by decide)), fun o => HN.h2 (o.of_set (by decide)), fun o => HN.h3 (o.of_set (by decide)), fun o => HN.h4 (o.of_set (by decide)), fun _ => rfl, fun o => HN.h6 (o.of_set (by decide)), fun o => HN.h7 (o.of_set (by decide)), fun o => HN.h8 (o.of_set (by decide)), fun o => HN.h9 (o.of_set (by decide)), fun o => HN.h10 (o.of_set (by decide)), fun o => HN.h11 (o.of_set (by decide)), fun o o2 => HN.hne (o.of_set (by decide)) (o2.of_set (by decide)), fun o => (HN.h12 (o.of_set (by decide))).imp On.old id, fun o => (HN.h13 (o.of_set (by decide))).imp On.old id⟩
        refine StepsI.cons (i := 6) (ws := [5]) rfl (by kernel_rfl) (fun L a W hI hno hon hw K hK => ?_) ?_
        · obtain ⟨_, rfl, u20, u21, u22, u23, u24, u25, u26, u27, u28, u29, u6, u7, q6, q7, g6, g7, rfl, H⟩ := hI
          obtain rfl := H.h5 (hw 5 (by simp))
          simp only [List.getElem_toArray, List.getElem_cons_zero, List.getElem_cons_succ, frmL, Act.put, List.setIfInBounds_toArray, List.set_cons_zero, List.set_cons_succ]
          have hn0 : (0 : Int) < (p.n : Int) := by omega
          have hn0' : 0 < p.n := by omega
          go_simp
          have HN := H
          refine hK.out _ _ ⟨[u20, u21, u22, u23, u24, .slice (some ⟨p.ba, p.oa, none⟩) p.n p.c, .pointer (some ⟨p.ba, p.oa, none⟩), u27, u28, u29, u6, u7], ?_, u20, u21, u22, u23, u24, .slice (some ⟨p.ba, p.oa, none⟩) p.n p.c, .pointer (some ⟨p.ba, p.oa, none⟩), u27, u28, u29, u6, u7, q6, q7, g6, g7, rfl, ?_⟩
          · simp only [frmL, Act.put, List.setIfInBounds_toArray, List.set_cons_zero, List.set_cons_succ]
          · exact ⟨HN.gt, HN.k4, HN.k5, fun o => HN.h0 (o.of_set (by decide)), fun o => HN.h1 (o.of_set (by decide)), fun o => HN.h2 (o.of_set (by decide)), fun o => HN.h3 (o.of_set (by decide)), fun o => HN.h4 (o.of_set (by decide)), fun o => HN.h5 (o.of_set (by decide)), fun _ => rfl, fun o => HN.h7 (o.of_set (by decide)), fun o => HN.h8 (o.of_set (by decide)), fun o => HN.h9 (o.of_set (by decide)), fun o => HN.h10 (o.of_set (by decide)), fun o => HN.h11 (o.of_set (by decide)), fun o o2 => HN.hne (o.of_set (by decide)) (o2.of_set (by decide)), fun o => (HN.h12 (o.of_set (by decide))).imp On.old id, fun o => (HN.h13 (o.of_set (by decide))).imp On.old id⟩
        refine StepsI.cons (i := 7) (ws := [6]) rfl (by kernel_rfl) (fun L a W hI hno hon hw K hK => ?_) ?_
        · obtain ⟨_, rfl, u20, u21, u22, u23, u24, u25, u26, u27, u28, u29, u6, u7, q6, q7, g6, g7, rfl, H⟩ := hI
          obtain rfl := H.h6 (hw 6 (by simp))
          simp only [List.getElem_toArray, List.getElem_cons_zero, List.getElem_cons_succ, frmL, Act.put, List.setIfInBounds_toArray, List.set_cons_zero, List.set_cons_succ]
          have r0 := H.gt.gv.tx.row 0 (by omega)
          simp only [Nat.add_zero] at r0
          go_simp
          have HN := H
          refine hK.out _ _ ⟨[u20, u21, u22, u23, u24, u25, .pointer (some ⟨p.ba, p.oa, none⟩), .slice (some ⟨p.ra 0, p.pa 0, none⟩) p.m (p.ca 0), u28, u29, u6, u7], ?_, u20, u21, u22, u23, u24, u25, .pointer (some ⟨p.ba, p.oa, none⟩), .slice (some ⟨p.ra 0, p.pa 0, none⟩) p.m (p.ca 0), u28, u29, u6, u7, q6, q7, g6, g7, rfl, ?_⟩
          · simp only [frmL, Act.put, List.setIfInBounds_toArray, List.set_cons_zero, List.set_cons_succ]
          · exact ⟨HN.gt, HN.k4, HN.k5, fun o => HN.h0 (o.of_set (by decide)), fun o => HN.h1 (o.of_set (by decide)), fun o => HN.h2 (o.of_set (by decide)), fun o => HN.h3 (o.of_set (by decide)), fun o => HN.h4 (o.of_set (by decide)), fun o => HN.h5 (o.of_set (by decide)), fun o => HN.h6 (o.of_set (by decide)), fun _ => rfl, fun o => HN.h8 (o.of_set (by decide)), fun o => HN.h9 (o.of_set (by decide)), fun o => HN.h10 (o.of_set (by decide)), fun o => HN.h11 (o.of_set (by decide)), fun o o2 => HN.hne (o.of_set (by decide)) (o2.of_set (by decide)), fun o => (HN.h12 (o.of_set (by decide))).imp On.old id, fun o => (HN.h13 (o.of_set (by decide))).imp On.old id⟩
        refine StepsI.cons (i := 8) (ws := [7]) rfl (by kernel_rfl) (fun L a W hI hno hon hw K hK => ?_) ?_
        · obtain ⟨_, rfl, u20, u21, u22, u23, u24, u25, u26, u27, u28, u29, u6, u7, q6, q7, g6, g7, rfl, H⟩ := hI
          obtain rfl := H.h7 (hw 7 (by simp))
          simp only [List.getElem_toArray, List.getElem_cons_zero, List.getElem_cons_succ, frmL, Act.put, List.setIfInBounds_toArray, List.set_cons_zero, List.set_cons_succ]
          go_simp
          have HN := H
          refine hK.out _ _ ⟨[u20, u21, u22, u23, u24, u25, u26, .slice (some ⟨p.ra 0, p.pa 0, none⟩) p.m (p.ca 0), .int .i64 p.m, u29, u6, u7], ?_, u20, u21, u22, u23, u24, u25, u26, .slice (some ⟨p.ra 0, p.pa 0, none⟩) p.m (p.ca 0), .int .i64 p.m, u29, u6, u7, q6, q7, g6, g7, rfl, ?_⟩
          · simp only [frmL, Act.put, List.setIfInBounds_toArray, List.set_cons_zero, List.set_cons_succ]
          · exact ⟨HN.gt, HN.k4, HN.k5, fun o => HN.h0 (o.of_set (by decide)), fun o => HN.h1 (o.of_set (by decide)), fun o => HN.h2 (o.of_set (by decide)), fun o => HN.h3 (o.of_set (by decide)), fun o => HN.h4 (o.of_set (by decide)), fun o => HN.h5 (o.of_set (by decide)), fun o => HN.h6 (o.of_set (by decide)), fun o => HN.h7 (o.of_set (by decide)), fun _ => rfl, fun o => HN.h9 (o.of_set (by decide)), fun o => HN.h10 (o.of_set (by decide)), fun o => HN.h11 (o.of_set (by decide)), fun o o2 => HN.hne (o.of_set (by decide)) (o2.of_set (by decide)), fun o => (HN.h12 (o.of_set (by decide))).imp On.old id, fun o => (HN.h13 (o.of_set (by decide))).imp On.old id⟩
        refine StepsI.cons (i := 9) (ws := [8, 3]) rfl (by kernel_rfl) (fun L a W hI hno hon hw K hK => ?_) ?_
        · obtain ⟨_, rfl, u20, u21, u22, u23, u24, u25, u26, u27, u28, u29, u6, u7, q6, q7, g6, g7, rfl, H⟩ := hI
          obtain rfl := H.h8 (hw 8 (by simp))
          simp only [List.getElem_toArray, List.getElem_cons_zero, List.getElem_cons_succ, frmL, Act.put, List.setIfInBounds_toArray, List.set_cons_zero, List.set_cons_succ]
          go_simp
          go_wp2_with (go_at_call 66; (with_reducible refine (allMarks_any p.m W hm3).mono ?_); rintro e w9 ⟨rfl, hb⟩)
          have HN := H.up hb
          refine hK.out _ _ ⟨[u20, u21, u22, u23, u24, u25, u26, u27, .int .i64 p.m, .agg (bs3 fun j => decide (j < p.m)), u6, u7], ?_, u20, u21, u22, u23, u24, u25, u26, u27, .int .i64 p.m, .agg (bs3 fun j => decide (j < p.m)), u6, u7, q6, q7, g6, g7, rfl, ?_⟩
          · simp only [frmL, Act.put, List.setIfInBounds_toArray, List.set_cons_zero, List.set_cons_succ]
          · exact ⟨HN.gt, HN.k4, HN.k5, fun o => HN.h0 (o.of_set (by decide)), fun o => HN.h1 (o.of_set (by decide)), fun o => HN.h2 (o.of_set (by decide)), fun o => HN.h3 (o.of_set (by decide)), fun o => HN.h4 (o.of_set (by decide)), fun o => HN.h5 (o.of_set (by decide)), fun o => HN.h6 (o.of_set (by decide)), fun o => HN.h7 (o.of_set (by decide)), fun o => HN.h8 (o.of_set (by decide)), fun _ => rfl, fun o => HN.h10 (o.of_set (by decide)), fun o => HN.h11 (o.of_set (by decide)), fun o o2 => HN.hne (o.of_set (by decide)) (o2.of_set (by decide)), fun o => (HN.h12 (o.of_set (by decide))).imp On.old id, fun o => (HN.h13 (o.of_set (by decide))).imp On.old id⟩
        refine StepsI.cons (i := 10) (ws := []) rfl (by kernel_rfl) (fun L a W hI hno hon hw K hK => ?_) ?_
        · obtain ⟨_, rfl, u20, u21, u22, u23, u24, u25, u26, u27, u28, u29, u6, u7, q6, q7, g6, g7, rfl, H⟩ := hI
          simp only [List.getElem_toArray, List.getElem_cons_zero, List.getElem_cons_succ, frmL, Act.put, List.setIfInBounds_toArray, List.set_cons_zero, List.set_cons_succ]
          go_simp
          have HN := H.up (below_alloc W (.cells (bs3 fun _ => false) 86))
          refine hK.out _ _ ⟨[u20, u21, u22, u23, u24, u25, u26, u27, u28, u29, .pointer (some ⟨W.heap.size, 0, none⟩), u7], ?_, u20, u21, u22, u23, u24, u25, u26, u27, u28, u29, .pointer (some ⟨W.heap.size, 0, none⟩), u7, W.heap.size, q7, fun _ => false, g7, rfl, ?_⟩
          · simp only [frmL, Act.put, List.setIfInBounds_toArray, List.set_cons_zero, List.set_cons_succ]
          · exact ⟨HN.gt, HN.k4, HN.k5, fun o => HN.h0 (o.of_set (by decide)), fun o => HN.h1 (o.of_set (by decide)), fun o => HN.h2 (o.of_set (by decide)), fun o => HN.h3 (o.of_set (by decide)), fun o => HN.h4 (o.of_set (by decide)), fun o => HN.h5 (o.of_set (by decide)), fun o => HN.h6 (o.of_set (by decide)), fun o => HN.h7 (o.of_set (by decide)), fun o => HN.h8 (o.of_set (by decide)), fun o => HN.h9 (o.of_set (by decide)), fun _ => ⟨rfl, blk_lt H.gt.box, Nat.ne_of_lt (blk_lt H.k4), Nat.ne_of_lt (blk_lt H.k5), blk_new _ _ _⟩, fun o => HN.h11 (o.of_set (by decide)), fun _ o2 => by obtain ⟨_, _, _, _, r⟩ := H.h11 (o2.of_set (by decide)); exact Nat.ne_of_gt (blk_lt r), fun o => absurd (H.h12 (o.of_set (by decide))).1 hno, fun o => (HN.h13 (o.of_set (by decide))).imp On.old id⟩
        refine StepsI.cons (i := 11) (ws := []) rfl (by kernel_rfl) (fun L a W hI hno hon hw K hK => ?_) ?_
        · obtain ⟨_, rfl, u20, u21, u22, u23, u24, u25, u26, u27, u28, u29, u6, u7, q6, q7, g6, g7, rfl, H⟩ := hI
          simp only [List.getElem_toArray, List.getElem_cons_zero, List.getElem_cons_succ, frmL, Act.put, List.setIfInBounds_toArray, List.set_cons_zero, List.set_cons_succ]
          go_simp
          have HN := H.up (below_alloc W (.cells (bs3 fun _ => false) 86))
          refine hK.out _ _ ⟨[u20, u21, u22, u23, u24, u25, u26, u27, u28, u29, u6, .pointer (some ⟨W.heap.size, 0, none⟩)], ?_, u20, u21, u22, u23, u24, u25, u26, u27, u28, u29, u6, .pointer (some ⟨W.heap.size, 0, none⟩), q6, W.heap.size, g6, fun _ => false, rfl, ?_⟩
          · simp only [frmL, Act.put, List.setIfInBounds_toArray, List.set_cons_zero, List.set_cons_succ]
          · exact ⟨HN.gt, HN.k4, HN.k5, fun o => HN.h0 (o.of_set (by decide)), fun o => HN.h1 (o.of_set (by decide)), fun o => HN.h2 (o.of_set (by decide)), fun o => HN.h3 (o.of_set (by decide)), fun o => HN.h4 (o.of_set (by decide)), fun o => HN.h5 (o.of_set (by decide)), fun o => HN.h6 (o.of_set (by decide)), fun o => HN.h7 (o.of_set (by decide)), fun o => HN.h8 (o.of_set (by decide)), fun o => HN.h9 (o.of_set (by decide)), fun o => HN.h10 (o.of_set (by decide)), fun _ => ⟨rfl, blk_lt H.gt.box, Nat.ne_of_lt (blk_lt H.k4), Nat.ne_of_lt (blk_lt H.k5), blk_new _ _ _⟩, fun o2 _ => by obtain ⟨_, _, _, _, r⟩ := H.h10 (o2.of_set (by decide)); exact Nat.ne_of_lt (blk_lt r), fun o => (HN.h12 (o.of_set (by decide))).imp On.old id, fun o => absurd (H.h13 (o.of_set (by decide))).1 hno⟩
        refine StepsI.cons (i := 12) (ws := [10, 3, 9, 0, 1, 2, 3, 10, 11]) rfl (by kernel_rfl) (fun L a W hI hno hon hw K hK => ?_) ?_
        · obtain ⟨_, rfl, u20, u21, u22, u23, u24, u25, u26, u27, u28, u29, u6, u7, q6, q7, g6, g7, rfl, H⟩ := hI
          have e2 := H.h3 (hw 3 (by simp))
          have h7 := H.h10 (hw 10 (by simp))
          have e4 := h7.1
          have hq6 := h7.2.1
          have h46 := h7.2.2.1
          have h56 := h7.2.2.2.1
          have hb6 := h7.2.2.2.2
          clear h7
          simp only [List.getElem_toArray, List.getElem_cons_zero, List.getElem_cons_succ, frmL, Act.put, List.setIfInBounds_toArray, List.set_cons_zero, List.set_cons_succ]
          have HSZ : Hid ((Try.prog.info? 86).map (·.size) = some (bs3 (fun j => decide (j < p.n))).size) := Lib.hid (by show _ = some 3; kernel_rfl)
          have HS1 : Hid ((bs3 (fun j => decide (j < p.n))).all (·.oneCell') = true) := Lib.hid (by simp [bs3, Value.oneCell'])
          rw [if_pos (by rfl)]
          refine wp_store_row 86 _ _ rfl q6 (bs3 (fun j => decide (j < p.n))) e4 e2 86 (bs3 g6) hb6 HSZ.out rfl HS1.out ?_
          have HN := H
          refine hK.out _ _ ⟨[u20, u21, u22, u23, u24, u25, u26, u27, u28, u29, u6, u7], ?_, u20, u21, u22, u23, u24, u25, u26, u27, u28, u29, u6, u7, q6, q7, fun j => decide (j < p.n), g7, rfl, ?_⟩
          · simp only [frmL, Act.put, List.setIfInBounds_toArray, List.set_cons_zero, List.set_cons_succ]
          · exact ⟨H.gt.up2 (below_row (Below.refl (w.heap.size + 1) W) (by omega) _) (by omega) (Nat.lt_succ_self _), blk_row_other H.k4 _ h46, blk_row_other H.k5 _ h56, fun o => HN.h0 (o.of_set (by decide)), fun o => HN.h1 (o.of_set (by decide)), fun o => HN.h2 (o.of_set (by decide)), fun o => HN.h3 (o.of_set (by decide)), fun o => HN.h4 (o.of_set (by decide)), fun o => HN.h5 (o.of_set (by decide)), fun o => HN.h6 (o.of_set (by decide)), fun o => HN.h7 (o.of_set (by decide)), fun o => HN.h8 (o.of_set (by decide)), fun o => HN.h9 (o.of_set (by decide)), fun _ => ⟨e4, hq6, h46, h56, blk_row hb6 _⟩, fun o => by obtain ⟨a, b, c, d, r⟩ := H.h11 (o.of_set (by decide)); exact ⟨a, b, c, d, blk_row_other r _ (fun e => H.hne (hw 10 (by simp)) (o.of_set (by decide)) e.symm)⟩, fun o o2 => HN.hne (o.of_set (by decide)) (o2.of_set (by decide)), fun _ => ⟨(hw 10 (by simp)).old, blk_row hb6 _⟩, fun o => by obtain ⟨a, r⟩ := H.h13 (o.of_set (by decide)); exact ⟨a.old, blk_row_other r _ (fun e => H.hne (hw 10 (by simp)) a e.symm)⟩⟩
        refine StepsI.cons (i := 13) (ws := [11, 9, 12, 0, 1, 2, 3, 4, 5, 6, 7, 8, 9, 10, 11, 12]) rfl (by kernel_rfl) (fun L a W hI hno hon hw K hK => ?_) ?_
        · obtain ⟨_, rfl, u20, u21, u22, u23, u24, u25, u26, u27, u28, u29, u6, u7, q6, q7, g6, g7, rfl, H⟩ := hI
          have e2 := H.h9 (hw 9 (by simp))
          have h7 := H.h11 (hw 11 (by simp))
          have e4 := h7.1
          have hq6 := h7.2.1
          have h46 := h7.2.2.1
          have h56 := h7.2.2.2.1
          have hb6 := h7.2.2.2.2
          clear h7
          simp only [List.getElem_toArray, List.getElem_cons_zero, List.getElem_cons_succ, frmL, Act.put, List.setIfInBounds_toArray, List.set_cons_zero, List.set_cons_succ]
          have HSZ : Hid ((Try.prog.info? 86).map (·.size) = some (bs3 (fun j => decide (j < p.m))).size) := Lib.hid (by show _ = some 3; kernel_rfl)
          have HS1 : Hid ((bs3 (fun j => decide (j < p.m))).all (·.oneCell') = true) := Lib.hid (by simp [bs3, Value.oneCell'])
          rw [if_pos (by rfl)]
          refine wp_store_row 86 _ _ rfl q7 (bs3 (fun j => decide (j < p.m))) e4 e2 86 (bs3 g7) hb6 HSZ.out rfl HS1.out ?_
          have HN := H
          refine hK.out _ _ ⟨[u20, u21, u22, u23, u24, u25, u26, u27, u28, u29, u6, u7], ?_, u20, u21, u22, u23, u24, u25, u26, u27, u28, u29, u6, u7, q6, q7, g6, fun j => decide (j < p.m), rfl, ?_⟩
          · simp only [frmL, Act.put, List.setIfInBounds_toArray, List.set_cons_zero, List.set_cons_succ]
          · exact ⟨H.gt.up2 (below_row (Below.refl (w.heap.size + 1) W) (by omega) _) (by omega) (Nat.lt_succ_self _), blk_row_other H.k4 _ h46, blk_row_other H.k5 _ h56, fun o => HN.h0 (o.of_set (by decide)), fun o => HN.h1 (o.of_set (by decide)), fun o => HN.h2 (o.of_set (by decide)), fun o => HN.h3 (o.of_set (by decide)), fun o => HN.h4 (o.of_set (by decide)), fun o => HN.h5 (o.of_set (by decide)), fun o => HN.h6 (o.of_set (by decide)), fun o => HN.h7 (o.of_set (by decide)), fun o => HN.h8 (o.of_set (by decide)), fun o => HN.h9 (o.of_set (by decide)), fun o => by obtain ⟨a, b, c, d, r⟩ := H.h10 (o.of_set (by decide)); exact ⟨a, b, c, d, blk_row_other r _ (fun e => H.hne (o.of_set (by decide)) (hw 11 (by simp)) e)⟩, fun _ => ⟨e4, hq6, h46, h56, blk_row hb6 _⟩, fun o o2 => HN.hne (o.of_set (by decide)) (o2.of_set (by decide)), fun o => by obtain ⟨a, r⟩ := H.h12 (o.of_set (by decide)); exact ⟨a.old, blk_row_other r _ (fun e => H.hne a (hw 11 (by simp)) e)⟩, fun _ => ⟨(hw 11 (by simp)).old, blk_row hb6 _⟩⟩
        exact StepsI.nil
      · rintro L us W hL ⟨u20, u21, u22, u23, u24, u25, u26, u27, u28, u29, u6, u7, q6, q7, g6, g7, rfl, H⟩
        have h10 := H.h10 (hL 10 (by simp))
        have h11 := H.h11 (hL 11 (by simp))
        have hq6 := h10.2.1
        have hq7 := h11.2.1
        have HN46 := Lib.hid h10.2.2.1
        have HN56 := Lib.hid h10.2.2.2.1
        have HN47 := Lib.hid h11.2.2.1
        have HN57 := Lib.hid h11.2.2.2.1
        have HN67 := Lib.hid (H.hne (hL 10 (by simp)) (hL 11 (by simp)))
        have HL0 := Lib.hid (show LS w xs ys p.n p.m (full9 xs p.n p.m) (full9 (flip ys p.n p.m) p.m p.n) q4 q5 q6 q7 0 W from ⟨H.gt.below, H.k4, H.k5, by have := (H.h12 (hL 12 (by simp))).2; rw [← cut_all] at this; exact this, by have := (H.h13 (hL 13 (by simp))).2; rw [← cut_all] at this; exact this⟩)
        obtain rfl := h10.1
        obtain rfl := h11.1
        clear H h10 h11 hL K4 K5
        simp only [frmL, Act.put, List.setIfInBounds_toArray, List.set_cons_zero, List.set_cons_succ]
        have HFF1 := Lib.hid (fun r j (hr : r < p.n) (hj : j < p.m) => show full9 xs p.n p.m r j = g2 xs r j from if_pos ⟨hr, hj⟩)
        have HFF2 := Lib.hid (fun r j (hr : r < p.m) (hj : j < p.n) => show full9 (flip ys p.n p.m) p.m p.n r j = g2 (flip ys p.n p.m) r j from if_pos ⟨hr, hj⟩)
        have HS9 : Hid (∀ F, (Try.prog.info? 83).map (·.size) = some (cs9 F).size) := Lib.hid (fun F => by show _ = some 9; kernel_rfl)
        have HS3 : Hid (∀ F, (Try.prog.info? 86).map (·.size) = some (bs3 F).size) := Lib.hid (fun F => by show _ = some 3; kernel_rfl)
        have HO3 : Hid (∀ F, (bs3 F).all (·.oneCell') = true) := Lib.hid (fun F => by simp [bs3, Value.oneCell'])
        generalize full9 xs p.n p.m = F1 at *
        generalize full9 (flip ys p.n p.m) p.m p.n = F2 at *
        go_wp2
        go_loopw [8] (fun _ wr => ∃ k : Nat, Hid (LS w xs ys p.n p.m F1 F2 q4 q5 q6 q7 k wr)) (fun _ wr => mB wr q6 + mB wr q7)
        case atStart => exact ⟨0, HL0⟩
        case round =>
          clear HL0
          obtain ⟨k, HL⟩ := hrel
          have HM : Hid (mB wr q6 + mB wr q7 = (selL (loIt xs (flip ys p.n p.m) p.n p.m k).1 p.n).length + (selL (loIt xs (flip ys p.n p.m) p.n p.m k).2 p.m).length) := Lib.hid (by rw [mB_blk HL.out.k6, mB_blk HL.out.k7, cut_sel hn3, cut_sel hm3])
          have HB0 := Lib.hid HL.out.up
          have K4 := Lib.hid HL.out.k4
          have K5 := Lib.hid HL.out.k5
          have K6 := Lib.hid HL.out.k6
          have K7 := Lib.hid HL.out.k7
          have HG1 := Lib.hid (st_cut (a := xs) (f := (loIt xs (flip ys p.n p.m) p.n p.m k).1) (h := (loIt xs (flip ys p.n p.m) p.n p.m k).2) hn3 hm3 F1 HFF1.out)
          have HG2 := Lib.hid (st_cut (a := flip ys p.n p.m) (f := (loIt xs (flip ys p.n p.m) p.n p.m k).2) (h := stayF xs (loIt xs (flip ys p.n p.m) p.n p.m k).1 (loIt xs (flip ys p.n p.m) p.n p.m k).2 p.n p.m) hm3 hn3 F2 HFF2.out)
          have HI1 : Hid ((loIt xs (flip ys p.n p.m) p.n p.m (k + 1)).1 = stayF xs (loIt xs (flip ys p.n p.m) p.n p.m k).1 (loIt xs (flip ys p.n p.m) p.n p.m k).2 p.n p.m) := Lib.hid rfl
          have HI2 : Hid ((loIt xs (flip ys p.n p.m) p.n p.m (k + 1)).2 = stayF (flip ys p.n p.m) (loIt xs (flip ys p.n p.m) p.n p.m k).2 (loIt xs (flip ys p.n p.m) p.n p.m (k + 1)).1 p.m p.n) := Lib.hid rfl
          rw [← HI1.out] at HG1 HG2
          rw [← HI2.out] at HG2
          clear HI1 HI2 HL
          obtain ⟨f, hf⟩ : ∃ f, f = cutF (loIt xs (flip ys p.n p.m) p.n p.m k).1 p.n := ⟨_, rfl⟩
          obtain ⟨h, hh⟩ : ∃ h, h = cutF (loIt xs (flip ys p.n p.m) p.n p.m k).2 p.m := ⟨_, rfl⟩
          obtain ⟨f', hf'⟩ : ∃ f', f' = cutF (loIt xs (flip ys p.n p.m) p.n p.m (k + 1)).1 p.n := ⟨_, rfl⟩
          obtain ⟨h', hh'⟩ : ∃ h', h' = cutF (loIt xs (flip ys p.n p.m) p.n p.m (k + 1)).2 p.m := ⟨_, rfl⟩
          rw [← hf] at K6 HG1
          rw [← hh] at K7 HG1 HG2
          rw [← hf'] at HG1 HG2
          rw [← hh'] at HG2
          have Hf := Lib.hid hf
          have Hh := Lib.hid hh
          have Hf' := Lib.hid hf'
          have Hh' := Lib.hid hh'
          clear hf hh hf' hh'
          have HU1 := Lib.hid (fun W => HG1.out ▸ unbeaten_any F1 f h W)
          have HU2 := Lib.hid (fun W => HG2.out ▸ unbeaten_any F2 h f' W)
          go_wp2_with (first | (refine wpList_load_row rfl 83 _ rfl q4 rfl 83 (cs9 F1) (0, 0) _ K4.out und_cells rfl (HS9.out _) ?_) | (refine wpList_load_row rfl 83 _ rfl q5 rfl 83 (cs9 F2) (0, 0) _ K5.out und_cells rfl (HS9.out _) ?_) | (refine wpList_load_row rfl 86 _ rfl q6 rfl 86 (bs3 f) (0, 0) _ K6.out und_marks rfl (HS3.out _) ?_) | (refine wpList_load_row rfl 86 _ rfl q7 rfl 86 (bs3 h) (0, 0) _ K7.out und_marks rfl (HS3.out _) ?_) | fail)
          refine (HU1.out _).mono ?_
          rintro e w5 ⟨rfl, hb⟩
          have hq := HB0.out.size
          have HB5 := Lib.hid (below_up HB0.out hb)
          have L4 := Lib.hid (blk_below K4.out hb)
          have L5 := Lib.hid (blk_below K5.out hb)
          have L6 := Lib.hid (blk_below K6.out hb)
          have L7 := Lib.hid (blk_below K7.out hb)
          clear hb HB0 K4 K5 K6 K7 HU1
          have M4 := Lib.hid (blk_row_other (blk_old L4.out (.cells #[.bool false, .bool false, .bool false] 86)) (bs3 f') (Nat.ne_of_lt (blk_lt L4.out)))
          have M5 := Lib.hid (blk_row_other (blk_old L5.out (.cells #[.bool false, .bool false, .bool false] 86)) (bs3 f') (Nat.ne_of_lt (blk_lt L5.out)))
          have M6 := Lib.hid (blk_row_other (blk_old L6.out (.cells #[.bool false, .bool false, .bool false] 86)) (bs3 f') (Nat.ne_of_lt (blk_lt L6.out)))
          have M7 := Lib.hid (blk_row_other (blk_old L7.out (.cells #[.bool false, .bool false, .bool false] 86)) (bs3 f') (Nat.ne_of_lt (blk_lt L7.out)))
          have M8 := Lib.hid (blk_row (blk_new w5 86 #[.bool false, .bool false, .bool false]) (bs3 f'))
          have HB6 := Lib.hid (below_row (below_up HB5.out (below_alloc w5 (.cells #[.bool false, .bool false, .bool false] 86))) (g := w5.heap.size) HB5.out.size (bs3 f'))
          have HLTq8 := Lib.hid (And.intro (blk_lt L6.out) (blk_lt L7.out))
          clear L4 L5 L6 L7 HB5
          go_wp2_with (first | (refine wpList_store_row rfl 86 _ _ rfl w5.heap.size (bs3 f') rfl rfl 86 (bs3 fun _ => false) (blk_new w5 86 (bs3 fun _ => false)) (HS3.out _) rfl (HO3.out _) ?_) | (refine wpList_load_row rfl 83 _ rfl q4 rfl 83 (cs9 F1) (0, 0) _ M4.out und_cells rfl (HS9.out _) ?_) | (refine wpList_load_row rfl 83 _ rfl q5 rfl 83 (cs9 F2) (0, 0) _ M5.out und_cells rfl (HS9.out _) ?_) | (refine wpList_load_row rfl 86 _ rfl q6 rfl 86 (bs3 f) (0, 0) _ M6.out und_marks rfl (HS3.out _) ?_) | (refine wpList_load_row rfl 86 _ rfl q7 rfl 86 (bs3 h) (0, 0) _ M7.out und_marks rfl (HS3.out _) ?_) | (refine wpList_load_row rfl 86 _ rfl w5.heap.size rfl 86 (bs3 f') (0, 0) _ M8.out und_marks rfl (HS3.out _) ?_) | fail)
          generalize hW : (w5.alloc (.cells #[.bool false, .bool false, .bool false] 86)).setRow w5.heap.size (bs3 f') = W6 at *
          clear hW
          generalize w5.heap.size = q8 at *
          refine (HU2.out _).mono ?_
          rintro e w7 ⟨rfl, hb⟩
          have HB7 := Lib.hid (below_up HB6.out hb)
          have L4 := Lib.hid (blk_below M4.out hb)
          have L5 := Lib.hid (blk_below M5.out hb)
          have L6 := Lib.hid (blk_below M6.out hb)
          have L7 := Lib.hid (blk_below M7.out hb)
          have L8 := Lib.hid (blk_below M8.out hb)
          clear hb HB6 M4 M5 M6 M7 M8 HU2
          have M4 := Lib.hid (blk_row_other (blk_old L4.out (.cells #[.bool false, .bool false, .bool false] 86)) (bs3 h') (Nat.ne_of_lt (blk_lt L4.out)))
          have M5 := Lib.hid (blk_row_other (blk_old L5.out (.cells #[.bool false, .bool false, .bool false] 86)) (bs3 h') (Nat.ne_of_lt (blk_lt L5.out)))
          have M6 := Lib.hid (blk_row_other (blk_old L6.out (.cells #[.bool false, .bool false, .bool false] 86)) (bs3 h') (Nat.ne_of_lt (blk_lt L6.out)))
          have M7 := Lib.hid (blk_row_other (blk_old L7.out (.cells #[.bool false, .bool false, .bool false] 86)) (bs3 h') (Nat.ne_of_lt (blk_lt L7.out)))
          have M8 := Lib.hid (blk_row_other (blk_old L8.out (.cells #[.bool false, .bool false, .bool false] 86)) (bs3 h') (Nat.ne_of_lt (blk_lt L8.out)))
          have M9 := Lib.hid (blk_row (blk_new w7 86 #[.bool false, .bool false, .bool false]) (bs3 h'))
          have HB8 := Lib.hid (below_row (below_up HB7.out (below_alloc w7 (.cells #[.bool false, .bool false, .bool false] 86))) (g := w7.heap.size) HB7.out.size (bs3 h'))
          have HLTq9 := Lib.hid (And.intro (blk_lt L6.out) (blk_lt L7.out))
          clear L4 L5 L6 L7 L8 HB7
          have HE1 := eqb_op f' f
          have HE2 := eqb_op h' h
          simp only [bs3] at HE1 HE2
          have M6_0 := blk_cell M6.out (i := 0) (v := .bool (f 0)) rfl
          have M6_1 := blk_cell M6.out (i := 1) (v := .bool (f 1)) rfl
          have M6_2 := blk_cell M6.out (i := 2) (v := .bool (f 2)) rfl
          have M7_0 := blk_cell M7.out (i := 0) (v := .bool (h 0)) rfl
          have M7_1 := blk_cell M7.out (i := 1) (v := .bool (h 1)) rfl
          have M7_2 := blk_cell M7.out (i := 2) (v := .bool (h 2)) rfl
          have M8_0 := blk_cell M8.out (i := 0) (v := .bool (f' 0)) rfl
          have M8_1 := blk_cell M8.out (i := 1) (v := .bool (f' 1)) rfl
          have M8_2 := blk_cell M8.out (i := 2) (v := .bool (f' 2)) rfl
          have M9_0 := blk_cell M9.out (i := 0) (v := .bool (h' 0)) rfl
          have M9_1 := blk_cell M9.out (i := 1) (v := .bool (h' 1)) rfl
          have M9_2 := blk_cell M9.out (i := 2) (v := .bool (h' 2)) rfl
          by_cases hs1 : f' 0 = f 0 ∧ f' 1 = f 1 ∧ f' 2 = f 2
          · have hd1 : decide (f' 0 = f 0 ∧ f' 1 = f 1 ∧ f' 2 = f 2) = true := decide_eq_true hs1
            rw [hd1] at HE1
            by_cases hs2 : h' 0 = h 0 ∧ h' 1 = h 1 ∧ h' 2 = h 2
            · have hd2 : decide (h' 0 = h 0 ∧ h' 1 = h 1 ∧ h' 2 = h 2) = true := decide_eq_true hs2
              rw [hd2] at HE2
              have HSM := Lib.hid (And.intro hs1 hs2)
              clear hd1 hd2 hs1 hs2
              go_wp2_with (refine wpList_store_row rfl 86 _ _ rfl w7.heap.size (bs3 h') rfl rfl 86 (bs3 fun _ => false) (blk_new w7 86 (bs3 fun _ => false)) (HS3.out _) rfl (HO3.out _) ?_)
              clear HE1 HE2 M6_0 M6_1 M6_2 M7_0 M7_1 M7_2 M8_0 M8_1 M8_2 M9_0 M9_1 M9_2
              generalize hW : (w7.alloc (.cells #[.bool false, .bool false, .bool false] 86)).setRow w7.heap.size (bs3 h') = W8 at *
              clear hW
              generalize w7.heap.size = q9 at *
              refine wp_region_invF (rs := [0, 1, 2, 3, 4, 5]) [46, 47, 48, 49, 2, 3] (fun L us W => ∃ u46 u47 u48 u49 u2 u3 A1 n1 c1 g1 A2 n2 c2 g2, us = [u46, u47, u48, u49, u2, u3] ∧ R8 w q6 q7 f h L u46 u47 u48 u49 u2 u3 A1 n1 c1 g1 A2 n2 c2 g2 W) (by kernel_rfl) ?_ (by kernel_rfl) (by kernel_rfl) ?_ ?_
              · refine ⟨[u46, u47, u48, u49, u2, u3], ?_, u46, u47, u48, u49, u2, u3, none, 0, 0, 0, none, 0, 0, 0, rfl, ?_⟩
                · simp only [frmL, Act.put, List.setIfInBounds_toArray, List.set_cons_zero, List.set_cons_succ]
                exact ⟨below_drewN HB8.out 1, blk_quiet M6.out ⟨1, rfl⟩, blk_quiet M7.out ⟨1, rfl⟩, fun o => o.not_start.elim, fun o => o.not_start.elim, fun o => o.not_start.elim, fun o => o.not_start.elim, fun o => o.not_start.elim, fun o => o.not_start.elim, fun o => o.not_start.elim⟩
              · refine StepsI.cons (i := 0) (ws := []) rfl (by kernel_rfl) (fun L a W hI hno hon hw K hK => ?_) ?_
                · obtain ⟨_, rfl, u46, u47, u48, u49, u2, u3, A1, n1, c1, g1, A2, n2, c2, g2, rfl, H⟩ := hI
                  simp only [List.getElem_toArray, List.getElem_cons_zero, frmL, Act.put, List.setIfInBounds_toArray, List.set_cons_zero, List.set_cons_succ]
                  rw [if_pos (by rfl)]
                  refine wp_load_row 86 _ rfl q6 rfl 86 (bs3 f) (0, 0) _ H.k6 und_marks rfl (HS3.out _) ?_
                  simp only [Act.put, List.setIfInBounds_toArray, List.set_cons_zero, List.set_cons_succ]
                  have HN := H
                  refine hK.out _ _ ⟨[.agg (bs3 f), u47, u48, u49, u2, u3], ?_, .agg (bs3 f), u47, u48, u49, u2, u3, A1, n1, c1, g1, A2, n2, c2, g2, rfl, ?_⟩
                  · simp only [frmL, Act.put, List.setIfInBounds_toArray, List.set_cons_zero, List.set_cons_succ]
                  · exact ⟨HN.bl, HN.k6, HN.k7, fun _ => rfl, fun o => HN.h1 (o.of_set (by decide)), fun o => HN.h2 (o.of_set (by decide)), fun o => HN.h3 (o.of_set (by decide)), fun o => (HN.hd (o.of_set (by decide))).imp On.old id, fun o => (HN.h4 (o.of_set (by decide))).imp On.old id, fun o => (HN.h5 (o.of_set (by decide))).imp On.old id⟩
                refine StepsI.cons (i := 1) (ws := [0]) rfl (by kernel_rfl) (fun L a W hI hno hon hw K hK => ?_) ?_
                · obtain ⟨_, rfl, u46, u47, u48, u49, u2, u3, A1, n1, c1, g1, A2, n2, c2, g2, rfl, H⟩ := hI
                  have e0 := H.h0 (hw 0 (by simp))
                  subst e0
                  simp only [List.getElem_toArray, List.getElem_cons_zero, List.getElem_cons_succ, frmL, Act.put, List.setIfInBounds_toArray, List.set_cons_zero, List.set_cons_succ]
                  go_simp
                  go_wp2_with (go_at_call 68; (with_reducible refine (marked_any f W).mono ?_); intro e w9 hnew; obtain ⟨A9, n9, c9, g9, rfl, hl9, ho9, hb⟩ := hnew; have HL9 := Lib.hid hl9; clear hl9)
                  have hs := SelO.mk (ho9.mono H.bl.size (Nat.le_refl _)) HL9.out
                  have HN := H.up hb
                  refine hK.out _ _ ⟨[.agg (bs3 f), .slice A9 n9 c9, u48, u49, u2, u3], ?_, .agg (bs3 f), .slice A9 n9 c9, u48, u49, u2, u3, A9, n9, c9, g9, A2, n2, c2, g2, rfl, ?_⟩
                  · simp only [frmL, Act.put, List.setIfInBounds_toArray, List.set_cons_zero, List.set_cons_succ]
                  · exact ⟨HN.bl, HN.k6, HN.k7, fun o => HN.h0 (o.of_set (by decide)), fun _ => ⟨rfl, hs⟩, fun o => HN.h2 (o.of_set (by decide)), fun o => HN.h3 (o.of_set (by decide)), fun o => absurd (H.hd (o.of_set (by decide))).1 hno, fun o => absurd (H.h4 (o.of_set (by decide))).1 hno, fun o => (HN.h5 (o.of_set (by decide))).imp On.old id⟩
                refine StepsI.cons (i := 2) (ws := []) rfl (by kernel_rfl) (fun L a W hI hno hon hw K hK => ?_) ?_
                · obtain ⟨_, rfl, u46, u47, u48, u49, u2, u3, A1, n1, c1, g1, A2, n2, c2, g2, rfl, H⟩ := hI
                  simp only [List.getElem_toArray, List.getElem_cons_zero, List.getElem_cons_succ, frmL, Act.put, List.setIfInBounds_toArray, List.set_cons_zero, List.set_cons_succ]
                  rw [if_pos (by rfl)]
                  refine wp_load_row 86 _ rfl q7 rfl 86 (bs3 h) (0, 0) _ H.k7 und_marks rfl (HS3.out _) ?_
                  simp only [Act.put, List.setIfInBounds_toArray, List.set_cons_zero, List.set_cons_succ]
                  have HN := H
                  refine hK.out _ _ ⟨[u46, u47, .agg (bs3 h), u49, u2, u3], ?_, u46, u47, .agg (bs3 h), u49, u2, u3, A1, n1, c1, g1, A2, n2, c2, g2, rfl, ?_⟩
                  · simp only [frmL, Act.put, List.setIfInBounds_toArray, List.set_cons_zero, List.set_cons_succ]
                  · exact ⟨HN.bl, HN.k6, HN.k7, fun o => HN.h0 (o.of_set (by decide)), fun o => HN.h1 (o.of_set (by decide)), fun _ => rfl, fun o => HN.h3 (o.of_set (by decide)), fun o => (HN.hd (o.of_set (by decide))).imp On.old id, fun o => (HN.h4 (o.of_set (by decide))).imp On.old id, fun o => (HN.h5 (o.of_set (by decide))).imp On.old id⟩
                refine StepsI.cons (i := 3) (ws := [2, 1]) rfl (by kernel_rfl) (fun L a W hI hno hon hw K hK => ?_) ?_
                · obtain ⟨_, rfl, u46, u47, u48, u49, u2, u3, A1, n1, c1, g1, A2, n2, c2, g2, rfl, H⟩ := hI
                  have e0 := H.h2 (hw 2 (by simp))
                  subst e0
                  simp only [List.getElem_toArray, List.getElem_cons_zero, List.getElem_cons_succ, frmL, Act.put, List.setIfInBounds_toArray, List.set_cons_zero, List.set_cons_succ]
                  go_simp
                  go_wp2_with (go_at_call 68; (with_reducible refine (marked_any h W).mono ?_); intro e w9 hnew; obtain ⟨A9, n9, c9, g9, rfl, hl9, ho9, hb⟩ := hnew; have HL9 := Lib.hid hl9; clear hl9)
                  have hs := SelO.mk (ho9.mono H.bl.size (Nat.le_refl _)) HL9.out
                  have HN := H.up hb
                  refine hK.out _ _ ⟨[u46, u47, .agg (bs3 h), .slice A9 n9 c9, u2, u3], ?_, u46, u47, .agg (bs3 h), .slice A9 n9 c9, u2, u3, A1, n1, c1, g1, A9, n9, c9, g9, rfl, ?_⟩
                  · simp only [frmL, Act.put, List.setIfInBounds_toArray, List.set_cons_zero, List.set_cons_succ]
                  · exact ⟨HN.bl, HN.k6, HN.k7, fun o => HN.h0 (o.of_set (by decide)), fun o => HN.h1 (o.of_set (by decide)), fun o => HN.h2 (o.of_set (by decide)), fun _ => ⟨rfl, hs⟩, fun _ => ⟨(hw 1 (by simp)).old, fun hp1 hp2 => by have q1 := (H.h1 (hw 1 (by simp))).2.own.lt hp1; obtain ⟨_, _, q2, _⟩ := ho9.own hp2; omega⟩, fun o => (HN.h4 (o.of_set (by decide))).imp On.old id, fun o => absurd (H.h5 (o.of_set (by decide))).1 hno⟩
                refine StepsI.cons (i := 4) (ws := [1, 3, 0, 1]) rfl (by kernel_rfl) (fun L a W hI hno hon hw K hK => ?_) ?_
                · obtain ⟨_, rfl, u46, u47, u48, u49, u2, u3, A1, n1, c1, g1, A2, n2, c2, g2, rfl, H⟩ := hI
                  simp only [List.getElem_toArray, List.getElem_cons_zero, List.getElem_cons_succ, frmL, Act.put, List.setIfInBounds_toArray, List.set_cons_zero, List.set_cons_succ]
                  go_simp
                  have HN := H
                  refine hK.out _ _ ⟨[u46, u47, u48, u49, u47, u3], ?_, u46, u47, u48, u49, u47, u3, A1, n1, c1, g1, A2, n2, c2, g2, rfl, ?_⟩
                  · simp only [frmL, Act.put, List.setIfInBounds_toArray, List.set_cons_zero, List.set_cons_succ]
                  · exact ⟨HN.bl, HN.k6, HN.k7, fun o => HN.h0 (o.of_set (by decide)), fun o => HN.h1 (o.of_set (by decide)), fun o => HN.h2 (o.of_set (by decide)), fun o => HN.h3 (o.of_set (by decide)), fun o => (HN.hd (o.of_set (by decide))).imp On.old id, fun _ => ⟨(hw 1 (by simp)).old, (H.h1 (hw 1 (by simp))).1⟩, fun o => (HN.h5 (o.of_set (by decide))).imp On.old id⟩
                refine StepsI.cons (i := 5) (ws := [3, 4, 0, 1, 2, 3, 4]) rfl (by kernel_rfl) (fun L a W hI hno hon hw K hK => ?_) ?_
                · obtain ⟨_, rfl, u46, u47, u48, u49, u2, u3, A1, n1, c1, g1, A2, n2, c2, g2, rfl, H⟩ := hI
                  simp only [List.getElem_toArray, List.getElem_cons_zero, List.getElem_cons_succ, frmL, Act.put, List.setIfInBounds_toArray, List.set_cons_zero, List.set_cons_succ]
                  go_simp
                  have HN := H
                  refine hK.out _ _ ⟨[u46, u47, u48, u49, u2, u49], ?_, u46, u47, u48, u49, u2, u49, A1, n1, c1, g1, A2, n2, c2, g2, rfl, ?_⟩
                  · simp only [frmL, Act.put, List.setIfInBounds_toArray, List.set_cons_zero, List.set_cons_succ]
                  · exact ⟨HN.bl, HN.k6, HN.k7, fun o => HN.h0 (o.of_set (by decide)), fun o => HN.h1 (o.of_set (by decide)), fun o => HN.h2 (o.of_set (by decide)), fun o => HN.h3 (o.of_set (by decide)), fun o => (HN.hd (o.of_set (by decide))).imp On.old id, fun o => (HN.h4 (o.of_set (by decide))).imp On.old id, fun _ => ⟨(hw 3 (by simp)).old, (H.h3 (hw 3 (by simp))).1⟩⟩
                exact StepsI.nil
              · rintro L us W hL ⟨u46, u47, u48, u49, u2, u3, A1, n1, c1, g1, A2, n2, c2, g2, rfl, H⟩
                have h4 := (H.h4 (hL 4 (by simp))).2
                have h5 := (H.h5 (hL 5 (by simp))).2
                have HS1 := Lib.hid (H.h1 (hL 1 (by simp))).2
                have HS2 := Lib.hid (H.h3 (hL 3 (by simp))).2
                have HBL := Lib.hid H.bl
                have HD := Lib.hid (H.hd (hL 3 (by simp))).2
                have hn1' := HS1.out.own.ints.max
                subst h4
                subst h5
                clear H hL
                have HLX := Lib.hid GT4.out.gv0.lx
                have HMX := Lib.hid GT4.out.gv0.mx
                have HE := Lib.hid (show LeftX xs ys w (.returned (.tuple #[.slice A1 n1 c1, .slice A2 n2 c2])) W from by
                  refine .inr ⟨HV.out, k, ?_, ?_⟩
                  · rw [HLX.out, HMX.out]
                    obtain ⟨⟨a0, a1, a2⟩, b0, b1, b2⟩ := HSM.out
                    rw [Hf.out, Hf'.out] at a0 a1 a2
                    rw [Hh.out, Hh'.out] at b0 b1 b2
                    exact ⟨fun i hi => cut3 hn3 a0 a1 a2 i hi, fun i hi => cut3 hm3 b0 b1 b2 i hi⟩
                  · rw [HLX.out, HMX.out]
                    have e1 := HS1.out
                    have e2 := HS2.out
                    have l1 := e1.len
                    have l2 := e2.len
                    have o1 := e1.own
                    have o2 := e2.own
                    rw [Hf.out, cut_sel hn3] at l1 o1
                    rw [Hh.out, cut_sel hm3] at l2 o2
                    exact ⟨_, _, _, g1, _, _, _, g2, rfl, l1, l2, o1, o2, HBL.out, HD.out⟩)
                clear HS1 HS2 HBL HD
                go_wp2
                simp only [frmL, Act.put, List.setIfInBounds_toArray, List.set_cons_zero, List.set_cons_succ]
                go_wp2
                go_ret2
                exact HE.out
            · have hd2 : decide (h' 0 = h 0 ∧ h' 1 = h 1 ∧ h' 2 = h 2) = false := decide_eq_false hs2
              rw [hd2] at HE2
              have HNS := Lib.hid (show ¬ ((f' 0 = f 0 ∧ f' 1 = f 1 ∧ f' 2 = f 2) ∧ h' 0 = h 0 ∧ h' 1 = h 1 ∧ h' 2 = h 2) from fun e => hs2 e.2)
              clear hd1 hd2 hs1 hs2
              go_wp2_with (refine wpList_store_row rfl 86 _ _ rfl w7.heap.size (bs3 h') rfl rfl 86 (bs3 fun _ => false) (blk_new w7 86 (bs3 fun _ => false)) (HS3.out _) rfl (HO3.out _) ?_)
              clear HE1 HE2 M6_0 M6_1 M6_2 M7_0 M7_1 M7_2 M8_0 M8_1 M8_2 M9_0 M9_1 M9_2
              generalize hW : (w7.alloc (.cells #[.bool false, .bool false, .bool false] 86)).setRow w7.heap.size (bs3 h') = W8 at *
              clear hW
              generalize w7.heap.size = q9 at *
              refine wp_region_invF (rs := [0, 1, 2, 3]) [50, 51] (fun L us W => ∃ u50 u51 g6 g7, us = [u50, u51] ∧ R9 w q4 q5 q6 q7 q8 q9 F1 F2 f' h' L u50 u51 g6 g7 W) (by kernel_rfl) ?_ (by kernel_rfl) (by kernel_rfl) ?_ ?_
              · refine ⟨[u50, u51], ?_, u50, u51, f, h, rfl, ?_⟩
                · simp only [frmL, Act.put, List.setIfInBounds_toArray, List.set_cons_zero, List.set_cons_succ]
                exact ⟨below_drewN HB8.out 1, blk_quiet M4.out ⟨1, rfl⟩, blk_quiet M5.out ⟨1, rfl⟩, blk_quiet M6.out ⟨1, rfl⟩, blk_quiet M7.out ⟨1, rfl⟩, blk_quiet M8.out ⟨1, rfl⟩, blk_quiet M9.out ⟨1, rfl⟩, fun o => o.not_start.elim, fun o => o.not_start.elim, fun o => o.not_start.elim, fun o => o.not_start.elim⟩
              · refine StepsI.cons (i := 0) (ws := []) rfl (by kernel_rfl) (fun L a W hI hno hon hw K hK => ?_) ?_
                · obtain ⟨_, rfl, u50, u51, g6, g7, rfl, H⟩ := hI
                  simp only [List.getElem_toArray, List.getElem_cons_zero, frmL, Act.put, List.setIfInBounds_toArray, List.set_cons_zero, List.set_cons_succ]
                  rw [if_pos (by rfl)]
                  refine wp_load_row 86 _ rfl q8 rfl 86 (bs3 f') (0, 0) _ H.k8 und_marks rfl (HS3.out _) ?_
                  simp only [Act.put, List.setIfInBounds_toArray, List.set_cons_zero, List.set_cons_succ]
                  have HN := H
                  refine hK.out _ _ ⟨[.agg (bs3 f'), u51], ?_, .agg (bs3 f'), u51, g6, g7, rfl, ?_⟩
                  · simp only [frmL, Act.put, List.setIfInBounds_toArray, List.set_cons_zero, List.set_cons_succ]
                  · exact ⟨HN.bl, HN.k4, HN.k5, HN.k6, HN.k7, HN.k8, HN.k9, fun _ => rfl, fun o => HN.h1 (o.of_set (by decide)), fun o => HN.h2 (o.of_set (by decide)), fun o => HN.h3 (o.of_set (by decide))⟩
                refine StepsI.cons (i := 1) (ws := []) rfl (by kernel_rfl) (fun L a W hI hno hon hw K hK => ?_) ?_
                · obtain ⟨_, rfl, u50, u51, g6, g7, rfl, H⟩ := hI
                  simp only [List.getElem_toArray, List.getElem_cons_zero, List.getElem_cons_succ, frmL, Act.put, List.setIfInBounds_toArray, List.set_cons_zero, List.set_cons_succ]
                  rw [if_pos (by rfl)]
                  refine wp_load_row 86 _ rfl q9 rfl 86 (bs3 h') (0, 0) _ H.k9 und_marks rfl (HS3.out _) ?_
                  simp only [Act.put, List.setIfInBounds_toArray, List.set_cons_zero, List.set_cons_succ]
                  have HN := H
                  refine hK.out _ _ ⟨[u50, .agg (bs3 h')], ?_, u50, .agg (bs3 h'), g6, g7, rfl, ?_⟩
                  · simp only [frmL, Act.put, List.setIfInBounds_toArray, List.set_cons_zero, List.set_cons_succ]
                  · exact ⟨HN.bl, HN.k4, HN.k5, HN.k6, HN.k7, HN.k8, HN.k9, fun o => HN.h0 (o.of_set (by decide)), fun _ => rfl, fun o => HN.h2 (o.of_set (by decide)), fun o => HN.h3 (o.of_set (by decide))⟩
                refine StepsI.cons (i := 2) (ws := [0, 0]) rfl (by kernel_rfl) (fun L a W hI hno hon hw K hK => ?_) ?_
                · obtain ⟨_, rfl, u50, u51, g6, g7, rfl, H⟩ := hI
                  have e2 := H.h0 (hw 0 (by simp))
                  simp only [List.getElem_toArray, List.getElem_cons_zero, List.getElem_cons_succ, frmL, Act.put, List.setIfInBounds_toArray, List.set_cons_zero, List.set_cons_succ]
                  rw [if_pos (by rfl)]
                  refine wp_store_row 86 _ _ rfl q6 (bs3 f') rfl e2 86 (bs3 g6) H.k6 (HS3.out _) rfl (HO3.out _) ?_
                  have HN := H
                  refine hK.out _ _ ⟨[u50, u51], ?_, u50, u51, f', g7, rfl, ?_⟩
                  · simp only [frmL, Act.put, List.setIfInBounds_toArray, List.set_cons_zero, List.set_cons_succ]
                  · exact ⟨below_row H.bl (by omega) _, blk_row_other H.k4 _ HN46.out, blk_row_other H.k5 _ HN56.out, blk_row H.k6 _, blk_row_other H.k7 _ (fun e => HN67.out e.symm), blk_row_other H.k8 _ (by have := HLTq8.out; omega), blk_row_other H.k9 _ (by have := HLTq9.out; omega), fun o => HN.h0 (o.of_set (by decide)), fun o => HN.h1 (o.of_set (by decide)), fun _ => blk_row H.k6 _, fun o => blk_row_other (H.h3 (o.of_set (by decide))) _ (fun e => HN67.out e.symm)⟩
                refine StepsI.cons (i := 3) (ws := [1, 2, 0, 1, 2]) rfl (by kernel_rfl) (fun L a W hI hno hon hw K hK => ?_) ?_
                · obtain ⟨_, rfl, u50, u51, g6, g7, rfl, H⟩ := hI
                  have e2 := H.h1 (hw 1 (by simp))
                  simp only [List.getElem_toArray, List.getElem_cons_zero, List.getElem_cons_succ, frmL, Act.put, List.setIfInBounds_toArray, List.set_cons_zero, List.set_cons_succ]
                  rw [if_pos (by rfl)]
                  refine wp_store_row 86 _ _ rfl q7 (bs3 h') rfl e2 86 (bs3 g7) H.k7 (HS3.out _) rfl (HO3.out _) ?_
                  have HN := H
                  refine hK.out _ _ ⟨[u50, u51], ?_, u50, u51, g6, h', rfl, ?_⟩
                  · simp only [frmL, Act.put, List.setIfInBounds_toArray, List.set_cons_zero, List.set_cons_succ]
                  · exact ⟨below_row H.bl (by omega) _, blk_row_other H.k4 _ HN47.out, blk_row_other H.k5 _ HN57.out, blk_row_other H.k6 _ HN67.out, blk_row H.k7 _, blk_row_other H.k8 _ (by have := HLTq8.out; omega), blk_row_other H.k9 _ (by have := HLTq9.out; omega), fun o => HN.h0 (o.of_set (by decide)), fun o => HN.h1 (o.of_set (by decide)), fun o => blk_row_other (H.h2 (o.of_set (by decide))) _ HN67.out, fun _ => blk_row H.k7 _⟩
                exact StepsI.nil
              · rintro L us W hL ⟨u50, u51, g6, g7, rfl, H⟩
                have HZ := Lib.hid (show LS w xs ys p.n p.m F1 F2 q4 q5 q6 q7 (k + 1) W from ⟨H.bl, H.k4, H.k5, by rw [← Hf'.out]; exact H.h2 (hL 2 (by simp)), by rw [← Hh'.out]; exact H.h3 (hL 3 (by simp))⟩)
                have HMM : Hid (mB W q6 + mB W q7 < mB wr q6 + mB wr q7) := Lib.hid (by
                  rw [HM.out, mB_blk HZ.out.k6, mB_blk HZ.out.k7, cut_sel hn3, cut_sel hm3]
                  refine lo_less (fun e => HNS.out ?_)
                  have hsm := lo_same e
                  rw [Hf.out, Hf'.out, Hh.out, Hh'.out]
                  exact ⟨cut3' hsm.1, cut3' hsm.2⟩)
                clear H hL
                go_wp2
                simp only [frmL, Act.put, List.setIfInBounds_toArray, List.set_cons_zero, List.set_cons_succ]
                go_wp2
                go_roundw
                case rel => exact ⟨k + 1, HZ⟩
                case measure => exact HMM.out
          · have hd1 : decide (f' 0 = f 0 ∧ f' 1 = f 1 ∧ f' 2 = f 2) = false := decide_eq_false hs1
            rw [hd1] at HE1
            have HNS := Lib.hid (show ¬ ((f' 0 = f 0 ∧ f' 1 = f 1 ∧ f' 2 = f 2) ∧ h' 0 = h 0 ∧ h' 1 = h 1 ∧ h' 2 = h 2) from fun e => hs1 e.1)
            clear hd1 hs1 HE2
            go_wp2_with (refine wpList_store_row rfl 86 _ _ rfl w7.heap.size (bs3 h') rfl rfl 86 (bs3 fun _ => false) (blk_new w7 86 (bs3 fun _ => false)) (HS3.out _) rfl (HO3.out _) ?_)
            clear HE1 M6_0 M6_1 M6_2 M7_0 M7_1 M7_2 M8_0 M8_1 M8_2 M9_0 M9_1 M9_2
            generalize hW : (w7.alloc (.cells #[.bool false, .bool false, .bool false] 86)).setRow w7.heap.size (bs3 h') = W8 at *
            clear hW
            generalize w7.heap.size = q9 at *
            refine wp_region_invF (rs := [0, 1, 2, 3]) [50, 51] (fun L us W => ∃ u50 u51 g6 g7, us = [u50, u51] ∧ R9 w q4 q5 q6 q7 q8 q9 F1 F2 f' h' L u50 u51 g6 g7 W) (by kernel_rfl) ?_ (by kernel_rfl) (by kernel_rfl) ?_ ?_
            · refine ⟨[u50, u51], ?_, u50, u51, f, h, rfl, ?_⟩
              · simp only [frmL, Act.put, List.setIfInBounds_toArray, List.set_cons_zero, List.set_cons_succ]
              exact ⟨below_drewN HB8.out 1, blk_quiet M4.out ⟨1, rfl⟩, blk_quiet M5.out ⟨1, rfl⟩, blk_quiet M6.out ⟨1, rfl⟩, blk_quiet M7.out ⟨1, rfl⟩, blk_quiet M8.out ⟨1, rfl⟩, blk_quiet M9.out ⟨1, rfl⟩, fun o => o.not_start.elim, fun o => o.not_start.elim, fun o => o.not_start.elim, fun o => o.not_start.elim⟩
            · refine StepsI.cons (i := 0) (ws := []) rfl (by kernel_rfl) (fun L a W hI hno hon hw K hK => ?_) ?_
              · obtain ⟨_, rfl, u50, u51, g6, g7, rfl, H⟩ := hI
                simp only [List.getElem_toArray, List.getElem_cons_zero, frmL, Act.put, List.setIfInBounds_toArray, List.set_cons_zero, List.set_cons_succ]
                rw [if_pos (by rfl)]
                refine wp_load_row 86 _ rfl q8 rfl 86 (bs3 f') (0, 0) _ H.k8 und_marks rfl (HS3.out _) ?_
                simp only [Act.put, List.setIfInBounds_toArray, List.set_cons_zero, List.set_cons_succ]
                have HN := H
                refine hK.out _ _ ⟨[.agg (bs3 f'), u51], ?_, .agg (bs3 f'), u51, g6, g7, rfl, ?_⟩
                · simp only [frmL, Act.put, List.setIfInBounds_toArray, List.set_cons_zero, List.set_cons_succ]
                · exact ⟨HN.bl, HN.k4, HN.k5, HN.k6, HN.k7, HN.k8, HN.k9, fun _ => rfl, fun o => HN.h1 (o.of_set (by decide)), fun o => HN.h2 (o.of_set (by decide)), fun o => HN.h3 (o.of_set (by decide))⟩
              refine StepsI.cons (i := 1) (ws := []) rfl (by kernel_rfl) (fun L a W hI hno hon hw K hK => ?_) ?_
              · obtain ⟨_, rfl, u50, u51, g6, g7, rfl, H⟩ := hI
                simp only [List.getElem_toArray, List.getElem_cons_zero, List.getElem_cons_succ, frmL, Act.put, List.setIfInBounds_toArray, List.set_cons_zero, List.set_cons_succ]
                rw [if_pos (by rfl)]
                refine wp_load_row 86 _ rfl q9 rfl 86 (bs3 h') (0, 0) _ H.k9 und_marks rfl (HS3.out _) ?_
                simp only [Act.put, List.setIfInBounds_toArray, List.set_cons_zero, List.set_cons_succ]
                have HN := H
                refine hK.out _ _ ⟨[u50, .agg (bs3 h')], ?_, u50, .agg (bs3 h'), g6, g7, rfl, ?_⟩
                · simp only [frmL, Act.put, List.setIfInBounds_toArray, List.set_cons_zero, List.set_cons_succ]
                · exact ⟨HN.bl, HN.k4, HN.k5, HN.k6, HN.k7, HN.k8, HN.k9, fun o => HN.h0 (o.of_set (by decide)), fun _ => rfl, fun o => HN.h2 (o.of_set (by decide)), fun o => HN.h3 (o.of_set (by decide))⟩
              refine StepsI.cons (i := 2) (ws := [0, 0]) rfl (by kernel_rfl) (fun L a W hI hno hon hw K hK => ?_) ?_
              · obtain ⟨_, rfl, u50, u51, g6, g7, rfl, H⟩ := hI
                have e2 := H.h0 (hw 0 (by simp))
                simp only [List.getElem_toArray, List.getElem_cons_zero, List.getElem_cons_succ, frmL, Act.put, List.setIfInBounds_toArray, List.set_cons_zero, List.set_cons_succ]
                rw [if_pos (by rfl)]
                refine wp_store_row 86 _ _ rfl q6 (bs3 f') rfl e2 86 (bs3 g6) H.k6 (HS3.out _) rfl (HO3.out _) ?_
                have HN := H
                refine hK.out _ _ ⟨[u50, u51], ?_, u50, u51, f', g7, rfl, ?_⟩
                · simp only [frmL, Act.put, List.setIfInBounds_toArray, List.set_cons_zero, List.set_cons_succ]
                · exact ⟨below_row H.bl (by omega) _, blk_row_other H.k4 _ HN46.out, blk_row_other H.k5 _ HN56.out, blk_row H.k6 _, blk_row_other H.k7 _ (fun e => HN67.out e.symm), blk_row_other H.k8 _ (by have := HLTq8.out; omega), blk_row_other H.k9 _ (by have := HLTq9.out; omega), fun o => HN.h0 (o.of_set (by decide)), fun o => HN.h1 (o.of_set (by decide)), fun _ => blk_row H.k6 _, fun o => blk_row_other (H.h3 (o.of_set (by decide))) _ (fun e => HN67.out e.symm)⟩
              refine StepsI.cons (i := 3) (ws := [1, 2, 0, 1, 2]) rfl (by kernel_rfl) (fun L a W hI hno hon hw K hK => ?_) ?_
              · obtain ⟨_, rfl, u50, u51, g6, g7, rfl, H⟩ := hI
                have e2 := H.h1 (hw 1 (by simp))
                simp only [List.getElem_toArray, List.getElem_cons_zero, List.getElem_cons_succ, frmL, Act.put, List.setIfInBounds_toArray, List.set_cons_zero, List.set_cons_succ]
                rw [if_pos (by rfl)]
                refine wp_store_row 86 _ _ rfl q7 (bs3 h') rfl e2 86 (bs3 g7) H.k7 (HS3.out _) rfl (HO3.out _) ?_
                have HN := H
                refine hK.out _ _ ⟨[u50, u51], ?_, u50, u51, g6, h', rfl, ?_⟩
                · simp only [frmL, Act.put, List.setIfInBounds_toArray, List.set_cons_zero, List.set_cons_succ]
                · exact ⟨below_row H.bl (by omega) _, blk_row_other H.k4 _ HN47.out, blk_row_other H.k5 _ HN57.out, blk_row_other H.k6 _ HN67.out, blk_row H.k7 _, blk_row_other H.k8 _ (by have := HLTq8.out; omega), blk_row_other H.k9 _ (by have := HLTq9.out; omega), fun o => HN.h0 (o.of_set (by decide)), fun o => HN.h1 (o.of_set (by decide)), fun o => blk_row_other (H.h2 (o.of_set (by decide))) _ HN67.out, fun _ => blk_row H.k7 _⟩
              exact StepsI.nil
            · rintro L us W hL ⟨u50, u51, g6, g7, rfl, H⟩
              have HZ := Lib.hid (show LS w xs ys p.n p.m F1 F2 q4 q5 q6 q7 (k + 1) W from ⟨H.bl, H.k4, H.k5, by rw [← Hf'.out]; exact H.h2 (hL 2 (by simp)), by rw [← Hh'.out]; exact H.h3 (hL 3 (by simp))⟩)
              have HMM : Hid (mB W q6 + mB W q7 < mB wr q6 + mB wr q7) := Lib.hid (by
                rw [HM.out, mB_blk HZ.out.k6, mB_blk HZ.out.k7, cut_sel hn3, cut_sel hm3]
                refine lo_less (fun e => HNS.out ?_)
                have hsm := lo_same e
                rw [Hf.out, Hf'.out, Hh.out, Hh'.out]
                exact ⟨cut3' hsm.1, cut3' hsm.2⟩)
              clear H hL
              go_wp2
              simp only [frmL, Act.put, List.setIfInBounds_toArray, List.set_cons_zero, List.set_cons_succ]
              go_wp2
              go_roundw
              case rel => exact ⟨k + 1, HZ⟩
              case measure => exact HMM.out
  · refine ((pb_false hv) ▸ HC.out).mono ?_
    rintro e w1 ⟨rfl, hb⟩
    have HE := Lib.hid (show LeftX xs ys w (.returned (.tuple #[.slice none 0 0, .slice none 0 0])) w1 from .inl ⟨hv, none, 0, 0, 0, none, 0, 0, 0, rfl, rfl, rfl, OwnI.nil _ _ _ _, OwnI.nil _ _ _ _, below_up HB.out hb, fun h => absurd h (by omega)⟩)
    clear hb HC hv
    go_wp2
    go_ret2
    exact HE.out

end Go.Proofs.Ytbmacoppeidhaaa

/- A table spoiled now and then, beside the box of a game. -/
namespace Go.Proofs.Ytbmacoppeidhaaa
open Go.RowKit

theorem box_ne_box {w : World} {h g : Nat} {t u : TypeId} {cs ds : Array Value} (a : Blk w h t cs) (b : Blk w g u ds) (ne : t ≠ u) : h ≠ g := by
  rintro rfl
  unfold Blk at a b
  rw [a] at b
  injection b with b
  injection b with _ b _
  exact ne b
theorem box_ne_int {w : World} {h b o : Nat} {t : TypeId} {cs : Array Value} {k : IntKind} (a : Blk w h t cs) (hcs : ∀ (k : Nat) (v : Value), cs[k]? = some v → ∀ (kk : IntKind) (x : Int), v ≠ Value.int kk x) (hc : ∃ y, w.cell? ⟨b, o, none⟩ = some (.int k y)) : h ≠ b := by
  rintro rfl
  obtain ⟨y, hc⟩ := hc
  unfold Blk at a
  simp only [World.cell?, a] at hc
  exact hcs o _ hc k y rfl
theorem box_ne_own {w : World} {h base n : Nat} {t e : TypeId} {cs : Array Value} {v : Value} {xs : List Value} (a : Blk w h t cs) (own : w.ownsRow base e 1 v n xs) (ne : t ≠ e) : v.ownBlock ≠ some h := by
  rcases own.2 with ⟨rfl, _⟩ | ⟨g, cap, cur, rfl, _, hg, _⟩
  · simp [Value.ownBlock]
  · intro e1
    have : g = h := by simpa [Value.ownBlock] using e1
    subst this
    unfold Blk at a
    rw [a] at hg
    injection hg with hg
    injection hg with _ hg _
    exact ne hg
def SpoilH (w0 wb : World) (g : Nat) (A : Option Addr) (l c p h : Nat) (cs : Array Value) (e : Ending) (w' : World) : Prop :=
  ∃ v' vs' xss' p', e = .returned v' ∧ Small xss' ∧ TO w0 wb g A l c p' v' vs' xss' w' ∧ p' ≤ p + 2 ∧ Blk w' h 40 cs

set_option maxHeartbeats 1000000 in
theorem spoilH_any (w0 wb w : World) (h : Nat) (cs : Array Value) (g : Nat) (A : Option Addr) (l c p : Nat) (Av : Option Addr) (cv : Nat) (vs : List Value) (xss : List (List Int)) (ht : TO w0 wb g A l c p (.slice Av xss.length cv) vs xss w) (hp : p < 900000000) (hs : Small xss) (h7 : xss.length ≤ 7) (hbx : Blk w h 40 cs) (hcs : ∀ (k : Nat) (v : Value), cs[k]? = some v → ∀ (kk : IntKind) (x : Int), v ≠ Value.int kk x) :
    Calls Try.prog 94 #[.pointer (some ⟨g, 0, none⟩), .slice Av xss.length cv] w (SpoilH w0 wb g A l c p h cs) := by
  have HT := Lib.hid ht
  have HBX := Lib.hid hbx
  have HCS := Lib.hid hcs
  have HNE := Lib.hid (box_ne_box (h := h) (g := g) hbx ht.rd.box (by decide))
  have HC := Lib.hid (pick_any w0 w g A l c p 40 ht.rd (by omega))
  have HS := Lib.hid hs
  clear ht hs hbx hcs
  go_enter Try.func94, Try.ntmps94
  go_wp2_with fail
  refine HC.out.mono ?_
  rintro e w2 ⟨k, rfl, hk1, _, hr, z, hw⟩
  have hone := Rdr.one (g := g) w (.int .i64 (p + 1 : Nat)) z
  rw [← hw] at hone
  obtain ⟨k0, k1⟩ := hk1 (by omega)
  have HT2 := Lib.hid (HT.out.one hr hone)
  have HB2 := Lib.hid (show Blk w2 h 40 cs from (hone.block h HNE.out).trans HBX.out)
  clear hr hone hw hk1 HC HT HBX
  by_cases e0 : k = 0
  · subst e0
    by_cases hx0 : 0 < xss.length
    · obtain ⟨b0, c0, R0, cc0, ev, hb0, hv0, hcell0⟩ := HT2.out.bo.head hx0
      injection ev with ev1 _ ev3
      subst ev1
      subst ev3
      by_cases hx1 : 0 < (gr xss 0).length
      · obtain ⟨b, o, cc, ev, _⟩ := HT2.out.set0 hx0 hx1 (x := 10) (by omega)
        rw [hv0] at ev
        injection ev with ev
        injection ev with ev1 _ ev3
        subst ev1
        subst ev3
        have HTA := Lib.hid ((HT2.out.below (below_alloc w2 (.cells #[iv 10, iv (-10)] 3))).below ((Below.refl _ _).drew))
        have HBA := Lib.hid (show Blk (w2.alloc (.cells #[iv 10, iv (-10)] 3)).drew h 40 cs from blk_below HB2.out (below_alloc w2 (.cells #[iv 10, iv (-10)] 3)).drew)
        have HCA := Lib.hid ((HTA.out.bo.head_at hx0).trans hv0)
        have HIA := Lib.hid (Ints.two w2 10 (-10)).drew
        have hgl := HT2.out.gl
        have hgw := HT2.out.up.size
        go_wp2_with fail
        go_region_held3 (fun W => W.cell? ⟨b0, 0, none⟩ = some (.slice (some ⟨b, o, none⟩) (gr xss 0).length cc0)) (first | exact hcell0 | exact HCA.out | exact HCB.out | exact HCC.out)
          (first
          | (go_at_call 60; refine (one_any w0 _ g A l c (p + 1) _ 2 2 [10, -10] ?_ (by omega) ?_ (by omega) ?_).mono ?_; exact HTA.out.rd; exact HIA.out; (intro b' o' e'; injection e' with e'; injection e' with e1 _ _; omega); rintro e w4 ⟨x, rfl, hx, hr, ho⟩; have HT4 := Lib.hid (HTA.out.one hr ho); have HCB := Lib.hid ((HT4.out.bo.head_at hx0).trans hv0); have hx3 : -1000 ≤ x ∧ x ≤ 1000 := (by simp at hx; omega); obtain ⟨⟨y, hc5⟩, hf5, hT5⟩ := HT4.out.set0_at hx0 hx1 hv0 hx3; have HT5 := Lib.hid hT5; have HBD := Lib.hid (show Blk w4 h 40 cs from (ho.block h HNE.out).trans HBA.out); have HBE := Lib.hid (blk_other HBD.out (p := ⟨b, o, none⟩) (box_ne_int (k := .i64) HBD.out HCS.out ⟨_, hc5⟩) (.int .i64 x)); have HCC := Lib.hid ((HT5.out.bo.head_at (by rw [List.length_set]; exact hx0)).trans hv0); clear hr ho hT5 hx HTA HIA))
        go_wp2
        go_ret
        exact ⟨_, _, _, _, rfl, HS.out.set0 hx0 hx3, HT5.out, by omega, HBE.out⟩
      · go_wp2
        go_ret
        exact ⟨_, _, _, _, rfl, HS.out, HT2.out, by omega, HB2.out⟩
    · go_wp2
      go_ret
      exact ⟨_, _, _, _, rfl, HS.out, HT2.out, by omega, HB2.out⟩
  · by_cases e1 : k = 1
    · subst e1
      have HI := Lib.hid (HT2.out.lit 1)
      have HNO := Lib.hid (box_ne_own HB2.out HT2.out.bo.own (by decide))
      have HBF := Lib.hid (blk_below (blk_below HB2.out (below_alloc w2 (.cells #[iv 1] 3))) (below_alloc _ (.cells #[.slice (some ⟨w2.heap.size, 0, none⟩) 1 1] 23)))
      clear HT2
      have hWs : (w2.alloc (.cells #[iv 1] 3)).heap.size = w2.heap.size + 1 := by simp
      obtain ⟨Ar, nr, cr, gg, e, hn, ho, _⟩ := HI.out.bi.owns (by simp) (fun x hx => by simp at hx; omega)
      injection e with e1 e2 e3
      subst e1
      subst e2
      subst e3
      have HO := Lib.hid ho
      have hb := below_alloc (w2.alloc (.cells #[iv 1] 3)) (.cells #[.slice (some ⟨w2.heap.size, 0, none⟩) 1 1] 23)
      have HB4 := Lib.hid (HI.out.bo.below hb).own
      have HN := Lib.hid (cell_one_new (w2.alloc (.cells #[iv 1] 3)) (.slice (some ⟨w2.heap.size, 0, none⟩) 1 1) 23)
      have hHs := HI.out.hs
      have hlh := HI.out.lh
      clear hb ho hn
      obtain ⟨i0, hi0, hz0, hz1, hz2⟩ := info_parts Try.info_row
      go_wp2_with (at_builtin; refine wpList_append_own_at _ rfl _ _ 22 rfl wb.heap.size 23 i0 (.slice none 0 0) 1 24 Try.underlying22 hi0 hz0 hz1 hz2 rfl (by decide) _ xss.length vs rfl HB4.out ⟨w2.heap.size + 1, 0, none⟩ 1 1 [.slice (some ⟨w2.heap.size, 0, none⟩) 1 1] rfl rfl ?d1 ?d2 ?d3 ?d4 ?d5 ?_)
      case d1 => have := HN.out; rw [hWs] at this; exact this
      case d2 => intro u hu; simp at hu; subst hu; rfl
      case d3 => unfold maxLen; omega
      case d4 => omega
      case d5 => simp; omega
      intro v' w5 hown' hgrow _ hat
      have HT5 := Lib.hid (TI.done (w := w2.alloc (.cells #[iv 1] 3)) (ys := [1]) (xss := xss) (v := .slice Av xss.length cv) (v' := v') (vs := vs) (Ar := some ⟨w2.heap.size, 0, none⟩) (cr := 1) HI.out HO.out hown' hgrow (by simpa using hat))
      have HBG := Lib.hid (show Blk w5 h 40 cs from (hgrow.block h (blk_lt HBF.out) (fun e => HNO.out e.symm)).trans HBF.out)
      clear HB4 HN hown' hgrow hat HI HO
      go_wp2
      go_ret
      exact ⟨_, _, _, _, rfl, HS.out.snoc h7 (by omega), HT5.out, by omega, HBG.out⟩
    · by_cases e2 : k = 2
      · subst e2
        have HF := Lib.hid HT2.out.fresh
        have HBF := Lib.hid (blk_below HB2.out (below_alloc w2 (.cells #[] 23)))
        go_wp2
        go_ret
        exact ⟨_, _, _, _, rfl, Small.nil, HF.out, by omega, HBF.out⟩
      · go_wp2
        go_ret
        exact ⟨_, _, _, _, rfl, HS.out, HT2.out, by omega, HB2.out⟩
end Go.Proofs.Ytbmacoppeidhaaa

/- A game under way: both tables and the box. -/
namespace Go.Proofs.Ytbmacoppeidhaaa
open Go.RowKit

theorem add_at (b o i : Nat) : (⟨b, o, none⟩ : Addr).add i = ⟨b, o + i, none⟩ := by unfold Addr.add; split <;> simp_all
theorem OwnI.mono_lo {lo hi lo' w b A n c xs} (h : OwnI lo hi w b A n c xs) (k : lo' ≤ lo) : OwnI lo' hi w b A n c xs := h.mono k (Nat.le_refl _)
theorem ownsRow_lo {w : World} {base base' : Nat} {e : TypeId} {size n : Nat} {v : Value} {xs : List Value} (h : w.ownsRow base e size v n xs) (k : base' ≤ base) : w.ownsRow base' e size v n xs := by
  obtain ⟨h1, h2⟩ := h
  refine ⟨h1, ?_⟩
  rcases h2 with h2 | ⟨g, cap, cur, rfl, hb, r⟩
  · exact .inl h2
  · exact .inr ⟨g, cap, cur, rfl, Nat.le_trans k hb, r⟩
theorem Bld.mono_lo {lo hi lo' w v vs xss} (h : Bld lo hi w v vs xss) (k : lo' ≤ lo) : Bld lo' hi w v vs xss := by
  obtain ⟨h1, h4, G, R, C, h2, h3⟩ := h
  exact ⟨ownsRow_lo h1 k, h4, G, R, C, fun j hj => ⟨(h2 j hj).1, (h2 j hj).2.1.mono_lo k, (h2 j hj).2.2⟩, h3⟩

/-- A number of a table that append has made is set. -/
theorem Bld.set_at {lo hi w v vs xss} (h : Bld lo hi w v vs xss) {i j : Nat} (h0 : i < xss.length) (h1 : j < (gr xss i).length) {x : Int} (hx : -9223372036854775808 ≤ x ∧ x ≤ 9223372036854775807) :
    ∃ bo c b o cc, v = .slice (some ⟨bo, 0, none⟩) xss.length c ∧ w.cell? ⟨bo, i, none⟩ = some (.slice (some ⟨b, o, none⟩) (gr xss i).length cc) ∧ lo ≤ b ∧ b < hi ∧ (∃ y, w.cell? ⟨b, o + j, none⟩ = some (.int .i64 y)) ∧ w.frozen? ⟨b, o + j, none⟩ = false ∧
      Bld lo hi (w.setCell ⟨b, o + j, none⟩ (.int .i64 x)) v vs (xss.set i ((gr xss i).set j x)) := by
  obtain ⟨ho, h4, G, R, C, h2, h3⟩ := h
  obtain ⟨q0, q1, q2⟩ := h2 i h0
  obtain ⟨o, e, l1, l2, hf⟩ := q1.own (by omega)
  have q1' := q1
  rw [e] at q1' q0
  have hset := q1'.set h1 hx
  obtain ⟨b', o', e', hc⟩ := q1.ints.at_ (by omega)
  rw [e] at e'
  injection e' with e'
  injection e' with e1 e2 _
  have hc0 := hc j h1
  rw [← e1, ← e2] at hc0
  have hlen : ∀ k, (gr (xss.set i ((gr xss i).set j x)) k).length = (gr xss k).length := fun k => by
    by_cases e : k = i
    · subst e; rw [gr_set_eq h0, List.length_set]
    · rw [gr_set_ne e]
  have hv : ∃ bo c, v = .slice (some ⟨bo, 0, none⟩) xss.length c ∧ w.cell? ⟨bo, i, none⟩ = vs[i]? := by
    rcases ho.2 with ⟨_, h5⟩ | ⟨g, cap, cur, rfl, hb, _⟩
    · omega
    · have hcx := ho.cells (g := g) rfl i _ q0
      rw [add_at, Nat.zero_add] at hcx
      exact ⟨g, cap, rfl, by rw [q0]; exact hcx⟩
  obtain ⟨bo, c, ev, hcv⟩ := hv
  refine ⟨bo, c, G i, o, C i, ev, by rw [hcv, q0], l1, l2, ⟨_, hc0⟩, hf j h1, ⟨?_, h4, G, R, C, fun k hk => ?_, fun k l hkl hl hk0 hl0 => ?_⟩⟩
  · rw [List.length_set]
    exact blk_kept ho fun g hg => Below.heap_setCell _ _ _ _ (fun e => q2 (by omega) (by rw [hg, e]))
  · rw [List.length_set] at hk
    rw [hlen]
    obtain ⟨a, b, c⟩ := h2 k hk
    refine ⟨a, ?_, c⟩
    by_cases ek : k = i
    · subst ek
      rw [gr_set_eq h0, e]
      exact hset
    · rw [gr_set_ne ek]
      exact b.of_block fun hp => Below.heap_setCell _ _ _ _ (by
        show G k ≠ G i
        rcases Nat.lt_or_gt_of_ne ek with hl | hl
        · exact h3 k i hl h0 hp (by omega)
        · exact Ne.symm (h3 i k hl hk (by omega) hp))
  · rw [List.length_set] at hl
    rw [hlen] at hk0 hl0
    exact h3 k l hkl hl hk0 hl0
/-- .. and of a table of one's own. -/
theorem OwnR.set_at {lo hi w b A n c xss} (h : OwnR lo hi w b A n c xss) {i j : Nat} (h0 : i < n) (h1 : j < (gr xss i).length) {x : Int} (hx : -9223372036854775808 ≤ x ∧ x ≤ 9223372036854775807) :
    ∃ o g r cc, A = some ⟨b, o, none⟩ ∧ w.cell? ⟨b, o + i, none⟩ = some (.slice (some ⟨g, r, none⟩) (gr xss i).length cc) ∧ lo ≤ g ∧ g < hi ∧ (∃ y, w.cell? ⟨g, r + j, none⟩ = some (.int .i64 y)) ∧ w.frozen? ⟨g, r + j, none⟩ = false ∧
      OwnR lo hi (w.setCell ⟨g, r + j, none⟩ (.int .i64 x)) b A n c (xss.set i ((gr xss i).set j x)) := by
  obtain ⟨o, g, R, cc, e, c1, hI, hset⟩ := h.at_row h0
  obtain ⟨r, e2, l1, l2, hf⟩ := hI.own (by omega)
  subst e2
  obtain ⟨b', o', e', hc⟩ := hI.ints.at_ (by omega)
  injection e' with e'
  injection e' with e3 e4 _
  subst e3
  subst e4
  exact ⟨o, g, r, cc, e, c1, l1, l2, ⟨_, hc j h1⟩, hf j h1, (hset _ _ (by rw [List.length_set]) (hI.set h1 hx) (fun hz => absurd hz (by omega)) ((One.refl g w).set _ _)).1⟩

/-- Rows of as many numbers. -/
structure Shp (n m : Nat) (xss : List (List Int)) : Prop where
  len : xss.length = n
  row : ∀ k, k < n → (gr xss k).length = m
  sm : Small xss
theorem Shp.set {n m xss} (h : Shp n m xss) {i j : Nat} (hi : i < n) {x : Int} (hx : -1000 ≤ x ∧ x ≤ 1000) : Shp n m (xss.set i ((gr xss i).set j x)) := by
  have hl := h.len
  have hm := h.sm.rows _ (gr_mem (xs := xss) (k := i) (by omega))
  refine ⟨by rw [List.length_set]; exact hl, fun k hk => ?_, ⟨by rw [List.length_set]; exact h.sm.n, fun r hr => ?_⟩⟩
  · by_cases e : k = i
    · subst e; rw [gr_set_eq (by omega), List.length_set]; exact h.row k hk
    · rw [gr_set_ne e]; exact h.row k hk
  · rcases List.mem_or_eq_of_mem_set hr with hr | rfl
    · exact h.sm.rows r hr
    · refine ⟨by rw [List.length_set]; exact hm.1, fun y hy => ?_⟩
      rcases List.mem_or_eq_of_mem_set hy with hy | rfl
      · exact hm.2 y hy
      · exact hx

structure GO (w0 w3 : World) (mid g : Nat) (A : Option Addr) (l c p : Nat) (Aa : Option Addr) (na ca ga : Nat) (xa : List (List Int)) (v : Value) (vs : List Value) (xb : List (List Int)) (h : Nat) (w : World) : Prop where
  rd : Rdr w0 w g A l c p
  a : OwnR w3.heap.size mid w ga Aa na ca xa
  b : Bld mid w.heap.size w v vs xb
  gl : g < w3.heap.size
  lm : w3.heap.size ≤ mid
  mw : mid ≤ w.heap.size
  up : w3.grownBy w (some g)
  box : Blk w h 40 #[.slice Aa na ca, v]
theorem box_slices (Aa Bb : Option Addr) (na ca nb cb : Nat) : ∀ (k : Nat) (v : Value), (#[.slice Aa na ca, .slice Bb nb cb] : Array Value)[k]? = some v → ∀ (kk : IntKind) (x : Int), v ≠ Value.int kk x := by
  intro k v h kk x e
  subst e
  match k, h with
  | 0, h => simp at h
  | 1, h => simp at h
  | k + 2, h => simp at h
theorem GO.below {w0 w3 mid g A l c p Aa na ca ga xa v vs xb h w w'} (o : GO w0 w3 mid g A l c p Aa na ca ga xa v vs xb h w) (k : Below w.heap.size w w') : GO w0 w3 mid g A l c p Aa na ca ga xa v vs xb h w' :=
  ⟨o.rd.below_ k, o.a.below k, (o.b.below k).mono k.size, o.gl, o.lm, Nat.le_trans o.mw k.size, grown_below o.up k, blk_below o.box k⟩
theorem GO.one {w0 w3 mid g A l c p p' Aa na ca ga xa v vs xb h w w'} (o : GO w0 w3 mid g A l c p Aa na ca ga xa v vs xb h w) (hr : Rdr w0 w' g A l c p') (ho : One g w w') : GO w0 w3 mid g A l c p' Aa na ca ga xa v vs xb h w' := by
  have hgl := o.gl
  have hlm := o.lm
  have hne : h ≠ g := box_ne_box o.box o.rd.box (by decide)
  exact ⟨hr, o.a.of_blocks fun k h1 _ _ => ho.block k (by omega), by rw [ho.size]; exact o.b.of_blocks fun k h1 _ _ => ho.block k (by omega), o.gl, o.lm, by rw [ho.size]; exact o.mw,
    ⟨ho.os.trans o.up.os, ho.tape.trans o.up.tape, ho.output.trans o.up.output, by rw [ho.size]; exact o.up.size, fun k hk hne' => (ho.block k (fun e => hne' (by rw [e]))).trans (o.up.block k hk hne')⟩, (ho.block h hne).trans o.box⟩
/-- A cell from the third world on is set: what has its memory elsewhere stays. -/
theorem GO.setA {w0 w3 mid g A l c p Aa na ca ga xa Bb nb cb vs xb h w} (o : GO w0 w3 mid g A l c p Aa na ca ga xa (.slice Bb nb cb) vs xb h w) {i j : Nat} (h0 : i < na) (h1 : j < (gr xa i).length) {x : Int} (hx : -1000 ≤ x ∧ x ≤ 1000) :
    ∃ oo gg r cc, Aa = some ⟨ga, oo, none⟩ ∧ w.cell? ⟨ga, oo + i, none⟩ = some (.slice (some ⟨gg, r, none⟩) (gr xa i).length cc) ∧ (∃ y, w.cell? ⟨gg, r + j, none⟩ = some (.int .i64 y)) ∧ w.frozen? ⟨gg, r + j, none⟩ = false ∧
      GO w0 w3 mid g A l c p Aa na ca ga (xa.set i ((gr xa i).set j x)) (.slice Bb nb cb) vs xb h (w.setCell ⟨gg, r + j, none⟩ (.int .i64 x)) := by
  obtain ⟨oo, gg, r, cc, e, c1, l1, l2, hy, hf, hown⟩ := o.a.set_at h0 h1 (x := x) (by omega)
  have hgl := o.gl
  have hlm := o.lm
  have hs : (w.setCell ⟨gg, r + j, none⟩ (.int .i64 x)).heap.size = w.heap.size := by simp [World.setCell]
  have hne : h ≠ gg := box_ne_int (k := .i64) o.box (box_slices _ _ _ _ _ _) hy
  refine ⟨oo, gg, r, cc, e, c1, hy, hf, ⟨⟨blk_other o.rd.box (by show g ≠ gg; omega) _, o.rd.bytes, o.rd.below.setCell (by show w0.heap.size ≤ gg; have := o.rd.lt; omega) _, o.rd.lt, o.rd.small⟩, hown, by rw [hs]; exact o.b.of_blocks fun k h1 _ _ => Below.heap_setCell _ _ _ _ (by show k ≠ gg; omega), o.gl, o.lm, by rw [hs]; exact o.mw, ?_, blk_other o.box hne _⟩⟩
  exact ⟨o.up.os, o.up.tape, o.up.output, by rw [hs]; exact o.up.size, fun k hk hne => (Below.heap_setCell _ _ _ _ (by show k ≠ gg; omega)).trans (o.up.block k hk hne)⟩
theorem GO.setB {w0 w3 mid g A l c p Aa na ca ga xa Bb nb cb vs xb h w} (o : GO w0 w3 mid g A l c p Aa na ca ga xa (.slice Bb nb cb) vs xb h w) {i j : Nat} (h0 : i < xb.length) (h1 : j < (gr xb i).length) {x : Int} (hx : -1000 ≤ x ∧ x ≤ 1000) :
    ∃ bo gg r cc, Bb = some ⟨bo, 0, none⟩ ∧ w.cell? ⟨bo, i, none⟩ = some (.slice (some ⟨gg, r, none⟩) (gr xb i).length cc) ∧ (∃ y, w.cell? ⟨gg, r + j, none⟩ = some (.int .i64 y)) ∧ w.frozen? ⟨gg, r + j, none⟩ = false ∧
      GO w0 w3 mid g A l c p Aa na ca ga xa (.slice Bb nb cb) vs (xb.set i ((gr xb i).set j x)) h (w.setCell ⟨gg, r + j, none⟩ (.int .i64 x)) := by
  obtain ⟨bo, c', gg, r, cc, e, c1, l1, l2, hy, hf, hown⟩ := o.b.set_at h0 h1 (x := x) (by omega)
  have hgl := o.gl
  have hlm := o.lm
  have hs : (w.setCell ⟨gg, r + j, none⟩ (.int .i64 x)).heap.size = w.heap.size := by simp [World.setCell]
  have hne : h ≠ gg := box_ne_int (k := .i64) o.box (box_slices _ _ _ _ _ _) hy
  injection e with e1 _ _
  refine ⟨bo, gg, r, cc, e1, c1, hy, hf, ⟨⟨blk_other o.rd.box (by show g ≠ gg; omega) _, o.rd.bytes, o.rd.below.setCell (by show w0.heap.size ≤ gg; have := o.rd.lt; omega) _, o.rd.lt, o.rd.small⟩, o.a.of_blocks fun k _ h2 _ => Below.heap_setCell _ _ _ _ (by show k ≠ gg; omega), by rw [hs]; exact hown, o.gl, o.lm, by rw [hs]; exact o.mw, ?_, blk_other o.box hne _⟩⟩
  exact ⟨o.up.os, o.up.tape, o.up.output, by rw [hs]; exact o.up.size, fun k hk hne => (Below.heap_setCell _ _ _ _ (by show k ≠ gg; omega)).trans (o.up.block k hk hne)⟩
end Go.Proofs.Ytbmacoppeidhaaa

/- Squares and fields drawn from bytes. -/
namespace Go.Proofs.Ytbmacoppeidhaaa
open Go.RowKit

/-- A number of a drawn table is set. -/
theorem TO.set_at {w0 wb g A l c p v vs xss w} (h : TO w0 wb g A l c p v vs xss w) {i j : Nat} (h0 : i < xss.length) (h1 : j < (gr xss i).length) {x : Int} (hx : -1000 ≤ x ∧ x ≤ 1000) :
    ∃ bo c' b o cc, v = .slice (some ⟨bo, 0, none⟩) xss.length c' ∧ w.cell? ⟨bo, i, none⟩ = some (.slice (some ⟨b, o, none⟩) (gr xss i).length cc) ∧ (∃ y, w.cell? ⟨b, o + j, none⟩ = some (.int .i64 y)) ∧ w.frozen? ⟨b, o + j, none⟩ = false ∧
      TO w0 wb g A l c p v vs (xss.set i ((gr xss i).set j x)) (w.setCell ⟨b, o + j, none⟩ (.int .i64 x)) := by
  obtain ⟨bo, c', b, o, cc, ev, hc, l1, l2, hy, hf, hb⟩ := h.bo.set_at h0 h1 (x := x) (by omega)
  have hgl := h.gl
  have hs : (w.setCell ⟨b, o + j, none⟩ (.int .i64 x)).heap.size = w.heap.size := by simp [World.setCell]
  refine ⟨bo, c', b, o, cc, ev, hc, hy, hf, ⟨⟨blk_other h.rd.box (by show g ≠ b; omega) _, h.rd.bytes, h.rd.below.setCell (by show w0.heap.size ≤ b; have := h.rd.lt; omega) _, h.rd.lt, h.rd.small⟩, by rw [hs]; exact hb, h.gl, ?_⟩⟩
  exact ⟨h.up.os, h.up.tape, h.up.output, by rw [hs]; exact h.up.size, fun k hk hne => (Below.heap_setCell _ _ _ _ (by show k ≠ b; omega)).trans (h.up.block k hk hne)⟩
/-- .. and read. -/
theorem TO.get_at {w0 wb g A l c p bo c' vs xss w} (h : TO w0 wb g A l c p (.slice (some ⟨bo, 0, none⟩) xss.length c') vs xss w) {i j : Nat} (h0 : i < xss.length) (h1 : j < (gr xss i).length) :
    ∃ b o cc, w.cell? ⟨bo, i, none⟩ = some (.slice (some ⟨b, o, none⟩) (gr xss i).length cc) ∧ w.cell? ⟨b, o + j, none⟩ = some (.int .i64 (g2 xss i j)) := by
  obtain ⟨ho, h4, G, R, C, h2, h3⟩ := h.bo
  obtain ⟨q0, q1, q2⟩ := h2 i h0
  have hcx := ho.cells (g := bo) rfl i _ q0
  rw [add_at, Nat.zero_add] at hcx
  obtain ⟨b, o, e, hc⟩ := q1.ints.at_ (by omega)
  rw [e] at hcx
  exact ⟨b, o, C i, hcx, hc j h1⟩
theorem g2_small {xss : List (List Int)} (h : Small xss) {i j : Nat} (h0 : i < xss.length) (h1 : j < (gr xss i).length) : -1000 ≤ g2 xss i j ∧ g2 xss i j ≤ 1000 :=
  (h.rows _ (gr_mem h0)).2 _ (gi_mem h1)
theorem TO.qu {w0 wb g A l c p v vs xss w w'} (h : TO w0 wb g A l c p v vs xss w) (k : Quiet w w') : TO w0 wb g A l c p v vs xss w' := h.below k.below
theorem Shp.of {n m : Nat} {lo hi : Int} {xss : List (List Int)} (hl : xss.length = n) (h : ∀ r ∈ xss, RowIn m lo hi r) (hn : n ≤ 4) (hm : m ≤ 4) (h1 : -1000 ≤ lo) (h2 : hi ≤ 1000) : Shp n m xss :=
  ⟨hl, fun k hk => (h _ (gr_mem (by omega))).1, ⟨by omega, fun r hr => ⟨by have := (h r hr).1; omega, fun y hy => by have := (h r hr).2 y hy; omega⟩⟩⟩

set_option maxRecDepth 100000 in
set_option maxHeartbeats 3200000 in
theorem someSquare_any (w0 w : World) (g : Nat) (A : Option Addr) (l c p : Nat) (h : Rdr w0 w g A l c p) (hp : p < 800000000) :
    Calls Try.prog 59 #[.pointer (some ⟨g, 0, none⟩)] w (SomeT w0 g A l c p w) := by
  have HR := Lib.hid h
  have H1 := Lib.hid (one_lit w0 w _ g A l c (p) w.heap.size 5 [2, 3, 3, 2, 1] h (by omega) (below_alloc w (.cells #[iv 2, iv 3, iv 3, iv 2, iv 1] 3)) (Nat.le_refl _) (Ints.lit w [2, 3, 3, 2, 1] (by decide) (by decide)) (by omega))
  clear h
  go_enter Try.func59, Try.ntmps59
  go_wp2_with fail
  refine H1.out.mono ?_
  rintro e w1 ⟨n, rfl, hx, hr, hgr⟩
  have hn1 : 1 ≤ n ∧ n ≤ 3 := by simp at hx; omega
  have HG1 := Lib.hid hgr
  have H2 := Lib.hid (one_lit w0 w1 _ g A l c (p + 1) w1.heap.size 3 [3, 9, 1] hr (by omega) (below_alloc w1 (.cells #[iv 3, iv 9, iv 1] 3)) (Nat.le_refl _) (Ints.lit w1 [3, 9, 1] (by decide) (by decide)) (by omega))
  clear hx hr hgr H1 HR
  go_wp2_with fail
  refine H2.out.mono ?_
  rintro e w2 ⟨x, rfl, hx, hr, hgr⟩
  have hx1 : 1 ≤ x ∧ x ≤ 9 := by simp at hx; omega
  have HG2 := Lib.hid (grown_trans HG1.out hgr)
  obtain ⟨n, rfl⟩ := Int.eq_ofNat_of_zero_le (show 0 ≤ n by omega)
  have hn3 : n ≤ 3 := by omega
  have hn0 : 1 ≤ n := by omega
  have H4 := Lib.hid (tableOf_any w0 w2 g A l c (p + 2) n n (-x) x hr (by omega) (by omega) (by omega) (by omega) (by omega) (by omega))
  clear hx hr hgr H2 HG1 hn1
  go_wp2_with fail
  refine H4.out.mono ?_
  rintro e w4 ⟨Av, cv, vs, xss, p4, rfl, hl, hxs, hto, hp4⟩
  have HTO := Lib.hid hto
  have HSP := Lib.hid (Shp.of hl hxs (by omega) (by omega) (by omega) (by omega))
  have H5 := Lib.hid (pick_any w0 w4 g A l c p4 4 hto.rd (by omega))
  clear hxs hto H4 hl
  go_wp2_with fail
  refine H5.out.mono ?_
  rintro e w5 ⟨k, rfl, hk1, _, hr, z, hw⟩
  have hone := Rdr.one (g := g) w4 (.int .i64 (p4 + 1 : Nat)) z
  rw [← hw] at hone
  have HT5 := Lib.hid (HTO.out.one hr hone)
  clear hr hone hw hk1 H5 HTO
  by_cases e0 : k = 0
  · subst e0
    have HL0 := Lib.hid (show ∃ zs, Shp n n zs ∧ TO w0 w2 g A l c (p4 + 1) (.slice Av n cv) vs zs w5 from ⟨xss, HSP.out, HT5.out⟩)
    clear HSP HT5
    go_wp2
    go_loopw [6] (fun i_ wr => ∃ i : Nat, i ≤ n ∧ i_ = .int .i64 i ∧ Hid (∃ zs, Shp n n zs ∧ TO w0 w2 g A l c (p4 + 1) (.slice Av n cv) vs zs wr)) (fun i_ _ => n - (intOf i_).toNat)
    case atStart => exact ⟨0, Nat.zero_le _, rfl, HL0⟩
    case round =>
      clear HL0
      obtain ⟨i, hi, rfl, HL⟩ := hrel
      by_cases hlt : i < n
      · go_wp2
        go_loopw [7] (fun j_ wi => ∃ j : Nat, j ≤ i ∧ j_ = .int .i64 j ∧ Hid (∃ zs, Shp n n zs ∧ TO w0 w2 g A l c (p4 + 1) (.slice Av n cv) vs zs wi)) (fun j_ _ => i - (intOf j_).toNat)
        case atStart => exact ⟨0, Nat.zero_le _, rfl, HL⟩
        case round =>
          clear HL
          obtain ⟨j, hj, rfl, HL⟩ := hrel
          by_cases hjl : j < i
          · obtain ⟨xs, hsp, hto⟩ := HL.out
            have HSX := Lib.hid hsp
            have hlen := hsp.len
            have hri := hsp.row i hlt
            have hrj := hsp.row j (by omega)
            have hv := g2_small hsp.sm (i := j) (j := i) (by omega) (by omega)
            obtain ⟨bo, c', b, o, cc, ev, q1, ⟨y, q2⟩, q3, hts⟩ := hto.set_at (i := i) (j := j) (by omega) (by omega) hv
            injection ev with ev1 ev2 ev3
            subst ev1
            subst ev3
            clear ev2
            have hto' := hto
            rw [← hlen] at hto'
            obtain ⟨b2, o2, cc2, q4, q5⟩ := hto'.get_at (i := j) (j := i) (by omega) (by omega)
            rw [hri] at q1
            rw [hrj] at q4
            have HN := Lib.hid (show ∃ zs, Shp n n zs ∧ TO w0 w2 g A l c (p4 + 1) (.slice (some ⟨bo, 0, none⟩) n cv) vs zs (wr.setCell ⟨b, o + j, none⟩ (.int .i64 (g2 xs j i))) from ⟨_, hsp.set hlt hv, hts⟩)
            have hjn : j < n := by omega
            clear hsp hto hto' hlen hri hrj hv hts HL
            generalize g2 xs j i = x0 at *
            go_wp2
            go_region
            all_goals
              clear q1 q2 q3 q4 q5
              go_wp2
              go_roundw
              case rel => exact ⟨j + 1, by omega, by go_num, Lib.hid (by obtain ⟨xs', h1, h2⟩ := HN.out; exact ⟨xs', h1, by first | exact h2 | exact h2.qu ⟨1, rfl⟩ | exact h2.qu ⟨_, rfl⟩⟩)⟩
              case measure => simp [intOf]; omega
          · obtain rfl : j = i := by omega
            go_wp2
            go_roundw
            case rel => exact ⟨j + 1, by omega, by go_num, HL⟩
            case measure => simp [intOf]; omega
      · obtain rfl : i = n := by omega
        obtain ⟨xs, hsp, hto⟩ := HL.out
        have HSX := Lib.hid hsp
        have HTX := Lib.hid hto
        clear hsp hto HL
        generalize wr = w6 at *
        have H6 := Lib.hid (spoil_any w0 w2 w6 g A l c (p4 + 1) _ _ _ _ (by rw [HSX.out.len]; exact HTX.out) (by omega) HSX.out.sm (by have := HSX.out.len; omega))
        rw [HSX.out.len] at H6
        go_wp2_with fail
        refine H6.out.mono ?_
        rintro e w9 ⟨v', vs', xss', p', rfl, hs, hto, hp5⟩
        have HTO := Lib.hid hto
        have HSM2 := Lib.hid hs
        clear hs hto H6
        go_wp2
        go_ret
        exact ⟨_, _, _, _, _, rfl, HSM2.out, HTO.out, by omega, HG2.out⟩
  · have e0' : (k == 0) = false := by simpa using e0
    have H6 := Lib.hid (spoil_any w0 w2 w5 g A l c (p4 + 1) _ _ _ _ (by rw [HSP.out.len]; exact HT5.out) (by omega) HSP.out.sm (by have := HSP.out.len; omega))
    rw [HSP.out.len] at H6
    go_wp2_with fail
    refine H6.out.mono ?_
    rintro e w9 ⟨v', vs', xss', p', rfl, hs, hto, hp5⟩
    have HTO := Lib.hid hto
    have HSM2 := Lib.hid hs
    clear hs hto H6
    go_wp2
    go_ret
    exact ⟨_, _, _, _, _, rfl, HSM2.out, HTO.out, by omega, HG2.out⟩

end Go.Proofs.Ytbmacoppeidhaaa

/- A row under way: its numbers may be set; shares drawn. -/
namespace Go.Proofs.Ytbmacoppeidhaaa
open Go.RowKit

theorem BldI.set {lo hi w v xs} (h : BldI lo hi w v xs) {j : Nat} (hj : j < xs.length) (x : Int) :
    ∃ b c, v = .slice (some ⟨b, 0, none⟩) xs.length c ∧ lo ≤ b ∧ b < hi ∧ w.cell? ⟨b, j, none⟩ = some (.int .i64 (gi xs j)) ∧ w.frozen? ⟨b, j, none⟩ = false ∧
      BldI lo hi (w.setCell ⟨b, j, none⟩ (.int .i64 x)) v (xs.set j x) := by
  have hh := h.hi_
  rcases h.own.2 with ⟨_, h0⟩ | ⟨g, cap, cur, rfl, hb, hg, hnc, hcm, hcs, htake⟩
  · omega
  · rw [Nat.mul_one] at htake hcs
    have hB : Blk w g 3 cur := hg
    have hc : cur[j]? = some (.int .i64 (gi xs j)) := by
      rw [← getElem_iv hj, ← htake, List.getElem?_take, if_pos hj]; simp
    refine ⟨g, cap, rfl, hb, hh g rfl, blk_cell hB hc, blk_frozen hB j, ⟨⟨by simp, .inr ⟨g, cap, cur.setIfInBounds j (.int .i64 x), by rw [List.length_set], hb, blk_set hB j _, by rw [List.length_set]; exact hnc, hcm, by simp [hcs], ?_⟩⟩, hh⟩⟩
    rw [List.length_set, Nat.mul_one, Array.toList_setIfInBounds, List.take_set, htake, List.map_set]
    rfl

/-- A row by itself, begun behind the world wb. -/
def SH (w0 wb : World) (g : Nat) (A : Option Addr) (l c p : Nat) (u : Value) (ys : List Int) (w : World) : Prop := TI w0 wb g A l c p wb.heap.size (.slice none 0 0) [] [] u ys w
theorem SH.start {w0 wb g A l c p} (h : Rdr w0 wb g A l c p) : SH w0 wb g A l c p (.slice (some ⟨wb.heap.size, 0, none⟩) 0 0) [] (wb.alloc (.cells #[] 3)) :=
  ⟨h.below_ (below_alloc _ _), Bld.nil _ _ _, by rw [World.size_alloc]; exact BldI.make (Nat.le_refl _), blk_lt h.box, Nat.le_refl _, by simp, grown_of_below (below_alloc _ _)⟩
theorem SH.below {w0 wb g A l c p u ys w w'} (h : SH w0 wb g A l c p u ys w) (k : Below w.heap.size w w') : SH w0 wb g A l c p u ys w' :=
  ⟨h.rd.below_ k, Bld.nil _ _ _, (h.bi.below k).mono k.size, h.gl, h.lh, Nat.le_trans h.hs k.size, grown_below h.up k⟩
theorem SH.one {w0 wb g A l c p p' u ys w w'} (h : SH w0 wb g A l c p u ys w) (hr : Rdr w0 w' g A l c p') (ho : One g w w') : SH w0 wb g A l c p' u ys w' := TI.one h hr ho
theorem SH.set {w0 wb g A l c p u ys w} (h : SH w0 wb g A l c p u ys w) {j : Nat} (hj : j < ys.length) (x : Int) :
    ∃ b cc, u = .slice (some ⟨b, 0, none⟩) ys.length cc ∧ w.cell? ⟨b, j, none⟩ = some (.int .i64 (gi ys j)) ∧ w.frozen? ⟨b, j, none⟩ = false ∧ SH w0 wb g A l c p u (ys.set j x) (w.setCell ⟨b, j, none⟩ (.int .i64 x)) := by
  obtain ⟨b, cc, e, h1, h2, h3, h4, h5⟩ := h.bi.set hj x
  have hgl := h.gl
  have hs : (w.setCell ⟨b, j, none⟩ (.int .i64 x)).heap.size = w.heap.size := by simp [World.setCell]
  refine ⟨b, cc, e, h3, h4, ⟨⟨blk_other h.rd.box (by show g ≠ b; omega) _, h.rd.bytes, h.rd.below.setCell (by show w0.heap.size ≤ b; have := h.rd.lt; omega) _, h.rd.lt, h.rd.small⟩, Bld.nil _ _ _, by rw [hs]; exact h5, h.gl, h.lh, by rw [hs]; exact h.hs, ?_⟩⟩
  exact ⟨h.up.os, h.up.tape, h.up.output, by rw [hs]; exact h.up.size, fun k hk hne => (Below.heap_setCell _ _ _ _ (by show k ≠ b; omega)).trans (h.up.block k hk hne)⟩
def SharesOut (w0 wb : World) (g : Nat) (A : Option Addr) (l c p n : Nat) (e : Ending) (w' : World) : Prop :=
  ∃ Av cv ys p', e = .returned (.slice Av ys.length cv) ∧ ys.length ≤ n + 1 ∧ (∀ x ∈ ys, -1 ≤ x ∧ x ≤ 1001) ∧ SH w0 wb g A l c p' (.slice Av ys.length cv) ys w' ∧ p' ≤ p + 3 * n + 3

end Go.Proofs.Ytbmacoppeidhaaa

/- Best shares by a part of a table, by the model. -/
namespace Go.Proofs.Ytbmacoppeidhaaa
open Go.RowKit
open V (sumN detN rowC colC cofN minorN skip sgn Asc Kern)

/-- Shares by a part, and that they are best; or that there are none. -/
def NewK (w : World) (a : List (List Int)) (k : Nat) (r s : Nat → Nat) (e : Ending) (w' : World) : Prop :=
  (KerP a k r s ∧ ∃ A1 c1 A2 c2, e = .returned (.tuple #[.slice A1 a.length c1, .slice A2 (gr a 0).length c2, .bool true]) ∧ Ints w' A1 a.length c1 (shr a.length r (kX a r s k) k) ∧
    Ints w' A2 (gr a 0).length c2 (shr (gr a 0).length s (kY a r s k) k) ∧ Below w.heap.size w w') ∨
  (¬ KerP a k r s ∧ ∃ v1 v2, e = .returned (.tuple #[v1, v2, .bool false]) ∧ Below w.heap.size w w')
theorem flip_tr {xss : List (List Int)} {k : Nat} {f : Nat → Nat → Int} (h : Sq k xss f) : Sq k (flip xss k k) (trN f) :=
  ⟨flip_len _ _ _, fun p hp => by rw [gr_flip hp]; simp, fun p q hp hq => by
    unfold g2; rw [gr_flip hp, gi_col hq]; exact h.eq q p hq hp⟩
theorem Pl.keep {w w' : World} {X k c r n} (h : Pl w X k c r n) (q : Keep w w') : Pl w' X k c r n := ⟨h.ints.keep q, h.lt⟩

/-- What cleared answers, with its flag as a letter. -/
def ClrV (w' : World) (xs : List Int) (ok : Bool) (v : Value) : Prop :=
  (ok = true ∧ ClrP xs ∧ ∃ A c, v = .slice A xs.length c ∧ Ints w' A xs.length c (clrL xs (gcdL xs xs.length) xs.length)) ∨ (ok = false ∧ ¬ ClrP xs)
theorem NewC.uni {w w' : World} {xs : List Int} {e : Ending} (h : NewC w xs e w') : ∃ ok v, e = .returned (.tuple #[v, .bool ok]) ∧ Below w.heap.size w w' ∧ ClrV w' xs ok v := by
  rcases h with ⟨h1, A, n, c, g, rfl, rfl, ho, hb⟩ | ⟨h1, rfl, hb⟩
  · exact ⟨true, _, rfl, hb, .inl ⟨rfl, h1, A, c, rfl, ho.ints⟩⟩
  · exact ⟨false, _, rfl, hb, .inr ⟨rfl, h1⟩⟩
theorem ClrV.keep {w' w2 : World} {xs : List Int} {ok : Bool} {v : Value} (h : ClrV w' xs ok v) (k : Keep w' w2) : ClrV w2 xs ok v := by
  rcases h with ⟨h1, h2, A, c, h3, h4⟩ | h
  · exact .inl ⟨h1, h2, A, c, h3, h4.keep k⟩
  · exact .inr h
theorem mid_of {x : Int} (h : -648 ≤ x ∧ x ≤ 648) : Mid x := by unfold Mid; omega

end Go.Proofs.Ytbmacoppeidhaaa

/- The value's shares, by the model. -/
namespace Go.Proofs.Ytbmacoppeidhaaa
open Go.RowKit
open V (Asc)

/-- The best shares of a table. -/
def NewV (w : World) (a : List (List Int)) (e : Ending) (w' : World) : Prop :=
  ∃ A1 c1 A2 c2, e = .returned (.tuple #[.slice A1 a.length c1, .slice A2 (gr a 0).length c2]) ∧ Ints w' A1 a.length c1 (bx a) ∧ Ints w' A2 (gr a 0).length c2 (by_ a) ∧ Below w.heap.size w w'
theorem NewK.no {w w' : World} {a : List (List Int)} {k : Nat} {r s : Nat → Nat} {e : Ending} (h : NewK w a k r s e w') (hn : ¬ KerP a k r s) : ∃ v1 v2, e = .returned (.tuple #[v1, v2, .bool false]) ∧ Below w.heap.size w w' := by
  rcases h with ⟨h1, _⟩ | ⟨_, h⟩
  · exact absurd h1 hn
  · exact h
theorem NewK.yes {w w' : World} {a : List (List Int)} {k : Nat} {r s : Nat → Nat} {e : Ending} (h : NewK w a k r s e w') (hn : KerP a k r s) :
    ∃ A1 c1 A2 c2, e = .returned (.tuple #[.slice A1 a.length c1, .slice A2 (gr a 0).length c2, .bool true]) ∧ Ints w' A1 a.length c1 (shr a.length r (kX a r s k) k) ∧
      Ints w' A2 (gr a 0).length c2 (shr (gr a 0).length s (kY a r s k) k) ∧ Below w.heap.size w w' := by
  rcases h with ⟨_, h⟩ | ⟨h1, _⟩
  · exact h
  · exact absurd hn h1
theorem memL_pl {w : World} {A : Option Addr} {n c S m : Nat} (h : Ints w A n c (memL S m)) (e : n = (memL S m).length) : Pl w A n c (idx S m) m := by
  subst e
  exact ⟨by rw [← memL_idx]; exact h, (idx_asc S m).1⟩

end Go.Proofs.Ytbmacoppeidhaaa

/- A table and shares, drawn from bytes. -/
namespace Go.Proofs.Ytbmacoppeidhaaa
open Go.RowKit

theorem OwnR.grown {lo hi w w' b A n c xss} {g : Nat} (h : OwnR lo hi w b A n c xss) (k : w.grownBy w' (some g)) (hg : g < lo) : OwnR lo hi w' b A n c xss :=
  h.of_blocks fun i h1 _ h3 => k.block i h3 (fun e => by injection e with e; omega)
theorem OwnI.grown {lo hi w w' b A n c xs} {g : Nat} (h : OwnI lo hi w b A n c xs) (k : w.grownBy w' (some g)) (hg : g < lo) : OwnI lo hi w' b A n c xs :=
  h.of_block fun hn => k.block _ (h.lt hn) (fun e => by obtain ⟨_, _, q, _⟩ := h.own hn; injection e with e; omega)
theorem Picked.one {w0 g A l c p n w e w'} (h : Picked w0 g A l c p n w e w') : ∃ m : Int, e = .returned (.int .i64 m) ∧ (1 ≤ n → 0 ≤ m ∧ m < n) ∧ Rdr w0 w' g A l c (p + 1) ∧ w.grownBy w' (some g) := by
  obtain ⟨m, h1, h2, _, h4, q, rfl⟩ := h
  exact ⟨m, h1, h2, h4, ⟨rfl, rfl, rfl, by simp [World.setCell], fun k _ hne => Below.heap_setCell _ _ _ _ (fun e => hne (by rw [e]))⟩⟩

/-- A table and shares. -/
def DrawnTS (w : World) (e : Ending) (w' : World) : Prop :=
  ∃ Av n c gg xss Bv m cb ys, e = .returned (.tuple #[.slice Av n c, .slice Bv m cb]) ∧ Small xss ∧ OwnR w.heap.size w'.heap.size w' gg Av n c xss ∧ Ints w' Bv m cb ys ∧ Below w.heap.size w w'
/-- A table and shares of both players. -/
def DrawnTSS (w : World) (e : Ending) (w' : World) : Prop :=
  ∃ Av n c gg xss Bv m cb xs Cv l cc ys, e = .returned (.tuple #[.slice Av n c, .slice Bv m cb, .slice Cv l cc]) ∧ Small xss ∧ OwnR w.heap.size w'.heap.size w' gg Av n c xss ∧ Ints w' Bv m cb xs ∧ Ints w' Cv l cc ys ∧ Below w.heap.size w w'

end Go.Proofs.Ytbmacoppeidhaaa

/- A square and a ring drawn. -/
namespace Go.Proofs.Ytbmacoppeidhaaa
open Go.RowKit

theorem SH.ints2 {w0 wb g A l c p u ys w} (h : SH w0 wb g A l c p u ys w) (hl : ys.length ≤ 100) (hb : ∀ x ∈ ys, -1000000 ≤ x ∧ x ≤ 1000000) : ∃ Av cv, u = .slice Av ys.length cv ∧ Ints w Av ys.length cv ys := by
  obtain ⟨Av, n, cv, b, rfl, rfl, ho, _⟩ := h.bi.owns (by omega) (fun x hx => by have := hb x hx; omega)
  exact ⟨Av, cv, rfl, ho.ints⟩
set_option maxRecDepth 100000 in
set_option maxHeartbeats 2000000 in
theorem DrawCopyRing_any (A : Option Addr) (n c : Nat) (w : World) (h : Bytes w A n c) :
    Calls Try.prog 24 #[.slice A n c] w (DrawnTS w) := by
  have H0 := Lib.hid (newReader_any A n c w h)
  clear h
  obtain ⟨i0, hi0, hz0, hz1, hz2⟩ := info_parts Try.info_int
  go_enter Try.func24, Try.ntmps24
  go_wp2_with fail
  refine H0.out.mono ?_
  rintro e w1 ⟨A1, l, c1, rfl, hl, hr, hs⟩
  have H1 := Lib.hid (someSquare_any w w1 w.heap.size A1 l c1 0 hr (by omega))
  clear hr hl H0
  go_wp2_with fail
  refine H1.out.mono ?_
  rintro e w2 ⟨wb, v', vs', xss', p', rfl, hsm, hto, hp, hg⟩
  have hsz := hg.size
  obtain ⟨Av, nv, cv, gg, rfl, hnv, hown⟩ := hto.bo.owns (by have := hsm.n; omega)
  have HO := Lib.hid (hown.mono (show w.heap.size + 1 ≤ wb.heap.size by have := hto.gl; omega) (Nat.le_refl _))
  have HS := Lib.hid hsm
  have hn8 : nv ≤ 8 := by rw [hnv]; exact hsm.n
  have HS0 := Lib.hid (SH.start hto.rd)
  have HS1 := Lib.hid (HS0.out.below (below_alloc _ (.cells #[iv 5, iv 6, iv 4, iv 3, iv 8, iv 7, iv 2, iv 9] 3)))
  have hgw : w.heap.size < (w2.alloc (.cells #[] 3)).heap.size := blk_lt HS0.out.rd.box
  have HIN := Lib.hid (Ints.lit (w2.alloc (.cells #[] 3)) [5, 6, 4, 3, 8, 7, 2, 9] (by simp) (by intro x hx; simp at hx; omega))
  have hsa : (w2.alloc (.cells #[] 3)).heap.size = w2.heap.size + 1 := World.size_alloc _ _
  rw [hsa] at HIN
  have HC := Lib.hid (one_any w ((w2.alloc (.cells #[] 3)).alloc (.cells #[iv 5, iv 6, iv 4, iv 3, iv 8, iv 7, iv 2, iv 9] 3)) w.heap.size A1 l c1 p' _ 8 8 [5, 6, 4, 3, 8, 7, 2, 9] HS1.out.rd (by omega) HIN.out (by omega) (fun b' o' e' => by injection e' with e'; injection e' with e' _ _; omega))
  clear hsm hto hown hg H1 hnv HS0 HIN
  go_wp2_with fail
  refine HC.out.mono ?_
  rintro e w3 ⟨K, rfl, hx, hr, ho⟩
  have HS2 := Lib.hid (HS1.out.one hr ho)
  obtain ⟨k, rfl, hk9, hk1⟩ : ∃ k : Nat, K = (k : Int) ∧ k ≤ 9 ∧ 1 ≤ k := ⟨K.toNat, by simp at hx; omega⟩
  clear hx hr ho HC HS1 hgw hsa
  go_wp2
  go_loopw [6] (fun u wr => ∃ (ys : List Int) (q : Nat), ys.length ≤ k ∧ q ≤ p' + 1 + ys.length ∧ Hid (∀ x ∈ ys, 0 ≤ x ∧ x ≤ 8) ∧ Hid (SH w w2 w.heap.size A1 l c1 q u ys wr)) (fun u _ => k - (match u with | .slice _ k _ => k | _ => 0))
  case atStart => exact ⟨[], p' + 1, Nat.zero_le _, by simp, Lib.hid (by simp), HS2⟩
  case round =>
    clear HS2
    obtain ⟨ys, q, hyn, hq, HR, HI⟩ := hrel
    obtain ⟨Au, cu, rfl⟩ := HI.out.bi.form
    by_cases hlt : ys.length < k
    · have HC := Lib.hid (pick_any w _ w.heap.size A1 l c1 q nv HI.out.rd (by omega))
      go_wp2_with fail
      refine HC.out.mono ?_
      rintro e w4 ⟨x, rfl, hx1, hx2, hr, z, hw⟩
      have hone := Rdr.one (g := w.heap.size) wr (.int .i64 (q + 1 : Nat)) z
      rw [← hw] at hone
      have hx : 0 ≤ x ∧ x ≤ 8 := by
        by_cases h0 : 1 ≤ (nv : Int)
        · have := hx1 h0; omega
        · have := hx2 (by omega); omega
      have HX := Lib.hid hx
      have HI5 := Lib.hid (HI.out.one hr hone)
      clear hr hone hw hx1 hx2 hx HC HI
      have hb := below_alloc w4 (.cells #[iv x] 3)
      have HB4 := Lib.hid (HI5.out.bi.below hb).own
      have HN := Lib.hid (cell_one_new w4 (iv x) 3)
      have hHs := HI5.out.hs
      clear hb
      go_wp2_with (at_builtin; refine wpList_append_own_at _ rfl _ _ 23 rfl w2.heap.size 3 i0 (.int .i64 0) 1 8 Try.underlying23 hi0 hz0 hz1 hz2 rfl (by decide) _ ys.length (ys.map iv) rfl HB4.out ⟨w4.heap.size, 0, none⟩ 1 1 [iv x] rfl rfl ?c1 ?c2 ?c3 ?c4 ?c5 ?_)
      case c1 => exact HN.out
      case c2 => intro u hu; simp at hu; subst hu; rfl
      case c3 => unfold maxLen; omega
      case c4 => omega
      case c5 => simp; omega
      intro v' w5 hown' hgrow _ hat
      have HI6 := Lib.hid (show SH w w2 w.heap.size A1 l c1 (q + 1) v' (ys ++ [x]) w5 from TI.push HI5.out hown' hgrow (by simpa using hat))
      clear HB4 HN hown' hgrow hat HI5
      obtain ⟨Au2, cu2, rfl⟩ := HI6.out.bi.form
      go_wp2
      go_roundw
      case rel => exact ⟨ys ++ [x], q + 1, by simp; omega, by simp; omega, Lib.hid (fun y hy => by
        rcases List.mem_append.1 hy with hy | hy
        · exact HR.out y hy
        · simp at hy; subst hy; exact HX.out), HI6⟩
      case measure => simp; omega
    · have hnx : ys.length = k := by omega
      have HC := Lib.hid (pick_any w _ w.heap.size A1 l c1 q 30 HI.out.rd (by omega))
      go_wp2_with fail
      refine HC.out.mono ?_
      rintro e w4 ⟨m, rfl, hx1, hx2, hr, z, hw⟩
      have hone := Rdr.one (g := w.heap.size) wr (.int .i64 (q + 1 : Nat)) z
      rw [← hw] at hone
      have HI5 := Lib.hid (HI.out.one hr hone)
      clear hr hone hw hx1 hx2 HC HI
      by_cases h0 : m = 0
      · have hz : (m == 0) = true := by simpa using h0
        clear h0
        have HI4 := Lib.hid (HI5.out.below (below_alloc w4 (.cells #[iv (-1), iv 3] 3)))
        have HIN := Lib.hid (Ints.lit w4 [-1, 3] (by simp) (by intro x hx; simp at hx; omega))
        have hgw : w.heap.size < w4.heap.size := blk_lt HI5.out.rd.box
        have HC := Lib.hid (one_any w (w4.alloc (.cells #[iv (-1), iv 3] 3)) w.heap.size A1 l c1 (q + 1) _ 2 2 [-1, 3] HI4.out.rd (by omega) HIN.out (by omega) (fun b' o' e' => by injection e' with e'; injection e' with e' _ _; omega))
        clear HIN HI5
        go_wp2_with fail
        refine HC.out.mono ?_
        rintro e w5 ⟨x, rfl, hx, hr, ho⟩
        have hx5 : -1 ≤ x ∧ x ≤ 3 := by simp at hx; omega
        have HI6 := Lib.hid (HI4.out.one hr ho)
        clear hx hr ho HC HI4
        obtain ⟨b0, cc0, e, hc0, hf0, hset⟩ := HI6.out.set (j := 0) (by omega) x
        injection e with e1 e2 e3
        subst e1
        have HI7 := Lib.hid hset
        have HE := Lib.hid (show ∃ e', e' = (Value.slice (some ⟨b0, 0, none⟩) ys.length cu) ∧ DrawnTS w (.returned (.tuple #[.slice Av nv cv, e'])) (w5.setCell ⟨b0, 0, none⟩ (.int .i64 x)) from by
          obtain ⟨Bv, cb, e, hi⟩ := HI7.out.ints2 (by rw [List.length_set]; omega) (fun y hy => by
            rcases List.mem_or_eq_of_mem_set hy with hy | rfl
            · have := HR.out y hy; omega
            · omega)
          rw [List.length_set] at e hi
          injection e with e1 e2 e3
          subst e1
          subst e3
          exact ⟨_, rfl, Av, nv, cv, gg, xss', _, _, _, _, rfl, HS.out, (HO.out.grown HI7.out.up (by omega)).mono (Nat.le_succ _) HI7.out.up.size, hi, HI7.out.rd.below⟩)
        rw [hnx] at HE
        clear hset HI6 e2 e3
        go_wp2
        go_ret2
        obtain ⟨_, rfl, h⟩ := HE.out
        exact h
      · have hz : (m == 0) = false := by simpa using h0
        clear h0
        have HE := Lib.hid (show DrawnTS w (.returned (.tuple #[.slice Av nv cv, .slice Au ys.length cu])) w4 from by
          obtain ⟨Bv, cb, e, hi⟩ := HI5.out.ints2 (by omega) (fun y hy => by have := HR.out y hy; omega)
          injection e with e1 e2 e3
          subst e1
          subst e3
          exact ⟨Av, nv, cv, gg, xss', _, _, _, _, rfl, HS.out, (HO.out.grown HI5.out.up (by omega)).mono (Nat.le_succ _) HI5.out.up.size, hi, HI5.out.rd.below⟩)
        rw [hnx] at HE
        clear HI5
        go_wp2
        go_ret2
        exact HE.out
end Go.Proofs.Ytbmacoppeidhaaa

/- A ring turned by one place; a ring of one strategy. -/
namespace Go.Proofs.Ytbmacoppeidhaaa

theorem rr_eq {n i : Nat} (h : i < n) : rr n i = if i + 1 = n then 0 else i + 1 := by
  unfold rr
  split
  · next e => rw [e]; exact Nat.mod_self n
  · exact Nat.mod_eq_of_lt (by omega)
theorem rl_eq {n i : Nat} (h : i < n) : rl n i = if i = 0 then n - 1 else i - 1 := by
  unfold rl
  split
  · next e => subst e; rw [Nat.mod_eq_of_lt (by omega)]; omega
  · rw [show i + n - 1 = (i - 1) + n by omega, Nat.add_mod_right]; exact Nat.mod_eq_of_lt (by omega)
theorem rr_rl {n i : Nat} (h : i < n) : rr n (rl n i) = i := by
  rw [rr_eq (rl_lt (by omega)), rl_eq h]
  split <;> split <;> omega
theorem rl_rr {n i : Nat} (h : i < n) : rl n (rr n i) = i := by
  rw [rl_eq (rr_lt (by omega)), rr_eq h]
  split <;> split <;> omega
/-- The ring turned by one place. -/
def nxt (x : List Int) : List Int := x.drop 1 ++ [gi x 0]
theorem nxt_len {x : List Int} (h : 0 < x.length) : (nxt x).length = x.length := by simp [nxt]; omega
theorem gi_nxt {x : List Int} {i : Nat} (h : i < x.length) : gi (nxt x) i = gi x (rr x.length i) := by
  rw [rr_eq h]
  unfold nxt
  by_cases e : i + 1 = x.length
  · rw [if_pos e]
    have : (x.drop 1).length = i := by rw [List.length_drop]; omega
    rw [← this]; exact gi_snoc_eq
  · rw [if_neg e, gi_snoc_lt (by rw [List.length_drop]; omega), gi_get (by rw [List.length_drop]; omega), gi_get (by omega), List.getElem_drop]
    congr 1; omega
theorem RgQ.nxt {a x} (h : RgQ a x) : RgQ a (nxt x) := by
  have h3 := h.n3
  have hl := nxt_len (x := x) (by omega)
  refine ⟨h.v, fun i hi => ?_, by rw [hl]; exact h.n3, by rw [hl]; exact h.n8⟩
  rw [hl] at hi
  rw [gi_nxt hi]
  exact h.s _ (rr_lt (by omega))
theorem rix_nxt {x : List Int} {i : Nat} (h : i < x.length) : rix (nxt x) i = rix x (rr x.length i) := by unfold rix; rw [gi_nxt h]
theorem scv_nxt {a : List (List Int)} {x : List Int} {i : Nat} (h : i < x.length) : scv a (nxt x) x.length i = scv a x x.length (rr x.length i) := by
  unfold scv
  rw [rix_nxt h, rix_nxt (rr_lt (by omega)), rix_nxt (rl_lt (by omega)), rr_rl h, rl_rr h]
theorem bat1_nxt {a : List (List Int)} {x : List Int} {i : Nat} (h : i < x.length) : rr x.length (bat1 a (nxt x) x.length i) = bat1 a x x.length (rr x.length i) := by
  have hr : rl x.length i < x.length := rl_lt (by omega)
  unfold bat1
  rw [scv_nxt h, scv_nxt hr, rr_rl h, rl_rr h]
  split
  · exact rr_rl h
  · rfl
theorem bat_nxt {a : List (List Int)} {x : List Int} {i : Nat} (h : i < x.length) : rr x.length (bat a (nxt x) x.length i) = bat a x x.length (rr x.length i) := by
  have hr : rr x.length i < x.length := rr_lt (by omega)
  unfold bat
  rw [scv_nxt (bat1_lt h), scv_nxt hr, bat1_nxt h]
  split
  · rfl
  · exact bat1_nxt h
theorem gi_cpL' {a x} {n k : Nat} (h : k < n) : gi (cpL a x n n) k = gi x (bat a x n k) := by
  unfold cpL; rw [gi_get (by simpa using h)]; simp
theorem cpF_len {a x} (h : RgQ a x) : (cpF a x).length = x.length := by rw [cpF_yes h, cpL_len]
/-- The turned ring's copy is the copy turned. -/
theorem cp_turn {a x} (h : RgQ a x) {i : Nat} (hi : i < x.length) : gi (cpF a (nxt x)) i = gi (cpF a x) (rr x.length i) := by
  have hl := nxt_len (x := x) (by omega)
  rw [cpF_yes h, cpF_yes h.nxt, hl, gi_cpL' hi, gi_cpL' (rr_lt (by omega)), gi_nxt (bat_lt hi), bat_nxt hi]
/-- Copied strategies are the ring's own. -/
theorem cp_in {a x} (h : RgQ a x) {i : Nat} (hi : i < x.length) : ∃ k, k < x.length ∧ gi x k = gi (cpF a x) i := by
  rw [cpF_yes h, gi_cpL' hi]
  exact ⟨_, bat_lt hi, rfl⟩
/-- A ring of one strategy. -/
def rpl (x : List Int) (k : Nat) : List Int := List.replicate k (gi x 0)
theorem rpl_len (x : List Int) (k : Nat) : (rpl x k).length = k := by simp [rpl]
theorem rpl_succ (x : List Int) (k : Nat) : rpl x (k + 1) = rpl x k ++ [gi x 0] := by unfold rpl; rw [List.replicate_succ']
theorem gi_rpl {x : List Int} {k i : Nat} (h : i < k) : gi (rpl x k) i = gi x 0 := by
  rw [gi_get (by rw [rpl_len]; exact h)]; simp [rpl]
theorem RgQ.rpl {a x} (h : RgQ a x) : RgQ a (rpl x x.length) := by
  have h3 := h.n3
  refine ⟨h.v, fun i hi => ?_, by rw [rpl_len]; exact h.n3, by rw [rpl_len]; exact h.n8⟩
  rw [rpl_len] at hi
  rw [gi_rpl hi]
  exact h.s 0 (by omega)
theorem cp_same {a x} (h : RgQ a x) : cpF a (rpl x x.length) = rpl x x.length := by
  have hl := rpl_len x x.length
  rw [cpF_yes h.rpl, hl]
  apply List.ext_getElem
  · rw [cpL_len, hl]
  · intro i h1 h2
    rw [cpL_len] at h1
    rw [← gi_get (by rw [cpL_len]; exact h1), ← gi_get h2, gi_cpL' h1, gi_rpl (bat_lt h1), gi_rpl h1]
end Go.Proofs.Ytbmacoppeidhaaa

/- Small crowds, in plain Lean: the numbers of the steps, their sums, and chances. -/
namespace Go.Proofs.Ytbmacoppeidhaaa

/-- The product of the first k numbers; of the last t up to m. -/
def upP (g : Nat → Int) : Nat → Int
  | 0 => 1
  | k + 1 => upP g k * g (k + 1)
def dnP (f : Nat → Int) (m : Nat) : Nat → Int
  | 0 => 1
  | t + 1 => dnP f m t * f (m - t)
/-- The numbers whose sums the chance is of. -/
def numP (f g : Nat → Int) (m k : Nat) : Int := upP g k * dnP f m (m - k)
def numL (f g : Nat → Int) (m : Nat) : List Int := (List.range (m + 1)).map (numP f g m)
theorem numL_len (f g : Nat → Int) (m : Nat) : (numL f g m).length = m + 1 := by simp [numL]
theorem gi_numL {f g : Nat → Int} {m k : Nat} (h : k ≤ m) : gi (numL f g m) k = numP f g m k := by
  rw [gi_get (by rw [numL_len]; omega)]; simp [numL]
theorem dnP_top (f : Nat → Int) (m : Nat) : ∀ t, t ≤ m → dnP f (m + 1) (t + 1) = f (m + 1) * dnP f m t
  | 0, _ => by simp [dnP]
  | t + 1, h => by
    rw [dnP, dnP_top f m t (by omega), dnP, Int.mul_assoc]
    congr 3
    omega
theorem up_dn (f : Nat → Int) (m : Nat) : ∀ t, t ≤ m → upP f m = upP f (m - t) * dnP f m t
  | 0, _ => by simp [dnP]
  | t + 1, h => by
    rw [up_dn f m t (by omega), dnP]
    have e : m - t = (m - (t + 1)) + 1 := by omega
    rw [e, upP, ← e]
    grind
/-- The sum of the first i of the numbers of k steps. -/
def SS (f g : Nat → Int) (i k : Nat) : Int := sm (numL f g k) (min i (k + 1))
theorem sm_numL {f g : Nat → Int} {m : Nat} : ∀ {k}, k ≤ m + 1 → sm (numL f g (m + 1)) k = sm (numL f g m) k * f (m + 1)
  | 0, _ => by simp [sm]
  | k + 1, h => by
    rw [sm, sm, sm_numL (by omega), gi_numL (by omega), gi_numL (by omega), numP, numP]
    have e : m + 1 - k = (m - k) + 1 := by omega
    rw [e, dnP_top f m (m - k) (by omega)]
    grind
theorem SS_zero (f g : Nat → Int) (i : Nat) : SS f g i 0 = if 0 < i then 1 else 0 := by
  unfold SS
  by_cases h : 0 < i
  · rw [show min i (0 + 1) = 1 by omega, if_pos h, sm, gi_numL (Nat.le_refl 0)]; simp [sm, numP, upP, dnP]
  · rw [show min i (0 + 1) = 0 by omega, if_neg h]; rfl
theorem SS_succ (f g : Nat → Int) (i k : Nat) : SS f g i (k + 1) = SS f g i k * f (k + 1) + if k + 1 < i then upP g (k + 1) else 0 := by
  unfold SS
  by_cases h : k + 1 < i
  · rw [if_pos h, show min i (k + 1 + 1) = (k + 1) + 1 by omega, show min i (k + 1) = k + 1 by omega, sm, sm_numL (by omega), gi_numL (Nat.le_refl _), numP]
    rw [show k + 1 - (k + 1) = 0 by omega]
    simp [dnP]
  · rw [if_neg h, show min i (k + 1 + 1) = min i (k + 1) by omega, sm_numL (by omega)]
    simp
theorem SS_all (f g : Nat → Int) (m : Nat) : SS f g (m + 1) m = tot (numL f g m) := by
  unfold SS tot
  rw [numL_len, Nat.min_self]

/-- What players have: 1 to 45 each. -/
structure FG (f g : Nat → Int) (m : Nat) : Prop where
  m5 : m ≤ 5
  f : ∀ j, 1 ≤ j → j ≤ m → 1 ≤ f j ∧ f j ≤ 45
  g : ∀ j, 1 ≤ j → j ≤ m → 1 ≤ g j ∧ g j ≤ 45
theorem FG.less {f g m k} (h : FG f g m) (hk : k ≤ m) : FG f g k := ⟨by have := h.m5; omega, fun j a b => h.f j a (by omega), fun j a b => h.g j a (by omega)⟩
theorem FG.flip {f g m} (h : FG f g m) : FG g f m := ⟨h.m5, h.g, h.f⟩
def p45 : Nat → Int
  | 0 => 1
  | k + 1 => p45 k * 45
theorem p45_add (a : Nat) : ∀ b, p45 a * p45 b = p45 (a + b)
  | 0 => by simp [p45]
  | b + 1 => by rw [p45, ← Int.mul_assoc, p45_add a b]; rfl
theorem p45_pos : ∀ k, 1 ≤ p45 k
  | 0 => Int.le_refl _
  | k + 1 => by have := p45_pos k; rw [p45]; omega
theorem p45_mono : ∀ {k m}, k ≤ m → p45 k ≤ p45 m
  | k, 0, h => by obtain rfl : k = 0 := by omega
                  exact Int.le_refl _
  | k, m + 1, h => by
    by_cases e : k = m + 1
    · subst e; exact Int.le_refl _
    · have h1 := p45_mono (k := k) (m := m) (by omega)
      have h2 := p45_pos m
      rw [p45]; omega
theorem p45_5 {k : Nat} (h : k ≤ 5) : p45 k ≤ 184528125 := by
  have := p45_mono h
  have e : p45 5 = 184528125 := by decide
  omega
theorem upP_bd {g : Nat → Int} : ∀ {k}, (∀ j, 1 ≤ j → j ≤ k → 1 ≤ g j ∧ g j ≤ 45) → 1 ≤ upP g k ∧ upP g k ≤ p45 k
  | 0, _ => ⟨Int.le_refl _, Int.le_refl _⟩
  | k + 1, h => by
    have h1 := upP_bd (k := k) fun j a b => h j a (by omega)
    have h2 := h (k + 1) (by omega) (by omega)
    have h3 : 1 * 1 ≤ upP g k * g (k + 1) := Int.mul_le_mul h1.1 h2.1 (by omega) (by omega)
    have h4 : upP g k * g (k + 1) ≤ p45 k * 45 := Int.mul_le_mul h1.2 h2.2 (by omega) (by have := p45_pos k; omega)
    rw [upP, p45]
    omega
theorem dnP_bd {f : Nat → Int} {m : Nat} : ∀ {t}, t ≤ m → (∀ j, 1 ≤ j → j ≤ m → 1 ≤ f j ∧ f j ≤ 45) → 1 ≤ dnP f m t ∧ dnP f m t ≤ p45 t
  | 0, _, _ => ⟨Int.le_refl _, Int.le_refl _⟩
  | t + 1, ht, h => by
    have h1 := dnP_bd (t := t) (by omega) h
    have h2 := h (m - t) (by omega) (by omega)
    have h3 : 1 * 1 ≤ dnP f m t * f (m - t) := Int.mul_le_mul h1.1 h2.1 (by omega) (by omega)
    have h4 : dnP f m t * f (m - t) ≤ p45 t * 45 := Int.mul_le_mul h1.2 h2.2 (by omega) (by have := p45_pos t; omega)
    rw [dnP, p45]
    omega
theorem numP_bd {f g : Nat → Int} {m k : Nat} (h : FG f g m) (hk : k ≤ m) : 1 ≤ numP f g m k ∧ numP f g m k ≤ 184528125 := by
  have h1 := upP_bd (g := g) (k := k) fun j a b => h.g j a (by omega)
  have h2 := dnP_bd (f := f) (m := m) (t := m - k) (by omega) h.f
  have h3 : 1 * 1 ≤ upP g k * dnP f m (m - k) := Int.mul_le_mul h1.1 h2.1 (by omega) (by omega)
  have h4 : upP g k * dnP f m (m - k) ≤ p45 k * p45 (m - k) := Int.mul_le_mul h1.2 h2.2 (by omega) (by have := p45_pos k; omega)
  rw [p45_add] at h4
  have h5 := p45_5 (k := k + (m - k)) (by have := h.m5; omega)
  unfold numP
  omega
theorem up_bd {g : Nat → Int} {m k : Nat} (h : ∀ j, 1 ≤ j → j ≤ m → 1 ≤ g j ∧ g j ≤ 45) (hm : m ≤ 5) (hk : k ≤ m) : 1 ≤ upP g k ∧ upP g k ≤ 184528125 := by
  have h1 := upP_bd (g := g) (k := k) fun j a b => h j a (by omega)
  have h2 := p45_5 (k := k) (by omega)
  omega
theorem sm_num_bd {f g : Nat → Int} {m k : Nat} (h : FG f g m) (hk : k ≤ m + 1) : (k : Int) ≤ sm (numL f g m) k ∧ sm (numL f g m) k ≤ 1107168750 := by
  have h1 := sm_bd (xs := numL f g m) (k := k) (lo := 1) (hi := 184528125) fun j hj => by rw [gi_numL (by omega)]; exact numP_bd h (by omega)
  have := h.m5
  omega
theorem SS_bd {f g : Nat → Int} {i k : Nat} (h : FG f g k) : 0 ≤ SS f g i k ∧ SS f g i k ≤ 1107168750 := by
  have := sm_num_bd h (k := min i (k + 1)) (by omega)
  unfold SS
  omega
theorem tot_num_bd {f g : Nat → Int} {m : Nat} (h : FG f g m) : 1 ≤ tot (numL f g m) ∧ tot (numL f g m) ≤ 1107168750 := by
  have := sm_num_bd h (k := m + 1) (Nat.le_refl _)
  unfold tot
  rw [numL_len]
  omega
/-- The sums of two fractions in lowest terms, and their product and quotient. -/
theorem fr_add {u d v e : Int} (hd : 0 < d) (he : 0 < e) :
    frU (frU u d * frD v e + frU v e * frD u d) (frD u d * frD v e) = frU (u * e + v * d) (d * e) ∧ frD (frU u d * frD v e + frU v e * frD u d) (frD u d * frD v e) = frD (u * e + v * d) (d * e) := by
  have h1 := frD_pos (u := u) hd
  have h2 := frD_pos (u := v) he
  refine fr_eq (Int.mul_pos h1 h2) (Int.mul_pos hd he) ?_
  have r1 := fr_ratio u d
  have r2 := fr_ratio v e
  grind
theorem fr_tim {u d v e : Int} (hd : 0 < d) (he : 0 < e) :
    frU (frU u d * frU v e) (frD u d * frD v e) = frU (u * v) (d * e) ∧ frD (frU u d * frU v e) (frD u d * frD v e) = frD (u * v) (d * e) := by
  have h1 := frD_pos (u := u) hd
  have h2 := frD_pos (u := v) he
  refine fr_eq (Int.mul_pos h1 h2) (Int.mul_pos hd he) ?_
  have r1 := fr_ratio u d
  have r2 := fr_ratio v e
  grind
theorem fr_pos {u d : Int} (hd : 0 < d) (hu : 0 < u) : 0 < frU u d := by
  have h1 := frD_pos (u := u) hd
  have r1 := fr_ratio u d
  have h2 : 0 < u * frD u d := Int.mul_pos hu h1
  apply Classical.byContradiction
  intro hn
  have h3 : frU u d * d ≤ 0 := Int.mul_nonpos_of_nonpos_of_nonneg (by omega) (by omega)
  omega
theorem fr_turn {u d : Int} (hd : 0 < d) (hu : 0 < u) : frU (frD u d) (frU u d) = frU d u ∧ frD (frD u d) (frU u d) = frD d u := by
  refine fr_eq (fr_pos hd hu) hu ?_
  have r1 := fr_ratio u d
  grind
theorem frU_le {u d B : Int} (hd : 0 < d) (h0 : 0 ≤ u) (h : u ≤ B) : 0 ≤ frU u d ∧ frU u d ≤ B := by
  have h1 := frU_bd (u := u) (d := d) (B := B) hd (by omega)
  have h2 := frD_pos (u := u) hd
  have r1 := fr_ratio u d
  have h3 : 0 ≤ u * frD u d := Int.mul_nonneg h0 (by omega)
  refine ⟨?_, h1.2⟩
  apply Classical.byContradiction
  intro hn
  have h4 : frU u d * d < 0 := Int.mul_neg_of_neg_of_pos (by omega) hd
  omega
end Go.Proofs.Ytbmacoppeidhaaa

/- How many histories there are, and kinds in the mean: plain. -/
namespace Go.Proofs.Ytbmacoppeidhaaa

def hsN : Nat → Int
  | 0 => 1
  | 1 => 1
  | k + 2 => ((k + 2 : Nat) : Int) * ((k + 1 : Nat) : Int) / 2 * hsN (k + 1)
/-- What HistoriesOf answers. -/
noncomputable def hsV (n : Int) : Int := if pb (InR n 1 7) = true then hsN n.toNat else -1
theorem hs_no {n : Int} (h : ¬ InR n 1 7) : hsV n = -1 := by unfold hsV; rw [if_neg (by rw [pb_false h]; decide)]
theorem hs_yes {n : Nat} (h : InR n 1 7) : hsV n = hsN n := by unfold hsV; rw [if_pos (pb_true h), Int.toNat_natCast]

def mkD (f : Int) : Nat → Int
  | 0 => 1
  | k + 1 => mkD f k * (f + k)
def mkU (f : Int) : Nat → Int
  | 0 => 0
  | k + 1 => mkU f k * (f + k) + f * mkD f k
theorem mk_bd {f : Int} (h1 : 1 ≤ f) (h6 : f ≤ 6) {k : Nat} (hk : k ≤ 7) : 1 ≤ mkD f k ∧ mkD f k ≤ 20000000 ∧ 0 ≤ mkU f k ∧ mkU f k ≤ 20000000 := by
  have hf : f = 1 ∨ f = 2 ∨ f = 3 ∨ f = 4 ∨ f = 5 ∨ f = 6 := by omega
  have hk' : k = 0 ∨ k = 1 ∨ k = 2 ∨ k = 3 ∨ k = 4 ∨ k = 5 ∨ k = 6 ∨ k = 7 := by omega
  rcases hf with rfl | rfl | rfl | rfl | rfl | rfl <;> rcases hk' with rfl | rfl | rfl | rfl | rfl | rfl | rfl | rfl <;> decide
/-- What MeanKinds is asked of. -/
def MQ (n f : Int) : Prop := InR n 1 7 ∧ InR f 1 6
noncomputable def mkV (n f : Int) : Value := if pb (MQ n f) = true then .agg #[.int .i64 (frU (mkU f n.toNat) (mkD f n.toNat)), .int .i64 (frD (mkU f n.toNat) (mkD f n.toNat))] else .agg #[.int .i64 0, .int .i64 0]
theorem mk_no {n f : Int} (h : ¬ MQ n f) : mkV n f = .agg #[.int .i64 0, .int .i64 0] := by unfold mkV; rw [if_neg (by rw [pb_false h]; decide)]
theorem mk_yes {n : Nat} {f : Int} (h : MQ n f) : mkV n f = .agg #[.int .i64 (frU (mkU f n) (mkD f n)), .int .i64 (frD (mkU f n) (mkD f n))] := by unfold mkV; rw [if_pos (pb_true h), Int.toNat_natCast]
theorem mk_form (n f : Int) : ∃ U D, mkV n f = .agg #[.int .i64 U, .int .i64 D] := by
  unfold mkV; split
  · exact ⟨_, _, rfl⟩
  · exact ⟨_, _, rfl⟩
/-- One more. -/
theorem mk_step {f : Int} (h1 : 1 ≤ f) (h6 : f ≤ 6) {k : Nat} (hk : k < 7) :
    frU (frU (mkU f k) (mkD f k) * frD f (f + k) + frU f (f + k) * frD (mkU f k) (mkD f k)) (frD (mkU f k) (mkD f k) * frD f (f + k)) = frU (mkU f (k + 1)) (mkD f (k + 1)) ∧
    frD (frU (mkU f k) (mkD f k) * frD f (f + k) + frU f (f + k) * frD (mkU f k) (mkD f k)) (frD (mkU f k) (mkD f k) * frD f (f + k)) = frD (mkU f (k + 1)) (mkD f (k + 1)) := by
  have h := mk_bd h1 h6 (k := k) (by omega)
  exact fr_add (u := mkU f k) (d := mkD f k) (v := f) (e := f + k) (by omega) (by omega)
end Go.Proofs.Ytbmacoppeidhaaa

/- HistoriesOf, by both programs. -/
namespace Go.Proofs.Ytbmacoppeidhaaa
open Go.RowKit


end Go.Proofs.Ytbmacoppeidhaaa

/- All sizes of kinds: plain. -/
namespace Go.Proofs.Ytbmacoppeidhaaa

/-- The rows from m down, t of them, with what comes behind each. -/
def ptsT (g : Nat → Nat → List (List Int)) (n m : Nat) : Nat → List (List Int)
  | 0 => []
  | t + 1 => ptsT g n m t ++ (g (n - (m - t)) (m - t)).map (fun r => ((m - t : Nat) : Int) :: r)
/-- All rows with the sum n, none greater than most (F: n at least). -/
def pts : Nat → Nat → Nat → List (List Int)
  | 0, _, _ => [[]]
  | F + 1, n, most => if n = 0 then [[]] else ptsT (pts F) n (min n most) (min n most)
theorem pts_all : ((List.range 8).all fun F => (List.range 8).all fun n => (List.range 8).all fun m => decide ((pts F n m).length ≤ 40) && (pts F n m).all fun r => decide (r.length ≤ 7) && r.all fun x => decide (0 ≤ x) && decide (x ≤ 7)) = true := by decide +kernel
theorem pts_bd0 (F : Nat) (hF : F < 8) (n : Nat) (hn : n < 8) (m : Nat) (hm : m < 8) : (pts F n m).length ≤ 40 ∧ (∀ r ∈ pts F n m, r.length ≤ 7 ∧ ∀ x ∈ r, 0 ≤ x ∧ x ≤ 7) := by
  have h := pts_all
  simp only [List.all_eq_true, List.mem_range, Bool.and_eq_true, decide_eq_true_eq] at h
  exact h F hF n hn m hm
theorem ptsT_bd0 : ∀ F, F < 7 → ∀ n, n < 8 → ∀ m, m < 8 → ∀ t, t ≤ m → (ptsT (pts F) n m t).length ≤ 50 := by decide +kernel
theorem pts_zero (F m : Nat) : pts F 0 m = [[]] := by cases F <;> rfl
theorem pts_pos {F n : Nat} (h : 0 < n) (m : Nat) : pts (F + 1) n m = ptsT (pts F) n (min n m) (min n m) := by
  show (if n = 0 then _ else _) = _
  rw [if_neg (by omega)]
theorem pts_row {F n m : Nat} (hF : F ≤ 7) (hn : n ≤ 7) (hm : m ≤ 7) {i : Nat} (hi : i < (pts F n m).length) : (gr (pts F n m) i).length ≤ 7 ∧ ∀ x ∈ gr (pts F n m) i, 0 ≤ x ∧ x ≤ 7 :=
  (pts_bd0 F (by omega) n (by omega) m (by omega)).2 _ (gr_mem hi)
/-- One row of what comes behind more. -/
theorem take_cons_succ (list : List (List Int)) (x : Int) {i : Nat} (h : i < list.length) :
    (list.take (i + 1)).map (fun r => x :: r) = (list.take i).map (fun r => x :: r) ++ [x :: gr list i] := by
  rw [List.take_succ_eq_append_getElem h, List.map_append, gr_get h]; rfl
end Go.Proofs.Ytbmacoppeidhaaa

/- Rests, by both programs. -/
namespace Go.Proofs.Ytbmacoppeidhaaa
open Go.RowKit

/-- No strategy has more than one with a share. -/
def RestP (a : List (List Int)) (w : List Int) (n : Nat) : Prop := ∀ i, i < n → 0 < gi w i → ∀ k, k < n → dotr a w k n ≤ dotr a w i n
structure RQ (a : List (List Int)) (w : List Int) : Prop where
  q : VQ a
  s : VS w a.length
  r : RestP a w a.length


/-- The greatest of the first k values. -/
def mxd (f : Nat → Int) : Nat → Int
  | 0 => 0
  | k + 1 => if k = 0 ∨ mxd f k < f k then f k else mxd f k
theorem mxd_up {f : Nat → Int} {k : Nat} (h : k = 0 ∨ mxd f k < f k) : mxd f (k + 1) = f k := by rw [mxd, if_pos h]
theorem mxd_same {f : Nat → Int} {k : Nat} (h : ¬ (k = 0 ∨ mxd f k < f k)) : mxd f (k + 1) = mxd f k := by rw [mxd, if_neg h]
theorem mxd_ge (f : Nat → Int) : ∀ {k i}, i < k → f i ≤ mxd f k
  | 0, _, h => absurd h (by omega)
  | k + 1, i, h => by
    by_cases hu : k = 0 ∨ mxd f k < f k
    · rw [mxd_up hu]
      by_cases e : i = k
      · subst e; exact Int.le_refl _
      · have := mxd_ge f (k := k) (i := i) (by omega)
        omega
    · rw [mxd_same hu]
      by_cases e : i = k
      · subst e; omega
      · exact mxd_ge f (by omega)
theorem mxd_at (f : Nat → Int) : ∀ {k}, 0 < k → ∃ i, i < k ∧ mxd f k = f i
  | 0, h => absurd h (by omega)
  | k + 1, _ => by
    by_cases hu : k = 0 ∨ mxd f k < f k
    · exact ⟨k, by omega, mxd_up hu⟩
    · obtain ⟨i, hi, e⟩ := mxd_at f (k := k) (by omega)
      exact ⟨i, by omega, (mxd_same hu).trans e⟩
/-- At rest all that is there has the most. -/
theorem rest_most (a : List (List Int)) (w : List Int) (n : Nat) (hn : 0 < n) : RestP a w n ↔ ∀ i, i < n → 0 < gi w i → dotr a w i n = mxd (fun i => dotr a w i n) n := by
  constructor
  · intro h i hi hp
    obtain ⟨k, hk, e⟩ := mxd_at (fun i => dotr a w i n) hn
    have h1 := h i hi hp k hk
    have h2 := mxd_ge (fun i => dotr a w i n) hi
    have e' : mxd (fun i => dotr a w i n) n = dotr a w k n := e
    have h2' : dotr a w i n ≤ mxd (fun i => dotr a w i n) n := h2
    omega
  · intro h i hi hp k hk
    rw [h i hi hp]
    exact mxd_ge (fun i => dotr a w i n) hk
theorem mxd_bd {f : Nat → Int} {B : Int} (hB : 0 ≤ B) : ∀ {k}, (∀ i, i < k → -B ≤ f i ∧ f i ≤ B) → -B ≤ mxd f k ∧ mxd f k ≤ B
  | 0, _ => by simp only [mxd]; omega
  | k + 1, h => by
    by_cases hu : k = 0 ∨ mxd f k < f k
    · rw [mxd_up hu]; exact h k (by omega)
    · rw [mxd_same hu]; exact mxd_bd hB fun i hi => h i (by omega)

end Go.Proofs.Ytbmacoppeidhaaa

/- Shares at which some strategies have as much: the sums of the cofactors of the columns, and the differences to the first row. Plain. -/
namespace Go.Proofs.Ytbmacoppeidhaaa
open V (sumN detN rowC colC cofN minorN skip sgn Asc)

/-- The square of a part, as it is. -/
def lf (a : List (List Int)) (r : Nat → Nat) : Nat → Nat → Int := fun p q => g2 a (r p) (r q) + 0
/-- The differences to the first row, behind a row of ones. -/
def mf (a : List (List Int)) (r : Nat → Nat) : Nat → Nat → Int := fun p q => if p = 0 then 1 else g2 a (r p) (r q) - g2 a (r 0) (r q)

theorem rowC_shift {k : Nat} (hk : k ≤ 3) {f g : Nat → Nat → Int} (z : Int) (h : ∀ p q, g p q = f p q + z) {p : Nat} (hp : p < k) : rowC k g p = rowC k f p := by
  have : k = 1 ∨ k = 2 ∨ k = 3 := by omega
  rcases this with rfl | rfl | rfl
  · simp [rowC, sumN, cofN, detN]
  · have : p = 0 ∨ p = 1 := by omega
    rcases this with rfl | rfl <;> simp [rowC, sumN, cofN, sgn, detN, minorN, skip, h] <;> omega
  · obtain ⟨e0, e1, e2⟩ := V.rowC3 f
    obtain ⟨d0, d1, d2⟩ := V.rowC3 g
    have : p = 0 ∨ p = 1 ∨ p = 2 := by omega
    rcases this with rfl | rfl | rfl
    · rw [e0, d0]; simp only [h]; grind
    · rw [e1, d1]; simp only [h]; grind
    · rw [e2, d2]; simp only [h]; grind
theorem lf_kY (a : List (List Int)) (r : Nat → Nat) {k : Nat} (hk : k ≤ 3) : cofL k (trN (lf a r)) k = kY a r r k := by
  unfold kY cofL
  refine List.map_congr_left fun p hp => ?_
  exact (rowC_shift hk 18 (f := trN (lf a r)) (g := trN (kf a r r)) (fun p q => by unfold trN lf kf; omega) (List.mem_range.1 hp)).symm
theorem gi_kY {a : List (List Int)} {r : Nat → Nat} {k : Nat} (hk : k ≤ 3) {c : Nat} (hc : c < k) : gi (kY a r r k) c = colC k (kf a r r) c := by
  unfold kY; rw [gi_cofL hc, rowC_tr hk]
theorem mf_cof {a : List (List Int)} {r : Nat → Nat} {k : Nat} (hk : k ≤ 3) {c : Nat} (hc : c < k) : cofN k (mf a r) 0 c = gi (kY a r r k) c := by
  rw [gi_kY hk hc]
  have : k = 1 ∨ k = 2 ∨ k = 3 := by omega
  rcases this with rfl | rfl | rfl
  · obtain rfl : c = 0 := by omega
    simp [colC, sumN, cofN, sgn, detN]
  · have : c = 0 ∨ c = 1 := by omega
    rcases this with rfl | rfl <;> simp [colC, sumN, cofN, sgn, detN, minorN, skip, mf, kf] <;> omega
  · obtain ⟨e0, e1, e2⟩ := V.colC3 (kf a r r)
    have : c = 0 ∨ c = 1 ∨ c = 2 := by omega
    rcases this with rfl | rfl | rfl
    · rw [e0]; simp [sumN, cofN, sgn, detN, minorN, skip, mf, kf]; grind
    · rw [e1]; simp [sumN, cofN, sgn, detN, minorN, skip, mf, kf]; grind
    · rw [e2]; simp [sumN, cofN, sgn, detN, minorN, skip, mf, kf]; grind
theorem mf_det {a : List (List Int)} {r : Nat → Nat} {k : Nat} (h1 : 1 ≤ k) (hk : k ≤ 3) : detN k (mf a r) = sumN (gi (kY a r r k)) k := by
  obtain ⟨l, rfl⟩ : ∃ l, k = l + 1 := ⟨k - 1, by omega⟩
  rw [detN]
  refine sumN_congr fun j hj => ?_
  rw [← mf_cof hk hj]
  unfold cofN
  rw [Nat.zero_add, show mf a r 0 j = 1 from rfl, Nat.add_sub_cancel, Int.one_mul]
theorem mf_ab {a : List (List Int)} (v : VT a) (h : a.length = (gr a 0).length) {r : Nat → Nat} {k : Nat} (hr : Asc a.length k r) : Ab k (mf a r) := fun p q hp hq => by
  unfold mf
  have h0 := hr.1 0 (by omega)
  have hpp := hr.1 p hp
  have hqq := hr.1 q hq
  have e1 := v.bd hpp (j := r q) (by omega)
  have e2 := v.bd h0 (j := r q) (by omega)
  split <;> omega

/-- All numbers more than 0, or all less. -/
def LevP (X : List Int) : Prop := (∀ p, p < X.length → 0 < gi X p) ∨ ∀ p, p < X.length → gi X p < 0
theorem LevP.clr {X : List Int} (h : LevP X) (h0 : 0 < X.length) : ClrP X := by
  rcases h with h | h
  · exact ⟨⟨0, h0, by have := h 0 h0; omega⟩, .inl fun p hp => by have := h p hp; omega⟩
  · exact ⟨⟨0, h0, by have := h 0 h0; omega⟩, .inr fun p hp => by have := h p hp; omega⟩
def levB (xs : List Int) : Bool := decide (lst xs ≤ 0) && decide (0 ≤ mxl xs)
theorem levB_iff {xs : List Int} (h0 : 0 < xs.length) : levB xs = false ↔ LevP xs := by
  unfold levB lst mxl LevP
  rw [Bool.and_eq_false_iff, decide_eq_false_iff_not, decide_eq_false_iff_not]
  constructor
  · rintro (h | h)
    · exact .inl fun p hp => by have := mn_le (xs := xs) (k := xs.length - 1) (j := p) (by omega); omega
    · exact .inr fun p hp => by have := mx_ge xs (k := xs.length - 1) (j := p) (by omega); omega
  · rintro (h | h)
    · obtain ⟨j, hj, e⟩ := mn_mem (xs := xs) (xs.length - 1)
      exact .inl (by have := h j (by omega); omega)
    · obtain ⟨j, hj, e⟩ := mx_at xs (xs.length - 1)
      exact .inr (by have := h j (by omega); omega)

/-- The first c numbers, times z. -/
def sgL (X : List Int) (z : Int) (c : Nat) : List Int := (List.range c).map fun p => z * gi X p
theorem sgL_succ (X : List Int) (z : Int) (c : Nat) : sgL X z (c + 1) = sgL X z c ++ [z * gi X c] := by simp [sgL, List.range_succ]
theorem sgL_len (X : List Int) (z : Int) (c : Nat) : (sgL X z c).length = c := by simp [sgL]
theorem gi_sgL {X : List Int} {z : Int} {c p : Nat} (h : p < c) : gi (sgL X z c) p = z * gi X p := by
  rw [gi_get (by rw [sgL_len]; exact h)]; simp [sgL]
theorem gcdL_sgL {X : List Int} {z : Int} (hz : z = 1 ∨ z = -1) {k : Nat} : ∀ {j}, j ≤ k → gcdL (sgL X z k) j = gcdL X j
  | 0, _ => rfl
  | j + 1, h => by
    rw [gcdL, gcdL, gcdL_sgL hz (by omega), gi_sgL (by omega)]
    rcases hz with rfl | rfl
    · rw [Int.one_mul]
    · unfold gcdI; rw [Int.neg_one_mul, Int.gcd_neg]
theorem shr_sgL {X : List Int} {z : Int} (hz : z = 1 ∨ z = -1) {n k : Nat} {r : Nat → Nat} (hl : X.length = k) : shr n r (sgL X z k) k = shr n r X k := by
  unfold shr
  rw [sgL_len, hl, gcdL_sgL hz (Nat.le_refl _)]
  congr 1
  unfold clrL
  refine List.map_congr_left fun p hp => ?_
  rw [gi_sgL (List.mem_range.1 hp)]
  rcases hz with rfl | rfl
  · rw [Int.one_mul]
  · rw [show max (-1 * gi X p) (-(-1 * gi X p)) = max (gi X p) (-(gi X p)) by omega]
/-- The sign of the sum. -/
def zsg (X : List Int) (k : Nat) : Int := if sumN (gi X) k < 0 then -1 else 1
theorem zsg_or (X : List Int) (k : Nat) : zsg X k = 1 ∨ zsg X k = -1 := by unfold zsg; split <;> simp
theorem lev_sum {X : List Int} (h : LevP X) (h0 : 0 < X.length) : sumN (gi X) X.length ≠ 0 ∧ ∀ p, p < X.length → 0 < zsg X X.length * gi X p := by
  rcases h with h | h
  · have hs := sumN_pos (f := gi X) (n := X.length) (fun i hi => by have := h i hi; omega) ⟨0, h0, h 0 h0⟩
    refine ⟨by omega, fun p hp => ?_⟩
    unfold zsg; rw [if_neg (by omega), Int.one_mul]; exact h p hp
  · have hs := sumN_pos (f := fun i => (-1) * gi X i) (n := X.length) (fun i hi => by have := h i hi; omega) ⟨0, h0, by have := h 0 h0; omega⟩
    rw [sumN_mul] at hs
    refine ⟨by omega, fun p hp => ?_⟩
    unfold zsg; rw [if_pos (by omega)]; have := h p hp; omega
theorem lev_of {X : List Int} {z : Int} (hz : z = 1 ∨ z = -1) (h : ∀ p, p < X.length → 0 < z * gi X p) : LevP X := by
  rcases hz with rfl | rfl
  · exact .inl fun p hp => by have := h p hp; omega
  · exact .inr fun p hp => by have := h p hp; omega

theorem memL_ge : ∀ R, R < 8 → ∀ n, n < 4 → 1 ≤ R → R < 2 ^ n → 1 ≤ (memL R n).length := by decide
/-- The shares of some strategies are the only ones at which these have as much, and no other one has more. -/
def LevAt (a : List (List Int)) (k : Nat) (r : Nat → Nat) : Prop := LevP (kY a r r k) ∧ RestP a (shr a.length r (kY a r r k) k) a.length
def lvl (a : List (List Int)) (s : Nat) : List Int := shr a.length (idx s a.length) (kY a (idx s a.length) (idx s a.length) (memL s a.length).length) (memL s a.length).length
def LvP (a : List (List Int)) (s : Nat) : Prop := 1 ≤ s ∧ s < 2 ^ a.length ∧ LevAt a (memL s a.length).length (idx s a.length)
noncomputable def resR (a : List (List Int)) : Nat → List (List Int)
  | 0 => []
  | s + 1 => if pb (LvP a s) = true then resR a s ++ [lvl a s] else resR a s
noncomputable def resF (a : List (List Int)) : List (List Int) := if pb (VQ a) = true then resR a 8 else []
theorem resR_yes {a : List (List Int)} {s : Nat} (h : LvP a s) : resR a (s + 1) = resR a s ++ [lvl a s] := by rw [resR, if_pos (pb_true h)]
theorem resR_no {a : List (List Int)} {s : Nat} (h : ¬ LvP a s) : resR a (s + 1) = resR a s := by rw [resR, if_neg (by rw [pb_false h]; decide)]
theorem lvl_len (a : List (List Int)) (s : Nat) : (lvl a s).length = a.length := putL_len _ _ _ _
theorem resR_one (a : List (List Int)) : resR a 1 = [] := by rw [resR_no (fun h => by have := h.1; omega)]; rfl
theorem resR_len (a : List (List Int)) : ∀ s, (resR a s).length ≤ s
  | 0 => by simp [resR]
  | s + 1 => by
    have := resR_len a s
    by_cases h : LvP a s
    · rw [resR_yes h, List.length_append, List.length_singleton]; omega
    · rw [resR_no h]; omega
theorem resR_end {a : List (List Int)} : ∀ {d}, resR a (2 ^ a.length + d) = resR a (2 ^ a.length)
  | 0 => rfl
  | d + 1 => by rw [← Nat.add_assoc, resR_no (fun h => by have := h.2.1; omega), resR_end]
theorem resR_all {a : List (List Int)} (h : a.length ≤ 3) : resR a 8 = resR a (2 ^ a.length) := by
  have h8 : 2 ^ a.length ≤ 8 := pow_le8 h
  have := resR_end (a := a) (d := 8 - 2 ^ a.length)
  rwa [show 2 ^ a.length + (8 - 2 ^ a.length) = 8 by omega] at this
theorem mem_resR {a : List (List Int)} {x : List Int} : ∀ {k}, x ∈ resR a k ↔ ∃ s, s < k ∧ LvP a s ∧ x = lvl a s
  | 0 => by simp [resR]
  | k + 1 => by
    have ih := mem_resR (a := a) (x := x) (k := k)
    by_cases h : LvP a k
    · rw [resR_yes h, List.mem_append, List.mem_singleton, ih]
      constructor
      · rintro (⟨s, h1, h2, h3⟩ | h1)
        · exact ⟨s, by omega, h2, h3⟩
        · exact ⟨k, by omega, h, h1⟩
      · rintro ⟨s, h1, h2, h3⟩
        by_cases e : s = k
        · subst e; exact .inr h3
        · exact .inl ⟨s, by omega, h2, h3⟩
    · rw [resR_no h, ih]
      constructor
      · rintro ⟨s, h1, h2, h3⟩; exact ⟨s, by omega, h2, h3⟩
      · rintro ⟨s, h1, h2, h3⟩
        by_cases e : s = k
        · subst e; exact absurd h2 h
        · exact ⟨s, by omega, h2, h3⟩
theorem lvl_VS {a : List (List Int)} (q : VQ a) {s : Nat} (h : LvP a s) (h8 : s < 8) : VS (lvl a s) a.length := by
  have hk3 : (memL s a.length).length ≤ 3 := by have := memL_le s a.length; have := q.1.n3; omega
  have h1 := memL_ge s h8 a.length (by have := q.1.n3; omega) h.1 h.2.1
  have hr := idx_asc s a.length
  exact shr_VS (kY_len _ _ _ _) hr (h.2.2.1.clr (by rw [kY_len]; omega)) (fun p hp => kY_bd q.1 hk3 hr (by rw [← q.2]; exact hr) hp)
end Go.Proofs.Ytbmacoppeidhaaa

/- The shares of some strategies at which these have as much, by the model. -/
namespace Go.Proofs.Ytbmacoppeidhaaa
open Go.RowKit
open V (sumN detN rowC colC cofN minorN skip sgn Asc)

/-- The first j numbers of row p of the differences; the first i rows. -/
def dfR (a : List (List Int)) (r : Nat → Nat) (p j : Nat) : List Int := (List.range j).map fun q => mf a r p q
def dfL (a : List (List Int)) (r : Nat → Nat) (k i : Nat) : List (List Int) := (List.range i).map fun p => dfR a r p k
theorem dfR_succ (a : List (List Int)) (r : Nat → Nat) (p j : Nat) : dfR a r p (j + 1) = dfR a r p j ++ [mf a r p j] := by simp [dfR, List.range_succ]
theorem dfL_succ (a : List (List Int)) (r : Nat → Nat) (k i : Nat) : dfL a r k (i + 1) = dfL a r k i ++ [dfR a r i k] := by simp [dfL, List.range_succ]
theorem dfR_len (a : List (List Int)) (r : Nat → Nat) (p j : Nat) : (dfR a r p j).length = j := by simp [dfR]
theorem dfL_len (a : List (List Int)) (r : Nat → Nat) (k i : Nat) : (dfL a r k i).length = i := by simp [dfL]
theorem dfL_sq (a : List (List Int)) (r : Nat → Nat) (k : Nat) : Sq k (dfL a r k k) (mf a r) :=
  ⟨dfL_len _ _ _ _, fun p hp => by rw [gr_get (by rw [dfL_len]; exact hp)]; simp [dfL, dfR], fun p q hp hq => by
    unfold g2; rw [gr_get (by rw [dfL_len]; exact hp), gi_get (by simp [dfL, dfR]; exact hq)]; simp [dfL, dfR]⟩
theorem dfR_zero {a : List (List Int)} {r : Nat → Nat} {p j : Nat} (h : p = 0) : dfR a r p (j + 1) = dfR a r p j ++ [1] := by subst h; exact dfR_succ _ _ _ _
theorem dfR_next {a : List (List Int)} {r : Nat → Nat} {p j : Nat} (h : p ≠ 0) : dfR a r p (j + 1) = dfR a r p j ++ [g2 a (r p) (r j) - g2 a (r 0) (r j)] := by
  rw [dfR_succ, mf, if_neg h]
theorem mf_odd {a : List (List Int)} {r : Nat → Nat} {k c : Nat} (hk : k ≤ 3) (hc : c < k) (h : c % 2 = 1) : gi (kY a r r k) c = -(detN (k - 1) (minorN (mf a r) 0 c)) := by
  rw [← mf_cof hk hc, cofN_odd (by omega)]
theorem mf_even {a : List (List Int)} {r : Nat → Nat} {k c : Nat} (hk : k ≤ 3) (hc : c < k) (h : ¬ c % 2 = 1) : gi (kY a r r k) c = detN (k - 1) (minorN (mf a r) 0 c) := by
  rw [← mf_cof hk hc, cofN_even (by omega)]

end Go.Proofs.Ytbmacoppeidhaaa

/- The rests of a table, by the model. -/
namespace Go.Proofs.Ytbmacoppeidhaaa
open Go.RowKit
open V (sumN detN rowC colC cofN minorN skip sgn Asc)

theorem shl_val' {n : Nat} (h : n ≤ 3) : ∃ P : Nat, wrap64 ((2 : Int) ^ n) = (P : Int) ∧ P = 2 ^ n := by
  refine ⟨2 ^ n, ?_, rfl⟩
  have : n = 0 ∨ n = 1 ∨ n = 2 ∨ n = 3 := by omega
  rcases this with rfl | rfl | rfl | rfl <;> (unfold wrap64; decide)
theorem NewT.from {w w1 w2 : World} {xss : List (List Int)} {e : Ending} (h : Below w.heap.size w w1) (k : NewT w1 xss e w2) : NewT w xss e w2 := by
  obtain ⟨A, n, c, g, e1, e2, ho, hb⟩ := k
  exact ⟨A, n, c, g, e1, e2, ho.mono h.size (Nat.le_refl _), below_up h hb⟩
theorem TM.new {wb vs xss w} {A : Option Addr} {n c : Nat} (h : TM wb (.slice A n c) vs xss w) (hm : xss.length ≤ 100) : NewT wb xss (.returned (.slice A n c)) w := by
  obtain ⟨A', n', c', gg, e, hn', hown⟩ := h.bo.owns (by omega)
  injection e with e1 e2 e3
  subst e1
  subst e2
  subst e3
  exact ⟨_, _, _, gg, rfl, hn', hown, h.up⟩
theorem NewT.none {w w' : World} {xss : List (List Int)} (h : Below w.heap.size w w') (hx : xss = []) : NewT w xss (.returned (.slice none 0 0)) w' := by
  subst hx
  exact ⟨_, _, _, 0, rfl, rfl, OwnR.nil _ _ _ _, h⟩
theorem resF_yes {a : List (List Int)} (h : VQ a) : resF a = resR a 8 := by unfold resF; rw [if_pos (pb_true h)]
theorem resF_no {a : List (List Int)} (h : ¬ VQ a) : resF a = [] := by unfold resF; rw [if_neg (by rw [pb_false h]; decide)]

end Go.Proofs.Ytbmacoppeidhaaa

