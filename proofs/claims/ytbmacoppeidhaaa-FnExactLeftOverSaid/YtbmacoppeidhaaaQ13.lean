/- Texts merged: K8 K9 LO8 LO9 LO10. -/
import Derived.Test.YtbmacoppeidhaaaQ12
import Derived.Laws.CopyOwn
/- The next shares, by both programs. -/
namespace Go.Proofs.Ytbmacoppeidhaaa
open Go.RowKit

/-- What the next shares are to each other. -/
def nxV (a : List (List Int)) (x : List Int) (n i : Nat) : Int := gi x i * dotr a x i n
def nxL (a : List (List Int)) (x : List Int) (n k : Nat) : List Int := (List.range k).map (nxV a x n)
theorem nxL_succ (a : List (List Int)) (x : List Int) (n k : Nat) : nxL a x n (k + 1) = nxL a x n k ++ [nxV a x n k] := by simp [nxL, List.range_succ]
theorem nxL_len (a : List (List Int)) (x : List Int) (n k : Nat) : (nxL a x n k).length = k := by simp [nxL]
theorem gi_nxL {a : List (List Int)} {x : List Int} {n k i : Nat} (h : i < k) : gi (nxL a x n k) i = nxV a x n i := gi_range h
theorem VQ.len2' {a : List (List Int)} {n : Nat} (v : VQ a) (hl : a.length = n) : (gr a 0).length = n := by have := v.2; omega
theorem dotr_pos {a : List (List Int)} {x : List Int} {i n : Nat} (ha : ∀ j, j < n → 1 ≤ g2 a i j) (hx : ∀ j, j < n → 0 ≤ gi x j) : ∀ {k}, k ≤ n → sm x k ≤ dotr a x i k
  | 0, _ => Int.le_refl _
  | k + 1, h => by
    have h1 := dotr_pos ha hx (k := k) (by omega)
    have h2 := ha k (by omega)
    have h3 := hx k (by omega)
    have h4 : 1 * gi x k ≤ g2 a i k * gi x k := Int.mul_le_mul_of_nonneg_right h2 h3
    simp only [sm, dotr]
    omega
/-- A field and shares. -/
structure FS (a : List (List Int)) (x : List Int) (n : Nat) : Prop where
  f : VF a
  s : VS x (n : Int)
  l : a.length = n
theorem FS.n3 {a x n} (h : FS a x n) : 1 ≤ n ∧ n ≤ 3 := by have := h.f.q.1.n1; have := h.f.q.1.n3; have := h.l; omega
theorem FS.xl {a x n} (h : FS a x n) : x.length = n := by have := h.s.1; omega
theorem FS.x {a x n} (h : FS a x n) : ∀ j, j < n → 0 ≤ gi x j ∧ gi x j ≤ 1000 := VS.bds h.s
theorem FS.a {a x n} (h : FS a x n) {i j : Nat} (hi : i < n) (hj : j < n) : 1 ≤ g2 a i j ∧ g2 a i j ≤ 9 := by
  have hl := h.l
  have h1 := h.f.p i j (by omega) (by omega)
  have h2 := h.f.q.1.bd (i := i) (j := j) (by omega) (by have := h.f.q.2; omega)
  omega
theorem FS.dot {a x n} (h : FS a x n) {i : Nat} (hi : i < n) : 1 ≤ dotr a x i n ∧ dotr a x i n ≤ 27000 := by
  have h0 := h.n3
  have h1 := dotr_pos (a := a) (x := x) (i := i) (n := n) (fun j hj => (h.a hi hj).1) (fun j hj => (h.x j hj).1) (Nat.le_refl n)
  have h2 := dotr_bd (a := a) (w := x) (i := i) (m := n) (fun j hj => by have := h.a hi hj; omega) h.x (Nat.le_refl n)
  have h3 := h.s.2.2
  unfold tot at h3
  rw [h.xl] at h3
  omega
theorem FS.nx {a x n} (h : FS a x n) {i : Nat} (hi : i < n) : 0 ≤ nxV a x n i ∧ nxV a x n i ≤ 27000000 ∧ (0 < gi x i → 0 < nxV a x n i) := by
  have h1 := h.dot hi
  have h2 := h.x i hi
  unfold nxV
  have h3 : 0 * dotr a x i n ≤ gi x i * dotr a x i n := Int.mul_le_mul_of_nonneg_right h2.1 (by omega)
  have h4 : gi x i * dotr a x i n ≤ 1000 * 27000 := Int.mul_le_mul h2.2 h1.2 (by omega) (by omega)
  exact ⟨by omega, by omega, fun h => Int.mul_pos h (by omega)⟩
theorem sm_has {x : List Int} : ∀ {k}, (∀ j, j < k → 0 ≤ gi x j) → 0 < sm x k → ∃ j, j < k ∧ 0 < gi x j
  | 0, _, h => by simp [sm] at h
  | k + 1, hp, h => by
    by_cases e : 0 < gi x k
    · exact ⟨k, by omega, e⟩
    · have h1 := hp k (by omega)
      obtain ⟨j, hj, hp'⟩ := sm_has (x := x) (k := k) (fun j hj => hp j (by omega)) (by simp only [sm] at h; omega)
      exact ⟨j, by omega, hp'⟩
theorem FS.clr {a x n} (h : FS a x n) : ClrP (nxL a x n n) ∧ 0 < gcdL (nxL a x n n) n := by
  have h0 := h.s.2.2
  unfold tot at h0
  rw [h.xl] at h0
  obtain ⟨j, hj, hp⟩ := sm_has (fun j hj => (h.x j hj).1) h0
  have hc : ClrP (nxL a x n n) := by
    refine ⟨⟨j, by rw [nxL_len]; exact hj, ?_⟩, .inl fun p hp => ?_⟩
    · rw [gi_nxL hj]; have := (h.nx hj).2.2 hp; omega
    · rw [nxL_len] at hp; rw [gi_nxL hp]; exact (h.nx hp).1
  exact ⟨hc, (clr_yes (nxL_len a x n n) hc).1⟩
theorem FS.mid {a x n} (h : FS a x n) : ∀ p, p < (nxL a x n n).length → Mid (gi (nxL a x n n) p) := fun p hp => by
  rw [nxL_len] at hp
  rw [gi_nxL hp]
  have := h.nx hp
  unfold Mid
  omega
/-- What NextShares answers. -/
noncomputable def nsF (a : List (List Int)) (x : List Int) : List Int := if pb (VF a ∧ VS x a.length) = true then clrL (nxL a x a.length a.length) (gcdL (nxL a x a.length a.length) a.length) a.length else []
theorem nsF_yes {a : List (List Int)} {x : List Int} {n : Nat} (h : FS a x n) : nsF a x = clrL (nxL a x n n) (gcdL (nxL a x n n) n) n := by
  unfold nsF; rw [if_pos (pb_true ⟨h.f, by rw [h.l]; exact h.s⟩), h.l]
theorem nsF_no {a : List (List Int)} {x : List Int} (h : ¬ (VF a ∧ VS x a.length)) : nsF a x = [] := by unfold nsF; rw [if_neg (by rw [pb_false h]; decide)]
theorem FS.of {a : List (List Int)} {x : List Int} {n : Nat} (hl : a.length = n) (hf : VF a) (hs : VS x (n : Int)) : FS a x n := ⟨hf, hs, hl⟩
theorem nsF_le (a : List (List Int)) (x : List Int) : (nsF a x).length ≤ 100 := by
  by_cases h : VF a ∧ VS x a.length
  · have hf : FS a x a.length := ⟨h.1, h.2, rfl⟩
    have := hf.n3
    rw [nsF_yes hf, clrL_len]; omega
  · rw [nsF_no h]; simp

end Go.Proofs.Ytbmacoppeidhaaa

/- NextShares, by both programs. -/
namespace Go.Proofs.Ytbmacoppeidhaaa
open Go.RowKit

theorem NewI.empty {w w' : World} {ys : List Int} (h : Below w.heap.size w w') (hy : ys = []) : NewI w ys (.returned (.slice none 0 0)) w' := by
  subst hy; exact ⟨none, 0, 0, 0, rfl, rfl, OwnI.nil _ _ _ _, h⟩
theorem NewI.from {w w1 w2 : World} {ys : List Int} {e : Ending} (h : Below w.heap.size w w1) (k : NewI w1 ys e w2) : NewI w ys e w2 := by
  obtain ⟨A, n, c, g, he, hn, ho, hb⟩ := k
  exact ⟨A, n, c, g, he, hn, ho.mono h.size (Nat.le_refl _), below_up h hb⟩


end Go.Proofs.Ytbmacoppeidhaaa

/- What is left over, by the program: the marked. -/
namespace Go.Proofs.Ytbmacoppeidhaaa
open Go.RowKit

theorem selL_yes {f : Nat → Bool} {k : Nat} (h : f k = true) : selL f (k + 1) = selL f k ++ [(k : Int)] := by simp [selL, List.range_succ, List.filter_append, h]
theorem selL_no {f : Nat → Bool} {k : Nat} (h : f k = false) : selL f (k + 1) = selL f k := by simp [selL, List.range_succ, List.filter_append, h]
theorem selL_small (f : Nat → Bool) (n : Nat) (hn : n ≤ 100) : ∀ y ∈ selL f n, -1000000000000000 ≤ y ∧ y ≤ 1000000000000000 := fun y hy => by
  obtain ⟨k, hk, _, rfl⟩ := selL_mem.1 hy
  omega

set_option maxRecDepth 100000 in
set_option maxHeartbeats 3200000 in
theorem marked_any (m : Nat → Bool) (w : World) : Calls Try.prog 68 #[.agg (bs3 m)] w (NewI w (selL m 3)) := by
  have HB := Lib.hid (below_alloc w (.cells (bs3 m) 86))
  have HK := Lib.hid (blk_new w 86 (bs3 m))
  go_enter Try.func68, Try.ntmps68
  have c0 := blk_cell HK.out (i := 0) (v := .bool (m 0)) rfl
  have c1 := blk_cell HK.out (i := 1) (v := .bool (m 1)) rfl
  have c2 := blk_cell HK.out (i := 2) (v := .bool (m 2)) rfl
  go_wp2
  clear c0 c1 c2 HK
  generalize w.alloc (.cells (bs3 m) 86) = W1 at *
  have HS0 := Lib.hid (IU.nil W1)
  go_loopw [3, 7] (fun v i wr => ∃ k : Nat, k ≤ 3 ∧ i = .int .i64 k ∧ Hid (IU W1 v (selL m k) wr)) (fun _ i _ => 3 - (intOf i).toNat)
  case atStart => exact ⟨0, by omega, rfl, HS0⟩
  case round =>
    clear HS0
    obtain ⟨k, hk, rfl, HI⟩ := hrel
    obtain ⟨Av, cv, rfl⟩ := HI.out.bi.form
    by_cases hlt : k < 3
    · have ix : ∀ W, (Instr.index 86 (.agg #[.bool (m 0), .bool (m 1), .bool (m 2)]) (.int .i64 k)).run Try.prog W = .ok (.bool (m k)) W := by
        have : k = 0 ∨ k = 1 ∨ k = 2 := by omega
        rcases this with rfl | rfl | rfl <;> exact fun _ => by kernel_rfl
      cases hm : m k
      · have HCS := Lib.hid (selL_no hm)
        rw [hm] at ix
        clear hm
        go_wp2
        clear ix
        go_roundw
        case rel => exact ⟨k + 1, by omega, by go_num, Lib.hid (by rw [HCS.out]; exact HI.out)⟩
        case measure => simp [intOf]; omega
      · have HCS := Lib.hid (selL_yes hm)
        rw [hm] at ix
        clear hm
        have HML := Lib.hid (selL_len m k)
        have hb := below_alloc wr (.cells #[iv (k : Int)] 3)
        have HB4 := Lib.hid (HI.out.bi.below hb).own
        have HN := Lib.hid (cell_one_new wr (iv (k : Int)) 3)
        have hwz := HI.out.up.size
        clear hb
        generalize selL m k = ys at *
        obtain ⟨i0, hi0, hz0, hz1, hz2⟩ := info_parts Try.info_int
        go_wp2_with (at_builtin; refine wpList_append_own_at _ rfl _ _ 23 rfl W1.heap.size 3 i0 (.int .i64 0) 1 8 Try.underlying23 hi0 hz0 hz1 hz2 rfl (by decide) _ ys.length (ys.map iv) rfl HB4.out ⟨wr.heap.size, 0, none⟩ 1 1 [iv (k : Int)] rfl rfl ?c1 ?c2 ?c3 ?c4 ?c5 ?_)
        case c1 => exact HN.out
        case c2 => intro u hu; simp at hu; subst hu; rfl
        case c3 => have := HML.out; unfold maxLen; omega
        case c4 => have := HML.out; omega
        case c5 => simp; omega
        intro v' w5 hown' hgrow _ hat
        have HI5 := Lib.hid (HI.out.push hown' hgrow (by simpa using hat))
        clear HB4 HN hown' hgrow hat HI ix
        go_wp2
        go_roundw
        case rel => exact ⟨k + 1, by omega, by go_num, Lib.hid (by rw [HCS.out]; exact HI5.out)⟩
        case measure => simp [intOf]; omega
    · obtain rfl : k = 3 := by omega
      have HNW := Lib.hid (NewI.from HB.out (HI.out.new (by have := selL_len m 3; omega) (selL_small m 3 (by omega))))
      go_wp2
      go_ret
      exact HNW.out
end Go.Proofs.Ytbmacoppeidhaaa

/- What is left over: the program's marks and the sets of LO2. Plain. -/
namespace Go.Proofs.Ytbmacoppeidhaaa

/-- f below n, and nothing behind. -/
def cutF (f : Nat → Bool) (n : Nat) : Nat → Bool := fun i => decide (i < n) && f i
theorem bs3_congr {f g : Nat → Bool} (h : ∀ i, i < 3 → f i = g i) : bs3 f = bs3 g := by unfold bs3; rw [h 0 (by omega), h 1 (by omega), h 2 (by omega)]
theorem cut_all (n : Nat) : bs3 (cutF (fun _ => true) n) = bs3 fun j => decide (j < n) := bs3_congr fun i _ => by simp [cutF]
theorem cut_sel {f : Nat → Bool} {n : Nat} (hn : n ≤ 3) : selL (cutF f n) 3 = selL f n := by
  have : n = 0 ∨ n = 1 ∨ n = 2 ∨ n = 3 := by omega
  rcases this with rfl | rfl | rfl | rfl <;> simp [selL, cutF, List.range_succ, List.filter_cons]
theorem BM_cut {a : List (List Int)} {f h : Nat → Bool} {n m i : Nat} (hn : n ≤ 3) (hm : m ≤ 3) (hi : i < n) (F : Nat → Nat → Int) (hF : ∀ r j, r < n → j < m → F r j = g2 a r j) : BM F (cutF f n) (cutF h m) i 3 ↔ BT a f h n m i := by
  constructor
  · rintro ⟨r, _, hr, hl⟩
    simp only [cutF, Bool.and_eq_true, decide_eq_true_eq] at hr
    exact ⟨r, hr.1, hr.2, fun y hy hh => by have := hl y (by omega) (by simp only [cutF, Bool.and_eq_true, decide_eq_true_eq]; exact ⟨hy, hh⟩); rwa [hF i y hi hy, hF r y hr.1 hy] at this⟩
  · rintro ⟨r, h1, h2, h3⟩
    refine ⟨r, by omega, by simp only [cutF, Bool.and_eq_true, decide_eq_true_eq]; exact ⟨h1, h2⟩, fun y _ hy => ?_⟩
    simp only [cutF, Bool.and_eq_true, decide_eq_true_eq] at hy
    rw [hF i y hi hy.1, hF r y h1 hy.1]
    exact h3 y hy.1 hy.2
theorem st_cut {a : List (List Int)} {f h : Nat → Bool} {n m : Nat} (hn : n ≤ 3) (hm : m ≤ 3) (F : Nat → Nat → Int) (hF : ∀ r j, r < n → j < m → F r j = g2 a r j) : bs3 (stM F (cutF f n) (cutF h m)) = bs3 (cutF (stayF a f h n m) n) := by
  apply bs3_congr
  intro i _
  unfold stM
  by_cases hi : i < n
  · rw [pb_congr (BM_cut (f := f) (h := h) hn hm hi F hF)]
    simp [cutF, stayF, hi]
  · simp [cutF, hi]
theorem cut_same {f g : Nat → Bool} {n : Nat} (hn : n ≤ 3) : bs3 (cutF f n) = bs3 (cutF g n) ↔ ∀ i, i < n → f i = g i := by
  constructor
  · intro e i hi
    have h1 := bs3_get (cutF f n) (show i < 3 by omega)
    have h2 := bs3_get (cutF g n) (show i < 3 by omega)
    rw [e, h2] at h1
    simpa [cutF, hi, eq_comm] using h1
  · intro h
    apply bs3_congr
    intro i _
    by_cases hi : i < n
    · simp [cutF, hi, h i hi]
    · simp [cutF, hi]
end Go.Proofs.Ytbmacoppeidhaaa

/- LeftOver, by the program. -/
namespace Go.Proofs.Ytbmacoppeidhaaa
open Go.RowKit

structure R4 (p : GP) (w0 : World) (xs ys : List (List Int)) (f1 f2 : Nat → Nat → Int) (q4 q5 : Nat) (L : Array Bool) (u20 u21 u22 u23 u24 u25 u26 u27 u28 u29 u6 u7 : Value) (q6 : Nat) (q7 : Nat) (g6 : Nat → Bool) (g7 : Nat → Bool) (W : World) : Prop where
  gt : GT p w0 W w0.heap.size xs ys
  k4 : Blk W q4 83 (cs9 f1)
  k5 : Blk W q5 83 (cs9 f2)
  h0 : On L 0 → u20 = .pointer (some ⟨w0.heap.size, 0, none⟩)
  h1 : On L 1 → u21 = .slice (some ⟨p.ba, p.oa, none⟩) p.n p.c
  h2 : On L 2 → u22 = .int .i64 p.n
  h3 : On L 3 → u23 = .agg (bs3 fun j => decide (j < p.n))
  h4 : On L 4 → u24 = .pointer (some ⟨w0.heap.size, 0, none⟩)
  h5 : On L 5 → u25 = .slice (some ⟨p.ba, p.oa, none⟩) p.n p.c
  h6 : On L 6 → u26 = .pointer (some ⟨p.ba, p.oa, none⟩)
  h7 : On L 7 → u27 = .slice (some ⟨p.ra 0, p.pa 0, none⟩) p.m (p.ca 0)
  h8 : On L 8 → u28 = .int .i64 p.m
  h9 : On L 9 → u29 = .agg (bs3 fun j => decide (j < p.m))
  h10 : On L 10 → u6 = .pointer (some ⟨q6, 0, none⟩) ∧ w0.heap.size < q6 ∧ q4 ≠ q6 ∧ q5 ≠ q6 ∧ Blk W q6 86 (bs3 g6)
  h11 : On L 11 → u7 = .pointer (some ⟨q7, 0, none⟩) ∧ w0.heap.size < q7 ∧ q4 ≠ q7 ∧ q5 ≠ q7 ∧ Blk W q7 86 (bs3 g7)
  hne : On L 10 → On L 11 → q6 ≠ q7
  h12 : On L 12 → On L 10 ∧ Blk W q6 86 (bs3 fun j => decide (j < p.n))
  h13 : On L 13 → On L 11 ∧ Blk W q7 86 (bs3 fun j => decide (j < p.m))
theorem R4.up {p w0 xs ys f1 f2 q4 q5 L u20 u21 u22 u23 u24 u25 u26 u27 u28 u29 u6 u7 q6 q7 g6 g7 W W'} (Hy : R4 p w0 xs ys f1 f2 q4 q5 L u20 u21 u22 u23 u24 u25 u26 u27 u28 u29 u6 u7 q6 q7 g6 g7 W) (k : Below W.heap.size W W') : R4 p w0 xs ys f1 f2 q4 q5 L u20 u21 u22 u23 u24 u25 u26 u27 u28 u29 u6 u7 q6 q7 g6 g7 W' :=
  ⟨Hy.gt.up k, blk_below Hy.k4 k, blk_below Hy.k5 k, Hy.h0, Hy.h1, Hy.h2, Hy.h3, Hy.h4, Hy.h5, Hy.h6, Hy.h7, Hy.h8, Hy.h9, fun o => let ⟨a, b, c, d, r⟩ := (Hy.h10 o); ⟨a, b, c, d, blk_below r k⟩, fun o => let ⟨a, b, c, d, r⟩ := (Hy.h11 o); ⟨a, b, c, d, blk_below r k⟩, Hy.hne, fun o => (Hy.h12 o).imp id (fun r => blk_below r k), fun o => (Hy.h13 o).imp id (fun r => blk_below r k)⟩
structure R8 (w0 : World) (q6 q7 : Nat) (f h : Nat → Bool) (L : Array Bool) (u46 u47 u48 u49 u2 u3 : Value) (A1 : Option Addr) (n1 : Nat) (c1 : Nat) (g1 : Nat) (A2 : Option Addr) (n2 : Nat) (c2 : Nat) (g2 : Nat) (W : World) : Prop where
  bl : Below w0.heap.size w0 W
  k6 : Blk W q6 86 (bs3 f)
  k7 : Blk W q7 86 (bs3 h)
  h0 : On L 0 → u46 = .agg (bs3 f)
  h1 : On L 1 → u47 = .slice A1 n1 c1 ∧ SelO w0.heap.size W f 3 A1 n1 c1 g1
  h2 : On L 2 → u48 = .agg (bs3 h)
  h3 : On L 3 → u49 = .slice A2 n2 c2 ∧ SelO w0.heap.size W h 3 A2 n2 c2 g2
  hd : On L 3 → On L 1 ∧ (0 < n1 → 0 < n2 → g1 ≠ g2)
  h4 : On L 4 → On L 1 ∧ u2 = .slice A1 n1 c1
  h5 : On L 5 → On L 3 ∧ u3 = .slice A2 n2 c2
theorem R8.up {w0 q6 q7 f h L u46 u47 u48 u49 u2 u3 A1 n1 c1 g1 A2 n2 c2 g2 W W'} (Hy : R8 w0 q6 q7 f h L u46 u47 u48 u49 u2 u3 A1 n1 c1 g1 A2 n2 c2 g2 W) (k : Below W.heap.size W W') : R8 w0 q6 q7 f h L u46 u47 u48 u49 u2 u3 A1 n1 c1 g1 A2 n2 c2 g2 W' :=
  ⟨below_up Hy.bl k, blk_below Hy.k6 k, blk_below Hy.k7 k, Hy.h0, fun o => (Hy.h1 o).imp id (fun r => r.up k), Hy.h2, fun o => (Hy.h3 o).imp id (fun r => r.up k), Hy.hd, Hy.h4, Hy.h5⟩
structure R9 (w0 : World) (q4 q5 q6 q7 q8 q9 : Nat) (F1 F2 : Nat → Nat → Int) (f' h' : Nat → Bool) (L : Array Bool) (u50 u51 : Value) (g6 : Nat → Bool) (g7 : Nat → Bool) (W : World) : Prop where
  bl : Below w0.heap.size w0 W
  k4 : Blk W q4 83 (cs9 F1)
  k5 : Blk W q5 83 (cs9 F2)
  k6 : Blk W q6 86 (bs3 g6)
  k7 : Blk W q7 86 (bs3 g7)
  k8 : Blk W q8 86 (bs3 f')
  k9 : Blk W q9 86 (bs3 h')
  h0 : On L 0 → u50 = .agg (bs3 f')
  h1 : On L 1 → u51 = .agg (bs3 h')
  h2 : On L 2 → Blk W q6 86 (bs3 f')
  h3 : On L 3 → Blk W q7 86 (bs3 h')
theorem R9.up {w0 q4 q5 q6 q7 q8 q9 F1 F2 f' h' L u50 u51 g6 g7 W W'} (Hy : R9 w0 q4 q5 q6 q7 q8 q9 F1 F2 f' h' L u50 u51 g6 g7 W) (k : Below W.heap.size W W') : R9 w0 q4 q5 q6 q7 q8 q9 F1 F2 f' h' L u50 u51 g6 g7 W' :=
  ⟨below_up Hy.bl k, blk_below Hy.k4 k, blk_below Hy.k5 k, blk_below Hy.k6 k, blk_below Hy.k7 k, blk_below Hy.k8 k, blk_below Hy.k9 k, Hy.h0, Hy.h1, fun o => blk_below (Hy.h2 o) k, fun o => blk_below (Hy.h3 o) k⟩
/-- Two new slices of ints, apart. -/
def NewIX (w : World) (xs ys : List Int) (e : Ending) (w' : World) : Prop :=
  ∃ A n c g B m d h, e = .returned (.tuple #[.slice A n c, .slice B m d]) ∧ n = xs.length ∧ m = ys.length ∧ OwnI w.heap.size w'.heap.size w' g A n c xs ∧ OwnI w.heap.size w'.heap.size w' h B m d ys ∧ Below w.heap.size w w' ∧ (0 < n → 0 < m → g ≠ h)
/-- What LeftOver answers, in memory that is apart. -/
def LeftX (xs ys : List (List Int)) (w : World) (e : Ending) (w' : World) : Prop :=
  (¬ VG xs ys ∧ NewIX w [] [] e w') ∨ VG xs ys ∧ ∃ k, SameS xs.length (gr xs 0).length (loIt xs (flip ys xs.length (gr xs 0).length) xs.length (gr xs 0).length (k + 1)) (loIt xs (flip ys xs.length (gr xs 0).length) xs.length (gr xs 0).length k) ∧
    NewIX w (selL (loIt xs (flip ys xs.length (gr xs 0).length) xs.length (gr xs 0).length k).1 xs.length) (selL (loIt xs (flip ys xs.length (gr xs 0).length) xs.length (gr xs 0).length k).2 (gr xs 0).length) e w'
/-- The lists that are left over. -/
def LoIs (xs ys : List (List Int)) (R C : List Int) : Prop :=
  (¬ VG xs ys ∧ R = [] ∧ C = []) ∨ VG xs ys ∧ ∃ k, SameS xs.length (gr xs 0).length (loIt xs (flip ys xs.length (gr xs 0).length) xs.length (gr xs 0).length (k + 1)) (loIt xs (flip ys xs.length (gr xs 0).length) xs.length (gr xs 0).length k) ∧
    R = selL (loIt xs (flip ys xs.length (gr xs 0).length) xs.length (gr xs 0).length k).1 xs.length ∧ C = selL (loIt xs (flip ys xs.length (gr xs 0).length) xs.length (gr xs 0).length k).2 (gr xs 0).length
theorem LeftX.lists {xs ys w e w'} (h : LeftX xs ys w e w') : ∃ R C, LoIs xs ys R C ∧ NewIX w R C e w' := by
  rcases h with ⟨hv, hn⟩ | ⟨hv, k, hs, hn⟩
  · exact ⟨_, _, .inl ⟨hv, rfl, rfl⟩, hn⟩
  · exact ⟨_, _, .inr ⟨hv, k, hs, rfl, rfl⟩, hn⟩
theorem LeftO.lists {xs ys w e w'} (h : LeftO xs ys w e w') : ∃ R C, LoIs xs ys R C ∧ NewII w R C e w' := by
  rcases h with ⟨hv, hn⟩ | ⟨hv, k, hs, hn⟩
  · exact ⟨_, _, .inl ⟨hv, rfl, rfl⟩, hn⟩
  · exact ⟨_, _, .inr ⟨hv, k, hs, rfl, rfl⟩, hn⟩
theorem LoIs.one {xs ys R C R' C'} (h' : LoIs xs ys R' C') (h : LoIs xs ys R C) : R' = R ∧ C' = C := by
  rcases h with ⟨hv, rfl, rfl⟩ | ⟨hv, k, hs, rfl, rfl⟩
  · rcases h' with ⟨_, rfl, rfl⟩ | ⟨hv', _⟩
    · exact ⟨rfl, rfl⟩
    · exact absurd hv' hv
  · rcases h' with ⟨hv', _⟩ | ⟨_, l, hs', rfl, rfl⟩
    · exact absurd hv hv'
    · have e := loIt_one hs' hs
      exact ⟨selL_congr e.1, selL_congr e.2⟩
theorem LoIs.le {xs ys R C} (h : LoIs xs ys R C) : R.length ≤ 3 ∧ C.length ≤ 3 := by
  rcases h with ⟨_, rfl, rfl⟩ | ⟨hv, k, _, rfl, rfl⟩
  · simp
  · have h1 := selL_len (loIt xs (flip ys xs.length (gr xs 0).length) xs.length (gr xs 0).length k).1 xs.length
    have h2 := selL_len (loIt xs (flip ys xs.length (gr xs 0).length) xs.length (gr xs 0).length k).2 (gr xs 0).length
    have h3 := hv.ta.n3
    have h4 := hv.ta.m3
    omega
/-- The round k of leaving out: the tables and the marks. -/
structure LS (w : World) (xs ys : List (List Int)) (n m : Nat) (F1 F2 : Nat → Nat → Int) (q4 q5 q6 q7 k : Nat) (W : World) : Prop where
  up : Below w.heap.size w W
  k4 : Blk W q4 83 (cs9 F1)
  k5 : Blk W q5 83 (cs9 F2)
  k6 : Blk W q6 86 (bs3 (cutF (loIt xs (flip ys n m) n m k).1 n))
  k7 : Blk W q7 86 (bs3 (cutF (loIt xs (flip ys n m) n m k).2 m))
theorem LS.next {w xs ys n m F1 F2 q4 q5 q6 q7 k W W'} (h : LS w xs ys n m F1 F2 q4 q5 q6 q7 k W) (b : Below W.heap.size W W') : LS w xs ys n m F1 F2 q4 q5 q6 q7 k W' :=
  ⟨below_up h.up b, blk_below h.k4 b, blk_below h.k5 b, blk_below h.k6 b, blk_below h.k7 b⟩
/-- How many of three marks are set. -/
def tB (v : Option Value) : Nat := match v with | some (.bool true) => 1 | _ => 0
def mB (W : World) (q : Nat) : Nat := tB (W.cell? ⟨q, 0, none⟩) + tB (W.cell? ⟨q, 1, none⟩) + tB (W.cell? ⟨q, 2, none⟩)
theorem tB_bool (b : Bool) : tB (some (.bool b)) = b.toNat := by cases b <;> rfl
theorem mB_blk {W q t f} (h : Blk W q t (bs3 f)) : mB W q = (selL f 3).length := by
  have c0 := blk_cell h (i := 0) (v := .bool (f 0)) rfl
  have c1 := blk_cell h (i := 1) (v := .bool (f 1)) rfl
  have c2 := blk_cell h (i := 2) (v := .bool (f 2)) rfl
  unfold mB
  rw [c0, c1, c2, tB_bool, tB_bool, tB_bool]
  have e : (selL f 3).length = ((List.range 3).filter f).length := by simp [selL]
  rw [e]
  simp only [List.range_succ, List.range_zero, List.nil_append, List.filter_append, List.filter_cons, List.filter_nil, List.length_append]
  cases f 0 <;> cases f 1 <;> cases f 2 <;> rfl
theorem cut3 {f g : Nat → Bool} {n : Nat} (hn : n ≤ 3) (h0 : cutF f n 0 = cutF g n 0) (h1 : cutF f n 1 = cutF g n 1) (h2 : cutF f n 2 = cutF g n 2) (i : Nat) (hi : i < n) : f i = g i := by
  have : i = 0 ∨ i = 1 ∨ i = 2 := by omega
  rcases this with rfl | rfl | rfl
  · simpa [cutF, hi] using h0
  · simpa [cutF, hi] using h1
  · simpa [cutF, hi] using h2
theorem cut3' {f g : Nat → Bool} {n : Nat} (h : ∀ i, i < n → f i = g i) : cutF f n 0 = cutF g n 0 ∧ cutF f n 1 = cutF g n 1 ∧ cutF f n 2 = cutF g n 2 := by
  have e : ∀ i, cutF f n i = cutF g n i := fun i => by
    unfold cutF
    by_cases hi : i < n
    · simp [hi, h i hi]
    · simp [hi]
  exact ⟨e 0, e 1, e 2⟩
theorem eqb_op (f g : Nat → Bool) (w : World) : (binOp .eql 86 (.agg (bs3 f)) (.agg (bs3 g))).run Try.prog w = .ok (.bool (decide (f 0 = g 0 ∧ f 1 = g 1 ∧ f 2 = g 2))) w := by
  unfold bs3
  cases f 0 <;> cases f 1 <;> cases f 2 <;> cases g 0 <;> cases g 1 <;> cases g 2 <;> kernel_rfl
/-- The two tables as arrays under way. -/
structure R3 (p : GP) (w0 : World) (xs ys : List (List Int)) (f1 f2 : Nat → Nat → Int) (L : Array Bool) (u13 u14 u15 u16 u17 u18 u19 u4 u5 : Value) (q4 q5 : Nat) (g4 g5 : Nat → Nat → Int) (W : World) : Prop where
  gt : GT p w0 W w0.heap.size xs ys
  h0 : On L 0 → u13 = .pointer (some ⟨w0.heap.size, 0, none⟩)
  h1 : On L 1 → u14 = .slice (some ⟨p.ba, p.oa, none⟩) p.n p.c
  h2 : On L 2 → u15 = .agg (cs9 f1)
  h3 : On L 3 → u16 = .pointer (some ⟨w0.heap.size, 1, none⟩)
  h4 : On L 4 → u17 = .slice (some ⟨p.bb, p.ob, none⟩) p.n p.d
  h5 : On L 5 → On L 6 ∨ ∃ g, u18 = .slice (some ⟨g, 0, none⟩) p.m p.m ∧ IntRows W (some ⟨g, 0, none⟩) p.m p.m (flip ys p.n p.m)
  h6 : On L 6 → u19 = .agg (cs9 f2)
  h7 : On L 7 → u4 = .pointer (some ⟨q4, 0, none⟩) ∧ w0.heap.size < q4 ∧ Blk W q4 83 (cs9 g4)
  h8 : On L 8 → u5 = .pointer (some ⟨q5, 0, none⟩) ∧ w0.heap.size < q5 ∧ Blk W q5 83 (cs9 g5)
  hne : On L 7 → On L 8 → q4 ≠ q5
  h9 : On L 9 → On L 7 ∧ Blk W q4 83 (cs9 f1)
  h10 : On L 10 → On L 8 ∧ Blk W q5 83 (cs9 f2)
theorem R3.up {p w0 xs ys f1 f2 L u13 u14 u15 u16 u17 u18 u19 u4 u5 q4 q5 g4 g5 W W'} (h : R3 p w0 xs ys f1 f2 L u13 u14 u15 u16 u17 u18 u19 u4 u5 q4 q5 g4 g5 W) (k : Below W.heap.size W W') : R3 p w0 xs ys f1 f2 L u13 u14 u15 u16 u17 u18 u19 u4 u5 q4 q5 g4 g5 W' :=
  ⟨h.gt.up k, h.h0, h.h1, h.h2, h.h3, h.h4, fun o => (h.h5 o).imp id (fun ⟨g, e, r⟩ => ⟨g, e, r.keep (Keep.below k)⟩), h.h6, fun o => let ⟨a, b, r⟩ := h.h7 o; ⟨a, b, blk_below r k⟩, fun o => let ⟨a, b, r⟩ := h.h8 o; ⟨a, b, blk_below r k⟩, h.hne, fun o => (h.h9 o).imp id (fun r => blk_below r k), fun o => (h.h10 o).imp id (fun r => blk_below r k)⟩
set_option maxRecDepth 100000 in
set_option maxHeartbeats 1600000 in
theorem LeftOver_impl (A B : Option Addr) (n c m d : Nat) (xs ys : List (List Int)) (w : World) (hx : IntRows w A n c xs) (hy : IntRows w B m d ys) :
    Calls Try.prog 30 #[.agg #[.slice A n c, .slice B m d]] w (LeftX xs ys w) := by
  have hb0 := below_alloc w (.cells #[.slice A n c, .slice B m d] 40)
  have b0 := blk_new w 40 #[.slice A n c, .slice B m d]
  have HB := Lib.hid hb0
  have HK := Lib.hid b0
  have HX := Lib.hid (hx.keep (Keep.below hb0))
  have HY := Lib.hid (hy.keep (Keep.below hb0))
  have HX0 := Lib.hid hx
  have HY0 := Lib.hid hy
  have c0 := blk_cell b0 (i := 0) (v := .slice A n c) rfl
  have c1 := blk_cell b0 (i := 1) (v := .slice B m d) rfl
  clear hx hy hb0 b0
  go_enter Try.func30, Try.ntmps30
  go_wp2_with fail
  generalize w.alloc (.cells #[.slice A n c, .slice B m d] 40) = W1 at *
  have HC := Lib.hid (ValidGame_impl _ _ _ _ _ _ _ _ _ HX.out HY.out)
  by_cases hv : VG xs ys
  · refine ((pb_true hv) ▸ HC.out).mono ?_
    rintro e w1 ⟨rfl, hb⟩
    have HV := Lib.hid hv
    have hb2 := below_up HB.out hb
    have hk2 := blk_below HK.out hb
    obtain ⟨p, rfl, rfl, rfl, rfl, rfl, rfl, hg⟩ := GV.of HX0.out HY0.out hv
    have HT := Lib.hid (show GT p w w1 w.heap.size xs ys from ⟨hb2, hk2, hg⟩)
    have HF := Lib.hid (show VT (flip ys p.n p.m) by have := hv.tb.flip; rw [show ys.length = p.n from HY0.out.len, show (gr ys 0).length = p.m by rw [← hv.m, hg.mx]] at this; exact this)
    have HFM := Lib.hid (show (gr (flip ys p.n p.m) 0).length = p.n from gr_flip0 hg.tx.m1)
    clear hb hv hb2 hk2 hg HX HY HX0 HY0 HB HK HC c0 c1
    go_wp2
    refine wp_region_invF (rs := [0, 1, 2, 3, 4, 5, 6, 7, 8, 9, 10]) [13, 14, 15, 16, 17, 18, 19, 4, 5] (fun L us W => ∃ u13 u14 u15 u16 u17 u18 u19 u4 u5 q4 q5 g4 g5, us = [u13, u14, u15, u16, u17, u18, u19, u4, u5] ∧ R3 p w xs ys (full9 xs p.n p.m) (full9 (flip ys p.n p.m) p.m p.n) L u13 u14 u15 u16 u17 u18 u19 u4 u5 q4 q5 g4 g5 W) (by kernel_rfl) ?_ (by kernel_rfl) (by kernel_rfl) ?_ ?_
    · refine ⟨[undef, undef, undef, undef, undef, undef, undef, undef, undef], ?_, undef, undef, undef, undef, undef, undef, undef, undef, undef, 0, 0, fun _ _ => 0, fun _ _ => 0, rfl, ?_⟩
      · simp only [frmL, Act.put, List.setIfInBounds_toArray, List.set_cons_zero, List.set_cons_succ]
      exact ⟨HT.out.qu ⟨1, rfl⟩, fun o => o.not_start.elim, fun o => o.not_start.elim, fun o => o.not_start.elim, fun o => o.not_start.elim, fun o => o.not_start.elim, fun o => o.not_start.elim, fun o => o.not_start.elim, fun o => o.not_start.elim, fun o => o.not_start.elim, fun o _ => o.not_start.elim, fun o => o.not_start.elim, fun o => o.not_start.elim⟩
    · refine StepsI.cons (i := 0) (ws := []) rfl (by kernel_rfl) (fun L a W hI hno hon hw K hK => ?_) ?_
      · obtain ⟨_, rfl, u13, u14, u15, u16, u17, u18, u19, u4, u5, q4, q5, g4, g5, rfl, H⟩ := hI
        simp only [List.getElem_toArray, List.getElem_cons_zero, frmL, Act.put, List.setIfInBounds_toArray, List.set_cons_zero, List.set_cons_succ]
        go_simp
        have HN := H
        refine hK.out _ _ ⟨[.pointer (some ⟨w.heap.size, 0, none⟩), u14, u15, u16, u17, u18, u19, u4, u5], ?_, .pointer (some ⟨w.heap.size, 0, none⟩), u14, u15, u16, u17, u18, u19, u4, u5, q4, q5, g4, g5, rfl, ?_⟩
        · simp only [frmL, Act.put, List.setIfInBounds_toArray, List.set_cons_zero, List.set_cons_succ]
        · exact ⟨HN.gt, fun _ => rfl, fun o => HN.h1 (o.of_set (by decide)), fun o => HN.h2 (o.of_set (by decide)), fun o => HN.h3 (o.of_set (by decide)), fun o => HN.h4 (o.of_set (by decide)), fun o => (HN.h5 (o.of_set (by decide))).imp On.old id, fun o => HN.h6 (o.of_set (by decide)), fun o => HN.h7 (o.of_set (by decide)), fun o => HN.h8 (o.of_set (by decide)), fun o o2 => HN.hne (o.of_set (by decide)) (o2.of_set (by decide)), fun o => (HN.h9 (o.of_set (by decide))).imp On.old id, fun o => (HN.h10 (o.of_set (by decide))).imp On.old id⟩
      refine StepsI.cons (i := 1) (ws := [0]) rfl (by kernel_rfl) (fun L a W hI hno hon hw K hK => ?_) ?_
      · obtain ⟨_, rfl, u13, u14, u15, u16, u17, u18, u19, u4, u5, q4, q5, g4, g5, rfl, H⟩ := hI
        obtain rfl := H.h0 (hw 0 (by simp))
        simp only [List.getElem_toArray, List.getElem_cons_zero, List.getElem_cons_succ, frmL, Act.put, List.setIfInBounds_toArray, List.set_cons_zero, List.set_cons_succ]
        have c0 := blk_cell H.gt.box (i := 0) rfl
        go_simp
        have HN := H
        refine hK.out _ _ ⟨[.pointer (some ⟨w.heap.size, 0, none⟩), .slice (some ⟨p.ba, p.oa, none⟩) p.n p.c, u15, u16, u17, u18, u19, u4, u5], ?_, .pointer (some ⟨w.heap.size, 0, none⟩), .slice (some ⟨p.ba, p.oa, none⟩) p.n p.c, u15, u16, u17, u18, u19, u4, u5, q4, q5, g4, g5, rfl, ?_⟩
        · simp only [frmL, Act.put, List.setIfInBounds_toArray, List.set_cons_zero, List.set_cons_succ]
        · exact ⟨HN.gt, fun o => HN.h0 (o.of_set (by decide)), fun _ => rfl, fun o => HN.h2 (o.of_set (by decide)), fun o => HN.h3 (o.of_set (by decide)), fun o => HN.h4 (o.of_set (by decide)), fun o => (HN.h5 (o.of_set (by decide))).imp On.old id, fun o => HN.h6 (o.of_set (by decide)), fun o => HN.h7 (o.of_set (by decide)), fun o => HN.h8 (o.of_set (by decide)), fun o o2 => HN.hne (o.of_set (by decide)) (o2.of_set (by decide)), fun o => (HN.h9 (o.of_set (by decide))).imp On.old id, fun o => (HN.h10 (o.of_set (by decide))).imp On.old id⟩
      refine StepsI.cons (i := 2) (ws := [1]) rfl (by kernel_rfl) (fun L a W hI hno hon hw K hK => ?_) ?_
      · obtain ⟨_, rfl, u13, u14, u15, u16, u17, u18, u19, u4, u5, q4, q5, g4, g5, rfl, H⟩ := hI
        obtain rfl := H.h1 (hw 1 (by simp))
        simp only [List.getElem_toArray, List.getElem_cons_zero, List.getElem_cons_succ, frmL, Act.put, List.setIfInBounds_toArray, List.set_cons_zero, List.set_cons_succ]
        go_simp
        go_wp2_with (go_at_call 64; (with_reducible refine (cellsOf_any _ _ _ _ _ _ _ _ xs W H.gt.gv.tx).mono ?_); rintro e w9 ⟨rfl, hb⟩)
        have HN := H.up hb
        refine hK.out _ _ ⟨[u13, .slice (some ⟨p.ba, p.oa, none⟩) p.n p.c, .agg (cs9 (full9 xs p.n p.m)), u16, u17, u18, u19, u4, u5], ?_, u13, .slice (some ⟨p.ba, p.oa, none⟩) p.n p.c, .agg (cs9 (full9 xs p.n p.m)), u16, u17, u18, u19, u4, u5, q4, q5, g4, g5, rfl, ?_⟩
        · simp only [frmL, Act.put, List.setIfInBounds_toArray, List.set_cons_zero, List.set_cons_succ]
        · exact ⟨HN.gt, fun o => HN.h0 (o.of_set (by decide)), fun o => HN.h1 (o.of_set (by decide)), fun _ => rfl, fun o => HN.h3 (o.of_set (by decide)), fun o => HN.h4 (o.of_set (by decide)), fun o => (HN.h5 (o.of_set (by decide))).imp On.old id, fun o => HN.h6 (o.of_set (by decide)), fun o => HN.h7 (o.of_set (by decide)), fun o => HN.h8 (o.of_set (by decide)), fun o o2 => HN.hne (o.of_set (by decide)) (o2.of_set (by decide)), fun o => (HN.h9 (o.of_set (by decide))).imp On.old id, fun o => (HN.h10 (o.of_set (by decide))).imp On.old id⟩
      refine StepsI.cons (i := 3) (ws := []) rfl (by kernel_rfl) (fun L a W hI hno hon hw K hK => ?_) ?_
      · obtain ⟨_, rfl, u13, u14, u15, u16, u17, u18, u19, u4, u5, q4, q5, g4, g5, rfl, H⟩ := hI
        simp only [List.getElem_toArray, List.getElem_cons_zero, List.getElem_cons_succ, frmL, Act.put, List.setIfInBounds_toArray, List.set_cons_zero, List.set_cons_succ]
        go_simp
        have HN := H
        refine hK.out _ _ ⟨[u13, u14, u15, .pointer (some ⟨w.heap.size, 1, none⟩), u17, u18, u19, u4, u5], ?_, u13, u14, u15, .pointer (some ⟨w.heap.size, 1, none⟩), u17, u18, u19, u4, u5, q4, q5, g4, g5, rfl, ?_⟩
        · simp only [frmL, Act.put, List.setIfInBounds_toArray, List.set_cons_zero, List.set_cons_succ]
        · exact ⟨HN.gt, fun o => HN.h0 (o.of_set (by decide)), fun o => HN.h1 (o.of_set (by decide)), fun o => HN.h2 (o.of_set (by decide)), fun _ => rfl, fun o => HN.h4 (o.of_set (by decide)), fun o => (HN.h5 (o.of_set (by decide))).imp On.old id, fun o => HN.h6 (o.of_set (by decide)), fun o => HN.h7 (o.of_set (by decide)), fun o => HN.h8 (o.of_set (by decide)), fun o o2 => HN.hne (o.of_set (by decide)) (o2.of_set (by decide)), fun o => (HN.h9 (o.of_set (by decide))).imp On.old id, fun o => (HN.h10 (o.of_set (by decide))).imp On.old id⟩
      refine StepsI.cons (i := 4) (ws := [3]) rfl (by kernel_rfl) (fun L a W hI hno hon hw K hK => ?_) ?_
      · obtain ⟨_, rfl, u13, u14, u15, u16, u17, u18, u19, u4, u5, q4, q5, g4, g5, rfl, H⟩ := hI
        obtain rfl := H.h3 (hw 3 (by simp))
        simp only [List.getElem_toArray, List.getElem_cons_zero, List.getElem_cons_succ, frmL, Act.put, List.setIfInBounds_toArray, List.set_cons_zero, List.set_cons_succ]
        have c0 := blk_cell H.gt.box (i := 1) rfl
        go_simp
        have HN := H
        refine hK.out _ _ ⟨[u13, u14, u15, .pointer (some ⟨w.heap.size, 1, none⟩), .slice (some ⟨p.bb, p.ob, none⟩) p.n p.d, u18, u19, u4, u5], ?_, u13, u14, u15, .pointer (some ⟨w.heap.size, 1, none⟩), .slice (some ⟨p.bb, p.ob, none⟩) p.n p.d, u18, u19, u4, u5, q4, q5, g4, g5, rfl, ?_⟩
        · simp only [frmL, Act.put, List.setIfInBounds_toArray, List.set_cons_zero, List.set_cons_succ]
        · exact ⟨HN.gt, fun o => HN.h0 (o.of_set (by decide)), fun o => HN.h1 (o.of_set (by decide)), fun o => HN.h2 (o.of_set (by decide)), fun o => HN.h3 (o.of_set (by decide)), fun _ => rfl, fun o => (HN.h5 (o.of_set (by decide))).imp On.old id, fun o => HN.h6 (o.of_set (by decide)), fun o => HN.h7 (o.of_set (by decide)), fun o => HN.h8 (o.of_set (by decide)), fun o o2 => HN.hne (o.of_set (by decide)) (o2.of_set (by decide)), fun o => (HN.h9 (o.of_set (by decide))).imp On.old id, fun o => (HN.h10 (o.of_set (by decide))).imp On.old id⟩
      refine StepsI.cons (i := 5) (ws := [4, 2]) rfl (by kernel_rfl) (fun L a W hI hno hon hw K hK => ?_) ?_
      · obtain ⟨_, rfl, u13, u14, u15, u16, u17, u18, u19, u4, u5, q4, q5, g4, g5, rfl, H⟩ := hI
        obtain rfl := H.h4 (hw 4 (by simp))
        simp only [List.getElem_toArray, List.getElem_cons_zero, List.getElem_cons_succ, frmL, Act.put, List.setIfInBounds_toArray, List.set_cons_zero, List.set_cons_succ]
        go_simp
        go_wp2_with (go_at_call 65; (with_reducible refine (turned_any _ _ _ _ _ _ _ _ ys W H.gt.gv.ty).mono ?_); rintro e w9 ⟨rfl, hown, hb, -⟩)
        have HN := H.up hb
        refine hK.out _ _ ⟨[u13, u14, u15, u16, .slice (some ⟨p.bb, p.ob, none⟩) p.n p.d, .slice (some ⟨W.heap.size, 0, none⟩) p.m p.m, u19, u4, u5], ?_, u13, u14, u15, u16, .slice (some ⟨p.bb, p.ob, none⟩) p.n p.d, .slice (some ⟨W.heap.size, 0, none⟩) p.m p.m, u19, u4, u5, q4, q5, g4, g5, rfl, ?_⟩
        · simp only [frmL, Act.put, List.setIfInBounds_toArray, List.set_cons_zero, List.set_cons_succ]
        · exact ⟨HN.gt, fun o => HN.h0 (o.of_set (by decide)), fun o => HN.h1 (o.of_set (by decide)), fun o => HN.h2 (o.of_set (by decide)), fun o => HN.h3 (o.of_set (by decide)), fun o => HN.h4 (o.of_set (by decide)), fun _ => .inr ⟨_, rfl, hown.rows⟩, fun o => HN.h6 (o.of_set (by decide)), fun o => HN.h7 (o.of_set (by decide)), fun o => HN.h8 (o.of_set (by decide)), fun o o2 => HN.hne (o.of_set (by decide)) (o2.of_set (by decide)), fun o => (HN.h9 (o.of_set (by decide))).imp On.old id, fun o => (HN.h10 (o.of_set (by decide))).imp On.old id⟩
      refine StepsI.cons (i := 6) (ws := [5, 5]) rfl (by kernel_rfl) (fun L a W hI hno hon hw K hK => ?_) ?_
      · obtain ⟨_, rfl, u13, u14, u15, u16, u17, u18, u19, u4, u5, q4, q5, g4, g5, rfl, H⟩ := hI
        obtain ⟨g, rfl, hr⟩ : ∃ g, u18 = .slice (some ⟨g, 0, none⟩) p.m p.m ∧ IntRows W (some ⟨g, 0, none⟩) p.m p.m (flip ys p.n p.m) := by rcases H.h5 (hw 5 (by simp)) with h | h; exact absurd h hno; exact h
        obtain ⟨b9, o9, rb9, ro9, cc9, e9, tab⟩ := hr.tab HF.out
        rw [HFM.out] at tab
        rw [e9] at H
        rw [e9]
        clear e9 hr
        simp only [List.getElem_toArray, List.getElem_cons_zero, List.getElem_cons_succ, frmL, Act.put, List.setIfInBounds_toArray, List.set_cons_zero, List.set_cons_succ]
        go_simp
        go_wp2_with (go_at_call 64; (with_reducible refine (cellsOf_any _ _ _ _ _ _ _ _ (flip ys p.n p.m) W tab).mono ?_); rintro e w9 ⟨rfl, hb⟩)
        have HN := H.up hb
        refine hK.out _ _ ⟨[u13, u14, u15, u16, u17, .slice (some ⟨b9, o9, none⟩) p.m p.m, .agg (cs9 (full9 (flip ys p.n p.m) p.m p.n)), u4, u5], ?_, u13, u14, u15, u16, u17, .slice (some ⟨b9, o9, none⟩) p.m p.m, .agg (cs9 (full9 (flip ys p.n p.m) p.m p.n)), u4, u5, q4, q5, g4, g5, rfl, ?_⟩
        · simp only [frmL, Act.put, List.setIfInBounds_toArray, List.set_cons_zero, List.set_cons_succ]
        · exact ⟨HN.gt, fun o => HN.h0 (o.of_set (by decide)), fun o => HN.h1 (o.of_set (by decide)), fun o => HN.h2 (o.of_set (by decide)), fun o => HN.h3 (o.of_set (by decide)), fun o => HN.h4 (o.of_set (by decide)), fun _ => .inl hon, fun _ => rfl, fun o => HN.h7 (o.of_set (by decide)), fun o => HN.h8 (o.of_set (by decide)), fun o o2 => HN.hne (o.of_set (by decide)) (o2.of_set (by decide)), fun o => (HN.h9 (o.of_set (by decide))).imp On.old id, fun o => (HN.h10 (o.of_set (by decide))).imp On.old id⟩
      refine StepsI.cons (i := 7) (ws := []) rfl (by kernel_rfl) (fun L a W hI hno hon hw K hK => ?_) ?_
      · obtain ⟨_, rfl, u13, u14, u15, u16, u17, u18, u19, u4, u5, q4, q5, g4, g5, rfl, H⟩ := hI
        simp only [List.getElem_toArray, List.getElem_cons_zero, List.getElem_cons_succ, frmL, Act.put, List.setIfInBounds_toArray, List.set_cons_zero, List.set_cons_succ]
        go_simp
        have HN := H.up (below_alloc W (.cells (cs9 fun _ _ => 0) 83))
        refine hK.out _ _ ⟨[u13, u14, u15, u16, u17, u18, u19, .pointer (some ⟨W.heap.size, 0, none⟩), u5], ?_, u13, u14, u15, u16, u17, u18, u19, .pointer (some ⟨W.heap.size, 0, none⟩), u5, W.heap.size, q5, fun _ _ => 0, g5, rfl, ?_⟩
        · simp only [frmL, Act.put, List.setIfInBounds_toArray, List.set_cons_zero, List.set_cons_succ]
        · exact ⟨HN.gt, fun o => HN.h0 (o.of_set (by decide)), fun o => HN.h1 (o.of_set (by decide)), fun o => HN.h2 (o.of_set (by decide)), fun o => HN.h3 (o.of_set (by decide)), fun o => HN.h4 (o.of_set (by decide)), fun o => (HN.h5 (o.of_set (by decide))).imp On.old id, fun o => HN.h6 (o.of_set (by decide)), fun _ => ⟨rfl, blk_lt H.gt.box, blk_new _ _ _⟩, fun o => HN.h8 (o.of_set (by decide)), fun _ o2 => by obtain ⟨_, _, r⟩ := H.h8 (o2.of_set (by decide)); exact Nat.ne_of_gt (blk_lt r), fun o => absurd (H.h9 (o.of_set (by decide))).1 hno, fun o => (HN.h10 (o.of_set (by decide))).imp On.old id⟩
      refine StepsI.cons (i := 8) (ws := []) rfl (by kernel_rfl) (fun L a W hI hno hon hw K hK => ?_) ?_
      · obtain ⟨_, rfl, u13, u14, u15, u16, u17, u18, u19, u4, u5, q4, q5, g4, g5, rfl, H⟩ := hI
        simp only [List.getElem_toArray, List.getElem_cons_zero, List.getElem_cons_succ, frmL, Act.put, List.setIfInBounds_toArray, List.set_cons_zero, List.set_cons_succ]
        go_simp
        have HN := H.up (below_alloc W (.cells (cs9 fun _ _ => 0) 83))
        refine hK.out _ _ ⟨[u13, u14, u15, u16, u17, u18, u19, u4, .pointer (some ⟨W.heap.size, 0, none⟩)], ?_, u13, u14, u15, u16, u17, u18, u19, u4, .pointer (some ⟨W.heap.size, 0, none⟩), q4, W.heap.size, g4, fun _ _ => 0, rfl, ?_⟩
        · simp only [frmL, Act.put, List.setIfInBounds_toArray, List.set_cons_zero, List.set_cons_succ]
        · exact ⟨HN.gt, fun o => HN.h0 (o.of_set (by decide)), fun o => HN.h1 (o.of_set (by decide)), fun o => HN.h2 (o.of_set (by decide)), fun o => HN.h3 (o.of_set (by decide)), fun o => HN.h4 (o.of_set (by decide)), fun o => (HN.h5 (o.of_set (by decide))).imp On.old id, fun o => HN.h6 (o.of_set (by decide)), fun o => HN.h7 (o.of_set (by decide)), fun _ => ⟨rfl, blk_lt H.gt.box, blk_new _ _ _⟩, fun o2 _ => by obtain ⟨_, _, r⟩ := H.h7 (o2.of_set (by decide)); exact Nat.ne_of_lt (blk_lt r), fun o => (HN.h9 (o.of_set (by decide))).imp On.old id, fun o => absurd (H.h10 (o.of_set (by decide))).1 hno⟩
      refine StepsI.cons (i := 9) (ws := [7, 2, 6, 0, 1, 2, 7, 8]) rfl (by kernel_rfl) (fun L a W hI hno hon hw K hK => ?_) ?_
      · obtain ⟨_, rfl, u13, u14, u15, u16, u17, u18, u19, u4, u5, q4, q5, g4, g5, rfl, H⟩ := hI
        have e2 := H.h2 (hw 2 (by simp))
        have h7 := H.h7 (hw 7 (by simp))
        have e4 := h7.1
        have hq4 := h7.2.1
        have hb4 := h7.2.2
        clear h7
        simp only [List.getElem_toArray, List.getElem_cons_zero, List.getElem_cons_succ, frmL, Act.put, List.setIfInBounds_toArray, List.set_cons_zero, List.set_cons_succ]
        have HSZ : Hid ((Try.prog.info? 83).map (·.size) = some (cs9 (full9 xs p.n p.m)).size) := Lib.hid (by show _ = some 9; kernel_rfl)
        have HS1 : Hid ((cs9 (full9 xs p.n p.m)).all (·.oneCell') = true) := Lib.hid (by simp [cs9, Value.oneCell'])
        rw [if_pos (by rfl)]
        refine wp_store_row 83 _ _ rfl q4 (cs9 (full9 xs p.n p.m)) e4 e2 83 (cs9 g4) hb4 HSZ.out rfl HS1.out ?_
        have HN := H
        refine hK.out _ _ ⟨[u13, u14, u15, u16, u17, u18, u19, u4, u5], ?_, u13, u14, u15, u16, u17, u18, u19, u4, u5, q4, q5, full9 xs p.n p.m, g5, rfl, ?_⟩
        · simp only [frmL, Act.put, List.setIfInBounds_toArray, List.set_cons_zero, List.set_cons_succ]
        · exact ⟨H.gt.up2 (below_row (Below.refl (w.heap.size + 1) W) (by omega) _) (by omega) (Nat.lt_succ_self _), fun o => HN.h0 (o.of_set (by decide)), fun o => HN.h1 (o.of_set (by decide)), fun o => HN.h2 (o.of_set (by decide)), fun o => HN.h3 (o.of_set (by decide)), fun o => HN.h4 (o.of_set (by decide)), fun _ => .inl (hw 6 (by simp)).old, fun o => HN.h6 (o.of_set (by decide)), fun _ => ⟨e4, hq4, blk_row hb4 _⟩, fun o => by obtain ⟨a, b, r⟩ := H.h8 (o.of_set (by decide)); exact ⟨a, b, blk_row_other r _ (fun e => H.hne (hw 7 (by simp)) (o.of_set (by decide)) e.symm)⟩, fun o o2 => HN.hne (o.of_set (by decide)) (o2.of_set (by decide)), fun _ => ⟨(hw 7 (by simp)).old, blk_row hb4 _⟩, fun o => by obtain ⟨a, r⟩ := H.h10 (o.of_set (by decide)); exact ⟨a.old, blk_row_other r _ (fun e => H.hne (hw 7 (by simp)) a e.symm)⟩⟩
      refine StepsI.cons (i := 10) (ws := [8, 6, 9, 0, 1, 2, 3, 4, 5, 6, 7, 8, 9]) rfl (by kernel_rfl) (fun L a W hI hno hon hw K hK => ?_) ?_
      · obtain ⟨_, rfl, u13, u14, u15, u16, u17, u18, u19, u4, u5, q4, q5, g4, g5, rfl, H⟩ := hI
        have e2 := H.h6 (hw 6 (by simp))
        have h8 := H.h8 (hw 8 (by simp))
        have e4 := h8.1
        have hq5 := h8.2.1
        have hb5 := h8.2.2
        clear h8
        simp only [List.getElem_toArray, List.getElem_cons_zero, List.getElem_cons_succ, frmL, Act.put, List.setIfInBounds_toArray, List.set_cons_zero, List.set_cons_succ]
        have HSZ : Hid ((Try.prog.info? 83).map (·.size) = some (cs9 (full9 (flip ys p.n p.m) p.m p.n)).size) := Lib.hid (by show _ = some 9; kernel_rfl)
        have HS1 : Hid ((cs9 (full9 (flip ys p.n p.m) p.m p.n)).all (·.oneCell') = true) := Lib.hid (by simp [cs9, Value.oneCell'])
        rw [if_pos (by rfl)]
        refine wp_store_row 83 _ _ rfl q5 (cs9 (full9 (flip ys p.n p.m) p.m p.n)) e4 e2 83 (cs9 g5) hb5 HSZ.out rfl HS1.out ?_
        have HN := H
        refine hK.out _ _ ⟨[u13, u14, u15, u16, u17, u18, u19, u4, u5], ?_, u13, u14, u15, u16, u17, u18, u19, u4, u5, q4, q5, g4, full9 (flip ys p.n p.m) p.m p.n, rfl, ?_⟩
        · simp only [frmL, Act.put, List.setIfInBounds_toArray, List.set_cons_zero, List.set_cons_succ]
        · exact ⟨H.gt.up2 (below_row (Below.refl (w.heap.size + 1) W) (by omega) _) (by omega) (Nat.lt_succ_self _), fun o => HN.h0 (o.of_set (by decide)), fun o => HN.h1 (o.of_set (by decide)), fun o => HN.h2 (o.of_set (by decide)), fun o => HN.h3 (o.of_set (by decide)), fun o => HN.h4 (o.of_set (by decide)), fun _ => .inl (hw 6 (by simp)).old, fun o => HN.h6 (o.of_set (by decide)), fun o => by obtain ⟨a, b, r⟩ := H.h7 (o.of_set (by decide)); exact ⟨a, b, blk_row_other r _ (fun e => H.hne (o.of_set (by decide)) (hw 8 (by simp)) e)⟩, fun _ => ⟨e4, hq5, blk_row hb5 _⟩, fun o o2 => HN.hne (o.of_set (by decide)) (o2.of_set (by decide)), fun o => by obtain ⟨a, r⟩ := H.h9 (o.of_set (by decide)); exact ⟨a.old, blk_row_other r _ (fun e => H.hne a (hw 8 (by simp)) e)⟩, fun _ => ⟨(hw 8 (by simp)).old, blk_row hb5 _⟩⟩
      exact StepsI.nil
      --sorry
    · rintro L us W hL ⟨u13, u14, u15, u16, u17, u18, u19, u4, u5, q4, q5, g4, g5, rfl, H⟩
      have GT4 := Lib.hid H.gt
      have h7 := H.h7 (hL 7 (by simp))
      have h8 := H.h8 (hL 8 (by simp))
      have hq4 := h7.2.1
      have hq5 := h8.2.1
      have HNE := Lib.hid (H.hne (hL 7 (by simp)) (hL 8 (by simp)))
      have K4 := Lib.hid (H.h9 (hL 9 (by simp))).2
      have K5 := Lib.hid (H.h10 (hL 10 (by simp))).2
      obtain rfl := h7.1
      obtain rfl := h8.1
      clear H h7 h8 hL
      simp only [frmL, Act.put, List.setIfInBounds_toArray, List.set_cons_zero, List.set_cons_succ]
      have hn3 := GT4.out.gv0.tx.n3
      have hm3 := GT4.out.gv0.tx.m3
      have hn1 := GT4.out.gv0.tx.n1
      have hm1 := GT4.out.gv0.tx.m1
      go_wp2
      refine wp_region_invF (rs := [0, 1, 2, 3, 4, 5, 6, 7, 8, 9, 10, 11, 12, 13]) [20, 21, 22, 23, 24, 25, 26, 27, 28, 29, 6, 7] (fun L us W => ∃ u20 u21 u22 u23 u24 u25 u26 u27 u28 u29 u6 u7 q6 q7 g6 g7, us = [u20, u21, u22, u23, u24, u25, u26, u27, u28, u29, u6, u7] ∧ R4 p w xs ys (full9 xs p.n p.m) (full9 (flip ys p.n p.m) p.m p.n) q4 q5 L u20 u21 u22 u23 u24 u25 u26 u27 u28 u29 u6 u7 q6 q7 g6 g7 W) (by kernel_rfl) ?_ (by kernel_rfl) (by kernel_rfl) ?_ ?_
      · refine ⟨[undef, undef, undef, undef, undef, undef, undef, undef, undef, undef, undef, undef], ?_, undef, undef, undef, undef, undef, undef, undef, undef, undef, undef, undef, undef, 0, 0, fun _ => false, fun _ => false, rfl, ?_⟩
        · simp only [frmL, Act.put, List.setIfInBounds_toArray, List.set_cons_zero, List.set_cons_succ]
        exact ⟨GT4.out.qu ⟨1, rfl⟩, K4.out, K5.out, fun o => o.not_start.elim, fun o => o.not_start.elim, fun o => o.not_start.elim, fun o => o.not_start.elim, fun o => o.not_start.elim, fun o => o.not_start.elim, fun o => o.not_start.elim, fun o => o.not_start.elim, fun o => o.not_start.elim, fun o => o.not_start.elim, fun o => o.not_start.elim, fun o => o.not_start.elim, fun o _ => o.not_start.elim, fun o => o.not_start.elim, fun o => o.not_start.elim⟩
      · refine StepsI.cons (i := 0) (ws := []) rfl (by kernel_rfl) (fun L a W hI hno hon hw K hK => ?_) ?_
        · obtain ⟨_, rfl, u20, u21, u22, u23, u24, u25, u26, u27, u28, u29, u6, u7, q6, q7, g6, g7, rfl, H⟩ := hI
          simp only [List.getElem_toArray, List.getElem_cons_zero, frmL, Act.put, List.setIfInBounds_toArray, List.set_cons_zero, List.set_cons_succ]
          go_simp
          have HN := H
          refine hK.out _ _ ⟨[.pointer (some ⟨w.heap.size, 0, none⟩), u21, u22, u23, u24, u25, u26, u27, u28, u29, u6, u7], ?_, .pointer (some ⟨w.heap.size, 0, none⟩), u21, u22, u23, u24, u25, u26, u27, u28, u29, u6, u7, q6, q7, g6, g7, rfl, ?_⟩
          · simp only [frmL, Act.put, List.setIfInBounds_toArray, List.set_cons_zero, List.set_cons_succ]
          · exact ⟨HN.gt, HN.k4, HN.k5, fun _ => rfl, fun o => HN.h1 (o.of_set (by decide)), fun o => HN.h2 (o.of_set (by decide)), fun o => HN.h3 (o.of_set (by decide)), fun o => HN.h4 (o.of_set (by decide)), fun o => HN.h5 (o.of_set (by decide)), fun o => HN.h6 (o.of_set (by decide)), fun o => HN.h7 (o.of_set (by decide)), fun o => HN.h8 (o.of_set (by decide)), fun o => HN.h9 (o.of_set (by decide)), fun o => HN.h10 (o.of_set (by decide)), fun o => HN.h11 (o.of_set (by decide)), fun o o2 => HN.hne (o.of_set (by decide)) (o2.of_set (by decide)), fun o => (HN.h12 (o.of_set (by decide))).imp On.old id, fun o => (HN.h13 (o.of_set (by decide))).imp On.old id⟩
        refine StepsI.cons (i := 1) (ws := [0]) rfl (by kernel_rfl) (fun L a W hI hno hon hw K hK => ?_) ?_
        · obtain ⟨_, rfl, u20, u21, u22, u23, u24, u25, u26, u27, u28, u29, u6, u7, q6, q7, g6, g7, rfl, H⟩ := hI
          obtain rfl := H.h0 (hw 0 (by simp))
          simp only [List.getElem_toArray, List.getElem_cons_zero, List.getElem_cons_succ, frmL, Act.put, List.setIfInBounds_toArray, List.set_cons_zero, List.set_cons_succ]
          have c0 := blk_cell H.gt.box (i := 0) rfl
          go_simp
          have HN := H
          refine hK.out _ _ ⟨[.pointer (some ⟨w.heap.size, 0, none⟩), .slice (some ⟨p.ba, p.oa, none⟩) p.n p.c, u22, u23, u24, u25, u26, u27, u28, u29, u6, u7], ?_, .pointer (some ⟨w.heap.size, 0, none⟩), .slice (some ⟨p.ba, p.oa, none⟩) p.n p.c, u22, u23, u24, u25, u26, u27, u28, u29, u6, u7, q6, q7, g6, g7, rfl, ?_⟩
          · simp only [frmL, Act.put, List.setIfInBounds_toArray, List.set_cons_zero, List.set_cons_succ]
          · exact ⟨HN.gt, HN.k4, HN.k5, fun o => HN.h0 (o.of_set (by decide)), fun _ => rfl, fun o => HN.h2 (o.of_set (by decide)), fun o => HN.h3 (o.of_set (by decide)), fun o => HN.h4 (o.of_set (by decide)), fun o => HN.h5 (o.of_set (by decide)), fun o => HN.h6 (o.of_set (by decide)), fun o => HN.h7 (o.of_set (by decide)), fun o => HN.h8 (o.of_set (by decide)), fun o => HN.h9 (o.of_set (by decide)), fun o => HN.h10 (o.of_set (by decide)), fun o => HN.h11 (o.of_set (by decide)), fun o o2 => HN.hne (o.of_set (by decide)) (o2.of_set (by decide)), fun o => (HN.h12 (o.of_set (by decide))).imp On.old id, fun o => (HN.h13 (o.of_set (by decide))).imp On.old id⟩
        refine StepsI.cons (i := 2) (ws := [1]) rfl (by kernel_rfl) (fun L a W hI hno hon hw K hK => ?_) ?_
        · obtain ⟨_, rfl, u20, u21, u22, u23, u24, u25, u26, u27, u28, u29, u6, u7, q6, q7, g6, g7, rfl, H⟩ := hI
          obtain rfl := H.h1 (hw 1 (by simp))
          simp only [List.getElem_toArray, List.getElem_cons_zero, List.getElem_cons_succ, frmL, Act.put, List.setIfInBounds_toArray, List.set_cons_zero, List.set_cons_succ]
          go_simp
          have HN := H
          refine hK.out _ _ ⟨[u20, .slice (some ⟨p.ba, p.oa, none⟩) p.n p.c, .int .i64 p.n, u23, u24, u25, u26, u27, u28, u29, u6, u7], ?_, u20, .slice (some ⟨p.ba, p.oa, none⟩) p.n p.c, .int .i64 p.n, u23, u24, u25, u26, u27, u28, u29, u6, u7, q6, q7, g6, g7, rfl, ?_⟩
          · simp only [frmL, Act.put, List.setIfInBounds_toArray, List.set_cons_zero, List.set_cons_succ]
          · exact ⟨HN.gt, HN.k4, HN.k5, fun o => HN.h0 (o.of_set (by decide)), fun o => HN.h1 (o.of_set (by decide)), fun _ => rfl, fun o => HN.h3 (o.of_set (by decide)), fun o => HN.h4 (o.of_set (by decide)), fun o => HN.h5 (o.of_set (by decide)), fun o => HN.h6 (o.of_set (by decide)), fun o => HN.h7 (o.of_set (by decide)), fun o => HN.h8 (o.of_set (by decide)), fun o => HN.h9 (o.of_set (by decide)), fun o => HN.h10 (o.of_set (by decide)), fun o => HN.h11 (o.of_set (by decide)), fun o o2 => HN.hne (o.of_set (by decide)) (o2.of_set (by decide)), fun o => (HN.h12 (o.of_set (by decide))).imp On.old id, fun o => (HN.h13 (o.of_set (by decide))).imp On.old id⟩
        refine StepsI.cons (i := 3) (ws := [2]) rfl (by kernel_rfl) (fun L a W hI hno hon hw K hK => ?_) ?_
        · obtain ⟨_, rfl, u20, u21, u22, u23, u24, u25, u26, u27, u28, u29, u6, u7, q6, q7, g6, g7, rfl, H⟩ := hI
          obtain rfl := H.h2 (hw 2 (by simp))
          simp only [List.getElem_toArray, List.getElem_cons_zero, List.getElem_cons_succ, frmL, Act.put, List.setIfInBounds_toArray, List.set_cons_zero, List.set_cons_succ]
          go_simp
          go_wp2_with (go_at_call 66; (with_reducible refine (allMarks_any p.n W hn3).mono ?_); rintro e w9 ⟨rfl, hb⟩)
          have HN := H.up hb
          refine hK.out _ _ ⟨[u20, u21, .int .i64 p.n, .agg (bs3 fun j => decide (j < p.n)), u24, u25, u26, u27, u28, u29, u6, u7], ?_, u20, u21, .int .i64 p.n, .agg (bs3 fun j => decide (j < p.n)), u24, u25, u26, u27, u28, u29, u6, u7, q6, q7, g6, g7, rfl, ?_⟩
          · simp only [frmL, Act.put, List.setIfInBounds_toArray, List.set_cons_zero, List.set_cons_succ]
          · exact ⟨HN.gt, HN.k4, HN.k5, fun o => HN.h0 (o.of_set (by decide)), fun o => HN.h1 (o.of_set (by decide)), fun o => HN.h2 (o.of_set (by decide)), fun _ => rfl, fun o => HN.h4 (o.of_set (by decide)), fun o => HN.h5 (o.of_set (by decide)), fun o => HN.h6 (o.of_set (by decide)), fun o => HN.h7 (o.of_set (by decide)), fun o => HN.h8 (o.of_set (by decide)), fun o => HN.h9 (o.of_set (by decide)), fun o => HN.h10 (o.of_set (by decide)), fun o => HN.h11 (o.of_set (by decide)), fun o o2 => HN.hne (o.of_set (by decide)) (o2.of_set (by decide)), fun o => (HN.h12 (o.of_set (by decide))).imp On.old id, fun o => (HN.h13 (o.of_set (by decide))).imp On.old id⟩
        refine StepsI.cons (i := 4) (ws := []) rfl (by kernel_rfl) (fun L a W hI hno hon hw K hK => ?_) ?_
        · obtain ⟨_, rfl, u20, u21, u22, u23, u24, u25, u26, u27, u28, u29, u6, u7, q6, q7, g6, g7, rfl, H⟩ := hI
          simp only [List.getElem_toArray, List.getElem_cons_zero, List.getElem_cons_succ, frmL, Act.put, List.setIfInBounds_toArray, List.set_cons_zero, List.set_cons_succ]
          go_simp
          have HN := H
          refine hK.out _ _ ⟨[u20, u21, u22, u23, .pointer (some ⟨w.heap.size, 0, none⟩), u25, u26, u27, u28, u29, u6, u7], ?_, u20, u21, u22, u23, .pointer (some ⟨w.heap.size, 0, none⟩), u25, u26, u27, u28, u29, u6, u7, q6, q7, g6, g7, rfl, ?_⟩
          · simp only [frmL, Act.put, List.setIfInBounds_toArray, List.set_cons_zero, List.set_cons_succ]
          · exact ⟨HN.gt, HN.k4, HN.k5, fun o => HN.h0 (o.of_set (by decide)), fun o => HN.h1 (o.of_set (by decide)), fun o => HN.h2 (o.of_set (by decide)), fun o => HN.h3 (o.of_set (by decide)), fun _ => rfl, fun o => HN.h5 (o.of_set (by decide)), fun o => HN.h6 (o.of_set (by decide)), fun o => HN.h7 (o.of_set (by decide)), fun o => HN.h8 (o.of_set (by decide)), fun o => HN.h9 (o.of_set (by decide)), fun o => HN.h10 (o.of_set (by decide)), fun o => HN.h11 (o.of_set (by decide)), fun o o2 => HN.hne (o.of_set (by decide)) (o2.of_set (by decide)), fun o => (HN.h12 (o.of_set (by decide))).imp On.old id, fun o => (HN.h13 (o.of_set (by decide))).imp On.old id⟩
        refine StepsI.cons (i := 5) (ws := [4]) rfl (by kernel_rfl) (fun L a W hI hno hon hw K hK => ?_) ?_
        · obtain ⟨_, rfl, u20, u21, u22, u23, u24, u25, u26, u27, u28, u29, u6, u7, q6, q7, g6, g7, rfl, H⟩ := hI
          obtain rfl := H.h4 (hw 4 (by simp))
          simp only [List.getElem_toArray, List.getElem_cons_zero, List.getElem_cons_succ, frmL, Act.put, List.setIfInBounds_toArray, List.set_cons_zero, List.set_cons_succ]
          have c0 := blk_cell H.gt.box (i := 0) rfl
          go_simp
          have HN := H
          refine hK.out _ _ ⟨[u20, u21, u22, u23, .pointer (some ⟨w.heap.size, 0, none⟩), .slice (some ⟨p.ba, p.oa, none⟩) p.n p.c, u26, u27, u28, u29, u6, u7], ?_, u20, u21, u22, u23, .pointer (some ⟨w.heap.size, 0, none⟩), .slice (some ⟨p.ba, p.oa, none⟩) p.n p.c, u26, u27, u28, u29, u6, u7, q6, q7, g6, g7, rfl, ?_⟩
          · simp only [frmL, Act.put, List.setIfInBounds_toArray, List.set_cons_zero, List.set_cons_succ]
          · exact ⟨HN.gt, HN.k4, HN.k5, fun o => HN.h0 (o.of_set (by decide)), fun o => HN.h1 (o.of_set (by decide)), fun o => HN.h2 (o.of_set (by decide)), fun o => HN.h3 (o.of_set (by decide)), fun o => HN.h4 (o.of_set (by decide)), fun _ => rfl, fun o => HN.h6 (o.of_set (by decide)), fun o => HN.h7 (o.of_set (by decide)), fun o => HN.h8 (o.of_set (by decide)), fun o => HN.h9 (o.of_set (by decide)), fun o => HN.h10 (o.of_set (by decide)), fun o => HN.h11 (o.of_set (by decide)), fun o o2 => HN.hne (o.of_set (by decide)) (o2.of_set (by decide)), fun o => (HN.h12 (o.of_set (by decide))).imp On.old id, fun o => (HN.h13 (o.of_set (by decide))).imp On.old id⟩
        refine StepsI.cons (i := 6) (ws := [5]) rfl (by kernel_rfl) (fun L a W hI hno hon hw K hK => ?_) ?_
        · obtain ⟨_, rfl, u20, u21, u22, u23, u24, u25, u26, u27, u28, u29, u6, u7, q6, q7, g6, g7, rfl, H⟩ := hI
          obtain rfl := H.h5 (hw 5 (by simp))
          simp only [List.getElem_toArray, List.getElem_cons_zero, List.getElem_cons_succ, frmL, Act.put, List.setIfInBounds_toArray, List.set_cons_zero, List.set_cons_succ]
          have hn0 : (0 : Int) < (p.n : Int) := by omega
          have hn0' : 0 < p.n := by omega
          go_simp
          have HN := H
          refine hK.out _ _ ⟨[u20, u21, u22, u23, u24, .slice (some ⟨p.ba, p.oa, none⟩) p.n p.c, .pointer (some ⟨p.ba, p.oa, none⟩), u27, u28, u29, u6, u7], ?_, u20, u21, u22, u23, u24, .slice (some ⟨p.ba, p.oa, none⟩) p.n p.c, .pointer (some ⟨p.ba, p.oa, none⟩), u27, u28, u29, u6, u7, q6, q7, g6, g7, rfl, ?_⟩
          · simp only [frmL, Act.put, List.setIfInBounds_toArray, List.set_cons_zero, List.set_cons_succ]
          · exact ⟨HN.gt, HN.k4, HN.k5, fun o => HN.h0 (o.of_set (by decide)), fun o => HN.h1 (o.of_set (by decide)), fun o => HN.h2 (o.of_set (by decide)), fun o => HN.h3 (o.of_set (by decide)), fun o => HN.h4 (o.of_set (by decide)), fun o => HN.h5 (o.of_set (by decide)), fun _ => rfl, fun o => HN.h7 (o.of_set (by decide)), fun o => HN.h8 (o.of_set (by decide)), fun o => HN.h9 (o.of_set (by decide)), fun o => HN.h10 (o.of_set (by decide)), fun o => HN.h11 (o.of_set (by decide)), fun o o2 => HN.hne (o.of_set (by decide)) (o2.of_set (by decide)), fun o => (HN.h12 (o.of_set (by decide))).imp On.old id, fun o => (HN.h13 (o.of_set (by decide))).imp On.old id⟩
        refine StepsI.cons (i := 7) (ws := [6]) rfl (by kernel_rfl) (fun L a W hI hno hon hw K hK => ?_) ?_
        · obtain ⟨_, rfl, u20, u21, u22, u23, u24, u25, u26, u27, u28, u29, u6, u7, q6, q7, g6, g7, rfl, H⟩ := hI
          obtain rfl := H.h6 (hw 6 (by simp))
          simp only [List.getElem_toArray, List.getElem_cons_zero, List.getElem_cons_succ, frmL, Act.put, List.setIfInBounds_toArray, List.set_cons_zero, List.set_cons_succ]
          have r0 := H.gt.gv.tx.row 0 (by omega)
          simp only [Nat.add_zero] at r0
          go_simp
          have HN := H
          refine hK.out _ _ ⟨[u20, u21, u22, u23, u24, u25, .pointer (some ⟨p.ba, p.oa, none⟩), .slice (some ⟨p.ra 0, p.pa 0, none⟩) p.m (p.ca 0), u28, u29, u6, u7], ?_, u20, u21, u22, u23, u24, u25, .pointer (some ⟨p.ba, p.oa, none⟩), .slice (some ⟨p.ra 0, p.pa 0, none⟩) p.m (p.ca 0), u28, u29, u6, u7, q6, q7, g6, g7, rfl, ?_⟩
          · simp only [frmL, Act.put, List.setIfInBounds_toArray, List.set_cons_zero, List.set_cons_succ]
          · exact ⟨HN.gt, HN.k4, HN.k5, fun o => HN.h0 (o.of_set (by decide)), fun o => HN.h1 (o.of_set (by decide)), fun o => HN.h2 (o.of_set (by decide)), fun o => HN.h3 (o.of_set (by decide)), fun o => HN.h4 (o.of_set (by decide)), fun o => HN.h5 (o.of_set (by decide)), fun o => HN.h6 (o.of_set (by decide)), fun _ => rfl, fun o => HN.h8 (o.of_set (by decide)), fun o => HN.h9 (o.of_set (by decide)), fun o => HN.h10 (o.of_set (by decide)), fun o => HN.h11 (o.of_set (by decide)), fun o o2 => HN.hne (o.of_set (by decide)) (o2.of_set (by decide)), fun o => (HN.h12 (o.of_set (by decide))).imp On.old id, fun o => (HN.h13 (o.of_set (by decide))).imp On.old id⟩
        refine StepsI.cons (i := 8) (ws := [7]) rfl (by kernel_rfl) (fun L a W hI hno hon hw K hK => ?_) ?_
        · obtain ⟨_, rfl, u20, u21, u22, u23, u24, u25, u26, u27, u28, u29, u6, u7, q6, q7, g6, g7, rfl, H⟩ := hI
          obtain rfl := H.h7 (hw 7 (by simp))
          simp only [List.getElem_toArray, List.getElem_cons_zero, List.getElem_cons_succ, frmL, Act.put, List.setIfInBounds_toArray, List.set_cons_zero, List.set_cons_succ]
          go_simp
          have HN := H
          refine hK.out _ _ ⟨[u20, u21, u22, u23, u24, u25, u26, .slice (some ⟨p.ra 0, p.pa 0, none⟩) p.m (p.ca 0), .int .i64 p.m, u29, u6, u7], ?_, u20, u21, u22, u23, u24, u25, u26, .slice (some ⟨p.ra 0, p.pa 0, none⟩) p.m (p.ca 0), .int .i64 p.m, u29, u6, u7, q6, q7, g6, g7, rfl, ?_⟩
          · simp only [frmL, Act.put, List.setIfInBounds_toArray, List.set_cons_zero, List.set_cons_succ]
          · exact ⟨HN.gt, HN.k4, HN.k5, fun o => HN.h0 (o.of_set (by decide)), fun o => HN.h1 (o.of_set (by decide)), fun o => HN.h2 (o.of_set (by decide)), fun o => HN.h3 (o.of_set (by decide)), fun o => HN.h4 (o.of_set (by decide)), fun o => HN.h5 (o.of_set (by decide)), fun o => HN.h6 (o.of_set (by decide)), fun o => HN.h7 (o.of_set (by decide)), fun _ => rfl, fun o => HN.h9 (o.of_set (by decide)), fun o => HN.h10 (o.of_set (by decide)), fun o => HN.h11 (o.of_set (by decide)), fun o o2 => HN.hne (o.of_set (by decide)) (o2.of_set (by decide)), fun o => (HN.h12 (o.of_set (by decide))).imp On.old id, fun o => (HN.h13 (o.of_set (by decide))).imp On.old id⟩
        refine StepsI.cons (i := 9) (ws := [8, 3]) rfl (by kernel_rfl) (fun L a W hI hno hon hw K hK => ?_) ?_
        · obtain ⟨_, rfl, u20, u21, u22, u23, u24, u25, u26, u27, u28, u29, u6, u7, q6, q7, g6, g7, rfl, H⟩ := hI
          obtain rfl := H.h8 (hw 8 (by simp))
          simp only [List.getElem_toArray, List.getElem_cons_zero, List.getElem_cons_succ, frmL, Act.put, List.setIfInBounds_toArray, List.set_cons_zero, List.set_cons_succ]
          go_simp
          go_wp2_with (go_at_call 66; (with_reducible refine (allMarks_any p.m W hm3).mono ?_); rintro e w9 ⟨rfl, hb⟩)
          have HN := H.up hb
          refine hK.out _ _ ⟨[u20, u21, u22, u23, u24, u25, u26, u27, .int .i64 p.m, .agg (bs3 fun j => decide (j < p.m)), u6, u7], ?_, u20, u21, u22, u23, u24, u25, u26, u27, .int .i64 p.m, .agg (bs3 fun j => decide (j < p.m)), u6, u7, q6, q7, g6, g7, rfl, ?_⟩
          · simp only [frmL, Act.put, List.setIfInBounds_toArray, List.set_cons_zero, List.set_cons_succ]
          · exact ⟨HN.gt, HN.k4, HN.k5, fun o => HN.h0 (o.of_set (by decide)), fun o => HN.h1 (o.of_set (by decide)), fun o => HN.h2 (o.of_set (by decide)), fun o => HN.h3 (o.of_set (by decide)), fun o => HN.h4 (o.of_set (by decide)), fun o => HN.h5 (o.of_set (by decide)), fun o => HN.h6 (o.of_set (by decide)), fun o => HN.h7 (o.of_set (by decide)), fun o => HN.h8 (o.of_set (by decide)), fun _ => rfl, fun o => HN.h10 (o.of_set (by decide)), fun o => HN.h11 (o.of_set (by decide)), fun o o2 => HN.hne (o.of_set (by decide)) (o2.of_set (by decide)), fun o => (HN.h12 (o.of_set (by decide))).imp On.old id, fun o => (HN.h13 (o.of_set (by decide))).imp On.old id⟩
        refine StepsI.cons (i := 10) (ws := []) rfl (by kernel_rfl) (fun L a W hI hno hon hw K hK => ?_) ?_
        · obtain ⟨_, rfl, u20, u21, u22, u23, u24, u25, u26, u27, u28, u29, u6, u7, q6, q7, g6, g7, rfl, H⟩ := hI
          simp only [List.getElem_toArray, List.getElem_cons_zero, List.getElem_cons_succ, frmL, Act.put, List.setIfInBounds_toArray, List.set_cons_zero, List.set_cons_succ]
          go_simp
          have HN := H.up (below_alloc W (.cells (bs3 fun _ => false) 86))
          refine hK.out _ _ ⟨[u20, u21, u22, u23, u24, u25, u26, u27, u28, u29, .pointer (some ⟨W.heap.size, 0, none⟩), u7], ?_, u20, u21, u22, u23, u24, u25, u26, u27, u28, u29, .pointer (some ⟨W.heap.size, 0, none⟩), u7, W.heap.size, q7, fun _ => false, g7, rfl, ?_⟩
          · simp only [frmL, Act.put, List.setIfInBounds_toArray, List.set_cons_zero, List.set_cons_succ]
          · exact ⟨HN.gt, HN.k4, HN.k5, fun o => HN.h0 (o.of_set (by decide)), fun o => HN.h1 (o.of_set (by decide)), fun o => HN.h2 (o.of_set (by decide)), fun o => HN.h3 (o.of_set (by decide)), fun o => HN.h4 (o.of_set (by decide)), fun o => HN.h5 (o.of_set (by decide)), fun o => HN.h6 (o.of_set (by decide)), fun o => HN.h7 (o.of_set (by decide)), fun o => HN.h8 (o.of_set (by decide)), fun o => HN.h9 (o.of_set (by decide)), fun _ => ⟨rfl, blk_lt H.gt.box, Nat.ne_of_lt (blk_lt H.k4), Nat.ne_of_lt (blk_lt H.k5), blk_new _ _ _⟩, fun o => HN.h11 (o.of_set (by decide)), fun _ o2 => by obtain ⟨_, _, _, _, r⟩ := H.h11 (o2.of_set (by decide)); exact Nat.ne_of_gt (blk_lt r), fun o => absurd (H.h12 (o.of_set (by decide))).1 hno, fun o => (HN.h13 (o.of_set (by decide))).imp On.old id⟩
        refine StepsI.cons (i := 11) (ws := []) rfl (by kernel_rfl) (fun L a W hI hno hon hw K hK => ?_) ?_
        · obtain ⟨_, rfl, u20, u21, u22, u23, u24, u25, u26, u27, u28, u29, u6, u7, q6, q7, g6, g7, rfl, H⟩ := hI
          simp only [List.getElem_toArray, List.getElem_cons_zero, List.getElem_cons_succ, frmL, Act.put, List.setIfInBounds_toArray, List.set_cons_zero, List.set_cons_succ]
          go_simp
          have HN := H.up (below_alloc W (.cells (bs3 fun _ => false) 86))
          refine hK.out _ _ ⟨[u20, u21, u22, u23, u24, u25, u26, u27, u28, u29, u6, .pointer (some ⟨W.heap.size, 0, none⟩)], ?_, u20, u21, u22, u23, u24, u25, u26, u27, u28, u29, u6, .pointer (some ⟨W.heap.size, 0, none⟩), q6, W.heap.size, g6, fun _ => false, rfl, ?_⟩
          · simp only [frmL, Act.put, List.setIfInBounds_toArray, List.set_cons_zero, List.set_cons_succ]
          · exact ⟨HN.gt, HN.k4, HN.k5, fun o => HN.h0 (o.of_set (by decide)), fun o => HN.h1 (o.of_set (by decide)), fun o => HN.h2 (o.of_set (by decide)), fun o => HN.h3 (o.of_set (by decide)), fun o => HN.h4 (o.of_set (by decide)), fun o => HN.h5 (o.of_set (by decide)), fun o => HN.h6 (o.of_set (by decide)), fun o => HN.h7 (o.of_set (by decide)), fun o => HN.h8 (o.of_set (by decide)), fun o => HN.h9 (o.of_set (by decide)), fun o => HN.h10 (o.of_set (by decide)), fun _ => ⟨rfl, blk_lt H.gt.box, Nat.ne_of_lt (blk_lt H.k4), Nat.ne_of_lt (blk_lt H.k5), blk_new _ _ _⟩, fun o2 _ => by obtain ⟨_, _, _, _, r⟩ := H.h10 (o2.of_set (by decide)); exact Nat.ne_of_lt (blk_lt r), fun o => (HN.h12 (o.of_set (by decide))).imp On.old id, fun o => absurd (H.h13 (o.of_set (by decide))).1 hno⟩
        refine StepsI.cons (i := 12) (ws := [10, 3, 9, 0, 1, 2, 3, 10, 11]) rfl (by kernel_rfl) (fun L a W hI hno hon hw K hK => ?_) ?_
        · obtain ⟨_, rfl, u20, u21, u22, u23, u24, u25, u26, u27, u28, u29, u6, u7, q6, q7, g6, g7, rfl, H⟩ := hI
          have e2 := H.h3 (hw 3 (by simp))
          have h7 := H.h10 (hw 10 (by simp))
          have e4 := h7.1
          have hq6 := h7.2.1
          have h46 := h7.2.2.1
          have h56 := h7.2.2.2.1
          have hb6 := h7.2.2.2.2
          clear h7
          simp only [List.getElem_toArray, List.getElem_cons_zero, List.getElem_cons_succ, frmL, Act.put, List.setIfInBounds_toArray, List.set_cons_zero, List.set_cons_succ]
          have HSZ : Hid ((Try.prog.info? 86).map (·.size) = some (bs3 (fun j => decide (j < p.n))).size) := Lib.hid (by show _ = some 3; kernel_rfl)
          have HS1 : Hid ((bs3 (fun j => decide (j < p.n))).all (·.oneCell') = true) := Lib.hid (by simp [bs3, Value.oneCell'])
          rw [if_pos (by rfl)]
          refine wp_store_row 86 _ _ rfl q6 (bs3 (fun j => decide (j < p.n))) e4 e2 86 (bs3 g6) hb6 HSZ.out rfl HS1.out ?_
          have HN := H
          refine hK.out _ _ ⟨[u20, u21, u22, u23, u24, u25, u26, u27, u28, u29, u6, u7], ?_, u20, u21, u22, u23, u24, u25, u26, u27, u28, u29, u6, u7, q6, q7, fun j => decide (j < p.n), g7, rfl, ?_⟩
          · simp only [frmL, Act.put, List.setIfInBounds_toArray, List.set_cons_zero, List.set_cons_succ]
          · exact ⟨H.gt.up2 (below_row (Below.refl (w.heap.size + 1) W) (by omega) _) (by omega) (Nat.lt_succ_self _), blk_row_other H.k4 _ h46, blk_row_other H.k5 _ h56, fun o => HN.h0 (o.of_set (by decide)), fun o => HN.h1 (o.of_set (by decide)), fun o => HN.h2 (o.of_set (by decide)), fun o => HN.h3 (o.of_set (by decide)), fun o => HN.h4 (o.of_set (by decide)), fun o => HN.h5 (o.of_set (by decide)), fun o => HN.h6 (o.of_set (by decide)), fun o => HN.h7 (o.of_set (by decide)), fun o => HN.h8 (o.of_set (by decide)), fun o => HN.h9 (o.of_set (by decide)), fun _ => ⟨e4, hq6, h46, h56, blk_row hb6 _⟩, fun o => by obtain ⟨a, b, c, d, r⟩ := H.h11 (o.of_set (by decide)); exact ⟨a, b, c, d, blk_row_other r _ (fun e => H.hne (hw 10 (by simp)) (o.of_set (by decide)) e.symm)⟩, fun o o2 => HN.hne (o.of_set (by decide)) (o2.of_set (by decide)), fun _ => ⟨(hw 10 (by simp)).old, blk_row hb6 _⟩, fun o => by obtain ⟨a, r⟩ := H.h13 (o.of_set (by decide)); exact ⟨a.old, blk_row_other r _ (fun e => H.hne (hw 10 (by simp)) a e.symm)⟩⟩
        refine StepsI.cons (i := 13) (ws := [11, 9, 12, 0, 1, 2, 3, 4, 5, 6, 7, 8, 9, 10, 11, 12]) rfl (by kernel_rfl) (fun L a W hI hno hon hw K hK => ?_) ?_
        · obtain ⟨_, rfl, u20, u21, u22, u23, u24, u25, u26, u27, u28, u29, u6, u7, q6, q7, g6, g7, rfl, H⟩ := hI
          have e2 := H.h9 (hw 9 (by simp))
          have h7 := H.h11 (hw 11 (by simp))
          have e4 := h7.1
          have hq6 := h7.2.1
          have h46 := h7.2.2.1
          have h56 := h7.2.2.2.1
          have hb6 := h7.2.2.2.2
          clear h7
          simp only [List.getElem_toArray, List.getElem_cons_zero, List.getElem_cons_succ, frmL, Act.put, List.setIfInBounds_toArray, List.set_cons_zero, List.set_cons_succ]
          have HSZ : Hid ((Try.prog.info? 86).map (·.size) = some (bs3 (fun j => decide (j < p.m))).size) := Lib.hid (by show _ = some 3; kernel_rfl)
          have HS1 : Hid ((bs3 (fun j => decide (j < p.m))).all (·.oneCell') = true) := Lib.hid (by simp [bs3, Value.oneCell'])
          rw [if_pos (by rfl)]
          refine wp_store_row 86 _ _ rfl q7 (bs3 (fun j => decide (j < p.m))) e4 e2 86 (bs3 g7) hb6 HSZ.out rfl HS1.out ?_
          have HN := H
          refine hK.out _ _ ⟨[u20, u21, u22, u23, u24, u25, u26, u27, u28, u29, u6, u7], ?_, u20, u21, u22, u23, u24, u25, u26, u27, u28, u29, u6, u7, q6, q7, g6, fun j => decide (j < p.m), rfl, ?_⟩
          · simp only [frmL, Act.put, List.setIfInBounds_toArray, List.set_cons_zero, List.set_cons_succ]
          · exact ⟨H.gt.up2 (below_row (Below.refl (w.heap.size + 1) W) (by omega) _) (by omega) (Nat.lt_succ_self _), blk_row_other H.k4 _ h46, blk_row_other H.k5 _ h56, fun o => HN.h0 (o.of_set (by decide)), fun o => HN.h1 (o.of_set (by decide)), fun o => HN.h2 (o.of_set (by decide)), fun o => HN.h3 (o.of_set (by decide)), fun o => HN.h4 (o.of_set (by decide)), fun o => HN.h5 (o.of_set (by decide)), fun o => HN.h6 (o.of_set (by decide)), fun o => HN.h7 (o.of_set (by decide)), fun o => HN.h8 (o.of_set (by decide)), fun o => HN.h9 (o.of_set (by decide)), fun o => by obtain ⟨a, b, c, d, r⟩ := H.h10 (o.of_set (by decide)); exact ⟨a, b, c, d, blk_row_other r _ (fun e => H.hne (o.of_set (by decide)) (hw 11 (by simp)) e)⟩, fun _ => ⟨e4, hq6, h46, h56, blk_row hb6 _⟩, fun o o2 => HN.hne (o.of_set (by decide)) (o2.of_set (by decide)), fun o => by obtain ⟨a, r⟩ := H.h12 (o.of_set (by decide)); exact ⟨a.old, blk_row_other r _ (fun e => H.hne a (hw 11 (by simp)) e)⟩, fun _ => ⟨(hw 11 (by simp)).old, blk_row hb6 _⟩⟩
        exact StepsI.nil
      · rintro L us W hL ⟨u20, u21, u22, u23, u24, u25, u26, u27, u28, u29, u6, u7, q6, q7, g6, g7, rfl, H⟩
        have h10 := H.h10 (hL 10 (by simp))
        have h11 := H.h11 (hL 11 (by simp))
        have hq6 := h10.2.1
        have hq7 := h11.2.1
        have HN46 := Lib.hid h10.2.2.1
        have HN56 := Lib.hid h10.2.2.2.1
        have HN47 := Lib.hid h11.2.2.1
        have HN57 := Lib.hid h11.2.2.2.1
        have HN67 := Lib.hid (H.hne (hL 10 (by simp)) (hL 11 (by simp)))
        have HL0 := Lib.hid (show LS w xs ys p.n p.m (full9 xs p.n p.m) (full9 (flip ys p.n p.m) p.m p.n) q4 q5 q6 q7 0 W from ⟨H.gt.below, H.k4, H.k5, by have := (H.h12 (hL 12 (by simp))).2; rw [← cut_all] at this; exact this, by have := (H.h13 (hL 13 (by simp))).2; rw [← cut_all] at this; exact this⟩)
        obtain rfl := h10.1
        obtain rfl := h11.1
        clear H h10 h11 hL K4 K5
        simp only [frmL, Act.put, List.setIfInBounds_toArray, List.set_cons_zero, List.set_cons_succ]
        have HFF1 := Lib.hid (fun r j (hr : r < p.n) (hj : j < p.m) => show full9 xs p.n p.m r j = g2 xs r j from if_pos ⟨hr, hj⟩)
        have HFF2 := Lib.hid (fun r j (hr : r < p.m) (hj : j < p.n) => show full9 (flip ys p.n p.m) p.m p.n r j = g2 (flip ys p.n p.m) r j from if_pos ⟨hr, hj⟩)
        have HS9 : Hid (∀ F, (Try.prog.info? 83).map (·.size) = some (cs9 F).size) := Lib.hid (fun F => by show _ = some 9; kernel_rfl)
        have HS3 : Hid (∀ F, (Try.prog.info? 86).map (·.size) = some (bs3 F).size) := Lib.hid (fun F => by show _ = some 3; kernel_rfl)
        have HO3 : Hid (∀ F, (bs3 F).all (·.oneCell') = true) := Lib.hid (fun F => by simp [bs3, Value.oneCell'])
        generalize full9 xs p.n p.m = F1 at *
        generalize full9 (flip ys p.n p.m) p.m p.n = F2 at *
        go_wp2
        go_loopw [8] (fun _ wr => ∃ k : Nat, Hid (LS w xs ys p.n p.m F1 F2 q4 q5 q6 q7 k wr)) (fun _ wr => mB wr q6 + mB wr q7)
        case atStart => exact ⟨0, HL0⟩
        case round =>
          clear HL0
          obtain ⟨k, HL⟩ := hrel
          have HM : Hid (mB wr q6 + mB wr q7 = (selL (loIt xs (flip ys p.n p.m) p.n p.m k).1 p.n).length + (selL (loIt xs (flip ys p.n p.m) p.n p.m k).2 p.m).length) := Lib.hid (by rw [mB_blk HL.out.k6, mB_blk HL.out.k7, cut_sel hn3, cut_sel hm3])
          have HB0 := Lib.hid HL.out.up
          have K4 := Lib.hid HL.out.k4
          have K5 := Lib.hid HL.out.k5
          have K6 := Lib.hid HL.out.k6
          have K7 := Lib.hid HL.out.k7
          have HG1 := Lib.hid (st_cut (a := xs) (f := (loIt xs (flip ys p.n p.m) p.n p.m k).1) (h := (loIt xs (flip ys p.n p.m) p.n p.m k).2) hn3 hm3 F1 HFF1.out)
          have HG2 := Lib.hid (st_cut (a := flip ys p.n p.m) (f := (loIt xs (flip ys p.n p.m) p.n p.m k).2) (h := stayF xs (loIt xs (flip ys p.n p.m) p.n p.m k).1 (loIt xs (flip ys p.n p.m) p.n p.m k).2 p.n p.m) hm3 hn3 F2 HFF2.out)
          have HI1 : Hid ((loIt xs (flip ys p.n p.m) p.n p.m (k + 1)).1 = stayF xs (loIt xs (flip ys p.n p.m) p.n p.m k).1 (loIt xs (flip ys p.n p.m) p.n p.m k).2 p.n p.m) := Lib.hid rfl
          have HI2 : Hid ((loIt xs (flip ys p.n p.m) p.n p.m (k + 1)).2 = stayF (flip ys p.n p.m) (loIt xs (flip ys p.n p.m) p.n p.m k).2 (loIt xs (flip ys p.n p.m) p.n p.m (k + 1)).1 p.m p.n) := Lib.hid rfl
          rw [← HI1.out] at HG1 HG2
          rw [← HI2.out] at HG2
          clear HI1 HI2 HL
          obtain ⟨f, hf⟩ : ∃ f, f = cutF (loIt xs (flip ys p.n p.m) p.n p.m k).1 p.n := ⟨_, rfl⟩
          obtain ⟨h, hh⟩ : ∃ h, h = cutF (loIt xs (flip ys p.n p.m) p.n p.m k).2 p.m := ⟨_, rfl⟩
          obtain ⟨f', hf'⟩ : ∃ f', f' = cutF (loIt xs (flip ys p.n p.m) p.n p.m (k + 1)).1 p.n := ⟨_, rfl⟩
          obtain ⟨h', hh'⟩ : ∃ h', h' = cutF (loIt xs (flip ys p.n p.m) p.n p.m (k + 1)).2 p.m := ⟨_, rfl⟩
          rw [← hf] at K6 HG1
          rw [← hh] at K7 HG1 HG2
          rw [← hf'] at HG1 HG2
          rw [← hh'] at HG2
          have Hf := Lib.hid hf
          have Hh := Lib.hid hh
          have Hf' := Lib.hid hf'
          have Hh' := Lib.hid hh'
          clear hf hh hf' hh'
          have HU1 := Lib.hid (fun W => HG1.out ▸ unbeaten_any F1 f h W)
          have HU2 := Lib.hid (fun W => HG2.out ▸ unbeaten_any F2 h f' W)
          go_wp2_with (first | (refine wpList_load_row rfl 83 _ rfl q4 rfl 83 (cs9 F1) (0, 0) _ K4.out und_cells rfl (HS9.out _) ?_) | (refine wpList_load_row rfl 83 _ rfl q5 rfl 83 (cs9 F2) (0, 0) _ K5.out und_cells rfl (HS9.out _) ?_) | (refine wpList_load_row rfl 86 _ rfl q6 rfl 86 (bs3 f) (0, 0) _ K6.out und_marks rfl (HS3.out _) ?_) | (refine wpList_load_row rfl 86 _ rfl q7 rfl 86 (bs3 h) (0, 0) _ K7.out und_marks rfl (HS3.out _) ?_) | fail)
          refine (HU1.out _).mono ?_
          rintro e w5 ⟨rfl, hb⟩
          have hq := HB0.out.size
          have HB5 := Lib.hid (below_up HB0.out hb)
          have L4 := Lib.hid (blk_below K4.out hb)
          have L5 := Lib.hid (blk_below K5.out hb)
          have L6 := Lib.hid (blk_below K6.out hb)
          have L7 := Lib.hid (blk_below K7.out hb)
          clear hb HB0 K4 K5 K6 K7 HU1
          have M4 := Lib.hid (blk_row_other (blk_old L4.out (.cells #[.bool false, .bool false, .bool false] 86)) (bs3 f') (Nat.ne_of_lt (blk_lt L4.out)))
          have M5 := Lib.hid (blk_row_other (blk_old L5.out (.cells #[.bool false, .bool false, .bool false] 86)) (bs3 f') (Nat.ne_of_lt (blk_lt L5.out)))
          have M6 := Lib.hid (blk_row_other (blk_old L6.out (.cells #[.bool false, .bool false, .bool false] 86)) (bs3 f') (Nat.ne_of_lt (blk_lt L6.out)))
          have M7 := Lib.hid (blk_row_other (blk_old L7.out (.cells #[.bool false, .bool false, .bool false] 86)) (bs3 f') (Nat.ne_of_lt (blk_lt L7.out)))
          have M8 := Lib.hid (blk_row (blk_new w5 86 #[.bool false, .bool false, .bool false]) (bs3 f'))
          have HB6 := Lib.hid (below_row (below_up HB5.out (below_alloc w5 (.cells #[.bool false, .bool false, .bool false] 86))) (g := w5.heap.size) HB5.out.size (bs3 f'))
          have HLTq8 := Lib.hid (And.intro (blk_lt L6.out) (blk_lt L7.out))
          clear L4 L5 L6 L7 HB5
          go_wp2_with (first | (refine wpList_store_row rfl 86 _ _ rfl w5.heap.size (bs3 f') rfl rfl 86 (bs3 fun _ => false) (blk_new w5 86 (bs3 fun _ => false)) (HS3.out _) rfl (HO3.out _) ?_) | (refine wpList_load_row rfl 83 _ rfl q4 rfl 83 (cs9 F1) (0, 0) _ M4.out und_cells rfl (HS9.out _) ?_) | (refine wpList_load_row rfl 83 _ rfl q5 rfl 83 (cs9 F2) (0, 0) _ M5.out und_cells rfl (HS9.out _) ?_) | (refine wpList_load_row rfl 86 _ rfl q6 rfl 86 (bs3 f) (0, 0) _ M6.out und_marks rfl (HS3.out _) ?_) | (refine wpList_load_row rfl 86 _ rfl q7 rfl 86 (bs3 h) (0, 0) _ M7.out und_marks rfl (HS3.out _) ?_) | (refine wpList_load_row rfl 86 _ rfl w5.heap.size rfl 86 (bs3 f') (0, 0) _ M8.out und_marks rfl (HS3.out _) ?_) | fail)
          generalize hW : (w5.alloc (.cells #[.bool false, .bool false, .bool false] 86)).setRow w5.heap.size (bs3 f') = W6 at *
          clear hW
          generalize w5.heap.size = q8 at *
          refine (HU2.out _).mono ?_
          rintro e w7 ⟨rfl, hb⟩
          have HB7 := Lib.hid (below_up HB6.out hb)
          have L4 := Lib.hid (blk_below M4.out hb)
          have L5 := Lib.hid (blk_below M5.out hb)
          have L6 := Lib.hid (blk_below M6.out hb)
          have L7 := Lib.hid (blk_below M7.out hb)
          have L8 := Lib.hid (blk_below M8.out hb)
          clear hb HB6 M4 M5 M6 M7 M8 HU2
          have M4 := Lib.hid (blk_row_other (blk_old L4.out (.cells #[.bool false, .bool false, .bool false] 86)) (bs3 h') (Nat.ne_of_lt (blk_lt L4.out)))
          have M5 := Lib.hid (blk_row_other (blk_old L5.out (.cells #[.bool false, .bool false, .bool false] 86)) (bs3 h') (Nat.ne_of_lt (blk_lt L5.out)))
          have M6 := Lib.hid (blk_row_other (blk_old L6.out (.cells #[.bool false, .bool false, .bool false] 86)) (bs3 h') (Nat.ne_of_lt (blk_lt L6.out)))
          have M7 := Lib.hid (blk_row_other (blk_old L7.out (.cells #[.bool false, .bool false, .bool false] 86)) (bs3 h') (Nat.ne_of_lt (blk_lt L7.out)))
          have M8 := Lib.hid (blk_row_other (blk_old L8.out (.cells #[.bool false, .bool false, .bool false] 86)) (bs3 h') (Nat.ne_of_lt (blk_lt L8.out)))
          have M9 := Lib.hid (blk_row (blk_new w7 86 #[.bool false, .bool false, .bool false]) (bs3 h'))
          have HB8 := Lib.hid (below_row (below_up HB7.out (below_alloc w7 (.cells #[.bool false, .bool false, .bool false] 86))) (g := w7.heap.size) HB7.out.size (bs3 h'))
          have HLTq9 := Lib.hid (And.intro (blk_lt L6.out) (blk_lt L7.out))
          clear L4 L5 L6 L7 L8 HB7
          have HE1 := eqb_op f' f
          have HE2 := eqb_op h' h
          simp only [bs3] at HE1 HE2
          have M6_0 := blk_cell M6.out (i := 0) (v := .bool (f 0)) rfl
          have M6_1 := blk_cell M6.out (i := 1) (v := .bool (f 1)) rfl
          have M6_2 := blk_cell M6.out (i := 2) (v := .bool (f 2)) rfl
          have M7_0 := blk_cell M7.out (i := 0) (v := .bool (h 0)) rfl
          have M7_1 := blk_cell M7.out (i := 1) (v := .bool (h 1)) rfl
          have M7_2 := blk_cell M7.out (i := 2) (v := .bool (h 2)) rfl
          have M8_0 := blk_cell M8.out (i := 0) (v := .bool (f' 0)) rfl
          have M8_1 := blk_cell M8.out (i := 1) (v := .bool (f' 1)) rfl
          have M8_2 := blk_cell M8.out (i := 2) (v := .bool (f' 2)) rfl
          have M9_0 := blk_cell M9.out (i := 0) (v := .bool (h' 0)) rfl
          have M9_1 := blk_cell M9.out (i := 1) (v := .bool (h' 1)) rfl
          have M9_2 := blk_cell M9.out (i := 2) (v := .bool (h' 2)) rfl
          by_cases hs1 : f' 0 = f 0 ∧ f' 1 = f 1 ∧ f' 2 = f 2
          · have hd1 : decide (f' 0 = f 0 ∧ f' 1 = f 1 ∧ f' 2 = f 2) = true := decide_eq_true hs1
            rw [hd1] at HE1
            by_cases hs2 : h' 0 = h 0 ∧ h' 1 = h 1 ∧ h' 2 = h 2
            · have hd2 : decide (h' 0 = h 0 ∧ h' 1 = h 1 ∧ h' 2 = h 2) = true := decide_eq_true hs2
              rw [hd2] at HE2
              have HSM := Lib.hid (And.intro hs1 hs2)
              clear hd1 hd2 hs1 hs2
              go_wp2_with (refine wpList_store_row rfl 86 _ _ rfl w7.heap.size (bs3 h') rfl rfl 86 (bs3 fun _ => false) (blk_new w7 86 (bs3 fun _ => false)) (HS3.out _) rfl (HO3.out _) ?_)
              clear HE1 HE2 M6_0 M6_1 M6_2 M7_0 M7_1 M7_2 M8_0 M8_1 M8_2 M9_0 M9_1 M9_2
              generalize hW : (w7.alloc (.cells #[.bool false, .bool false, .bool false] 86)).setRow w7.heap.size (bs3 h') = W8 at *
              clear hW
              generalize w7.heap.size = q9 at *
              refine wp_region_invF (rs := [0, 1, 2, 3, 4, 5]) [46, 47, 48, 49, 2, 3] (fun L us W => ∃ u46 u47 u48 u49 u2 u3 A1 n1 c1 g1 A2 n2 c2 g2, us = [u46, u47, u48, u49, u2, u3] ∧ R8 w q6 q7 f h L u46 u47 u48 u49 u2 u3 A1 n1 c1 g1 A2 n2 c2 g2 W) (by kernel_rfl) ?_ (by kernel_rfl) (by kernel_rfl) ?_ ?_
              · refine ⟨[u46, u47, u48, u49, u2, u3], ?_, u46, u47, u48, u49, u2, u3, none, 0, 0, 0, none, 0, 0, 0, rfl, ?_⟩
                · simp only [frmL, Act.put, List.setIfInBounds_toArray, List.set_cons_zero, List.set_cons_succ]
                exact ⟨below_drewN HB8.out 1, blk_quiet M6.out ⟨1, rfl⟩, blk_quiet M7.out ⟨1, rfl⟩, fun o => o.not_start.elim, fun o => o.not_start.elim, fun o => o.not_start.elim, fun o => o.not_start.elim, fun o => o.not_start.elim, fun o => o.not_start.elim, fun o => o.not_start.elim⟩
              · refine StepsI.cons (i := 0) (ws := []) rfl (by kernel_rfl) (fun L a W hI hno hon hw K hK => ?_) ?_
                · obtain ⟨_, rfl, u46, u47, u48, u49, u2, u3, A1, n1, c1, g1, A2, n2, c2, g2, rfl, H⟩ := hI
                  simp only [List.getElem_toArray, List.getElem_cons_zero, frmL, Act.put, List.setIfInBounds_toArray, List.set_cons_zero, List.set_cons_succ]
                  rw [if_pos (by rfl)]
                  refine wp_load_row 86 _ rfl q6 rfl 86 (bs3 f) (0, 0) _ H.k6 und_marks rfl (HS3.out _) ?_
                  simp only [Act.put, List.setIfInBounds_toArray, List.set_cons_zero, List.set_cons_succ]
                  have HN := H
                  refine hK.out _ _ ⟨[.agg (bs3 f), u47, u48, u49, u2, u3], ?_, .agg (bs3 f), u47, u48, u49, u2, u3, A1, n1, c1, g1, A2, n2, c2, g2, rfl, ?_⟩
                  · simp only [frmL, Act.put, List.setIfInBounds_toArray, List.set_cons_zero, List.set_cons_succ]
                  · exact ⟨HN.bl, HN.k6, HN.k7, fun _ => rfl, fun o => HN.h1 (o.of_set (by decide)), fun o => HN.h2 (o.of_set (by decide)), fun o => HN.h3 (o.of_set (by decide)), fun o => (HN.hd (o.of_set (by decide))).imp On.old id, fun o => (HN.h4 (o.of_set (by decide))).imp On.old id, fun o => (HN.h5 (o.of_set (by decide))).imp On.old id⟩
                refine StepsI.cons (i := 1) (ws := [0]) rfl (by kernel_rfl) (fun L a W hI hno hon hw K hK => ?_) ?_
                · obtain ⟨_, rfl, u46, u47, u48, u49, u2, u3, A1, n1, c1, g1, A2, n2, c2, g2, rfl, H⟩ := hI
                  have e0 := H.h0 (hw 0 (by simp))
                  subst e0
                  simp only [List.getElem_toArray, List.getElem_cons_zero, List.getElem_cons_succ, frmL, Act.put, List.setIfInBounds_toArray, List.set_cons_zero, List.set_cons_succ]
                  go_simp
                  go_wp2_with (go_at_call 68; (with_reducible refine (marked_any f W).mono ?_); intro e w9 hnew; obtain ⟨A9, n9, c9, g9, rfl, hl9, ho9, hb⟩ := hnew; have HL9 := Lib.hid hl9; clear hl9)
                  have hs := SelO.mk (ho9.mono H.bl.size (Nat.le_refl _)) HL9.out
                  have HN := H.up hb
                  refine hK.out _ _ ⟨[.agg (bs3 f), .slice A9 n9 c9, u48, u49, u2, u3], ?_, .agg (bs3 f), .slice A9 n9 c9, u48, u49, u2, u3, A9, n9, c9, g9, A2, n2, c2, g2, rfl, ?_⟩
                  · simp only [frmL, Act.put, List.setIfInBounds_toArray, List.set_cons_zero, List.set_cons_succ]
                  · exact ⟨HN.bl, HN.k6, HN.k7, fun o => HN.h0 (o.of_set (by decide)), fun _ => ⟨rfl, hs⟩, fun o => HN.h2 (o.of_set (by decide)), fun o => HN.h3 (o.of_set (by decide)), fun o => absurd (H.hd (o.of_set (by decide))).1 hno, fun o => absurd (H.h4 (o.of_set (by decide))).1 hno, fun o => (HN.h5 (o.of_set (by decide))).imp On.old id⟩
                refine StepsI.cons (i := 2) (ws := []) rfl (by kernel_rfl) (fun L a W hI hno hon hw K hK => ?_) ?_
                · obtain ⟨_, rfl, u46, u47, u48, u49, u2, u3, A1, n1, c1, g1, A2, n2, c2, g2, rfl, H⟩ := hI
                  simp only [List.getElem_toArray, List.getElem_cons_zero, List.getElem_cons_succ, frmL, Act.put, List.setIfInBounds_toArray, List.set_cons_zero, List.set_cons_succ]
                  rw [if_pos (by rfl)]
                  refine wp_load_row 86 _ rfl q7 rfl 86 (bs3 h) (0, 0) _ H.k7 und_marks rfl (HS3.out _) ?_
                  simp only [Act.put, List.setIfInBounds_toArray, List.set_cons_zero, List.set_cons_succ]
                  have HN := H
                  refine hK.out _ _ ⟨[u46, u47, .agg (bs3 h), u49, u2, u3], ?_, u46, u47, .agg (bs3 h), u49, u2, u3, A1, n1, c1, g1, A2, n2, c2, g2, rfl, ?_⟩
                  · simp only [frmL, Act.put, List.setIfInBounds_toArray, List.set_cons_zero, List.set_cons_succ]
                  · exact ⟨HN.bl, HN.k6, HN.k7, fun o => HN.h0 (o.of_set (by decide)), fun o => HN.h1 (o.of_set (by decide)), fun _ => rfl, fun o => HN.h3 (o.of_set (by decide)), fun o => (HN.hd (o.of_set (by decide))).imp On.old id, fun o => (HN.h4 (o.of_set (by decide))).imp On.old id, fun o => (HN.h5 (o.of_set (by decide))).imp On.old id⟩
                refine StepsI.cons (i := 3) (ws := [2, 1]) rfl (by kernel_rfl) (fun L a W hI hno hon hw K hK => ?_) ?_
                · obtain ⟨_, rfl, u46, u47, u48, u49, u2, u3, A1, n1, c1, g1, A2, n2, c2, g2, rfl, H⟩ := hI
                  have e0 := H.h2 (hw 2 (by simp))
                  subst e0
                  simp only [List.getElem_toArray, List.getElem_cons_zero, List.getElem_cons_succ, frmL, Act.put, List.setIfInBounds_toArray, List.set_cons_zero, List.set_cons_succ]
                  go_simp
                  go_wp2_with (go_at_call 68; (with_reducible refine (marked_any h W).mono ?_); intro e w9 hnew; obtain ⟨A9, n9, c9, g9, rfl, hl9, ho9, hb⟩ := hnew; have HL9 := Lib.hid hl9; clear hl9)
                  have hs := SelO.mk (ho9.mono H.bl.size (Nat.le_refl _)) HL9.out
                  have HN := H.up hb
                  refine hK.out _ _ ⟨[u46, u47, .agg (bs3 h), .slice A9 n9 c9, u2, u3], ?_, u46, u47, .agg (bs3 h), .slice A9 n9 c9, u2, u3, A1, n1, c1, g1, A9, n9, c9, g9, rfl, ?_⟩
                  · simp only [frmL, Act.put, List.setIfInBounds_toArray, List.set_cons_zero, List.set_cons_succ]
                  · exact ⟨HN.bl, HN.k6, HN.k7, fun o => HN.h0 (o.of_set (by decide)), fun o => HN.h1 (o.of_set (by decide)), fun o => HN.h2 (o.of_set (by decide)), fun _ => ⟨rfl, hs⟩, fun _ => ⟨(hw 1 (by simp)).old, fun hp1 hp2 => by have q1 := (H.h1 (hw 1 (by simp))).2.own.lt hp1; obtain ⟨_, _, q2, _⟩ := ho9.own hp2; omega⟩, fun o => (HN.h4 (o.of_set (by decide))).imp On.old id, fun o => absurd (H.h5 (o.of_set (by decide))).1 hno⟩
                refine StepsI.cons (i := 4) (ws := [1, 3, 0, 1]) rfl (by kernel_rfl) (fun L a W hI hno hon hw K hK => ?_) ?_
                · obtain ⟨_, rfl, u46, u47, u48, u49, u2, u3, A1, n1, c1, g1, A2, n2, c2, g2, rfl, H⟩ := hI
                  simp only [List.getElem_toArray, List.getElem_cons_zero, List.getElem_cons_succ, frmL, Act.put, List.setIfInBounds_toArray, List.set_cons_zero, List.set_cons_succ]
                  go_simp
                  have HN := H
                  refine hK.out _ _ ⟨[u46, u47, u48, u49, u47, u3], ?_, u46, u47, u48, u49, u47, u3, A1, n1, c1, g1, A2, n2, c2, g2, rfl, ?_⟩
                  · simp only [frmL, Act.put, List.setIfInBounds_toArray, List.set_cons_zero, List.set_cons_succ]
                  · exact ⟨HN.bl, HN.k6, HN.k7, fun o => HN.h0 (o.of_set (by decide)), fun o => HN.h1 (o.of_set (by decide)), fun o => HN.h2 (o.of_set (by decide)), fun o => HN.h3 (o.of_set (by decide)), fun o => (HN.hd (o.of_set (by decide))).imp On.old id, fun _ => ⟨(hw 1 (by simp)).old, (H.h1 (hw 1 (by simp))).1⟩, fun o => (HN.h5 (o.of_set (by decide))).imp On.old id⟩
                refine StepsI.cons (i := 5) (ws := [3, 4, 0, 1, 2, 3, 4]) rfl (by kernel_rfl) (fun L a W hI hno hon hw K hK => ?_) ?_
                · obtain ⟨_, rfl, u46, u47, u48, u49, u2, u3, A1, n1, c1, g1, A2, n2, c2, g2, rfl, H⟩ := hI
                  simp only [List.getElem_toArray, List.getElem_cons_zero, List.getElem_cons_succ, frmL, Act.put, List.setIfInBounds_toArray, List.set_cons_zero, List.set_cons_succ]
                  go_simp
                  have HN := H
                  refine hK.out _ _ ⟨[u46, u47, u48, u49, u2, u49], ?_, u46, u47, u48, u49, u2, u49, A1, n1, c1, g1, A2, n2, c2, g2, rfl, ?_⟩
                  · simp only [frmL, Act.put, List.setIfInBounds_toArray, List.set_cons_zero, List.set_cons_succ]
                  · exact ⟨HN.bl, HN.k6, HN.k7, fun o => HN.h0 (o.of_set (by decide)), fun o => HN.h1 (o.of_set (by decide)), fun o => HN.h2 (o.of_set (by decide)), fun o => HN.h3 (o.of_set (by decide)), fun o => (HN.hd (o.of_set (by decide))).imp On.old id, fun o => (HN.h4 (o.of_set (by decide))).imp On.old id, fun _ => ⟨(hw 3 (by simp)).old, (H.h3 (hw 3 (by simp))).1⟩⟩
                exact StepsI.nil
              · rintro L us W hL ⟨u46, u47, u48, u49, u2, u3, A1, n1, c1, g1, A2, n2, c2, g2, rfl, H⟩
                have h4 := (H.h4 (hL 4 (by simp))).2
                have h5 := (H.h5 (hL 5 (by simp))).2
                have HS1 := Lib.hid (H.h1 (hL 1 (by simp))).2
                have HS2 := Lib.hid (H.h3 (hL 3 (by simp))).2
                have HBL := Lib.hid H.bl
                have HD := Lib.hid (H.hd (hL 3 (by simp))).2
                have hn1' := HS1.out.own.ints.max
                subst h4
                subst h5
                clear H hL
                have HLX := Lib.hid GT4.out.gv0.lx
                have HMX := Lib.hid GT4.out.gv0.mx
                have HE := Lib.hid (show LeftX xs ys w (.returned (.tuple #[.slice A1 n1 c1, .slice A2 n2 c2])) W from by
                  refine .inr ⟨HV.out, k, ?_, ?_⟩
                  · rw [HLX.out, HMX.out]
                    obtain ⟨⟨a0, a1, a2⟩, b0, b1, b2⟩ := HSM.out
                    rw [Hf.out, Hf'.out] at a0 a1 a2
                    rw [Hh.out, Hh'.out] at b0 b1 b2
                    exact ⟨fun i hi => cut3 hn3 a0 a1 a2 i hi, fun i hi => cut3 hm3 b0 b1 b2 i hi⟩
                  · rw [HLX.out, HMX.out]
                    have e1 := HS1.out
                    have e2 := HS2.out
                    have l1 := e1.len
                    have l2 := e2.len
                    have o1 := e1.own
                    have o2 := e2.own
                    rw [Hf.out, cut_sel hn3] at l1 o1
                    rw [Hh.out, cut_sel hm3] at l2 o2
                    exact ⟨_, _, _, g1, _, _, _, g2, rfl, l1, l2, o1, o2, HBL.out, HD.out⟩)
                clear HS1 HS2 HBL HD
                go_wp2
                simp only [frmL, Act.put, List.setIfInBounds_toArray, List.set_cons_zero, List.set_cons_succ]
                go_wp2
                go_ret2
                exact HE.out
            · have hd2 : decide (h' 0 = h 0 ∧ h' 1 = h 1 ∧ h' 2 = h 2) = false := decide_eq_false hs2
              rw [hd2] at HE2
              have HNS := Lib.hid (show ¬ ((f' 0 = f 0 ∧ f' 1 = f 1 ∧ f' 2 = f 2) ∧ h' 0 = h 0 ∧ h' 1 = h 1 ∧ h' 2 = h 2) from fun e => hs2 e.2)
              clear hd1 hd2 hs1 hs2
              go_wp2_with (refine wpList_store_row rfl 86 _ _ rfl w7.heap.size (bs3 h') rfl rfl 86 (bs3 fun _ => false) (blk_new w7 86 (bs3 fun _ => false)) (HS3.out _) rfl (HO3.out _) ?_)
              clear HE1 HE2 M6_0 M6_1 M6_2 M7_0 M7_1 M7_2 M8_0 M8_1 M8_2 M9_0 M9_1 M9_2
              generalize hW : (w7.alloc (.cells #[.bool false, .bool false, .bool false] 86)).setRow w7.heap.size (bs3 h') = W8 at *
              clear hW
              generalize w7.heap.size = q9 at *
              refine wp_region_invF (rs := [0, 1, 2, 3]) [50, 51] (fun L us W => ∃ u50 u51 g6 g7, us = [u50, u51] ∧ R9 w q4 q5 q6 q7 q8 q9 F1 F2 f' h' L u50 u51 g6 g7 W) (by kernel_rfl) ?_ (by kernel_rfl) (by kernel_rfl) ?_ ?_
              · refine ⟨[u50, u51], ?_, u50, u51, f, h, rfl, ?_⟩
                · simp only [frmL, Act.put, List.setIfInBounds_toArray, List.set_cons_zero, List.set_cons_succ]
                exact ⟨below_drewN HB8.out 1, blk_quiet M4.out ⟨1, rfl⟩, blk_quiet M5.out ⟨1, rfl⟩, blk_quiet M6.out ⟨1, rfl⟩, blk_quiet M7.out ⟨1, rfl⟩, blk_quiet M8.out ⟨1, rfl⟩, blk_quiet M9.out ⟨1, rfl⟩, fun o => o.not_start.elim, fun o => o.not_start.elim, fun o => o.not_start.elim, fun o => o.not_start.elim⟩
              · refine StepsI.cons (i := 0) (ws := []) rfl (by kernel_rfl) (fun L a W hI hno hon hw K hK => ?_) ?_
                · obtain ⟨_, rfl, u50, u51, g6, g7, rfl, H⟩ := hI
                  simp only [List.getElem_toArray, List.getElem_cons_zero, frmL, Act.put, List.setIfInBounds_toArray, List.set_cons_zero, List.set_cons_succ]
                  rw [if_pos (by rfl)]
                  refine wp_load_row 86 _ rfl q8 rfl 86 (bs3 f') (0, 0) _ H.k8 und_marks rfl (HS3.out _) ?_
                  simp only [Act.put, List.setIfInBounds_toArray, List.set_cons_zero, List.set_cons_succ]
                  have HN := H
                  refine hK.out _ _ ⟨[.agg (bs3 f'), u51], ?_, .agg (bs3 f'), u51, g6, g7, rfl, ?_⟩
                  · simp only [frmL, Act.put, List.setIfInBounds_toArray, List.set_cons_zero, List.set_cons_succ]
                  · exact ⟨HN.bl, HN.k4, HN.k5, HN.k6, HN.k7, HN.k8, HN.k9, fun _ => rfl, fun o => HN.h1 (o.of_set (by decide)), fun o => HN.h2 (o.of_set (by decide)), fun o => HN.h3 (o.of_set (by decide))⟩
                refine StepsI.cons (i := 1) (ws := []) rfl (by kernel_rfl) (fun L a W hI hno hon hw K hK => ?_) ?_
                · obtain ⟨_, rfl, u50, u51, g6, g7, rfl, H⟩ := hI
                  simp only [List.getElem_toArray, List.getElem_cons_zero, List.getElem_cons_succ, frmL, Act.put, List.setIfInBounds_toArray, List.set_cons_zero, List.set_cons_succ]
                  rw [if_pos (by rfl)]
                  refine wp_load_row 86 _ rfl q9 rfl 86 (bs3 h') (0, 0) _ H.k9 und_marks rfl (HS3.out _) ?_
                  simp only [Act.put, List.setIfInBounds_toArray, List.set_cons_zero, List.set_cons_succ]
                  have HN := H
                  refine hK.out _ _ ⟨[u50, .agg (bs3 h')], ?_, u50, .agg (bs3 h'), g6, g7, rfl, ?_⟩
                  · simp only [frmL, Act.put, List.setIfInBounds_toArray, List.set_cons_zero, List.set_cons_succ]
                  · exact ⟨HN.bl, HN.k4, HN.k5, HN.k6, HN.k7, HN.k8, HN.k9, fun o => HN.h0 (o.of_set (by decide)), fun _ => rfl, fun o => HN.h2 (o.of_set (by decide)), fun o => HN.h3 (o.of_set (by decide))⟩
                refine StepsI.cons (i := 2) (ws := [0, 0]) rfl (by kernel_rfl) (fun L a W hI hno hon hw K hK => ?_) ?_
                · obtain ⟨_, rfl, u50, u51, g6, g7, rfl, H⟩ := hI
                  have e2 := H.h0 (hw 0 (by simp))
                  simp only [List.getElem_toArray, List.getElem_cons_zero, List.getElem_cons_succ, frmL, Act.put, List.setIfInBounds_toArray, List.set_cons_zero, List.set_cons_succ]
                  rw [if_pos (by rfl)]
                  refine wp_store_row 86 _ _ rfl q6 (bs3 f') rfl e2 86 (bs3 g6) H.k6 (HS3.out _) rfl (HO3.out _) ?_
                  have HN := H
                  refine hK.out _ _ ⟨[u50, u51], ?_, u50, u51, f', g7, rfl, ?_⟩
                  · simp only [frmL, Act.put, List.setIfInBounds_toArray, List.set_cons_zero, List.set_cons_succ]
                  · exact ⟨below_row H.bl (by omega) _, blk_row_other H.k4 _ HN46.out, blk_row_other H.k5 _ HN56.out, blk_row H.k6 _, blk_row_other H.k7 _ (fun e => HN67.out e.symm), blk_row_other H.k8 _ (by have := HLTq8.out; omega), blk_row_other H.k9 _ (by have := HLTq9.out; omega), fun o => HN.h0 (o.of_set (by decide)), fun o => HN.h1 (o.of_set (by decide)), fun _ => blk_row H.k6 _, fun o => blk_row_other (H.h3 (o.of_set (by decide))) _ (fun e => HN67.out e.symm)⟩
                refine StepsI.cons (i := 3) (ws := [1, 2, 0, 1, 2]) rfl (by kernel_rfl) (fun L a W hI hno hon hw K hK => ?_) ?_
                · obtain ⟨_, rfl, u50, u51, g6, g7, rfl, H⟩ := hI
                  have e2 := H.h1 (hw 1 (by simp))
                  simp only [List.getElem_toArray, List.getElem_cons_zero, List.getElem_cons_succ, frmL, Act.put, List.setIfInBounds_toArray, List.set_cons_zero, List.set_cons_succ]
                  rw [if_pos (by rfl)]
                  refine wp_store_row 86 _ _ rfl q7 (bs3 h') rfl e2 86 (bs3 g7) H.k7 (HS3.out _) rfl (HO3.out _) ?_
                  have HN := H
                  refine hK.out _ _ ⟨[u50, u51], ?_, u50, u51, g6, h', rfl, ?_⟩
                  · simp only [frmL, Act.put, List.setIfInBounds_toArray, List.set_cons_zero, List.set_cons_succ]
                  · exact ⟨below_row H.bl (by omega) _, blk_row_other H.k4 _ HN47.out, blk_row_other H.k5 _ HN57.out, blk_row_other H.k6 _ HN67.out, blk_row H.k7 _, blk_row_other H.k8 _ (by have := HLTq8.out; omega), blk_row_other H.k9 _ (by have := HLTq9.out; omega), fun o => HN.h0 (o.of_set (by decide)), fun o => HN.h1 (o.of_set (by decide)), fun o => blk_row_other (H.h2 (o.of_set (by decide))) _ HN67.out, fun _ => blk_row H.k7 _⟩
                exact StepsI.nil
              · rintro L us W hL ⟨u50, u51, g6, g7, rfl, H⟩
                have HZ := Lib.hid (show LS w xs ys p.n p.m F1 F2 q4 q5 q6 q7 (k + 1) W from ⟨H.bl, H.k4, H.k5, by rw [← Hf'.out]; exact H.h2 (hL 2 (by simp)), by rw [← Hh'.out]; exact H.h3 (hL 3 (by simp))⟩)
                have HMM : Hid (mB W q6 + mB W q7 < mB wr q6 + mB wr q7) := Lib.hid (by
                  rw [HM.out, mB_blk HZ.out.k6, mB_blk HZ.out.k7, cut_sel hn3, cut_sel hm3]
                  refine lo_less (fun e => HNS.out ?_)
                  have hsm := lo_same e
                  rw [Hf.out, Hf'.out, Hh.out, Hh'.out]
                  exact ⟨cut3' hsm.1, cut3' hsm.2⟩)
                clear H hL
                go_wp2
                simp only [frmL, Act.put, List.setIfInBounds_toArray, List.set_cons_zero, List.set_cons_succ]
                go_wp2
                go_roundw
                case rel => exact ⟨k + 1, HZ⟩
                case measure => exact HMM.out
          · have hd1 : decide (f' 0 = f 0 ∧ f' 1 = f 1 ∧ f' 2 = f 2) = false := decide_eq_false hs1
            rw [hd1] at HE1
            have HNS := Lib.hid (show ¬ ((f' 0 = f 0 ∧ f' 1 = f 1 ∧ f' 2 = f 2) ∧ h' 0 = h 0 ∧ h' 1 = h 1 ∧ h' 2 = h 2) from fun e => hs1 e.1)
            clear hd1 hs1 HE2
            go_wp2_with (refine wpList_store_row rfl 86 _ _ rfl w7.heap.size (bs3 h') rfl rfl 86 (bs3 fun _ => false) (blk_new w7 86 (bs3 fun _ => false)) (HS3.out _) rfl (HO3.out _) ?_)
            clear HE1 M6_0 M6_1 M6_2 M7_0 M7_1 M7_2 M8_0 M8_1 M8_2 M9_0 M9_1 M9_2
            generalize hW : (w7.alloc (.cells #[.bool false, .bool false, .bool false] 86)).setRow w7.heap.size (bs3 h') = W8 at *
            clear hW
            generalize w7.heap.size = q9 at *
            refine wp_region_invF (rs := [0, 1, 2, 3]) [50, 51] (fun L us W => ∃ u50 u51 g6 g7, us = [u50, u51] ∧ R9 w q4 q5 q6 q7 q8 q9 F1 F2 f' h' L u50 u51 g6 g7 W) (by kernel_rfl) ?_ (by kernel_rfl) (by kernel_rfl) ?_ ?_
            · refine ⟨[u50, u51], ?_, u50, u51, f, h, rfl, ?_⟩
              · simp only [frmL, Act.put, List.setIfInBounds_toArray, List.set_cons_zero, List.set_cons_succ]
              exact ⟨below_drewN HB8.out 1, blk_quiet M4.out ⟨1, rfl⟩, blk_quiet M5.out ⟨1, rfl⟩, blk_quiet M6.out ⟨1, rfl⟩, blk_quiet M7.out ⟨1, rfl⟩, blk_quiet M8.out ⟨1, rfl⟩, blk_quiet M9.out ⟨1, rfl⟩, fun o => o.not_start.elim, fun o => o.not_start.elim, fun o => o.not_start.elim, fun o => o.not_start.elim⟩
            · refine StepsI.cons (i := 0) (ws := []) rfl (by kernel_rfl) (fun L a W hI hno hon hw K hK => ?_) ?_
              · obtain ⟨_, rfl, u50, u51, g6, g7, rfl, H⟩ := hI
                simp only [List.getElem_toArray, List.getElem_cons_zero, frmL, Act.put, List.setIfInBounds_toArray, List.set_cons_zero, List.set_cons_succ]
                rw [if_pos (by rfl)]
                refine wp_load_row 86 _ rfl q8 rfl 86 (bs3 f') (0, 0) _ H.k8 und_marks rfl (HS3.out _) ?_
                simp only [Act.put, List.setIfInBounds_toArray, List.set_cons_zero, List.set_cons_succ]
                have HN := H
                refine hK.out _ _ ⟨[.agg (bs3 f'), u51], ?_, .agg (bs3 f'), u51, g6, g7, rfl, ?_⟩
                · simp only [frmL, Act.put, List.setIfInBounds_toArray, List.set_cons_zero, List.set_cons_succ]
                · exact ⟨HN.bl, HN.k4, HN.k5, HN.k6, HN.k7, HN.k8, HN.k9, fun _ => rfl, fun o => HN.h1 (o.of_set (by decide)), fun o => HN.h2 (o.of_set (by decide)), fun o => HN.h3 (o.of_set (by decide))⟩
              refine StepsI.cons (i := 1) (ws := []) rfl (by kernel_rfl) (fun L a W hI hno hon hw K hK => ?_) ?_
              · obtain ⟨_, rfl, u50, u51, g6, g7, rfl, H⟩ := hI
                simp only [List.getElem_toArray, List.getElem_cons_zero, List.getElem_cons_succ, frmL, Act.put, List.setIfInBounds_toArray, List.set_cons_zero, List.set_cons_succ]
                rw [if_pos (by rfl)]
                refine wp_load_row 86 _ rfl q9 rfl 86 (bs3 h') (0, 0) _ H.k9 und_marks rfl (HS3.out _) ?_
                simp only [Act.put, List.setIfInBounds_toArray, List.set_cons_zero, List.set_cons_succ]
                have HN := H
                refine hK.out _ _ ⟨[u50, .agg (bs3 h')], ?_, u50, .agg (bs3 h'), g6, g7, rfl, ?_⟩
                · simp only [frmL, Act.put, List.setIfInBounds_toArray, List.set_cons_zero, List.set_cons_succ]
                · exact ⟨HN.bl, HN.k4, HN.k5, HN.k6, HN.k7, HN.k8, HN.k9, fun o => HN.h0 (o.of_set (by decide)), fun _ => rfl, fun o => HN.h2 (o.of_set (by decide)), fun o => HN.h3 (o.of_set (by decide))⟩
              refine StepsI.cons (i := 2) (ws := [0, 0]) rfl (by kernel_rfl) (fun L a W hI hno hon hw K hK => ?_) ?_
              · obtain ⟨_, rfl, u50, u51, g6, g7, rfl, H⟩ := hI
                have e2 := H.h0 (hw 0 (by simp))
                simp only [List.getElem_toArray, List.getElem_cons_zero, List.getElem_cons_succ, frmL, Act.put, List.setIfInBounds_toArray, List.set_cons_zero, List.set_cons_succ]
                rw [if_pos (by rfl)]
                refine wp_store_row 86 _ _ rfl q6 (bs3 f') rfl e2 86 (bs3 g6) H.k6 (HS3.out _) rfl (HO3.out _) ?_
                have HN := H
                refine hK.out _ _ ⟨[u50, u51], ?_, u50, u51, f', g7, rfl, ?_⟩
                · simp only [frmL, Act.put, List.setIfInBounds_toArray, List.set_cons_zero, List.set_cons_succ]
                · exact ⟨below_row H.bl (by omega) _, blk_row_other H.k4 _ HN46.out, blk_row_other H.k5 _ HN56.out, blk_row H.k6 _, blk_row_other H.k7 _ (fun e => HN67.out e.symm), blk_row_other H.k8 _ (by have := HLTq8.out; omega), blk_row_other H.k9 _ (by have := HLTq9.out; omega), fun o => HN.h0 (o.of_set (by decide)), fun o => HN.h1 (o.of_set (by decide)), fun _ => blk_row H.k6 _, fun o => blk_row_other (H.h3 (o.of_set (by decide))) _ (fun e => HN67.out e.symm)⟩
              refine StepsI.cons (i := 3) (ws := [1, 2, 0, 1, 2]) rfl (by kernel_rfl) (fun L a W hI hno hon hw K hK => ?_) ?_
              · obtain ⟨_, rfl, u50, u51, g6, g7, rfl, H⟩ := hI
                have e2 := H.h1 (hw 1 (by simp))
                simp only [List.getElem_toArray, List.getElem_cons_zero, List.getElem_cons_succ, frmL, Act.put, List.setIfInBounds_toArray, List.set_cons_zero, List.set_cons_succ]
                rw [if_pos (by rfl)]
                refine wp_store_row 86 _ _ rfl q7 (bs3 h') rfl e2 86 (bs3 g7) H.k7 (HS3.out _) rfl (HO3.out _) ?_
                have HN := H
                refine hK.out _ _ ⟨[u50, u51], ?_, u50, u51, g6, h', rfl, ?_⟩
                · simp only [frmL, Act.put, List.setIfInBounds_toArray, List.set_cons_zero, List.set_cons_succ]
                · exact ⟨below_row H.bl (by omega) _, blk_row_other H.k4 _ HN47.out, blk_row_other H.k5 _ HN57.out, blk_row_other H.k6 _ HN67.out, blk_row H.k7 _, blk_row_other H.k8 _ (by have := HLTq8.out; omega), blk_row_other H.k9 _ (by have := HLTq9.out; omega), fun o => HN.h0 (o.of_set (by decide)), fun o => HN.h1 (o.of_set (by decide)), fun o => blk_row_other (H.h2 (o.of_set (by decide))) _ HN67.out, fun _ => blk_row H.k7 _⟩
              exact StepsI.nil
            · rintro L us W hL ⟨u50, u51, g6, g7, rfl, H⟩
              have HZ := Lib.hid (show LS w xs ys p.n p.m F1 F2 q4 q5 q6 q7 (k + 1) W from ⟨H.bl, H.k4, H.k5, by rw [← Hf'.out]; exact H.h2 (hL 2 (by simp)), by rw [← Hh'.out]; exact H.h3 (hL 3 (by simp))⟩)
              have HMM : Hid (mB W q6 + mB W q7 < mB wr q6 + mB wr q7) := Lib.hid (by
                rw [HM.out, mB_blk HZ.out.k6, mB_blk HZ.out.k7, cut_sel hn3, cut_sel hm3]
                refine lo_less (fun e => HNS.out ?_)
                have hsm := lo_same e
                rw [Hf.out, Hf'.out, Hh.out, Hh'.out]
                exact ⟨cut3' hsm.1, cut3' hsm.2⟩)
              clear H hL
              go_wp2
              simp only [frmL, Act.put, List.setIfInBounds_toArray, List.set_cons_zero, List.set_cons_succ]
              go_wp2
              go_roundw
              case rel => exact ⟨k + 1, HZ⟩
              case measure => exact HMM.out
  · refine ((pb_false hv) ▸ HC.out).mono ?_
    rintro e w1 ⟨rfl, hb⟩
    have HE := Lib.hid (show LeftX xs ys w (.returned (.tuple #[.slice none 0 0, .slice none 0 0])) w1 from .inl ⟨hv, none, 0, 0, 0, none, 0, 0, 0, rfl, rfl, rfl, OwnI.nil _ _ _ _, OwnI.nil _ _ _ _, below_up HB.out hb, fun h => absurd h (by omega)⟩)
    clear hb HC hv
    go_wp2
    go_ret2
    exact HE.out

end Go.Proofs.Ytbmacoppeidhaaa

