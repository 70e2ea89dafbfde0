/- Texts merged: A4 Math1 B1 IP B2 Z1 Tab Z2 R1 R2 Own A5 R3 R4 R5 R6 LitI R7 R8 R9. -/
import Derived.Test.YtjmfkodbilknlaaQ1
import Derived.Deep.RegionHeld3
/- What an exact law on a game knows at each step. -/
namespace Go.Proofs.Ytjmfkodbilknlaa
open Go.RowKit

/-- The law's own argument: in its box, and its rows. -/
structure GS (w0 w : World) (A B : Option Addr) (n c m d : Nat) (xs ys : List (List Int)) : Prop where
  below : Below w0.heap.size w0 w
  box : Blk w w0.heap.size 40 #[.slice A n c, .slice B m d]
  rx0 : IntRows w0 A n c xs
  ry0 : IntRows w0 B m d ys
theorem GS.rx {w0 w A B n c m d xs ys} (h : GS w0 w A B n c m d xs ys) : IntRows w A n c xs := h.rx0.keep (Keep.below h.below)
theorem GS.ry {w0 w A B n c m d xs ys} (h : GS w0 w A B n c m d xs ys) : IntRows w B m d ys := h.ry0.keep (Keep.below h.below)
theorem GS.up {w0 w w' A B n c m d xs ys} (h : GS w0 w A B n c m d xs ys) (k : Below w.heap.size w w') : GS w0 w' A B n c m d xs ys :=
  ⟨below_up h.below k, blk_below h.box k, h.rx0, h.ry0⟩
theorem GS.touch {lo hi w0 w w' A B n c m d xs ys} (h : GS w0 w A B n c m d xs ys) (k : Touch lo hi w w') (hl : w0.heap.size < lo) : GS w0 w' A B n c m d xs ys :=
  ⟨Touch.below h.below k (Nat.le_of_lt hl), blk_touch h.box k (.inl hl), h.rx0, h.ry0⟩
theorem GS.c0 {w0 w A B n c m d xs ys} (h : GS w0 w A B n c m d xs ys) : w.cell? ⟨w0.heap.size, 0, none⟩ = some (.slice A n c) := blk_cell h.box rfl
theorem GS.c1 {w0 w A B n c m d xs ys} (h : GS w0 w A B n c m d xs ys) : w.cell? ⟨w0.heap.size, 1, none⟩ = some (.slice B m d) := blk_cell h.box rfl
theorem GS.start {w : World} {A B n c m d xs ys} (hx : IntRows w A n c xs) (hy : IntRows w B m d ys) : GS w (w.alloc (.cells #[.slice A n c, .slice B m d] 40)) A B n c m d xs ys :=
  ⟨below_alloc _ _, blk_new _ _ _, hx, hy⟩

/-- A copy of it in a box g, its rows its own: the first table's from lo up to less than mid, the second one's up to less than hi. -/
structure XS (lo mid hi : Nat) (w : World) (g g1 g2 n m : Nat) (xs ys : List (List Int)) : Prop where
  box : Blk w g 43 #[.slice (some ⟨g1, 0, none⟩) n n, .slice (some ⟨g2, 0, none⟩) m m]
  rx : OwnR lo mid w g1 (some ⟨g1, 0, none⟩) n n xs
  ry : OwnR mid hi w g2 (some ⟨g2, 0, none⟩) m m ys
  h1 : lo ≤ mid
  h2 : mid ≤ hi
  le : hi ≤ w.heap.size
  lt : hi ≤ g
theorem XS.up {lo mid hi w w' g g1 g2 n m xs ys} (h : XS lo mid hi w g g1 g2 n m xs ys) (k : Below w.heap.size w w') : XS lo mid hi w' g g1 g2 n m xs ys :=
  ⟨blk_below h.box k, h.rx.below k, h.ry.below k, h.h1, h.h2, Nat.le_trans h.le k.size, h.lt⟩
theorem XS.c0 {lo mid hi w g g1 g2 n m xs ys} (h : XS lo mid hi w g g1 g2 n m xs ys) : w.cell? ⟨g, 0, none⟩ = some (.slice (some ⟨g1, 0, none⟩) n n) := blk_cell h.box rfl
theorem XS.c1 {lo mid hi w g g1 g2 n m xs ys} (h : XS lo mid hi w g g1 g2 n m xs ys) : w.cell? ⟨g, 1, none⟩ = some (.slice (some ⟨g2, 0, none⟩) m m) := blk_cell h.box rfl
theorem XS.start {lo mid hi : Nat} {w : World} {g1 g2 n m : Nat} {xs ys : List (List Int)} (o1 : OwnR lo mid w g1 (some ⟨g1, 0, none⟩) n n xs) (o2 : OwnR mid hi w g2 (some ⟨g2, 0, none⟩) m m ys) (h1 : lo ≤ mid) (h2 : mid ≤ hi) (h3 : hi ≤ w.heap.size) :
    XS lo mid hi (w.alloc (.cells #[.slice (some ⟨g1, 0, none⟩) n n, .slice (some ⟨g2, 0, none⟩) m m] 43)) w.heap.size g1 g2 n m xs ys :=
  ⟨blk_new _ _ _, o1.below (below_alloc _ _), o2.below (below_alloc _ _), h1, h2, by simp; omega, h3⟩
theorem XS.rows {lo mid hi w g g1 g2 n m xs ys} (h : XS lo mid hi w g g1 g2 n m xs ys) : IntRows w (some ⟨g1, 0, none⟩) n n xs ∧ IntRows w (some ⟨g2, 0, none⟩) m m ys := ⟨h.rx.rows, h.ry.rows⟩
end Go.Proofs.Ytjmfkodbilknlaa

/- Chapter 1 as plain functions on lists. -/
namespace Go.Proofs.Ytjmfkodbilknlaa

noncomputable def pb (p : Prop) : Bool := @decide p (Classical.propDecidable p)
theorem pb_true {p : Prop} (h : p) : pb p = true := by unfold pb; exact @decide_eq_true p (Classical.propDecidable p) h
theorem pb_false {p : Prop} (h : ¬ p) : pb p = false := by unfold pb; exact @decide_eq_false p (Classical.propDecidable p) h
theorem pb_iff {p : Prop} : pb p = true ↔ p := ⟨fun h => by unfold pb at h; exact @of_decide_eq_true p (Classical.propDecidable p) h, pb_true⟩
theorem pb_congr {p q : Prop} (h : p ↔ q) : pb p = pb q := by rw [propext h]

def InR (n lo hi : Int) : Prop := lo ≤ n ∧ n ≤ hi
def RowOk (a : List (List Int)) (i : Nat) : Prop := (gr a i).length = (gr a 0).length ∧ ∀ j, j < (gr a i).length → InR (gi (gr a i) j) (-9) 9
/-- A table: one to three rows of as many numbers, one to three, from -9 to 9. -/
structure VT (a : List (List Int)) : Prop where
  rows : ∀ i, i < a.length → RowOk a i
  n1 : 1 ≤ a.length
  n3 : a.length ≤ 3
  m1 : 1 ≤ (gr a 0).length
  m3 : (gr a 0).length ≤ 3

def RowV (r : List Int) : Prop := 1 ≤ r.length ∧ r.length ≤ 3 ∧ ∀ j, j < r.length → InR (gi r j) (-9) 9
theorem RowV_no {r : List Int} {j : Nat} (hj : j < r.length) (h : ¬ InR (gi r j) (-9) 9) : pb (RowV r) = false := pb_false fun v => h (v.2.2 j hj)
theorem VT_rowV {a : List (List Int)} (v : VT a) {i : Nat} (hi : i < a.length) : RowV (gr a i) := by
  have h := v.rows i hi
  have h1 := v.m1
  have h3 := v.m3
  exact ⟨by rw [h.1]; exact h1, by rw [h.1]; exact h3, h.2⟩
theorem VT_of {a : List (List Int)} (h1 : 1 ≤ a.length) (h3 : a.length ≤ 3) (h : ∀ i, i < a.length → (gr a i).length = (gr a 0).length ∧ RowV (gr a i)) : VT a :=
  ⟨fun i hi => ⟨(h i hi).1, (h i hi).2.2.2⟩, h1, h3, (h 0 (by omega)).2.1, (h 0 (by omega)).2.2.1⟩

structure VG (a b : List (List Int)) : Prop where
  ta : VT a
  tb : VT b
  n : a.length = b.length
  m : (gr a 0).length = (gr b 0).length

def g2 (a : List (List Int)) (i j : Nat) : Int := gi (gr a i) j
theorem VT.bd {a : List (List Int)} (v : VT a) {i j : Nat} (hi : i < a.length) (hj : j < (gr a 0).length) : -9 ≤ g2 a i j ∧ g2 a i j ≤ 9 := by
  have h := v.rows i hi
  exact h.2 j (by rw [h.1]; exact hj)

/-- The changes round four places. -/
def rnd (a b : List (List Int)) (i k j l : Nat) : Int := g2 a k j - g2 a i j + (g2 b k l - g2 b k j) + (g2 a i l - g2 a k l) + (g2 b i j - g2 b i l)
structure NR (a b : List (List Int)) : Prop where
  vg : VG a b
  no : ∀ i k j l, i < a.length → k < a.length → j < (gr a 0).length → l < (gr a 0).length → rnd a b i k j l = 0
theorem NR_half {a b : List (List Int)} (v : VG a b) (h : ∀ i k j l, i < a.length → k < i → j < (gr a 0).length → l < j → rnd a b i k j l = 0) : NR a b := by
  refine ⟨v, fun i k j l hi hk hj hl => ?_⟩
  have s1 : rnd a b i k j l = - rnd a b k i j l := by unfold rnd; omega
  have s2 : rnd a b i k j l = - rnd a b i k l j := by unfold rnd; omega
  have s3 : rnd a b i k j l = rnd a b k i l j := by unfold rnd; omega
  rcases Nat.lt_trichotomy k i with h1 | h1 | h1 <;> rcases Nat.lt_trichotomy l j with h2 | h2 | h2
  · exact h i k j l hi h1 hj h2
  · subst h2; unfold rnd; omega
  · rw [s2, h i k l j hi h1 hl h2]; rfl
  · subst h1; unfold rnd; omega
  · subst h1; unfold rnd; omega
  · subst h1; unfold rnd; omega
  · rw [s1, h k i j l hk h1 hj h2]; rfl
  · subst h2; unfold rnd; omega
  · rw [s3, h k i l j hk h1 hl h2]

/-- The least of the first k + 1 numbers; of a row. -/
def mn (xs : List Int) : Nat → Int
  | 0 => gi xs 0
  | k + 1 => min (mn xs k) (gi xs (k + 1))
def lst (xs : List Int) : Int := mn xs (xs.length - 1)
theorem mn_bd {xs : List Int} {lo hi : Int} : ∀ {k : Nat}, (∀ j, j ≤ k → lo ≤ gi xs j ∧ gi xs j ≤ hi) → lo ≤ mn xs k ∧ mn xs k ≤ hi
  | 0, h => h 0 (Nat.le_refl _)
  | k + 1, h => by
    have h1 := mn_bd (k := k) fun j hj => h j (by omega)
    have h2 := h (k + 1) (Nat.le_refl _)
    simp only [mn]
    omega
/-- The first row with the greatest least number, of the first k rows. -/
def bst (a : List (List Int)) : Nat → Nat
  | 0 => 0
  | k + 1 => if lst (gr a (bst a k)) < lst (gr a k) then k else bst a k
theorem bst_one (a : List (List Int)) : bst a 1 = 0 := by simp [bst]
theorem bst_lt (a : List (List Int)) : ∀ {k : Nat}, 0 < k → bst a k < k
  | 0, h => absurd h (by omega)
  | k + 1, _ => by
    rw [bst]
    split
    · omega
    · rcases Nat.eq_zero_or_pos k with h | h
      · subst h; simp [bst]
      · have := bst_lt a h; omega
theorem bst_up {a : List (List Int)} {k : Nat} (h : lst (gr a (bst a k)) < lst (gr a k)) : bst a (k + 1) = k := by rw [bst, if_pos h]
theorem bst_same {a : List (List Int)} {k : Nat} (h : ¬ lst (gr a (bst a k)) < lst (gr a k)) : bst a (k + 1) = bst a k := by rw [bst, if_neg h]

/-- Neither player has more by another act. -/
def RestAt (a b : List (List Int)) (n m i j : Nat) : Prop := (∀ k, k < n → g2 a k j ≤ g2 a i j) ∧ ∀ k, k < m → g2 b i k ≤ g2 b i j
noncomputable def rowRests (a b : List (List Int)) (n m i : Nat) : Nat → List (List Int)
  | 0 => []
  | j + 1 => rowRests a b n m i j ++ (if pb (RestAt a b n m i j) = true then [[(i : Int), (j : Int)]] else [])
noncomputable def allRests (a b : List (List Int)) (n m : Nat) : Nat → List (List Int)
  | 0 => []
  | i + 1 => allRests a b n m i ++ rowRests a b n m i m
noncomputable def pureR (a b : List (List Int)) : List (List Int) := if pb (VG a b) = true then allRests a b a.length (gr a 0).length a.length else []
theorem rowRests_yes {a b : List (List Int)} {n m i j : Nat} (h : RestAt a b n m i j) : rowRests a b n m i (j + 1) = rowRests a b n m i j ++ [[(i : Int), (j : Int)]] := by rw [rowRests, if_pos (pb_true h)]
theorem rowRests_no {a b : List (List Int)} {n m i j : Nat} (h : ¬ RestAt a b n m i j) : rowRests a b n m i (j + 1) = rowRests a b n m i j := by rw [rowRests, if_neg (by rw [pb_false h]; decide), List.append_nil]
theorem rowRests_len (a b : List (List Int)) (n m i : Nat) : ∀ j, (rowRests a b n m i j).length ≤ j
  | 0 => by simp [rowRests]
  | j + 1 => by
    have := rowRests_len a b n m i j
    rw [rowRests, List.length_append]
    split <;> simp <;> omega
theorem allRests_len (a b : List (List Int)) (n m : Nat) (hm : m ≤ 3) : ∀ i, (allRests a b n m i).length ≤ 3 * i
  | 0 => by simp [allRests]
  | i + 1 => by
    have h1 := allRests_len a b n m hm i
    have h2 := rowRests_len a b n m i m
    rw [allRests, List.length_append]
    omega

end Go.Proofs.Ytjmfkodbilknlaa

/- Valid tables, by both programs. -/
namespace Go.Proofs.Ytjmfkodbilknlaa
open Go.RowKit

set_option maxHeartbeats 400000 in
theorem inRange_any (n lo hi : Int) (w : World) : Calls Try.prog 33 #[.int .i64 n, .int .i64 lo, .int .i64 hi] w fun e w' => e = .returned (.bool (pb (InR n lo hi))) ∧ w = w' := by
  by_cases h1 : lo ≤ n
  · by_cases h2 : n ≤ hi
    · have h := Lib.hid (pb_true (p := InR n lo hi) ⟨h1, h2⟩)
      go_enter Try.func33, Try.ntmps33
      go_wp2
      go_ret
      exact ⟨ret_bool (by rw [h.out]), rfl⟩
    · have h := Lib.hid (pb_false (p := InR n lo hi) (fun h => h2 h.2))
      have h2' : decide (n ≤ hi) = false := by simpa using h2
      go_enter Try.func33, Try.ntmps33
      go_wp2
      go_ret
      exact ⟨ret_bool (by rw [h.out]), rfl⟩
  · have h := Lib.hid (pb_false (p := InR n lo hi) (fun h => h1 h.1))
    have h1' : decide (lo ≤ n) = false := by simpa using h1
    go_enter Try.func33, Try.ntmps33
    go_wp2
    go_ret
    exact ⟨ret_bool (by rw [h.out]), rfl⟩

theorem VT_no_row {a : List (List Int)} {i : Nat} (hi : i < a.length) (h : ¬ RowOk a i) : pb (VT a) = false := pb_false fun v => h (v.rows i hi)

set_option maxHeartbeats 1000000 in
theorem validTable_any (A : Option Addr) (n c : Nat) (a : List (List Int)) (w : World) (hx : IntRows w A n c a) :
    Calls Try.prog 76 #[.slice A n c] w fun e w' => e = .returned (.bool (pb (VT a))) ∧ Quiet w w' := by
  obtain ⟨lx, cx, mx, hx⟩ := hx
  have Lx := Lib.hid lx
  clear lx
  go_enter Try.func76, Try.ntmps76
  go_wp2
  go_loopw [3] (fun i wr => ∃ k : Nat, k ≤ n ∧ i = .int .i64 k ∧ Hid (∀ i, i < k → RowOk a i) ∧ Quiet w wr) (fun i _ => n - (intOf i).toNat)
  case atStart => exact ⟨0, Nat.zero_le _, rfl, Lib.hid (fun _ h => absurd h (by omega)), Quiet.refl _⟩
  case round =>
    obtain ⟨k, hk, rfl, HALL, q, rfl⟩ := hrel
    by_cases hlt : k < n
    · obtain ⟨b, o, rfl, hc⟩ := hx (by omega)
      obtain ⟨R, cc, c1, hR⟩ := hc k hlt
      obtain ⟨R0, cc0, c0, hR0⟩ := hc 0 (by omega)
      have hL1 : (gr a k).length ≤ 17592186044416 := hR.max
      have hL0 : (gr a 0).length ≤ 17592186044416 := hR0.max
      have hn0 : 0 < n := by omega
      have HKA := Lib.hid (show k < a.length by rw [Lx.out]; exact hlt)
      clear hx hc
      simp only [Nat.add_zero] at c0
      by_cases hlen : (gr a k).length = (gr a 0).length
      · have hlen' : (((gr a k).length : Int) != ((gr a 0).length : Int)) = false := by simp [hlen]
        have HLEN := Lib.hid hlen
        clear hlen
        go_wp2
        go_quiet (fail)
        go_wp2
        go_loopw [4] (fun j wi => ∃ m : Nat, m ≤ (gr a k).length ∧ j = .int .i64 m ∧ Hid (∀ j, j < m → InR (gi (gr a k) j) (-9) 9) ∧ Quiet w wi) (fun j _ => (gr a k).length - (intOf j).toNat)
        case atStart => exact ⟨0, Nat.zero_le _, rfl, Lib.hid (fun _ h => absurd h (by omega)), Quiet.two _ _ _⟩
        case round =>
          obtain ⟨m, hm, rfl, HIN, q2, rfl⟩ := hrel
          by_cases hml : m < (gr a k).length
          · obtain ⟨b2, o2, rfl, hc2⟩ := hR.at_ (by omega)
            have c2 := hc2 m hml
            clear hc2
            by_cases hin : InR (gi (gr a k) m) (-9) 9
            · have HI := Lib.hid hin
              have hq := fun W => (pb_true hin ▸ inRange_any (gi (gr a k) m) (-9) 9 W)
              clear hin
              go_wp2_with (go_at_call 33; refine (hq _).mono ?_; rintro e w' ⟨rfl, rfl⟩)
              go_roundw
              case rel => exact ⟨m + 1, by omega, by go_num, Lib.hid (fun j hj => by
                by_cases hjk : j < m
                · exact HIN.out j hjk
                · obtain rfl : j = m := by omega
                  exact HI.out), ⟨_, rfl⟩⟩
              case measure => simp [intOf]; omega
            · have HV := Lib.hid (VT_no_row HKA.out (fun h => hin (h.2 m hml)))
              have hq := fun W => (pb_false hin ▸ inRange_any (gi (gr a k) m) (-9) 9 W)
              clear hin
              go_wp2_with (go_at_call 33; refine (hq _).mono ?_; rintro e w' ⟨rfl, rfl⟩)
              go_ret
              exact ⟨ret_bool HV.out.symm, ⟨_, rfl⟩⟩
          · have HK := Lib.hid (show RowOk a k from ⟨HLEN.out, fun j hj => HIN.out j (by omega)⟩)
            go_wp2
            go_roundw
            case rel => exact ⟨k + 1, by omega, by go_num, Lib.hid (fun j hj => by
                by_cases hjk : j < k
                · exact HALL.out j hjk
                · obtain rfl : j = k := by omega
                  exact HK.out), ⟨_, rfl⟩⟩
            case measure => simp [intOf]; omega
      · have HV := Lib.hid (VT_no_row HKA.out (fun h => hlen h.1))
        have hlen' : (((gr a k).length : Int) != ((gr a 0).length : Int)) = true := by simp; omega
        clear hlen
        go_wp2
        go_quiet (fail)
        go_wp2
        go_ret
        exact ⟨ret_bool HV.out.symm, Quiet.two _ _ _⟩
    · obtain rfl : k = n := by omega
      by_cases hk1 : InR k 1 3
      · obtain ⟨b, o, rfl, hc⟩ := hx (by unfold InR at hk1; omega)
        obtain ⟨R0, cc0, c0, hR0⟩ := hc 0 (by unfold InR at hk1; omega)
        have hL0 : (gr a 0).length ≤ 17592186044416 := hR0.max
        have hn0 : 0 < k := by unfold InR at hk1; omega
        simp only [Nat.add_zero] at c0
        have hq := fun W => (pb_true hk1 ▸ inRange_any k 1 3 W)
        have HV : Hid (pb (VT a) = pb (InR (gr a 0).length 1 3)) := Lib.hid (pb_congr ⟨fun v => ⟨by have := v.m1; omega, by have := v.m3; omega⟩, fun v => by
          unfold InR at hk1 v
          exact ⟨fun i hi => HALL.out i (by rw [Lx.out] at hi; exact hi), by rw [Lx.out]; omega, by rw [Lx.out]; omega, by omega, by omega⟩⟩)
        clear hk1 hx hc
        go_wp2_with fail
        refine (hq _).mono ?_
        rintro e w' ⟨rfl, rfl⟩
        go_wp2_with fail
        refine (inRange_any _ _ _ _).mono ?_
        rintro e w' ⟨rfl, rfl⟩
        go_wp2
        go_ret
        exact ⟨ret_bool HV.out.symm, ⟨_, rfl⟩⟩
      · have hq := fun W => (pb_false hk1 ▸ inRange_any k 1 3 W)
        have HV := Lib.hid (pb_false (p := VT a) fun v => hk1 (by have h1 := v.n1; have h3 := v.n3; rw [Lx.out] at h1 h3; exact ⟨by omega, by omega⟩))
        clear hk1
        go_wp2_with (go_at_call 33; refine (hq _).mono ?_; rintro e w' ⟨rfl, rfl⟩)
        go_ret
        exact ⟨ret_bool HV.out.symm, ⟨_, rfl⟩⟩

end Go.Proofs.Ytjmfkodbilknlaa

/- Numbers of a table, by the program. -/
namespace Go.Proofs.Ytjmfkodbilknlaa
open Go.RowKit

theorem isPay_any (x : Int) (w : World) : Calls Try.prog 90 #[.int .i64 x] w fun e w' => e = .returned (.bool (pb (InR x (-9) 9))) ∧ w = w' := by
  by_cases h1 : -9 ≤ x
  · by_cases h2 : x ≤ 9
    · have h := Lib.hid (pb_true (p := InR x (-9) 9) ⟨h1, h2⟩)
      go_enter Try.func90, Try.ntmps90
      go_wp2
      go_ret
      exact ⟨ret_bool (by rw [h.out]), rfl⟩
    · have h := Lib.hid (pb_false (p := InR x (-9) 9) (fun h => h2 h.2))
      have h2' : decide (x ≤ 9) = false := by simpa using h2
      go_enter Try.func90, Try.ntmps90
      go_wp2
      go_ret
      exact ⟨ret_bool (by rw [h.out]), rfl⟩
  · have h := Lib.hid (pb_false (p := InR x (-9) 9) (fun h => h1 h.1))
    have h1' : decide (-9 ≤ x) = false := by simpa using h1
    go_enter Try.func90, Try.ntmps90
    go_wp2
    go_ret
    exact ⟨ret_bool (by rw [h.out]), rfl⟩
end Go.Proofs.Ytjmfkodbilknlaa

/- Valid tables by the program. -/
namespace Go.Proofs.Ytjmfkodbilknlaa
open Go.RowKit

set_option maxHeartbeats 400000 in
theorem validRow_any (A : Option Addr) (n c : Nat) (r : List Int) (w : World) (hx : Ints w A n c r) :
    Calls Try.prog 84 #[.slice A n c] w fun e w' => e = .returned (.bool (pb (RowV r))) ∧ Quiet w w' := by
  obtain ⟨lx, cx, mx, _, hx⟩ := hx
  have Lx := Lib.hid lx
  clear lx
  by_cases h1 : n < 1
  · have HV := Lib.hid (pb_false (p := RowV r) fun v => by have := v.1; rw [Lx.out] at this; omega)
    go_enter Try.func84, Try.ntmps84
    go_wp2
    go_ret
    exact ⟨ret_bool HV.out.symm, Quiet.refl _⟩
  by_cases h3 : 3 < n
  · have HV := Lib.hid (pb_false (p := RowV r) fun v => by have := v.2.1; rw [Lx.out] at this; omega)
    go_enter Try.func84, Try.ntmps84
    go_wp2
    go_ret
    exact ⟨ret_bool HV.out.symm, Quiet.refl _⟩
  obtain ⟨b, o, rfl, hc⟩ := hx (by omega)
  go_enter Try.func84, Try.ntmps84
  go_wp2
  go_loopw [15] (fun i wr => ∃ k : Nat, k ≤ n ∧ i = .int .i64 k ∧ Hid (∀ j, j < k → InR (gi r j) (-9) 9) ∧ Quiet w wr) (fun i _ => n - (intOf i).toNat)
  case atStart => exact ⟨0, Nat.zero_le _, rfl, Lib.hid (fun _ h => absurd h (by omega)), Quiet.refl _⟩
  case round =>
    obtain ⟨k, hk, rfl, HALL, q, rfl⟩ := hrel
    by_cases hlt : k < n
    · have c1 := hc k hlt
      clear hc
      have HK := Lib.hid (show k < r.length by rw [Lx.out]; exact hlt)
      by_cases hin : InR (gi r k) (-9) 9
      · have HI := Lib.hid hin
        have HP := Lib.hid (fun (W : World) => (pb_true hin) ▸ isPay_any (gi r k) W)
        clear hin
        go_wp2_with (go_at_call 90; refine (HP.out _).mono ?_; rintro e w' ⟨rfl, rfl⟩)
        go_roundw
        case rel => exact ⟨k + 1, by omega, by go_num, Lib.hid (fun j hj => by
          by_cases hjk : j < k
          · exact HALL.out j hjk
          · obtain rfl : j = k := by omega
            exact HI.out), by first | exact ⟨_, rfl⟩ | exact Quiet.two _ _ _⟩
        case measure => simp [intOf]; omega
      · have HV := Lib.hid (RowV_no HK.out hin)
        have HP := Lib.hid (fun (W : World) => (pb_false hin) ▸ isPay_any (gi r k) W)
        clear hin
        go_wp2_with (go_at_call 90; refine (HP.out _).mono ?_; rintro e w' ⟨rfl, rfl⟩)
        go_ret
        exact ⟨ret_bool HV.out.symm, by first | exact ⟨_, rfl⟩ | exact Quiet.two _ _ _⟩
    · obtain rfl : k = n := by omega
      go_wp2
      go_ret
      exact ⟨ret_bool (pb_true ⟨by rw [Lx.out]; omega, by rw [Lx.out]; omega, fun j hj => HALL.out j (by rw [Lx.out] at hj; exact hj)⟩).symm, ⟨_, rfl⟩⟩

set_option maxHeartbeats 1000000 in
theorem ValidTable_impl (A : Option Addr) (n c : Nat) (a : List (List Int)) (w : World) (hx : IntRows w A n c a) :
    Calls Try.prog 62 #[.slice A n c] w fun e w' => e = .returned (.bool (pb (VT a))) ∧ Quiet w w' := by
  obtain ⟨lx, cx, mx, hx⟩ := hx
  have Lx := Lib.hid lx
  clear lx
  by_cases h1 : n < 1
  · have HV := Lib.hid (pb_false (p := VT a) fun v => by have := v.n1; rw [Lx.out] at this; omega)
    go_enter Try.func62, Try.ntmps62
    go_wp2
    go_ret
    exact ⟨ret_bool HV.out.symm, Quiet.refl _⟩
  by_cases h3 : 3 < n
  · have HV := Lib.hid (pb_false (p := VT a) fun v => by have := v.n3; rw [Lx.out] at this; omega)
    go_enter Try.func62, Try.ntmps62
    go_wp2
    go_ret
    exact ⟨ret_bool HV.out.symm, Quiet.refl _⟩
  obtain ⟨b, o, rfl, hc⟩ := hx (by omega)
  obtain ⟨R0, cc0, c0, hR0⟩ := hc 0 (by omega)
  have hL0 : (gr a 0).length ≤ 17592186044416 := hR0.max
  simp only [Nat.add_zero] at c0
  go_enter Try.func62, Try.ntmps62
  go_wp2
  go_loopw [15] (fun i wr => ∃ k : Nat, k ≤ n ∧ i = .int .i64 k ∧ Hid (∀ i, i < k → (gr a i).length = (gr a 0).length ∧ RowV (gr a i)) ∧ Quiet w wr) (fun i _ => n - (intOf i).toNat)
  case atStart => exact ⟨0, Nat.zero_le _, rfl, Lib.hid (fun _ h => absurd h (by omega)), Quiet.refl _⟩
  case round =>
    obtain ⟨k, hk, rfl, HALL, q, rfl⟩ := hrel
    by_cases hlt : k < n
    · obtain ⟨R, cc, c1, hR⟩ := hc k hlt
      have hL1 : (gr a k).length ≤ 17592186044416 := hR.max
      have hn0 : 0 < n := by omega
      clear hc
      have HK := Lib.hid (show k < a.length by rw [Lx.out]; exact hlt)
      by_cases hlen : (gr a k).length = (gr a 0).length
      · have hlen' : (((gr a k).length : Int) != ((gr a 0).length : Int)) = false := by simp [hlen]
        have HLEN := Lib.hid hlen
        clear hlen
        by_cases hv : RowV (gr a k)
        · have HI := Lib.hid hv
          have hq := fun W (hW : Quiet w W) => (pb_true hv ▸ validRow_any _ _ _ _ W (hR.keep (Keep.quiet hW)))
          clear hv
          go_wp2_with fail
          refine (hq _ ⟨_, rfl⟩).mono ?_
          rintro e w' ⟨rfl, q2, rfl⟩
          go_wp2
          go_roundw
          case rel => exact ⟨k + 1, by omega, by go_num, Lib.hid (fun j hj => by
            by_cases hjk : j < k
            · exact HALL.out j hjk
            · obtain rfl : j = k := by omega
              exact ⟨HLEN.out, HI.out⟩), ⟨_, rfl⟩⟩
          case measure => simp [intOf]; omega
        · have HV := Lib.hid (pb_false (p := VT a) fun v => hv (VT_rowV v HK.out))
          have hq := fun W (hW : Quiet w W) => (pb_false hv ▸ validRow_any _ _ _ _ W (hR.keep (Keep.quiet hW)))
          clear hv
          go_wp2_with fail
          refine (hq _ ⟨_, rfl⟩).mono ?_
          rintro e w' ⟨rfl, q2, rfl⟩
          go_wp2
          go_ret
          exact ⟨ret_bool HV.out.symm, by first | exact ⟨_, rfl⟩ | exact Quiet.two _ _ _⟩
      · have HV := Lib.hid (pb_false (p := VT a) fun v => hlen (v.rows k HK.out).1)
        have hlen' : (((gr a k).length : Int) != ((gr a 0).length : Int)) = true := by simp; omega
        clear hlen
        go_wp2
        go_ret
        exact ⟨ret_bool HV.out.symm, ⟨_, rfl⟩⟩
    · obtain rfl : k = n := by omega
      go_wp2
      go_ret
      exact ⟨ret_bool (pb_true (VT_of (by rw [Lx.out]; omega) (by rw [Lx.out]; omega) fun j hj => HALL.out j (by rw [Lx.out] at hj; exact hj))).symm, ⟨_, rfl⟩⟩
end Go.Proofs.Ytjmfkodbilknlaa

/- Squares, by both programs. -/
namespace Go.Proofs.Ytjmfkodbilknlaa
open Go.RowKit

/-- A valid table with as many rows as columns. -/
def VQ (a : List (List Int)) : Prop := VT a ∧ a.length = (gr a 0).length

end Go.Proofs.Ytjmfkodbilknlaa

/- A valid table in memory, every cell by its row and its column. -/
namespace Go.Proofs.Ytjmfkodbilknlaa
open Go.RowKit

structure Tab (w : World) (b o : Nat) (rb ro cc : Nat → Nat) (n m : Nat) (xs : List (List Int)) : Prop where
  row : ∀ i, i < n → w.cell? ⟨b, o + i, none⟩ = some (.slice (some ⟨rb i, ro i, none⟩) m (cc i))
  cell : ∀ i j, i < n → j < m → w.cell? ⟨rb i, ro i + j, none⟩ = some (.int .i64 (g2 xs i j))
  bd : ∀ i j, i < n → j < m → -9 ≤ g2 xs i j ∧ g2 xs i j ≤ 9
  n1 : 1 ≤ n
  n3 : n ≤ 3
  m1 : 1 ≤ m
  m3 : m ≤ 3
  cap : ∀ i, i < n → m ≤ cc i
  ints : ∀ i, i < n → Ints w (some ⟨rb i, ro i, none⟩) m (cc i) (gr xs i)
theorem Tab.keep {w w' : World} {b o rb ro cc n m xs} (h : Tab w b o rb ro cc n m xs) (k : Keep w w') : Tab w' b o rb ro cc n m xs :=
  ⟨fun i hi => k _ _ (h.row i hi), fun i j hi hj => k _ _ (h.cell i j hi hj), h.bd, h.n1, h.n3, h.m1, h.m3, h.cap, fun i hi => (h.ints i hi).keep k⟩

theorem IntRows.tab {w A n c xs} (h : IntRows w A n c xs) (v : VT xs) : ∃ b o rb ro cc, A = some ⟨b, o, none⟩ ∧ Tab w b o rb ro cc n (gr xs 0).length xs := by
  have hl := h.len
  have n1 := v.n1
  have n3 := v.n3
  obtain ⟨b, o, rfl, hr⟩ := h.at_ (by omega)
  have each : ∀ i, i < n → ∃ y : Nat × Nat × Nat, w.cell? ⟨b, o + i, none⟩ = some (.slice (some ⟨y.1, y.2.1, none⟩) (gr xs 0).length y.2.2) ∧ (gr xs 0).length ≤ y.2.2 ∧
      (∀ j, j < (gr xs 0).length → w.cell? ⟨y.1, y.2.1 + j, none⟩ = some (.int .i64 (g2 xs i j))) ∧ Ints w (some ⟨y.1, y.2.1, none⟩) (gr xs 0).length y.2.2 (gr xs i) := by
    intro i hi
    obtain ⟨R, c', h1, h2⟩ := hr i hi
    have hrow := (v.rows i (by omega)).1
    have m1 := v.m1
    obtain ⟨b2, o2, rfl, hc⟩ := h2.at_ (by omega)
    refine ⟨(b2, o2, c'), by rw [← hrow]; exact h1, by rw [← hrow]; exact h2.cap, fun j hj => hc j (by omega), by rw [← hrow]; exact h2⟩
  obtain ⟨y, hy⟩ := Go.Deep.choose_lt each
  exact ⟨b, o, fun i => (y i).1, fun i => (y i).2.1, fun i => (y i).2.2, rfl, ⟨fun i hi => (hy i hi).1, fun i j hi hj => (hy i hi).2.2.1 j hj, fun i j hi hj => v.bd (by omega) hj, by omega, by omega, v.m1, v.m3, fun i hi => (hy i hi).2.1, fun i hi => (hy i hi).2.2.2⟩⟩

/-- Where a valid game lies: both tables' places. -/
structure GP where
  ba : Nat
  oa : Nat
  bb : Nat
  ob : Nat
  ra : Nat → Nat
  pa : Nat → Nat
  ca : Nat → Nat
  rb : Nat → Nat
  pb : Nat → Nat
  cb : Nat → Nat
  n : Nat
  m : Nat
  c : Nat
  d : Nat
structure GV (p : GP) (w : World) (xs ys : List (List Int)) : Prop where
  tx : Tab w p.ba p.oa p.ra p.pa p.ca p.n p.m xs
  ty : Tab w p.bb p.ob p.rb p.pb p.cb p.n p.m ys
  lx : xs.length = p.n
  mx : (gr xs 0).length = p.m
  capx : p.n ≤ p.c
  capy : p.n ≤ p.d
theorem GV.keep {p w w' xs ys} (h : GV p w xs ys) (k : Keep w w') : GV p w' xs ys := ⟨h.tx.keep k, h.ty.keep k, h.lx, h.mx, h.capx, h.capy⟩
theorem GV.of {w A B n c m d xs ys} (hx : IntRows w A n c xs) (hy : IntRows w B m d ys) (v : VG xs ys) :
    ∃ p : GP, A = some ⟨p.ba, p.oa, none⟩ ∧ B = some ⟨p.bb, p.ob, none⟩ ∧ n = p.n ∧ m = p.n ∧ c = p.c ∧ d = p.d ∧ GV p w xs ys := by
  obtain ⟨ba, oa, ra, pa, ca, rfl, tx⟩ := hx.tab v.ta
  obtain ⟨bb, ob, rb, pb, cb, rfl, ty⟩ := hy.tab v.tb
  have h1 := hx.len
  have h2 := hy.len
  have h3 := v.n
  obtain rfl : m = n := by omega
  exact ⟨⟨ba, oa, bb, ob, ra, pa, ca, rb, pb, cb, m, (gr xs 0).length, c, d⟩, rfl, rfl, rfl, rfl, rfl, rfl, tx, by rw [v.m]; exact ty, h1, rfl, hx.cap, hy.cap⟩

/-- A game that a function took by value: in its box g, with both tables. -/
structure GT (p : GP) (w0 w : World) (g : Nat) (xs ys : List (List Int)) : Prop where
  below : Below w0.heap.size w0 w
  box : Blk w g 43 #[.slice (some ⟨p.ba, p.oa, none⟩) p.n p.c, .slice (some ⟨p.bb, p.ob, none⟩) p.n p.d]
  gv0 : GV p w0 xs ys
theorem GT.gv {p w0 w g xs ys} (h : GT p w0 w g xs ys) : GV p w xs ys := h.gv0.keep (Keep.below h.below)
theorem GT.up {p w0 w w' g xs ys} (h : GT p w0 w g xs ys) (k : Below w.heap.size w w') : GT p w0 w' g xs ys :=
  ⟨below_up h.below k, blk_below h.box k, h.gv0⟩
theorem GT.up2 {p w0 w w' g xs ys} {B : Nat} (h : GT p w0 w g xs ys) (k : Below B w w') (hB : w0.heap.size ≤ B) (hg : g < B) : GT p w0 w' g xs ys :=
  ⟨h.below.trans (k.mono hB), (k.block g hg).trans h.box, h.gv0⟩
theorem GT.qu {p w0 w w' g xs ys} (h : GT p w0 w g xs ys) (k : Quiet w w') : GT p w0 w' g xs ys := h.up k.below
theorem GT.start {p w xs ys} (h : GV p w xs ys) : GT p w (w.alloc (.cells #[.slice (some ⟨p.ba, p.oa, none⟩) p.n p.c, .slice (some ⟨p.bb, p.ob, none⟩) p.n p.d] 43)) w.heap.size xs ys :=
  ⟨below_alloc _ _, blk_new _ _ _, h⟩
theorem GT.c0 {p w0 w g xs ys} (h : GT p w0 w g xs ys) : w.cell? ⟨g, 0, none⟩ = some (.slice (some ⟨p.ba, p.oa, none⟩) p.n p.c) := blk_cell h.box rfl
theorem GT.c1 {p w0 w g xs ys} (h : GT p w0 w g xs ys) : w.cell? ⟨g, 1, none⟩ = some (.slice (some ⟨p.bb, p.ob, none⟩) p.n p.d) := blk_cell h.box rfl
end Go.Proofs.Ytjmfkodbilknlaa

/- When one strategy holds against another one, by the model. -/
namespace Go.Proofs.Ytjmfkodbilknlaa
open Go.RowKit

/-- Strategy i holds against j: more against i, or as much, and more against j. -/
def HoldP (a : List (List Int)) (i j : Nat) : Prop := g2 a j i < g2 a i i ∨ g2 a i i = g2 a j i ∧ g2 a j j < g2 a i j

end Go.Proofs.Ytjmfkodbilknlaa

/- The reader that draws numbers out of a code. -/
namespace Go.Proofs.Ytjmfkodbilknlaa
open Go.RowKit

/-- A slice of bytes. -/
structure Bytes (w : World) (A : Option Addr) (n c : Nat) : Prop where
  cap : n ≤ c
  max : n ≤ 140737488355328
  at_ : 0 < n → ∃ b o, A = some ⟨b, o, none⟩ ∧ ∀ k, k < n → ∃ v : Int, 0 ≤ v ∧ v ≤ 255 ∧ w.cell? ⟨b, o + k, none⟩ = some (.int .u8 v)
theorem Bytes.keep {w w' A n c} (h : Bytes w A n c) (k : Keep w w') : Bytes w' A n c :=
  ⟨h.cap, h.max, fun hn => let ⟨b, o, e, hc⟩ := h.at_ hn; ⟨b, o, e, fun i hi => let ⟨v, h0, h1, h2⟩ := hc i hi; ⟨v, h0, h1, k _ _ h2⟩⟩⟩

/-- A reader in block g, at position p, over bytes that lie below its block. -/
structure Rdr (w0 w : World) (g : Nat) (A : Option Addr) (n c p : Nat) : Prop where
  box : Blk w g 92 #[.slice A n c, .int .i64 p]
  bytes : Bytes w0 A n c
  below : Below w0.heap.size w0 w
  lt : w0.heap.size ≤ g
  small : n ≤ 2000
theorem Rdr.at_ {w0 w g A n c p} (h : Rdr w0 w g A n c p) : Bytes w A n c := h.bytes.keep (Keep.below h.below)

def Picked (w0 : World) (g : Nat) (A : Option Addr) (l c p : Nat) (n : Int) (w : World) (e : Ending) (w' : World) : Prop :=
  ∃ m : Int, e = .returned (.int .i64 m) ∧ (1 ≤ n → 0 ≤ m ∧ m < n) ∧ (n < 1 → m = 0) ∧ Rdr w0 w' g A l c (p + 1) ∧ ∃ q, w' = (w.setCell ⟨g, 1, none⟩ (.int .i64 (p + 1 : Nat))).drewN q

/-- The world behind the step of the reader. -/
theorem Rdr.step {w0 w g A n c p} (h : Rdr w0 w g A n c p) : Rdr w0 (w.setCell ⟨g, 1, none⟩ (.int .i64 (p + 1 : Nat))) g A n c (p + 1) :=
  ⟨blk_set h.box 1 _, h.bytes, h.below.setCell h.lt _, h.lt, h.small⟩
theorem Rdr.quiet {w0 w w' g A n c p} (h : Rdr w0 w g A n c p) (k : Quiet w w') : Rdr w0 w' g A n c p :=
  ⟨blk_quiet h.box k, h.bytes, below_quiet h.below k, h.lt, h.small⟩
theorem cast_succ (p : Nat) : ((p + 1 : Nat) : Int) = (p : Int) + 1 := by omega

set_option maxRecDepth 100000 in
set_option maxHeartbeats 1000000 in
theorem pick_zero (w0 w : World) (g : Nat) (A : Option Addr) (l c p : Nat) (n : Int) (h : Rdr w0 w g A l c p) (hp : p < 1000000000) (hz : n < 1) :
    Calls Try.prog 53 #[.pointer (some ⟨g, 0, none⟩), .int .i64 n] w (Picked w0 g A l c p n w) := by
  have k0 := blk_cell h.box (i := 0) (v := .slice A l c) rfl
  have k1 := blk_cell h.box (i := 1) (v := .int .i64 p) rfl
  have f1 := blk_frozen h.box 1
  have hs := h.small
  have HS := Lib.hid h.step
  go_enter Try.func53, Try.ntmps53
  go_wp2
  go_ret
  exact ⟨0, rfl, fun h => absurd h (by omega), fun _ => rfl, HS.out, 0, by rw [cast_succ]; rfl⟩

set_option maxRecDepth 100000 in
set_option maxHeartbeats 1000000 in
theorem pick_none (w0 w : World) (g : Nat) (A : Option Addr) (c p : Nat) (n : Int) (h : Rdr w0 w g A 0 c p) (hp : p < 1000000000) (hz : 1 ≤ n) :
    Calls Try.prog 53 #[.pointer (some ⟨g, 0, none⟩), .int .i64 n] w (Picked w0 g A 0 c p n w) := by
  have k0 := blk_cell h.box (i := 0) (v := .slice A 0 c) rfl
  have k1 := blk_cell h.box (i := 1) (v := .int .i64 p) rfl
  have f1 := blk_frozen h.box 1
  have HS := Lib.hid h.step
  have j0 := blk_cell h.step.box (i := 0) (v := .slice A 0 c) rfl
  have j1 := blk_cell h.step.box (i := 1) (v := .int .i64 (p + 1 : Nat)) rfl
  rw [cast_succ] at j0 j1
  go_enter Try.func53, Try.ntmps53
  go_wp2
  go_ret
  exact ⟨0, rfl, fun _ => ⟨Int.le_refl _, by omega⟩, fun h => absurd h (by omega), HS.out, 0, by rw [cast_succ]; rfl⟩

set_option maxRecDepth 100000 in
set_option maxHeartbeats 1000000 in
theorem pick_in (w0 w : World) (g : Nat) (A : Option Addr) (l c p : Nat) (n : Int) (h : Rdr w0 w g A l c p) (hp : p < l) (hz : 1 ≤ n) :
    Calls Try.prog 53 #[.pointer (some ⟨g, 0, none⟩), .int .i64 n] w (Picked w0 g A l c p n w) := by
  have k0 := blk_cell h.box (i := 0) (v := .slice A l c) rfl
  have k1 := blk_cell h.box (i := 1) (v := .int .i64 p) rfl
  have f1 := blk_frozen h.box 1
  have HS := Lib.hid h.step
  have j0 := blk_cell h.step.box (i := 0) (v := .slice A l c) rfl
  have j1 := blk_cell h.step.box (i := 1) (v := .int .i64 (p + 1 : Nat)) rfl
  have hs := h.small
  obtain ⟨b, o, rfl, hc⟩ := h.step.at_.at_ (by omega)
  obtain ⟨v, v0, v1, cb⟩ := hc p hp
  rw [cast_succ] at j0 j1 cb
  have hl0 : ((l : Int) == 0) = false := by simp; omega
  clear hc
  go_enter Try.func53, Try.ntmps53
  go_wp2
  go_ret
  exact ⟨v % n, rfl, fun _ => ⟨Int.emod_nonneg _ (by omega), Int.emod_lt_of_pos _ (by omega)⟩, fun h => absurd h (by omega), HS.out, 0, by rw [cast_succ]; rfl⟩

end Go.Proofs.Ytjmfkodbilknlaa

/- The reader behind its bytes. -/
namespace Go.Proofs.Ytjmfkodbilknlaa
open Go.RowKit

theorem xor_pos {a b : Int} (ha : 0 ≤ a) (hb : 0 ≤ b) (ha1 : a ≤ 1000000000000) (hb1 : b ≤ 1000000000000) : ∃ x : Int, 0 ≤ x ∧ x ≤ 2305843009213693952 ∧ bits .xor .i64 a b = x := by
  obtain ⟨m, rfl⟩ := Int.eq_ofNat_of_zero_le ha
  obtain ⟨k, rfl⟩ := Int.eq_ofNat_of_zero_le hb
  have e : ∀ q : Nat, q ≤ 1000000000000 → (BitVec.ofInt 64 (q : Int)).toNat = q := fun q hq => by
    rw [BitVec.ofInt_natCast, BitVec.toNat_ofNat]
    exact Nat.mod_eq_of_lt (by omega)
  have hx : m ^^^ k < 2 ^ 60 := Nat.xor_lt_two_pow (by omega) (by omega)
  refine ⟨((m ^^^ k : Nat) : Int), by omega, by omega, ?_⟩
  show IntKind.i64.wrap ((BitVec.ofInt 64 (m : Int) ^^^ BitVec.ofInt 64 (k : Int)).toNat : Int) = _
  rw [BitVec.toNat_xor, e m (by omega), e k (by omega), IntKind.wrap_i64]
  omega

set_option maxRecDepth 100000 in
set_option maxHeartbeats 2000000 in
theorem pick_out (w0 w : World) (g : Nat) (A : Option Addr) (l c p : Nat) (n : Int) (h : Rdr w0 w g A l c p) (hp : p < 1000000000) (hl : 0 < l) (hpl : l ≤ p) (hz : 1 ≤ n) :
    Calls Try.prog 53 #[.pointer (some ⟨g, 0, none⟩), .int .i64 n] w (Picked w0 g A l c p n w) := by
  have k0 := blk_cell h.box (i := 0) (v := .slice A l c) rfl
  have k1 := blk_cell h.box (i := 1) (v := .int .i64 p) rfl
  have f1 := blk_frozen h.box 1
  have HS := Lib.hid h.step
  have j0 := blk_cell h.step.box (i := 0) (v := .slice A l c) rfl
  have j1 := blk_cell h.step.box (i := 1) (v := .int .i64 (p + 1 : Nat)) rfl
  have hs := h.small
  obtain ⟨b, o, rfl, hc⟩ := h.step.at_.at_ (by omega)
  obtain ⟨v, v0, v1, cb⟩ := hc (p % l) (Nat.mod_lt _ hl)
  obtain ⟨u, u0, u1, cu⟩ := hc ((p * 7 + 3) % l) (Nat.mod_lt _ hl)
  rw [cast_succ] at j0 j1 cb cu
  have hl0 : ((l : Int) == 0) = false := by simp; omega
  have m1 : (p : Int) % l < l := Int.emod_lt_of_pos _ (by omega)
  have m2 : 0 ≤ (p : Int) % l := Int.emod_nonneg _ (by omega)
  have m3 : ((p : Int) * 7 + 3) % l < l := Int.emod_lt_of_pos _ (by omega)
  have m4 : 0 ≤ ((p : Int) * 7 + 3) % l := Int.emod_nonneg _ (by omega)
  have m5 : 0 ≤ (p : Int) / l := Int.ediv_nonneg (by omega) (by omega)
  have m6 : (p : Int) / l ≤ p := Int.ediv_le_self _ (by omega)
  clear hc
  go_enter Try.func53, Try.ntmps53
  go_wp2
  generalize hW : (w.setCell ⟨g, 1, none⟩ (.int .i64 ((p : Int) + 1))) = W1 at *
  have HW := Lib.hid hW
  clear hW
  have hn1 : decide (n < 1) = false := by simp; omega
  go_quiet (fail)
  generalize hX : v * 131 + u * 1117 + (p : Int) * 29 + (p : Int) / l * 53 = X
  have X0 : 0 ≤ X := by omega
  have X1 : X ≤ 1000000000000 := by omega
  clear hX m1 m2 m3 m4 m5 m6 cb cu v0 v1 u0 u1
  obtain ⟨x, x0, x1, xe⟩ := xor_pos X0 (show 0 ≤ X / 64 by omega) X1 (show X / 64 ≤ 1000000000000 by omega)
  have y0 : 0 ≤ x % n := Int.emod_nonneg _ (by omega)
  have y1 : x % n < n := Int.emod_lt_of_pos _ (by omega)
  go_wp2
  go_ret
  exact ⟨x % n, rfl, fun _ => ⟨y0, y1⟩, fun h => absurd h (by omega), HS.out.quiet ⟨nq, by rw [cast_succ, HW.out]⟩, nq, by rw [cast_succ, HW.out]⟩

/-- Whatever the bytes and the number. -/
theorem pick_any (w0 w : World) (g : Nat) (A : Option Addr) (l c p : Nat) (n : Int) (h : Rdr w0 w g A l c p) (hp : p < 1000000000) :
    Calls Try.prog 53 #[.pointer (some ⟨g, 0, none⟩), .int .i64 n] w (Picked w0 g A l c p n w) := by
  by_cases hz : n < 1
  · exact pick_zero w0 w g A l c p n h hp hz
  · rcases Nat.eq_zero_or_pos l with rfl | hl
    · exact pick_none w0 w g A c p n h hp (by omega)
    · by_cases hpl : p < l
      · exact pick_in w0 w g A l c p n h hpl (by omega)
      · exact pick_out w0 w g A l c p n h hp hl (by omega) (by omega)

end Go.Proofs.Ytjmfkodbilknlaa

/- Slices that a call makes by append: of ints, and of slices of ints. -/
namespace Go.Proofs.Ytjmfkodbilknlaa
open Go.RowKit

def iv (x : Int) : Value := .int .i64 x
/-- A slice of ints, made by append, in a block from lo up to less than hi. -/
structure BldI (lo hi : Nat) (w : World) (v : Value) (xs : List Int) : Prop where
  own : w.ownsRow lo 3 1 v xs.length (xs.map iv)
  hi_ : ∀ k, v.ownBlock = some k → k < hi
theorem blk_kept {w w' : World} {base : Nat} {e : TypeId} {size n : Nat} {v : Value} {xs : List Value} (h : w.ownsRow base e size v n xs) (k : ∀ g, v.ownBlock = some g → w'.heap[g]? = w.heap[g]?) : w'.ownsRow base e size v n xs := by
  obtain ⟨h1, h2⟩ := h
  refine ⟨h1, ?_⟩
  rcases h2 with h2 | ⟨g, cap, cur, rfl, hb, hg, r⟩
  · exact .inl h2
  · exact .inr ⟨g, cap, cur, rfl, hb, (k g rfl).trans hg, r⟩
theorem BldI.nil (lo hi : Nat) (w : World) : BldI lo hi w (.slice none 0 0) [] := ⟨World.ownsRow_nil _ _ _ _, fun k h => by simp [Value.ownBlock] at h⟩
theorem BldI.below {lo hi w w' v xs} (h : BldI lo hi w v xs) (k : Below w.heap.size w w') : BldI lo hi w' v xs :=
  ⟨blk_kept h.own fun g hg => k.block g (h.own.lt g hg).2, h.hi_⟩
theorem BldI.mono {lo hi hi' w v xs} (h : BldI lo hi w v xs) (hh : hi ≤ hi') : BldI lo hi' w v xs := ⟨h.own, fun k hk => Nat.lt_of_lt_of_le (h.hi_ k hk) hh⟩
theorem BldI.touch {lo hi lo' hi' w w' v xs} (h : BldI lo hi w v xs) (k : Touch lo' hi' w w') (hd : hi ≤ lo' ∨ hi' ≤ lo) : BldI lo hi w' v xs :=
  ⟨blk_kept h.own fun g hg => k.block g (by have := h.hi_ g hg; have := (h.own.lt g hg).1; omega), h.hi_⟩
theorem getElem_iv {xs : List Int} {k : Nat} (h : k < xs.length) : (xs.map iv)[k]? = some (.int .i64 (gi xs k)) := by
  rw [List.getElem?_map, List.getElem?_eq_getElem h, gi_get h]; rfl
theorem BldI.owns {lo hi w v xs} (h : BldI lo hi w v xs) (hm : xs.length ≤ 17592186044416) (hwf : ∀ x ∈ xs, -9223372036854775808 ≤ x ∧ x ≤ 9223372036854775807) :
    ∃ A n c g, v = .slice A n c ∧ n = xs.length ∧ OwnI lo hi w g A n c xs ∧ ∀ k, v.ownBlock = some k → k = g := by
  have hh := h.hi_
  rcases h.own.2 with ⟨rfl, h0⟩ | ⟨g, cap, cur, rfl, hb, hg, hnc, _, hcs, htake⟩
  · have hx : xs = [] := List.eq_nil_of_length_eq_zero h0
    subst hx
    exact ⟨none, 0, 0, 0, rfl, rfl, OwnI.nil _ _ _ _, fun k hk => by simp [Value.ownBlock] at hk⟩
  · refine ⟨some ⟨g, 0, none⟩, xs.length, cap, g, rfl, rfl, ⟨⟨rfl, hnc, hm, hwf, fun _ => ⟨g, 0, rfl, fun k hk => ?_⟩⟩, fun _ => ⟨0, rfl, hb, hh g rfl, fun k _ => ?_⟩⟩, fun k hk => by simpa [Value.ownBlock] using hk.symm⟩
    · rw [Nat.zero_add, ← getElem_iv hk, ← htake, List.getElem?_take, if_pos (by omega)]
      simp [World.cell?, hg]
    · rw [Nat.zero_add]; simp [World.frozen?, hg]

theorem BldI.make {lo : Nat} {w : World} (hlo : lo ≤ w.heap.size) : BldI lo (w.heap.size + 1) (w.alloc (.cells #[] 3)) (.slice (some ⟨w.heap.size, 0, none⟩) 0 0) [] :=
  ⟨World.ownsRow_made (e := 3) (size := 1) w #[] 0 hlo (Nat.zero_le _) rfl, fun k hk => by simp [Value.ownBlock] at hk; omega⟩

/-- Slices of ints under construction: the outer slice made by append, its cells vs, each row in a block of its own. -/
structure Bld (lo hi : Nat) (w : World) (v : Value) (vs : List Value) (xss : List (List Int)) : Prop where
  own : w.ownsRow lo 36 1 v xss.length vs
  hi_ : ∀ k, v.ownBlock = some k → k < hi
  ex : ∃ (G : Nat → Nat) (R : Nat → Option Addr) (C : Nat → Nat), (∀ k, k < xss.length → vs[k]? = some (.slice (R k) (gr xss k).length (C k)) ∧ OwnI lo hi w (G k) (R k) (gr xss k).length (C k) (gr xss k) ∧ (0 < (gr xss k).length → v.ownBlock ≠ some (G k))) ∧
    ∀ j k, j < k → k < xss.length → 0 < (gr xss j).length → 0 < (gr xss k).length → G j ≠ G k
theorem Bld.nil (lo hi : Nat) (w : World) : Bld lo hi w (.slice none 0 0) [] [] :=
  ⟨World.ownsRow_nil _ _ _ _, fun k h => by simp [Value.ownBlock] at h, fun _ => 0, fun _ => none, fun _ => 0, fun k h => absurd h (by simp), fun _ k _ h => absurd h (by simp)⟩
theorem Bld.make {lo : Nat} {w : World} (hlo : lo ≤ w.heap.size) : Bld lo (w.heap.size + 1) (w.alloc (.cells #[] 36)) (.slice (some ⟨w.heap.size, 0, none⟩) 0 0) [] [] :=
  ⟨World.ownsRow_made (e := 36) (size := 1) w #[] 0 hlo (Nat.zero_le _) rfl, fun k hk => by simp [Value.ownBlock] at hk; omega, fun _ => 0, fun _ => none, fun _ => 0, fun k h => absurd h (by simp), fun _ k _ h => absurd h (by simp)⟩
theorem Bld.mono {lo hi hi' w v vs xss} (h : Bld lo hi w v vs xss) (hh : hi ≤ hi') : Bld lo hi' w v vs xss := by
  obtain ⟨h1, h4, G, R, C, h2, h3⟩ := h
  exact ⟨h1, fun k hk => Nat.lt_of_lt_of_le (h4 k hk) hh, G, R, C, fun k hk => ⟨(h2 k hk).1, (h2 k hk).2.1.mono (Nat.le_refl _) hh, (h2 k hk).2.2⟩, h3⟩
theorem Bld.of_blocks {lo hi w w' v vs xss} (h : Bld lo hi w v vs xss) (e : ∀ g, lo ≤ g → g < hi → g < w.heap.size → w'.heap[g]? = w.heap[g]?) : Bld lo hi w' v vs xss := by
  obtain ⟨h1, h4, G, R, C, h2, h3⟩ := h
  refine ⟨blk_kept h1 fun g hg => e g (h1.lt g hg).1 (h4 g hg) (h1.lt g hg).2, h4, G, R, C, fun k hk => ⟨(h2 k hk).1, (h2 k hk).2.1.of_block fun hp => ?_, (h2 k hk).2.2⟩, h3⟩
  obtain ⟨_, _, a, b, _⟩ := (h2 k hk).2.1.own hp
  exact e _ a b ((h2 k hk).2.1.lt hp)
theorem Bld.below {lo hi w w' v vs xss} (h : Bld lo hi w v vs xss) (k : Below w.heap.size w w') : Bld lo hi w' v vs xss := h.of_blocks fun g _ _ hg => k.block g hg

theorem gr_snoc_lt {xss : List (List Int)} {r : List Int} {k : Nat} (h : k < xss.length) : gr (xss ++ [r]) k = gr xss k := by
  rw [gr_get h, gr_get (by simp; omega), List.getElem_append_left h]
theorem gr_snoc_eq {xss : List (List Int)} {r : List Int} : gr (xss ++ [r]) xss.length = r := by
  rw [gr_get (by simp), List.getElem_append_right (Nat.le_refl _)]; simp

/-- One row more. -/
theorem Bld.push {lo hi : Nat} {w w1 w' : World} {v v' : Value} {vs : List Value} {xss : List (List Int)} {r : List Int} {g : Nat} {A : Option Addr} {c : Nat}
    (h : Bld lo hi w v vs xss) (hk : Below w.heap.size w w1) (hr : OwnI hi w1.heap.size w1 g A r.length c r)
    (hown : w'.ownsRow lo 36 1 v' (xss.length + 1) (vs ++ [.slice A r.length c]))
    (hgrow : w1.grownBy w' v.ownBlock) (hat : v'.ownBlock = v.ownBlock ∨ v'.ownBlock = some w1.heap.size) (hlo : lo ≤ hi) (hhi : hi ≤ w.heap.size) :
    Bld lo w'.heap.size w' v' (vs ++ [.slice A r.length c]) (xss ++ [r]) := by
  obtain ⟨h1, h4, G, R, C, h2, h3⟩ := h
  have hvl : vs.length = xss.length := by have := h1.1; omega
  have hsz := hk.size
  have hsz' := hgrow.size
  have keepI : ∀ {lo hi : Nat} {b : Nat} {B : Option Addr} {n c : Nat} {xs : List Int}, OwnI lo hi w1 b B n c xs → (0 < n → v.ownBlock ≠ some b) → OwnI lo hi w' b B n c xs :=
    fun ho hne => ho.of_block fun hp => hgrow.block _ (ho.lt hp) (fun e => hne hp e.symm)
  have hfar : 0 < r.length → v.ownBlock ≠ some g := fun hp e => by
    have a := h4 g e
    obtain ⟨_, _, b, _⟩ := hr.own hp
    omega
  refine ⟨by rw [List.length_append, List.length_singleton]; exact hown, fun k hk' => ?_, fun k => if k < xss.length then G k else g, fun k => if k < xss.length then R k else A, fun k => if k < xss.length then C k else c, ?_, ?_⟩
  · rcases hat with hat | hat
    · have := h4 k (by rw [← hat]; exact hk'); omega
    · have := (hown.lt k hk').2; omega
  · intro k hk'
    rw [List.length_append, List.length_singleton] at hk'
    by_cases e : k < xss.length
    · simp only [if_pos e, gr_snoc_lt e]
      obtain ⟨q0, a, b⟩ := h2 k e
      refine ⟨by rw [List.getElem?_append_left (by omega)]; exact q0, keepI ((a.below hk).mono (Nat.le_refl _) (by omega)) b, fun hp => ?_⟩
      rcases hat with hat | hat
      · rw [hat]; exact b hp
      · rw [hat]; intro e'; injection e' with e'; obtain ⟨_, _, _, q, _⟩ := a.own hp; omega
    · obtain rfl : k = xss.length := by omega
      simp only [if_neg e, gr_snoc_eq]
      refine ⟨by rw [← hvl, List.getElem?_append_right (Nat.le_refl _)]; simp, keepI (hr.mono hlo hsz') hfar, fun hp => ?_⟩
      rcases hat with hat | hat
      · rw [hat]; exact hfar hp
      · rw [hat]; intro e'; injection e' with e'; obtain ⟨_, _, _, q, _⟩ := hr.own hp; omega
  · intro j k hjk hk' hj0 hk0
    rw [List.length_append, List.length_singleton] at hk'
    have ej : j < xss.length := by omega
    simp only [if_pos ej]
    rw [gr_snoc_lt ej] at hj0
    by_cases e : k < xss.length
    · simp only [if_pos e]
      rw [gr_snoc_lt e] at hk0
      exact h3 j k hjk e hj0 hk0
    · obtain rfl : k = xss.length := by omega
      simp only [if_neg e]
      rw [gr_snoc_eq] at hk0
      obtain ⟨_, _, _, q, _⟩ := (h2 j ej).2.1.own hj0
      obtain ⟨_, _, q', _⟩ := hr.own hk0
      omega

theorem Bld.owns {lo hi w v vs xss} (h : Bld lo hi w v vs xss) (hm : xss.length ≤ 5864062014805) : ∃ A n c g, v = .slice A n c ∧ n = xss.length ∧ OwnR lo hi w g A n c xss := by
  obtain ⟨h1, hh, G, R, C, h2, h3⟩ := h
  rcases h1.2 with ⟨rfl, h0⟩ | ⟨g, cap, cur, rfl, hb, hg, hnc, _, hcs, htake⟩
  · have hx : xss = [] := List.eq_nil_of_length_eq_zero h0
    subst hx
    exact ⟨none, 0, 0, 0, rfl, rfl, OwnR.nil _ _ _ _⟩
  · refine ⟨some ⟨g, 0, none⟩, xss.length, cap, g, rfl, rfl, ⟨rfl, hnc, hm, fun _ => ⟨0, G, R, C, rfl, hb, hh g rfl, fun k hk => ⟨?_, ?_, (h2 k hk).2.1, fun hp e => (h2 k hk).2.2 hp (by rw [e]; rfl)⟩, h3⟩⟩⟩
    · rw [Nat.zero_add]; simp [World.frozen?, hg]
    · rw [Nat.zero_add, ← (h2 k hk).1, ← htake, List.getElem?_take, if_pos (by omega)]
      simp [World.cell?, hg]

theorem pair_own {lo : Nat} {w : World} (x y : Int) (hx : -9223372036854775808 ≤ x ∧ x ≤ 9223372036854775807) (hy : -9223372036854775808 ≤ y ∧ y ≤ 9223372036854775807) (hlo : lo ≤ w.heap.size) :
    OwnI lo (w.heap.size + 1) (w.alloc (.cells #[.int .i64 x, .int .i64 y] 3)) w.heap.size (some ⟨w.heap.size, 0, none⟩) 2 2 [x, y] := by
  have hb := blk_new w 3 #[.int .i64 x, .int .i64 y]
  refine ⟨⟨rfl, Nat.le_refl _, by omega, ?_, fun _ => ⟨_, 0, rfl, fun k hk => ?_⟩⟩, fun _ => ⟨0, rfl, hlo, Nat.lt_succ_self _, fun k _ => blk_frozen hb _⟩⟩
  · intro z hz
    simp only [List.mem_cons, List.not_mem_nil, or_false] at hz
    rcases hz with rfl | rfl
    · exact hx
    · exact hy
  · rw [Nat.zero_add]
    match k, hk with
    | 0, _ => exact blk_cell hb rfl
    | 1, _ => exact blk_cell hb rfl

/-- One pair more. -/
theorem push_pair {lo : Nat} {w w' : World} {v v' : Value} {vs : List Value} {xss : List (List Int)} {x y : Int}
    (h : Bld lo w.heap.size w v vs xss) (hx : -9223372036854775808 ≤ x ∧ x ≤ 9223372036854775807) (hy : -9223372036854775808 ≤ y ∧ y ≤ 9223372036854775807)
    (hown : w'.ownsRow lo 36 1 v' (xss.length + 1) (vs ++ [.slice (some ⟨w.heap.size, 0, none⟩) 2 2]))
    (hgrow : ((w.alloc (.cells #[.int .i64 x, .int .i64 y] 3)).alloc (.cells #[.slice (some ⟨w.heap.size, 0, none⟩) 2 2] 36)).grownBy w' v.ownBlock)
    (hat : v'.ownBlock = v.ownBlock ∨ v'.ownBlock = some (w.heap.size + 1 + 1)) (hlo : lo ≤ w.heap.size) :
    Bld lo w'.heap.size w' v' (vs ++ [.slice (some ⟨w.heap.size, 0, none⟩) 2 2]) (xss ++ [[x, y]]) ∧ Below lo w w' := by
  have hb3 := below_alloc w (.cells #[.int .i64 x, .int .i64 y] 3)
  have hb4 := below_alloc (w.alloc (.cells #[.int .i64 x, .int .i64 y] 3)) (.cells #[.slice (some ⟨w.heap.size, 0, none⟩) 2 2] 36)
  have hb := below_up hb3 hb4
  have ho := (pair_own (lo := w.heap.size) (w := w) x y hx hy (Nat.le_refl _)).below hb4
  refine ⟨h.push (r := [x, y]) hb (ho.mono (Nat.le_refl _) (by simp)) hown hgrow (by simpa using hat) hlo (Nat.le_refl _), ?_⟩
  exact (hb.mono hlo).grown hgrow (by simp; omega) fun k hk => (h.own.lt k hk).1
theorem Bld.form {lo hi w v vs xss} (h : Bld lo hi w v vs xss) : ∃ A c, v = .slice A xss.length c := by
  rcases h.own.2 with ⟨rfl, h0⟩ | ⟨g, cap, cur, rfl, _⟩
  · exact ⟨none, 0, by rw [h0]⟩
  · exact ⟨_, _, rfl⟩
theorem BldI.form {lo hi w v xs} (h : BldI lo hi w v xs) : ∃ A c, v = .slice A xs.length c := by
  rcases h.own.2 with ⟨rfl, h0⟩ | ⟨g, cap, cur, rfl, _⟩
  · exact ⟨none, 0, by rw [h0]⟩
  · exact ⟨_, _, rfl⟩
theorem BldI.of_blocks {lo hi w w' v xs} (h : BldI lo hi w v xs) (e : ∀ g, lo ≤ g → g < hi → g < w.heap.size → w'.heap[g]? = w.heap[g]?) : BldI lo hi w' v xs :=
  ⟨blk_kept h.own fun g hg => e g (h.own.lt g hg).1 (h.hi_ g hg) (h.own.lt g hg).2, h.hi_⟩

end Go.Proofs.Ytjmfkodbilknlaa

/- The harness of the exact laws: every cell marked by a number of its own, and looked at again. -/
namespace Go.Proofs.Ytjmfkodbilknlaa
open Go.RowKit

def seqI (k : Int) (n : Nat) : List Int := (List.range n).map fun (i : Nat) => k + (i : Int)
theorem seqI_len (k : Int) (n : Nat) : (seqI k n).length = n := by simp [seqI]
theorem gi_seqI {k : Int} {n i : Nat} (h : i < n) : gi (seqI k n) i = k + i := by rw [gi_get (by rw [seqI_len]; exact h)]; simp [seqI]
theorem gi_set_eq {xs : List Int} {i : Nat} {v : Int} (h : i < xs.length) : gi (xs.set i v) i = v := by rw [gi_get (by simpa using h)]; simp
theorem gi_set_ne {xs : List Int} {i j : Nat} {v : Int} (h : j < xs.length) (hne : j ≠ i) : gi (xs.set i v) j = gi xs j := by
  rw [gi_get (by simpa using h), gi_get h, List.getElem_set]; simp [Ne.symm hne]

/-- Only block b has turned. -/
structure One (b : Nat) (w w' : World) : Prop where
  os : w'.os = w.os
  tape : w'.tape = w.tape
  output : w'.output = w.output
  size : w'.heap.size = w.heap.size
  block : ∀ g, g ≠ b → w'.heap[g]? = w.heap[g]?
theorem One.refl (b : Nat) (w : World) : One b w w := ⟨rfl, rfl, rfl, rfl, fun _ _ => rfl⟩
theorem One.set {b : Nat} {a w : World} (h : One b a w) (i : Nat) (u : Value) : One b a (w.setCell ⟨b, i, none⟩ u) :=
  ⟨h.os, h.tape, h.output, by simpa [World.setCell] using h.size, fun g hg => (Below.heap_setCell _ _ _ _ hg).trans (h.block g hg)⟩
theorem One.touch {b lo hi : Nat} {w w' : World} (h : One b w w') (h1 : lo ≤ b) (h2 : b < hi) : Touch lo hi w w' := ⟨h.os, h.tape, h.output, h.size, fun k hk => h.block k (by omega)⟩

theorem OwnI.set {lo hi w b o n c xs} (h : OwnI lo hi w b (some ⟨b, o, none⟩) n c xs) {i : Nat} (hi' : i < n) {v : Int} (hv : -9223372036854775808 ≤ v ∧ v ≤ 9223372036854775807) :
    OwnI lo hi (w.setCell ⟨b, o + i, none⟩ (.int .i64 v)) b (some ⟨b, o, none⟩) n c (xs.set i v) := by
  have hl := h.ints.len
  obtain ⟨o', e, h1, h2, hf⟩ := h.own (by omega)
  injection e with e
  injection e with _ e _
  subst e
  obtain ⟨b', o', e, hc⟩ := h.ints.at_ (by omega)
  injection e with e
  injection e with e1 e2 _
  subst e1
  subst e2
  refine ⟨⟨by rw [List.length_set]; exact hl, h.ints.cap, h.ints.max, fun x hx => ?_, fun _ => ⟨b, o, rfl, fun k hk => ?_⟩⟩, fun _ => ⟨o, rfl, h1, h2, fun k hk => ?_⟩⟩
  · rcases List.mem_or_eq_of_mem_set hx with hx | rfl
    · exact h.ints.wf x hx
    · exact hv
  · by_cases e : k = i
    · subst e
      rw [gi_set_eq (by omega), World.cell?_setCell_same w _ _ (hc k hk)]
    · rw [gi_set_ne (by omega) e, World.cell?_setCell_other w _ _ _ (fun e' => by injection e' with _ e' _; omega)]
      exact hc k hk
  · rw [World.frozen?_setCell]; exact hf k hk

def MarkedI (lo hi : Nat) (w : World) (b : Nat) (A : Option Addr) (n c : Nat) (k : Int) (e : Ending) (w' : World) : Prop :=
  e = .returned (.int .i64 (k + n)) ∧ OwnI lo hi w' b A n c (seqI k n) ∧ (n = 0 → w = w') ∧ One b w w'

/-- How many numbers stand ahead of row j; the rows as they are marked. -/
def offs (xss : List (List Int)) : Nat → Int
  | 0 => 0
  | j + 1 => offs xss j + (gr xss j).length
theorem offs_ge (xss : List (List Int)) : ∀ j, 0 ≤ offs xss j
  | 0 => Int.le_refl _
  | j + 1 => by have := offs_ge xss j; simp only [offs]; omega
theorem offs_mono (xss : List (List Int)) {i j : Nat} (h : i ≤ j) : offs xss i ≤ offs xss j := by
  induction j with
  | zero => obtain rfl : i = 0 := by omega
            exact Int.le_refl _
  | succ j ih =>
    by_cases e : i = j + 1
    · subst e; exact Int.le_refl _
    · have := ih (by omega); simp only [offs]; omega
def mkR (k : Int) (xss : List (List Int)) : List (List Int) := (List.range xss.length).map fun j => seqI (k + offs xss j) (gr xss j).length
theorem mkR_len (k : Int) (xss : List (List Int)) : (mkR k xss).length = xss.length := by simp [mkR]
theorem gr_mkR {k : Int} {xss : List (List Int)} {j : Nat} (h : j < xss.length) : gr (mkR k xss) j = seqI (k + offs xss j) (gr xss j).length := by
  rw [gr_get (by rw [mkR_len]; exact h)]; simp [mkR]

theorem gr_set_eq {xs : List (List Int)} {i : Nat} {v : List Int} (h : i < xs.length) : gr (xs.set i v) i = v := by rw [gr_get (by simpa using h)]; simp
theorem gr_set_ne {xs : List (List Int)} {i j : Nat} {v : List Int} (hne : j ≠ i) : gr (xs.set i v) j = gr xs j := by
  unfold gr; rw [List.getD_eq_getElem?_getD, List.getD_eq_getElem?_getD, List.getElem?_set_ne (Ne.symm hne)]

/-- A row of its own, and what comes of the rows when it alone is written. -/
theorem OwnR.at_row {lo hi w b A n c xss} (h : OwnR lo hi w b A n c xss) {i : Nat} (hi' : i < n) :
    ∃ o g R cc, A = some ⟨b, o, none⟩ ∧ w.cell? ⟨b, o + i, none⟩ = some (.slice R (gr xss i).length cc) ∧ OwnI lo hi w g R (gr xss i).length cc (gr xss i) ∧
      ∀ w' r, r.length = (gr xss i).length → OwnI lo hi w' g R (gr xss i).length cc r → ((gr xss i).length = 0 → w = w') → One g w w' → OwnR lo hi w' b A n c (xss.set i r) ∧ Touch lo hi w w' := by
  obtain ⟨o, G, R, C, rfl, h1, h2, hr, hd⟩ := h.at_ (by omega)
  have hl := h.len
  refine ⟨o, G i, R i, C i, rfl, (hr i hi').2.1, (hr i hi').2.2.1, fun w' r hrl hown h0 hone => ?_⟩
  have hsame : ∀ g, (0 < (gr xss i).length → g ≠ G i) → w'.heap[g]? = w.heap[g]? := fun g hg => by
    by_cases e : 0 < (gr xss i).length
    · exact hone.block g (hg e)
    · rw [h0 (by omega)]
  refine ⟨⟨by rw [List.length_set]; exact hl, h.cap, h.max, fun _ => ⟨o, G, R, C, rfl, h1, h2, fun k hk => ?_, fun j k hjk hk hj0 hk0 => ?_⟩⟩, ?_⟩
  · have eb := hsame b (fun hp => (Ne.symm ((hr i hi').2.2.2 hp)))
    have el : (gr (xss.set i r) k).length = (gr xss k).length := by
      by_cases e : k = i
      · subst e; rw [gr_set_eq (by omega), hrl]
      · rw [gr_set_ne e]
    rw [el]
    refine ⟨by rw [World.frozen?_of_block (w := w) eb]; exact (hr k hk).1, by rw [World.cell?_of_block (w := w) eb]; exact (hr k hk).2.1, ?_, (hr k hk).2.2.2⟩
    by_cases e : k = i
    · subst e; rw [gr_set_eq (by omega)]; exact hown
    · rw [gr_set_ne e]
      exact (hr k hk).2.2.1.of_block fun hp => hsame _ fun hp' => by
        rcases Nat.lt_or_gt_of_ne e with h | h
        · exact hd k i h hi' hp hp'
        · exact Ne.symm (hd i k h hk hp' hp)
  · have el : ∀ k, (gr (xss.set i r) k).length = (gr xss k).length := fun k => by
      by_cases e : k = i
      · subst e; rw [gr_set_eq (by omega), hrl]
      · rw [gr_set_ne e]
    rw [el] at hj0 hk0
    exact hd j k hjk hk hj0 hk0
  · by_cases e : 0 < (gr xss i).length
    · obtain ⟨_, _, q1, q2, _⟩ := (hr i hi').2.2.1.own e
      exact hone.touch q1 q2
    · rw [h0 (by omega)]; exact Touch.refl _ _ _

def MarkedR (lo hi : Nat) (w : World) (b : Nat) (A : Option Addr) (n c : Nat) (xss : List (List Int)) (k : Int) (e : Ending) (w' : World) : Prop :=
  e = .returned (.int .i64 (k + offs xss n)) ∧ OwnR lo hi w' b A n c (mkR k xss) ∧ Touch lo hi w w'

end Go.Proofs.Ytjmfkodbilknlaa

/- The reader made; one of some numbers. -/
namespace Go.Proofs.Ytjmfkodbilknlaa
open Go.RowKit

def MadeRdr (w : World) (l : Nat) (e : Ending) (w' : World) : Prop :=
  ∃ A n c, e = .returned (.pointer (some ⟨w.heap.size, 0, none⟩)) ∧ n = min l 2000 ∧ Rdr w w' w.heap.size A n c 0 ∧ w'.heap.size = w.heap.size + 1

theorem Bytes.cut {w A n c} (h : Bytes w A n c) (hn : 2000 < n) : Bytes w A 2000 c :=
  ⟨by have := h.cap; omega, by omega, fun _ => let ⟨b, o, e, hc⟩ := h.at_ (by omega); ⟨b, o, e, fun k hk => hc k (by omega)⟩⟩

set_option maxHeartbeats 400000 in
theorem newReader_any (A : Option Addr) (n c : Nat) (w : World) (h : Bytes w A n c) :
    Calls Try.prog 50 #[.slice A n c] w (MadeRdr w n) := by
  have hm := h.max
  have hcap := h.cap
  by_cases hn : 2000 < n
  · obtain ⟨b, o, rfl, _⟩ := h.at_ (by omega)
    have HR := Lib.hid (show Rdr w (w.alloc (.cells #[.slice (some ⟨b, o, none⟩) 2000 c, .int .i64 0] 92)) w.heap.size (some ⟨b, o, none⟩) 2000 c 0 from
      ⟨blk_new _ _ _, h.cut hn, below_alloc _ _, Nat.le_refl _, Nat.le_refl _⟩)
    have HM := Lib.hid (show 2000 = min n 2000 by omega)
    have hc2 : 2000 ≤ c := by omega
    clear h
    go_enter Try.func50, Try.ntmps50
    go_wp2
    go_ret
    exact ⟨_, _, _, rfl, HM.out, HR.out, by simp⟩
  · have HR := Lib.hid (show Rdr w (w.alloc (.cells #[.slice A n c, .int .i64 0] 92)) w.heap.size A n c 0 from
      ⟨blk_new _ _ _, h, below_alloc _ _, Nat.le_refl _, by omega⟩)
    have HM := Lib.hid (show n = min n 2000 by omega)
    clear h
    go_enter Try.func50, Try.ntmps50
    go_wp2
    go_ret
    exact ⟨_, _, _, rfl, HM.out, HR.out, by simp⟩

/-- Some draws by the reader in block g: it alone has turned, p has grown by some; new blocks may be there. -/
structure Drawn (w0 : World) (g : Nat) (A : Option Addr) (l c p p' : Nat) (w w' : World) : Prop where
  rd : Rdr w0 w' g A l c p'
  grown : w.grownBy w' (some g)

theorem One.grown {g : Nat} {w w' : World} (h : One g w w') : w.grownBy w' (some g) := ⟨h.os, h.tape, h.output, by rw [h.size]; exact Nat.le_refl _, fun k _ hne => h.block k (fun e => hne (by rw [e]))⟩
theorem Rdr.one {g : Nat} (w : World) (v : Value) (q : Nat) : One g w ((w.setCell ⟨g, 1, none⟩ v).drewN q) :=
  let h := (One.refl g w).set 1 v
  ⟨h.os, h.tape, h.output, h.size, h.block⟩
theorem Rdr.below_ {w0 w w' g A n c p} (h : Rdr w0 w g A n c p) (k : Below w.heap.size w w') : Rdr w0 w' g A n c p :=
  ⟨blk_below h.box k, h.bytes, below_up h.below k, h.lt, h.small⟩

def OneOf (w0 : World) (g : Nat) (A : Option Addr) (l c p : Nat) (xs : List Int) (w : World) (e : Ending) (w' : World) : Prop :=
  ∃ x, e = .returned (.int .i64 x) ∧ x ∈ xs ∧ Rdr w0 w' g A l c (p + 1) ∧ One g w w'

set_option maxHeartbeats 400000 in
theorem one_any (w0 w : World) (g : Nat) (A : Option Addr) (l c p : Nat) (B : Option Addr) (n d : Nat) (xs : List Int) (h : Rdr w0 w g A l c p) (hp : p < 1000000000)
    (hx : Ints w B n d xs) (h0 : 0 < n) (hne : ∀ b o, B = some ⟨b, o, none⟩ → b ≠ g) :
    Calls Try.prog 52 #[.pointer (some ⟨g, 0, none⟩), .slice B n d] w (OneOf w0 g A l c p xs w) := by
  have hm := hx.max
  have HX := Lib.hid hx
  have HC := Lib.hid (pick_any w0 w g A l c p n h hp)
  have HNE := Lib.hid hne
  obtain ⟨b, o, rfl, _⟩ := hx.at_ h0
  clear h hx hne
  go_enter Try.func52, Try.ntmps52
  go_wp2_with fail
  refine HC.out.mono ?_
  rintro e w1 ⟨m, rfl, hm1, _, hr, q, hw⟩
  have H1 := Lib.hid hr
  have hone := Rdr.one (g := g) w (.int .i64 (p + 1 : Nat)) q
  rw [← hw] at hone
  have HO := Lib.hid hone
  obtain ⟨m0, m1⟩ := hm1 (by omega)
  obtain ⟨k, rfl⟩ := Int.eq_ofNat_of_zero_le m0
  have hk : k < n := by omega
  obtain ⟨b', o', e', hc⟩ := HX.out.at_ h0
  injection e' with e'
  injection e' with e1 e2 _
  subst e1
  subst e2
  have ck := hc k hk
  rw [← World.cell?_of_block (w := w) (w' := w1) (hone.block b (HNE.out b o rfl))] at ck
  have HM := Lib.hid (gi_mem (xs := xs) (k := k) (by rw [HX.out.len]; exact hk))
  clear hr hone hc hm1 hw HC HX
  go_wp2
  go_ret
  exact ⟨_, rfl, HM.out, H1.out, HO.out⟩
end Go.Proofs.Ytjmfkodbilknlaa

/- A table drawn. -/
namespace Go.Proofs.Ytjmfkodbilknlaa
open Go.RowKit

theorem grown_below {g : Nat} {a b w : World} (h : a.grownBy b (some g)) (k : Below b.heap.size b w) : a.grownBy w (some g) :=
  ⟨k.os.trans h.os, k.tape.trans h.tape, k.output.trans h.output, Nat.le_trans h.size k.size, fun i hi hne => (k.block i (Nat.lt_of_lt_of_le hi h.size)).trans (h.block i hi hne)⟩
/-- An append onto a row from lo on. -/
theorem grown_app {g : Nat} {a b w : World} {row : Option Nat} (h : a.grownBy b (some g)) (k : b.grownBy w row) (hr : ∀ x, row = some x → a.heap.size ≤ x) : a.grownBy w (some g) :=
  ⟨k.os.trans h.os, k.tape.trans h.tape, k.output.trans h.output, Nat.le_trans h.size k.size, fun i hi hne => (k.block i (Nat.lt_of_lt_of_le hi h.size) (fun e => by have := hr i e.symm; omega)).trans (h.block i hi hne)⟩

/-- A table under way: the reader, the rows that are there. -/
structure TO (w0 wb : World) (g : Nat) (A : Option Addr) (l c p : Nat) (v : Value) (vs : List Value) (xss : List (List Int)) (w : World) : Prop where
  rd : Rdr w0 w g A l c p
  bo : Bld wb.heap.size w.heap.size w v vs xss
  gl : g < wb.heap.size
  up : wb.grownBy w (some g)
/-- .. and the row that is begun. -/
structure TI (w0 wb : World) (g : Nat) (A : Option Addr) (l c p H : Nat) (v : Value) (vs : List Value) (xss : List (List Int)) (u : Value) (ys : List Int) (w : World) : Prop where
  rd : Rdr w0 w g A l c p
  bo : Bld wb.heap.size H w v vs xss
  bi : BldI H w.heap.size w u ys
  gl : g < wb.heap.size
  lh : wb.heap.size ≤ H
  hs : H ≤ w.heap.size
  up : wb.grownBy w (some g)
theorem TO.start {w0 wb g A l c p} (h : Rdr w0 wb g A l c p) :
    TO w0 wb g A l c p (.slice (some ⟨wb.heap.size, 0, none⟩) 0 0) [] [] (wb.alloc (.cells #[] 36)) :=
  ⟨h.below_ (below_alloc _ _), by rw [World.size_alloc]; exact Bld.make (Nat.le_refl _), blk_lt h.box, World.grownBy_alloc _ _ _⟩
theorem TO.row {w0 wb g A l c p v vs xss w} (h : TO w0 wb g A l c p v vs xss w) :
    TI w0 wb g A l c p w.heap.size v vs xss (.slice (some ⟨w.heap.size, 0, none⟩) 0 0) [] (w.alloc (.cells #[] 3)) :=
  ⟨h.rd.below_ (below_alloc _ _), h.bo.below (below_alloc _ _), by rw [World.size_alloc]; exact BldI.make (Nat.le_refl _), h.gl, h.up.size, by simp, grown_below h.up (below_alloc _ _)⟩
theorem TI.one {w0 wb g A l c p p' H v vs xss u ys w w'} (h : TI w0 wb g A l c p H v vs xss u ys w) (hr : Rdr w0 w' g A l c p') (ho : One g w w') :
    TI w0 wb g A l c p' H v vs xss u ys w' := by
  have hgl := h.gl
  have hlh := h.lh
  refine ⟨hr, h.bo.of_blocks fun k h1 _ _ => ho.block k (by omega), ?_, h.gl, h.lh, by rw [ho.size]; exact h.hs, ?_⟩
  · rw [ho.size]; exact h.bi.of_blocks fun k h1 _ _ => ho.block k (by omega)
  · exact ⟨ho.os.trans h.up.os, ho.tape.trans h.up.tape, ho.output.trans h.up.output, by rw [ho.size]; exact h.up.size, fun k hk hne => (ho.block k (fun e => hne (by rw [e]))).trans (h.up.block k hk hne)⟩
theorem TI.push {w0 wb g A l c p H v vs xss u u' ys w w' x} (h : TI w0 wb g A l c p H v vs xss u ys w)
    (hown : w'.ownsRow H 3 1 u' (ys.length + 1) (ys.map iv ++ [iv x])) (hgrow : (w.alloc (.cells #[iv x] 3)).grownBy w' u.ownBlock)
    (hat : u'.ownBlock = u.ownBlock ∨ u'.ownBlock = some (w.heap.size + 1)) : TI w0 wb g A l c p H v vs xss u' (ys ++ [x]) w' := by
  have hgl := h.gl
  have hlh := h.lh
  have hhs := h.hs
  have hsz := hgrow.size
  simp only [World.size_alloc] at hsz
  have hu : ∀ k, u.ownBlock = some k → H ≤ k := fun k hk => (h.bi.own.lt k hk).1
  have hbelow : ∀ k, k < H → w'.heap[k]? = w.heap[k]? := fun k hk =>
    (hgrow.block k (by simp; omega) (fun e => by have := hu k e.symm; omega)).trans (Below.heap_alloc _ _ _ (by omega))
  refine ⟨⟨(hbelow g (by omega)).trans h.rd.box, h.rd.bytes, ?_, h.rd.lt, h.rd.small⟩, h.bo.of_blocks fun k _ hk _ => hbelow k hk, ⟨by rw [List.length_append, List.length_singleton, List.map_append]; exact hown, fun k hk => ?_⟩, h.gl, h.lh, by omega, ?_⟩
  · exact ⟨hgrow.os.trans h.rd.below.os, hgrow.tape.trans h.rd.below.tape, hgrow.output.trans h.rd.below.output, by have := h.rd.below.size; omega, fun k hk => (hbelow k (by have := h.rd.lt; omega)).trans (h.rd.below.block k hk)⟩
  · rcases hat with hat | hat
    · have := h.bi.hi_ k (by rw [← hat]; exact hk); omega
    · have := (hown.lt k hk).2; omega
  · exact grown_app (grown_below h.up (below_alloc _ _)) hgrow fun k hk => by have := hu k hk; omega
theorem TI.done {w0 wb g A l c p H v v' vs xss ys w w' Ar cr gr_} (h : TI w0 wb g A l c p H v vs xss (.slice Ar ys.length cr) ys w) (ho : OwnI H w.heap.size w gr_ Ar ys.length cr ys)
    (hown : w'.ownsRow wb.heap.size 36 1 v' (xss.length + 1) (vs ++ [.slice Ar ys.length cr])) (hgrow : (w.alloc (.cells #[.slice Ar ys.length cr] 36)).grownBy w' v.ownBlock)
    (hat : v'.ownBlock = v.ownBlock ∨ v'.ownBlock = some (w.heap.size + 1)) : TO w0 wb g A l c p v' (vs ++ [.slice Ar ys.length cr]) (xss ++ [ys]) w' := by
  have hgl := h.gl
  have hlh := h.lh
  have hhs := h.hs
  have hsz := hgrow.size
  simp only [World.size_alloc] at hsz
  have hv : ∀ k, v.ownBlock = some k → wb.heap.size ≤ k := fun k hk => (h.bo.own.lt k hk).1
  have hbelow : ∀ k, k < wb.heap.size → w'.heap[k]? = w.heap[k]? := fun k hk =>
    (hgrow.block k (by simp; omega) (fun e => by have := hv k e.symm; omega)).trans (Below.heap_alloc _ _ _ (by omega))
  have hb := below_alloc w (.cells #[.slice Ar ys.length cr] 36)
  refine ⟨⟨(hbelow g hgl).trans h.rd.box, h.rd.bytes, ?_, h.rd.lt, h.rd.small⟩, ?_, h.gl, ?_⟩
  · exact ⟨hgrow.os.trans h.rd.below.os, hgrow.tape.trans h.rd.below.tape, hgrow.output.trans h.rd.below.output, by have := h.rd.below.size; omega, fun k hk => (hbelow k (by have := h.rd.lt; omega)).trans (h.rd.below.block k hk)⟩
  · have hbo : Bld wb.heap.size H w v vs xss := h.bo
    exact Bld.push (hi := H) (w := w) hbo hb ((ho.below hb).mono (Nat.le_refl _) (by simp)) hown hgrow (by simpa using hat) hlh hhs
  · exact grown_app (grown_below h.up hb) hgrow fun k hk => hv k hk
end Go.Proofs.Ytjmfkodbilknlaa

/- A table drawn: the walk. -/
namespace Go.Proofs.Ytjmfkodbilknlaa
open Go.RowKit
theorem Try.info_row : (Try.prog.info? 36).map (fun i => (i.zero, i.size, i.bytes)) = some (some (.slice none 0 0), 1, 24) := by kernel_rfl
theorem Try.info_int : (Try.prog.info? 3).map (fun i => (i.zero, i.size, i.bytes)) = some (some (.int .i64 0), 1, 8) := by kernel_rfl

def RowIn (m : Nat) (lo hi : Int) (r : List Int) : Prop := r.length = m ∧ ∀ x ∈ r, lo ≤ x ∧ x ≤ hi
def TableOut (w0 : World) (g : Nat) (A : Option Addr) (l c p n m : Nat) (lo hi : Int) (w : World) (e : Ending) (w' : World) : Prop :=
  ∃ Av cv vs xss p', e = .returned (.slice Av n cv) ∧ xss.length = n ∧ (∀ r ∈ xss, RowIn m lo hi r) ∧ TO w0 w g A l c p' (.slice Av n cv) vs xss w' ∧ p' ≤ p + 16

set_option maxHeartbeats 1000000 in
theorem tableOf_any (w0 w : World) (g : Nat) (A : Option Addr) (l c p n m : Nat) (lo hi : Int) (h : Rdr w0 w g A l c p) (hp : p < 900000000) (hn : n ≤ 4) (hm : m ≤ 4) (hl1 : -100 ≤ lo) (hl2 : lo ≤ hi) (hl3 : hi ≤ 100) :
    Calls Try.prog 81 #[.pointer (some ⟨g, 0, none⟩), .int .i64 n, .int .i64 m, .int .i64 lo, .int .i64 hi] w (TableOut w0 g A l c p n m lo hi w) := by
  have HS := Lib.hid (TO.start h)
  clear h
  go_enter Try.func81, Try.ntmps81
  go_wp2
  go_loopw [11] (fun v wr => ∃ (xss : List (List Int)) (vs : List Value) (p' : Nat), xss.length ≤ n ∧ p' ≤ p + 4 * xss.length ∧ Hid (∀ r ∈ xss, RowIn m lo hi r) ∧ Hid (TO w0 w g A l c p' v vs xss wr)) (fun v _ => n - (match v with | .slice _ k _ => k | _ => 0))
  case atStart => exact ⟨[], [], p, Nat.zero_le _, by simp, Lib.hid (fun r hr => by simp at hr), HS⟩
  case round =>
    clear HS
    obtain ⟨xss, vs, p', hxn, hpp, HA, HT⟩ := hrel
    obtain ⟨Av, cv, rfl⟩ := HT.out.bo.form
    by_cases hlt : xss.length < n
    · have HI := Lib.hid HT.out.row
      clear HT
      go_wp2
      generalize wr.heap.size = N at *
      go_loopw [12] (fun u wi => ∃ (ys : List Int) (q : Nat), ys.length ≤ m ∧ q ≤ p' + ys.length ∧ Hid (∀ x ∈ ys, lo ≤ x ∧ x ≤ hi) ∧ Hid (TI w0 w g A l c q N (.slice Av xss.length cv) vs xss u ys wi)) (fun u _ => m - (match u with | .slice _ k _ => k | _ => 0))
      case atStart => exact ⟨[], p', Nat.zero_le _, by simp, Lib.hid (fun r hr => by simp at hr), HI⟩
      case round =>
        clear HI
        obtain ⟨ys, q, hym, hq, HR, HI⟩ := hrel
        obtain ⟨Au, cu, rfl⟩ := HI.out.bi.form
        by_cases hlm : ys.length < m
        · have HC := Lib.hid (pick_any w0 _ g A l c q (hi - lo + 1) HI.out.rd (by omega))
          go_wp2_with fail
          refine HC.out.mono ?_
          rintro e w2 ⟨k, rfl, hk1, _, hr, z, hw⟩
          have hone := Rdr.one (g := g) wr (.int .i64 (q + 1 : Nat)) z
          rw [← hw] at hone
          obtain ⟨k0, k1⟩ := hk1 (by omega)
          have HI2 := Lib.hid (HI.out.one hr hone)
          clear hr hone hw hk1 HC HI
          have hb := below_alloc w2 (.cells #[iv (lo + k)] 3)
          have HB4 := Lib.hid (HI2.out.bi.below hb).own
          have HN := Lib.hid (cell_one_new w2 (iv (lo + k)) 3)
          have hHs := HI2.out.hs
          have hlh := HI2.out.lh
          clear hb
          obtain ⟨i0, hi0, hz0, hz1, hz2⟩ := info_parts Try.info_int
          go_wp2_with (at_builtin; refine wpList_append_own_at _ rfl _ _ 36 rfl N 3 i0 (.int .i64 0) 1 8 Try.underlying36 hi0 hz0 hz1 hz2 rfl (by decide) _ ys.length (ys.map iv) rfl HB4.out ⟨w2.heap.size, 0, none⟩ 1 1 [iv (lo + k)] rfl rfl ?c1 ?c2 ?c3 ?c4 ?c5 ?_)
          case c1 => exact HN.out
          case c2 => intro u hu; simp at hu; subst hu; rfl
          case c3 => unfold maxLen; omega
          case c4 => omega
          case c5 => simp; omega
          intro v' w5 hown' hgrow _ hat
          have HI5 := Lib.hid (HI2.out.push hown' hgrow (by simpa using hat))
          clear HB4 HN hown' hgrow hat HI2
          obtain ⟨Au2, cu2, rfl⟩ := HI5.out.bi.form
          go_wp2
          go_roundw
          case rel => exact ⟨ys ++ [lo + k], q + 1, by simp; omega, by simp; omega, Lib.hid (fun x hx => by
            rcases List.mem_append.1 hx with hx | hx
            · exact HR.out x hx
            · simp at hx; omega), HI5⟩
          case measure => simp; omega
        · obtain ⟨Ar, nr, cr, gg, e, rfl, ho, _⟩ := HI.out.bi.owns (by omega) (fun x hx => by have := HR.out x hx; omega)
          injection e with e1 _ e3
          subst e1
          subst e3
          have HO := Lib.hid ho
          have hym2 : ys.length = m := by omega
          have hb := below_alloc wr (.cells #[.slice Au ys.length cu] 36)
          have HB4 := Lib.hid (HI.out.bo.below hb).own
          have HN := Lib.hid (cell_one_new wr (.slice Au ys.length cu) 36)
          have hHs := HI.out.hs
          have hlh := HI.out.lh
          clear hb ho
          have HYM := Lib.hid hym2
          clear hym2
          obtain ⟨i0, hi0, hz0, hz1, hz2⟩ := info_parts Try.info_row
          go_wp2_with (at_builtin; refine wpList_append_own_at _ rfl _ _ 22 rfl w.heap.size 36 i0 (.slice none 0 0) 1 24 Try.underlying22 hi0 hz0 hz1 hz2 rfl (by decide) _ xss.length vs rfl HB4.out ⟨wr.heap.size, 0, none⟩ 1 1 [.slice Au ys.length cu] rfl rfl ?d1 ?d2 ?d3 ?d4 ?d5 ?_)
          case d2 => rfl
          case d3 => unfold maxLen; omega
          case d4 => omega
          case d5 => omega
          intro v' w5 hown' hgrow _ hat
          have HT5 := Lib.hid (HI.out.done HO.out hown' hgrow (by simpa using hat))
          clear HB4 HN hown' hgrow hat HI HO
          obtain ⟨Av2, cv2, rfl⟩ := HT5.out.bo.form
          go_wp2
          go_roundw
          case rel => exact ⟨xss ++ [ys], _, q, by simp; omega, by have := HYM.out; simp; omega, Lib.hid (fun r hr => by
            rcases List.mem_append.1 hr with hr | hr
            · exact HA.out r hr
            · simp at hr; subst hr; exact ⟨HYM.out, HR.out⟩), HT5⟩
          case measure => simp; omega
    · have hnx : xss.length = n := by omega
      have HNX := Lib.hid hnx
      clear hnx
      go_wp2
      go_ret
      exact ⟨Av, cv, vs, xss, p', by rw [← HNX.out]; rfl, HNX.out, HA.out, by rw [← HNX.out]; exact HT.out, by have := HNX.out; omega⟩
end Go.Proofs.Ytjmfkodbilknlaa

/- A table spoiled now and then: what becomes of its memory. -/
namespace Go.Proofs.Ytjmfkodbilknlaa
open Go.RowKit

theorem Bld.head {lo hi w v vs xss} (h : Bld lo hi w v vs xss) (h0 : 0 < xss.length) : ∃ b c R cc, v = .slice (some ⟨b, 0, none⟩) xss.length c ∧ lo ≤ b ∧ vs[0]? = some (.slice R (gr xss 0).length cc) ∧ w.cell? ⟨b, 0, none⟩ = some (.slice R (gr xss 0).length cc) := by
  obtain ⟨h1, h4, G, R, C, h2, h3⟩ := h
  have hv := (h2 0 h0).1
  rcases h1.2 with ⟨_, h5⟩ | ⟨g, cap, cur, rfl, hb, _⟩
  · omega
  · have hc := h1.cells (g := g) rfl 0 _ hv
    exact ⟨g, cap, R 0, C 0, rfl, hb, hv, by simpa [Addr.add] using hc⟩

theorem Bld.set0 {lo hi w v vs xss} (h : Bld lo hi w v vs xss) (h0 : 0 < xss.length) (h1 : 0 < (gr xss 0).length) {x : Int} (hx : -9223372036854775808 ≤ x ∧ x ≤ 9223372036854775807) :
    ∃ b o cc, vs[0]? = some (.slice (some ⟨b, o, none⟩) (gr xss 0).length cc) ∧ lo ≤ b ∧ (∃ y, w.cell? ⟨b, o, none⟩ = some (.int .i64 y)) ∧ w.frozen? ⟨b, o, none⟩ = false ∧
      Bld lo hi (w.setCell ⟨b, o, none⟩ (.int .i64 x)) v vs (xss.set 0 ((gr xss 0).set 0 x)) := by
  obtain ⟨ho, h4, G, R, C, h2, h3⟩ := h
  obtain ⟨q0, q1, q2⟩ := h2 0 h0
  obtain ⟨o, e, l1, l2, hf⟩ := q1.own h1
  have q1' := q1
  rw [e] at q1' q0
  have hset := q1'.set h1 hx
  rw [Nat.add_zero] at hset
  obtain ⟨b', o', e', hc⟩ := q1.ints.at_ h1
  rw [e] at e'
  injection e' with e'
  injection e' with e1 e2 _
  have hc0 := hc 0 h1
  rw [Nat.add_zero, ← e1, ← e2] at hc0
  have hf0 := hf 0 h1
  rw [Nat.add_zero] at hf0
  have hlen : ∀ k, (gr (xss.set 0 ((gr xss 0).set 0 x)) k).length = (gr xss k).length := fun k => by
    by_cases e : k = 0
    · subst e; rw [gr_set_eq h0, List.length_set]
    · rw [gr_set_ne e]
  refine ⟨G 0, o, C 0, q0, l1, ⟨_, hc0⟩, hf0, ⟨?_, h4, G, R, C, fun k hk => ?_, fun j k hjk hk hj0 hk0 => ?_⟩⟩
  · rw [List.length_set]
    exact blk_kept ho fun g hg => Below.heap_setCell _ _ _ _ (fun e => q2 h1 (by rw [hg, e]))
  · rw [List.length_set] at hk
    rw [hlen]
    obtain ⟨a, b, c⟩ := h2 k hk
    refine ⟨a, ?_, c⟩
    by_cases ek : k = 0
    · subst ek
      rw [gr_set_eq h0, e]
      exact hset
    · rw [gr_set_ne ek]
      exact b.of_block fun hp => Below.heap_setCell _ _ _ _ (Ne.symm (h3 0 k (by omega) hk h1 hp))
  · rw [List.length_set] at hk
    rw [hlen] at hj0 hk0
    exact h3 j k hjk hk hj0 hk0

/-- The rows' lengths and numbers are small. -/
structure Small (xss : List (List Int)) : Prop where
  n : xss.length ≤ 8
  rows : ∀ r ∈ xss, r.length ≤ 8 ∧ ∀ x ∈ r, -1000 ≤ x ∧ x ≤ 1000
theorem Small.set0 {xss : List (List Int)} (h : Small xss) (h0 : 0 < xss.length) {x : Int} (hx : -1000 ≤ x ∧ x ≤ 1000) : Small (xss.set 0 ((gr xss 0).set 0 x)) := by
  have hm := h.rows _ (gr_mem h0)
  refine ⟨by rw [List.length_set]; exact h.n, fun r hr => ?_⟩
  rcases List.mem_or_eq_of_mem_set hr with hr | rfl
  · exact h.rows r hr
  · refine ⟨by rw [List.length_set]; exact hm.1, fun y hy => ?_⟩
    rcases List.mem_or_eq_of_mem_set hy with hy | rfl
    · exact hm.2 y hy
    · exact hx
theorem Small.snoc {xss : List (List Int)} (h : Small xss) (hn : xss.length ≤ 7) {x : Int} (hx : -1000 ≤ x ∧ x ≤ 1000) : Small (xss ++ [[x]]) :=
  ⟨by simp; omega, fun r hr => by
    rcases List.mem_append.1 hr with hr | hr
    · exact h.rows r hr
    · simp at hr; subst hr; exact ⟨by simp, fun y hy => by simp at hy; subst hy; exact hx⟩⟩
theorem Small.nil : Small [] := ⟨by simp, fun r hr => by simp at hr⟩

theorem TO.below {w0 wb g A l c p v vs xss w w'} (h : TO w0 wb g A l c p v vs xss w) (k : Below w.heap.size w w') : TO w0 wb g A l c p v vs xss w' :=
  ⟨h.rd.below_ k, (h.bo.below k).mono k.size, h.gl, grown_below h.up k⟩
theorem TO.one {w0 wb g A l c p p' v vs xss w w'} (h : TO w0 wb g A l c p v vs xss w) (hr : Rdr w0 w' g A l c p') (ho : One g w w') : TO w0 wb g A l c p' v vs xss w' := by
  have hgl := h.gl
  refine ⟨hr, ?_, h.gl, ?_⟩
  · rw [ho.size]; exact h.bo.of_blocks fun k h1 _ _ => ho.block k (by omega)
  · exact ⟨ho.os.trans h.up.os, ho.tape.trans h.up.tape, ho.output.trans h.up.output, by rw [ho.size]; exact h.up.size, fun k hk hne => (ho.block k (fun e => hne (by rw [e]))).trans (h.up.block k hk hne)⟩
theorem TO.fresh {w0 wb g A l c p v vs xss w} (h : TO w0 wb g A l c p v vs xss w) : TO w0 wb g A l c p (.slice (some ⟨w.heap.size, 0, none⟩) 0 0) [] [] (w.alloc (.cells #[] 36)) :=
  ⟨h.rd.below_ (below_alloc _ _), by rw [World.size_alloc]; exact Bld.make h.up.size, h.gl, grown_below h.up (below_alloc _ _)⟩
theorem TO.set0 {w0 wb g A l c p v vs xss w} (h : TO w0 wb g A l c p v vs xss w) (h0 : 0 < xss.length) (h1 : 0 < (gr xss 0).length) {x : Int} (hx : -1000 ≤ x ∧ x ≤ 1000) :
    ∃ b o cc, vs[0]? = some (.slice (some ⟨b, o, none⟩) (gr xss 0).length cc) ∧ (∃ y, w.cell? ⟨b, o, none⟩ = some (.int .i64 y)) ∧ w.frozen? ⟨b, o, none⟩ = false ∧
      TO w0 wb g A l c p v vs (xss.set 0 ((gr xss 0).set 0 x)) (w.setCell ⟨b, o, none⟩ (.int .i64 x)) := by
  obtain ⟨b, o, cc, e, hl, hc, hf, hb⟩ := h.bo.set0 h0 h1 (x := x) (by omega)
  have hgl := h.gl
  have hs : (w.setCell ⟨b, o, none⟩ (.int .i64 x)).heap.size = w.heap.size := by simp [World.setCell]
  refine ⟨b, o, cc, e, hc, hf, ⟨⟨blk_other h.rd.box (by show g ≠ b; omega) _, h.rd.bytes, h.rd.below.setCell (by show w0.heap.size ≤ b; have := h.rd.lt; omega) _, h.rd.lt, h.rd.small⟩, by rw [hs]; exact hb, h.gl, ?_⟩⟩
  exact ⟨h.up.os, h.up.tape, h.up.output, by rw [hs]; exact h.up.size, fun k hk hne => (Below.heap_setCell _ _ _ _ (by show k ≠ b; omega)).trans (h.up.block k hk hne)⟩
end Go.Proofs.Ytjmfkodbilknlaa

/- A list of ints that is written out. -/
namespace Go.Proofs.Ytjmfkodbilknlaa
open Go.RowKit

theorem Ints.lit (w : World) (xs : List Int) (hl : xs.length ≤ 1000) (hw : ∀ x ∈ xs, -9223372036854775808 ≤ x ∧ x ≤ 9223372036854775807) :
    Ints (w.alloc (.cells (xs.map iv).toArray 3)) (some ⟨w.heap.size, 0, none⟩) xs.length xs.length xs :=
  ⟨rfl, Nat.le_refl _, by omega, hw, fun _ => ⟨_, _, rfl, fun k hk => by
    simp only [World.cell?, Nat.zero_add, heap_alloc_new]
    rw [← getElem_iv hk]
    simp⟩⟩
theorem Ints.two (w : World) (x y : Int) (hx : -9223372036854775808 ≤ x ∧ x ≤ 9223372036854775807 := by omega) (hy : -9223372036854775808 ≤ y ∧ y ≤ 9223372036854775807 := by omega) : Ints (w.alloc (.cells #[iv x, iv y] 3)) (some ⟨w.heap.size, 0, none⟩) 2 2 [x, y] :=
  ⟨rfl, Nat.le_refl _, by omega, fun z hz => by simp at hz; omega, fun _ => ⟨_, _, rfl, fun k hk => by
    have h : k = 0 ∨ k = 1 := by omega
    rcases h with rfl | rfl <;> simp only [World.cell?, Nat.zero_add, heap_alloc_new] <;> rfl⟩⟩

end Go.Proofs.Ytjmfkodbilknlaa

/- A table spoiled now and then: the walk. -/
namespace Go.Proofs.Ytjmfkodbilknlaa
open Go.RowKit

/-- A row written out, of one number. -/
theorem TO.lit {w0 wb g A l c p v vs xss w} (h : TO w0 wb g A l c p v vs xss w) (x : Int) :
    TI w0 wb g A l c p w.heap.size v vs xss (.slice (some ⟨w.heap.size, 0, none⟩) 1 1) [x] (w.alloc (.cells #[iv x] 3)) :=
  ⟨h.rd.below_ (below_alloc _ _), h.bo.below (below_alloc _ _), by rw [World.size_alloc]; exact ⟨⟨by simp, .inr ⟨w.heap.size, 1, #[iv x], rfl, Nat.le_refl _, heap_alloc_new w _, Nat.le_refl _, by decide, rfl, by simp⟩⟩, fun k hk => by simp [Value.ownBlock] at hk; omega⟩, h.gl, h.up.size, by simp, grown_below h.up (below_alloc _ _)⟩

theorem Ints.drew {w A n c xs} (h : Ints w A n c xs) : Ints w.drew A n c xs := ⟨h.1, h.2, h.3, h.4, h.5⟩

theorem Bld.head_at {lo hi w b c n vs xss} (h : Bld lo hi w (.slice (some ⟨b, 0, none⟩) n c) vs xss) (h0 : 0 < xss.length) : w.cell? ⟨b, 0, none⟩ = vs[0]? := by
  obtain ⟨b', c', R, cc, e, _, h1, h2⟩ := h.head h0
  injection e with e
  injection e with e
  injection e with e _ _
  subst e
  rw [h1, h2]

theorem TO.set0_at {w0 wb g A l c p v vs xss w b o k cc} (h : TO w0 wb g A l c p v vs xss w) (h0 : 0 < xss.length) (h1 : 0 < (gr xss 0).length) (hv : vs[0]? = some (.slice (some ⟨b, o, none⟩) k cc)) {x : Int} (hx : -1000 ≤ x ∧ x ≤ 1000) :
    (∃ y, w.cell? ⟨b, o, none⟩ = some (.int .i64 y)) ∧ w.frozen? ⟨b, o, none⟩ = false ∧ TO w0 wb g A l c p v vs (xss.set 0 ((gr xss 0).set 0 x)) (w.setCell ⟨b, o, none⟩ (.int .i64 x)) := by
  obtain ⟨b', o', cc', e, h2⟩ := h.set0 h0 h1 hx
  rw [hv] at e
  injection e with e
  injection e with e _ _
  injection e with e
  injection e with e1 e2 _
  subst e1
  subst e2
  exact h2

def SpoilOut (w0 wb : World) (g : Nat) (A : Option Addr) (l c p : Nat) (e : Ending) (w' : World) : Prop :=
  ∃ v' vs' xss' p', e = .returned v' ∧ Small xss' ∧ TO w0 wb g A l c p' v' vs' xss' w' ∧ p' ≤ p + 2

set_option maxHeartbeats 1000000 in
theorem spoil_any (w0 wb w : World) (g : Nat) (A : Option Addr) (l c p : Nat) (Av : Option Addr) (cv : Nat) (vs : List Value) (xss : List (List Int)) (h : TO w0 wb g A l c p (.slice Av xss.length cv) vs xss w) (hp : p < 900000000) (hs : Small xss) (h7 : xss.length ≤ 7) :
    Calls Try.prog 83 #[.pointer (some ⟨g, 0, none⟩), .slice Av xss.length cv] w (SpoilOut w0 wb g A l c p) := by
  have HT := Lib.hid h
  have HC := Lib.hid (pick_any w0 w g A l c p 40 h.rd (by omega))
  have HS := Lib.hid hs
  clear h hs
  go_enter Try.func83, Try.ntmps83
  go_wp2_with fail
  refine HC.out.mono ?_
  rintro e w2 ⟨k, rfl, hk1, _, hr, z, hw⟩
  have hone := Rdr.one (g := g) w (.int .i64 (p + 1 : Nat)) z
  rw [← hw] at hone
  obtain ⟨k0, k1⟩ := hk1 (by omega)
  have HT2 := Lib.hid (HT.out.one hr hone)
  clear hr hone hw hk1 HC HT
  by_cases e0 : k = 0
  · subst e0
    by_cases hx0 : 0 < xss.length
    · obtain ⟨b0, c0, R0, cc0, ev, hb0, hv0, hcell0⟩ := HT2.out.bo.head hx0
      injection ev with ev1 _ ev3
      subst ev1
      subst ev3
      by_cases hx1 : 0 < (gr xss 0).length
      · obtain ⟨b, o, cc, ev, _⟩ := HT2.out.set0 hx0 hx1 (x := 10) (by omega)
        rw [hv0] at ev
        injection ev with ev
        injection ev with ev1 _ ev3
        subst ev1
        subst ev3
        have HTA := Lib.hid ((HT2.out.below (below_alloc w2 (.cells #[iv 10, iv (-10)] 3))).below ((Below.refl _ _).drew))
        have HCA := Lib.hid ((HTA.out.bo.head_at hx0).trans hv0)
        have HIA := Lib.hid (Ints.two w2 10 (-10)).drew
        have hgl := HT2.out.gl
        have hgw := HT2.out.up.size
        go_wp2_with fail
        go_region_held3 (fun W => W.cell? ⟨b0, 0, none⟩ = some (.slice (some ⟨b, o, none⟩) (gr xss 0).length cc0)) (first | exact hcell0 | exact HCA.out | exact HCB.out | exact HCC.out)
          (first
          | (go_at_call 52; refine (one_any w0 _ g A l c (p + 1) _ 2 2 [10, -10] ?_ (by omega) ?_ (by omega) ?_).mono ?_; exact HTA.out.rd; exact HIA.out; (intro b' o' e'; injection e' with e'; injection e' with e1 _ _; omega); rintro e w4 ⟨x, rfl, hx, hr, ho⟩; have HT4 := Lib.hid (HTA.out.one hr ho); have HCB := Lib.hid ((HT4.out.bo.head_at hx0).trans hv0); have hx3 : -1000 ≤ x ∧ x ≤ 1000 := (by simp at hx; omega); obtain ⟨⟨y, hc5⟩, hf5, hT5⟩ := HT4.out.set0_at hx0 hx1 hv0 hx3; have HT5 := Lib.hid hT5; have HCC := Lib.hid ((HT5.out.bo.head_at (by rw [List.length_set]; exact hx0)).trans hv0); clear hr ho hT5 hx HTA HIA))
        go_wp2
        go_ret
        exact ⟨_, _, _, _, rfl, HS.out.set0 hx0 hx3, HT5.out, by omega⟩
      · go_wp2
        go_ret
        exact ⟨_, _, _, _, rfl, HS.out, HT2.out, by omega⟩
    · go_wp2
      go_ret
      exact ⟨_, _, _, _, rfl, HS.out, HT2.out, by omega⟩
  · by_cases e1 : k = 1
    · subst e1
      have HI := Lib.hid (HT2.out.lit 1)
      clear HT2
      have hWs : (w2.alloc (.cells #[iv 1] 3)).heap.size = w2.heap.size + 1 := by simp
      obtain ⟨Ar, nr, cr, gg, e, hn, ho, _⟩ := HI.out.bi.owns (by simp) (fun x hx => by simp at hx; omega)
      injection e with e1 e2 e3
      subst e1
      subst e2
      subst e3
      have HO := Lib.hid ho
      have hb := below_alloc (w2.alloc (.cells #[iv 1] 3)) (.cells #[.slice (some ⟨w2.heap.size, 0, none⟩) 1 1] 36)
      have HB4 := Lib.hid (HI.out.bo.below hb).own
      have HN := Lib.hid (cell_one_new (w2.alloc (.cells #[iv 1] 3)) (.slice (some ⟨w2.heap.size, 0, none⟩) 1 1) 36)
      have hHs := HI.out.hs
      have hlh := HI.out.lh
      clear hb ho hn
      obtain ⟨i0, hi0, hz0, hz1, hz2⟩ := info_parts Try.info_row
      go_wp2_with (at_builtin; refine wpList_append_own_at _ rfl _ _ 22 rfl wb.heap.size 36 i0 (.slice none 0 0) 1 24 Try.underlying22 hi0 hz0 hz1 hz2 rfl (by decide) _ xss.length vs rfl HB4.out ⟨w2.heap.size + 1, 0, none⟩ 1 1 [.slice (some ⟨w2.heap.size, 0, none⟩) 1 1] rfl rfl ?d1 ?d2 ?d3 ?d4 ?d5 ?_)
      case d1 => have := HN.out; rw [hWs] at this; exact this
      case d2 => intro u hu; simp at hu; subst hu; rfl
      case d3 => unfold maxLen; omega
      case d4 => omega
      case d5 => simp; omega
      intro v' w5 hown' hgrow _ hat
      have HT5 := Lib.hid (TI.done (w := w2.alloc (.cells #[iv 1] 3)) (ys := [1]) (xss := xss) (v := .slice Av xss.length cv) (v' := v') (vs := vs) (Ar := some ⟨w2.heap.size, 0, none⟩) (cr := 1) HI.out HO.out hown' hgrow (by simpa using hat))
      clear HB4 HN hown' hgrow hat HI HO
      go_wp2
      go_ret
      exact ⟨_, _, _, _, rfl, HS.out.snoc h7 (by omega), HT5.out, by omega⟩
    · by_cases e2 : k = 2
      · subst e2
        have HF := Lib.hid HT2.out.fresh
        go_wp2
        go_ret
        exact ⟨_, _, _, _, rfl, Small.nil, HF.out, by omega⟩
      · go_wp2
        go_ret
        exact ⟨_, _, _, _, rfl, HS.out, HT2.out, by omega⟩
end Go.Proofs.Ytjmfkodbilknlaa

/- Some table. -/
namespace Go.Proofs.Ytjmfkodbilknlaa
open Go.RowKit

theorem grown_trans {g : Nat} {a b w : World} (h : a.grownBy b (some g)) (k : b.grownBy w (some g)) : a.grownBy w (some g) :=
  ⟨k.os.trans h.os, k.tape.trans h.tape, k.output.trans h.output, Nat.le_trans h.size k.size, fun i hi hne => (k.block i (Nat.lt_of_lt_of_le hi h.size) hne).trans (h.block i hi hne)⟩
theorem grown_of_below {g : Nat} {w w' : World} (k : Below w.heap.size w w') : w.grownBy w' (some g) := ⟨k.os, k.tape, k.output, k.size, fun i hi _ => k.block i hi⟩

/-- A number of a list that is written out. -/
def OneLit (w0 : World) (g : Nat) (A : Option Addr) (l c p : Nat) (xs : List Int) (w : World) (e : Ending) (w' : World) : Prop :=
  ∃ x, e = .returned (.int .i64 x) ∧ x ∈ xs ∧ Rdr w0 w' g A l c (p + 1) ∧ w.grownBy w' (some g)
theorem one_lit (w0 w W : World) (g : Nat) (A : Option Addr) (l c p b n : Nat) (xs : List Int) (h : Rdr w0 w g A l c p) (hp : p < 1000000000) (k : Below w.heap.size w W)
    (hb : w.heap.size ≤ b) (hi : Ints W (some ⟨b, 0, none⟩) n n xs) (h0 : 0 < n) :
    Calls Try.prog 52 #[.pointer (some ⟨g, 0, none⟩), .slice (some ⟨b, 0, none⟩) n n] W (OneLit w0 g A l c p xs w) := by
  have hg := blk_lt h.box
  refine (one_any w0 W g A l c p _ n n xs (h.below_ k) hp hi h0 (fun b' o' e' => by injection e' with e'; injection e' with e' _ _; omega)).mono ?_
  rintro e w4 ⟨x, rfl, hx, hr, ho⟩
  exact ⟨x, rfl, hx, hr, grown_trans (grown_of_below k) ho.grown⟩

/-- A table that the reader drew: its memory is from w on. -/
def SomeT (w0 : World) (g : Nat) (A : Option Addr) (l c p : Nat) (w : World) (e : Ending) (w' : World) : Prop :=
  ∃ wb v' vs' xss' p', e = .returned v' ∧ Small xss' ∧ TO w0 wb g A l c p' v' vs' xss' w' ∧ p' ≤ p + 30 ∧ w.grownBy wb (some g)

end Go.Proofs.Ytjmfkodbilknlaa

/- Tables drawn from bytes. -/
namespace Go.Proofs.Ytjmfkodbilknlaa
open Go.RowKit

/-- A table of small numbers, in memory of its own. -/
def DrawnT (w : World) (e : Ending) (w' : World) : Prop :=
  ∃ Av n c gg xss, e = .returned (.slice Av n c) ∧ Small xss ∧ OwnR w.heap.size w'.heap.size w' gg Av n c xss ∧ Below w.heap.size w w'

end Go.Proofs.Ytjmfkodbilknlaa

