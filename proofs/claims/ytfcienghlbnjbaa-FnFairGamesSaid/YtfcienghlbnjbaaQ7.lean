/- Texts merged: CO K7 Y3 Y5 Z4 V8 V9 K6 Ones. -/
import Derived.Test.YtfcienghlbnjbaaQ6
import Derived.Laws.Tables
import Derived.Laws.Rows
/- A table as an array, by the program. -/
namespace Go.Proofs.Ytfcienghlbnjbaa
open Go.RowKit

theorem blk_row {w g t cs} (h : Blk w g t cs) (c : Array Value) : Blk (w.setRow g c) g t c := setRow_heap w g cs c t (0, 0) h
theorem row_other (w : World) (g k : Nat) (c : Array Value) (h : k ≠ g) : (w.setRow g c).heap[k]? = w.heap[k]? := by
  simp only [World.setRow, Array.getElem?_modify, if_neg (Ne.symm h)]
theorem blk_row_other {w g k t cs} (h : Blk w k t cs) (c : Array Value) (hne : k ≠ g) : Blk (w.setRow g c) k t cs := (row_other w g k c hne).trans h
theorem below_row {B : Nat} {a w : World} (h : Below B a w) {g : Nat} (hg : B ≤ g) (c : Array Value) : Below B a (w.setRow g c) :=
  ⟨h.os, h.tape, h.output, by simpa [World.setRow] using h.size, fun k hk => (row_other w g k c (by omega)).trans (h.block k hk)⟩

end Go.Proofs.Ytfcienghlbnjbaa

/- Even tables, by both programs. -/
namespace Go.Proofs.Ytfcienghlbnjbaa
open Go.RowKit

theorem VQ.len2 {a : List (List Int)} {n : Nat} (v : VQ a) (hl : a.length = n) : (gr a 0).length = n := by have := v.2; omega
/-- A square that is the same with rows as columns. -/
structure EvP (a : List (List Int)) : Prop where
  q : VQ a
  e : ∀ i j, i < a.length → j < a.length → g2 a i j = g2 a j i


theorem g2_flipT {a : List (List Int)} {n m i j : Nat} (hi : i < m) (hj : j < n) : g2 (flip a n m) i j = g2 a j i := by
  unfold g2
  rw [gr_flip hi, gi_col hj]
  rfl

/-- The table is even just if the arrays of it and it turned are the same. -/
theorem even_cells {a : List (List Int)} (v : VQ a) : EvP a ↔ cs9 (full9 a a.length a.length) = cs9 (full9 (flip a a.length a.length) a.length a.length) := by
  constructor
  · intro h
    refine cs9_congr fun r c _ _ => ?_
    unfold full9
    by_cases e : r < a.length ∧ c < a.length
    · rw [if_pos e, if_pos e, g2_flipT e.1 e.2]; exact h.e r c e.1 e.2
    · rw [if_neg e, if_neg e]
  · intro h
    refine ⟨v, fun i j hi hj => ?_⟩
    have h3 := v.1.n3
    have e1 := cs9_get (full9 a a.length a.length) (i := i) (j := j) (by omega) (by omega)
    have e2 := cs9_get (full9 (flip a a.length a.length) a.length a.length) (i := i) (j := j) (by omega) (by omega)
    rw [h, e2] at e1
    injection e1 with e1
    injection e1 with _ e1
    unfold full9 at e1
    rw [if_pos ⟨hi, hj⟩, if_pos ⟨hi, hj⟩, g2_flipT hi hj] at e1
    exact e1.symm

end Go.Proofs.Ytfcienghlbnjbaa

/- Rows compared, by the laws; squares turned. -/
namespace Go.Proofs.Ytfcienghlbnjbaa
open Go.RowKit

set_option maxHeartbeats 400000 in
theorem equalRows_any (A B : Option Addr) (n c m d : Nat) (xs ys : List (List Int)) (w : World) (hx : IntRows w A n c xs) (hy : IntRows w B m d ys) :
    Calls Try.prog 18 #[.slice A n c, .slice B m d] w fun e w' => e = .returned (.bool (eqRR xs ys)) ∧ Quiet w w' := by
  obtain ⟨lx, cx, mx, hx⟩ := hx
  obtain ⟨ly, cy, my, hy⟩ := hy
  have Lx := Lib.hid lx
  have Ly := Lib.hid ly
  clear lx ly
  by_cases hnm : n = m
  · subst hnm
    go_enter Try.func18, Try.ntmps18
    go_wp2
    go_loopw [5] (fun i wr => ∃ k : Nat, k ≤ n ∧ i = .int .i64 k ∧ Hid (∀ j, j < k → eqI (gr xs j) (gr ys j) = true) ∧ Quiet w wr) (fun i _ => n - (intOf i).toNat)
    case atStart => exact ⟨0, Nat.zero_le _, rfl, Lib.hid (fun _ h => absurd h (by omega)), Quiet.refl _⟩
    case round =>
      obtain ⟨k, hk, rfl, HALL, q, rfl⟩ := hrel
      by_cases hlt : k < n
      · obtain ⟨b, o, rfl, hcx⟩ := hx (by omega)
        obtain ⟨b2, o2, rfl, hcy⟩ := hy (by omega)
        obtain ⟨R, cc, c1, hR⟩ := hcx k hlt
        obtain ⟨R2, cc2, c2, hR2⟩ := hcy k hlt
        clear hx hy hcx hcy
        cases he : eqI (gr xs k) (gr ys k) with
        | true =>
          have HE := Lib.hid he
          have hq := fun W (hW : Quiet w W) => (he ▸ equalInts_any _ _ _ _ _ _ _ _ W (hR.keep (Keep.quiet hW)) (hR2.keep (Keep.quiet hW)))
          clear he
          go_wp2
          go_quiet ((go_at_call 43; exact quiet_fit (hq _ (by first | exact ⟨_, rfl⟩ | exact Quiet.two _ _ _)) (fun m => by first | exact drewN_to1 _ _ _ | exact drewN_to2 _ _ _ _)))
          go_wp2
          go_roundw
          case rel => exact ⟨k + 1, by omega, by go_num, Lib.hid (fun j hj => by
            by_cases hjk : j < k
            · exact HALL.out j hjk
            · obtain rfl : j = k := by omega
              exact HE.out), ⟨_, rfl⟩⟩
          case measure => simp [intOf]; omega
        | false =>
          have HE := Lib.hid he
          have hq := fun W (hW : Quiet w W) => (he ▸ equalInts_any _ _ _ _ _ _ _ _ W (hR.keep (Keep.quiet hW)) (hR2.keep (Keep.quiet hW)))
          clear he
          go_wp2
          go_quiet ((go_at_call 43; exact quiet_fit (hq _ (by first | exact ⟨_, rfl⟩ | exact Quiet.two _ _ _)) (fun m => by first | exact drewN_to1 _ _ _ | exact drewN_to2 _ _ _ _)))
          go_wp2
          go_ret
          exact ⟨ret_bool (eqRR_no HE.out).symm, Quiet.two _ _ _⟩
      · obtain rfl : k = n := by omega
        go_wp2
        go_ret
        exact ⟨ret_bool (eqRR_yes (by rw [Lx.out, Ly.out]) fun j hj => HALL.out j (by rw [Lx.out] at hj; exact hj)).symm, ⟨_, rfl⟩⟩
  · go_enter Try.func18, Try.ntmps18
    go_wp2
    go_ret
    exact ⟨ret_bool (eqRR_len (by rw [Lx.out, Ly.out]; exact hnm)).symm, Quiet.refl _⟩
theorem VQ.m {a : List (List Int)} {k : Nat} (v : VQ a) (h : a.length = k) : (gr a 0).length = k := by have := v.2; omega
theorem VQ.flip {a : List (List Int)} {k : Nat} (v : VQ a) (h : a.length = k) : VQ (flip a k k) := by
  have h1 := v.1.flip
  rw [h, v.m h] at h1
  refine ⟨h1, ?_⟩
  have := v.1.n1
  rw [flip_len, gr_flip (by omega)]
  simp
theorem VQ.even {a : List (List Int)} {k : Nat} (v : VQ a) (h : a.length = k) : Even a k := by have h1 := v.1.even; rw [v.m h] at h1; exact h1
theorem VQ.evenP {a : List (List Int)} {k : Nat} (v : VQ a) (h : a.length = k) : EvP a ↔ Go.Proofs.Ytfcienghlbnjbaa.flip a k k = a := by
  constructor
  · intro e
    refine gr_ext (by rw [flip_len, h]) fun i hi => ?_
    rw [flip_len] at hi
    refine gi_ext (by rw [gr_flip hi, (v.1.rows i (by omega)).1, v.m h]; simp) fun j hj => ?_
    rw [gr_flip hi] at hj
    have hj' : j < k := by simpa using hj
    have := g2_flipT (a := a) (n := k) (m := k) hi hj'
    unfold g2 at this
    rw [this]
    exact e.e j i (by omega) (by omega)
  · intro e
    refine ⟨v, fun i j hi hj => ?_⟩
    have := g2_flipT (a := a) (n := k) (m := k) (i := i) (j := j) (by omega) (by omega)
    rw [e] at this
    exact this

end Go.Proofs.Ytfcienghlbnjbaa

/- Rows among rows, ascending lists, by the laws. -/
namespace Go.Proofs.Ytfcienghlbnjbaa
open Go.RowKit

set_option maxHeartbeats 800000 in
theorem inRows_any (A B : Option Addr) (n c m d : Nat) (xs : List (List Int)) (ys : List Int) (w : World) (hx : IntRows w A n c xs) (hy : Ints w B m d ys) :
    Calls Try.prog 20 #[.slice A n c, .slice B m d] w fun e w' => e = .returned (.bool (pb (ys ∈ xs))) ∧ Quiet w w' := by
  have HL := Lib.hid hx.len
  have HX := Lib.hid hx
  have HY := Lib.hid hy
  have hmx := hx.max
  clear hx hy
  go_enter Try.func20, Try.ntmps20
  go_wp2
  go_loopw [5] (fun i wr => ∃ k : Nat, k ≤ n ∧ i = .int .i64 k ∧ Hid (∀ j, j < k → gr xs j ≠ ys) ∧ Quiet w wr) (fun i _ => n - (intOf i).toNat)
  case atStart => exact ⟨0, Nat.zero_le _, rfl, Lib.hid (fun _ h => absurd h (by omega)), Quiet.refl _⟩
  case round =>
    obtain ⟨k, hk, rfl, HALL, hq⟩ := hrel
    by_cases hlt : k < n
    · obtain ⟨b, o, rfl, hc⟩ := (HX.out.keep (Keep.quiet hq)).at_ (by omega)
      obtain ⟨R, cR, c1, hR⟩ := hc k hlt
      have HQ := Lib.hid hq
      have HC := Lib.hid (equalInts_any _ _ _ _ _ _ (gr xs k) ys wr hR (HY.out.keep (Keep.quiet hq)))
      clear hc hR hq
      by_cases he : gr xs k = ys
      · have HR := Lib.hid (pb_true (p := ys ∈ xs) (by rw [← he]; exact gr_mem (by rw [HL.out]; exact hlt)))
        rw [show eqI (gr xs k) ys = true by unfold eqI; exact decide_eq_true he] at HC
        clear he
        go_wp2_with fail
        refine HC.out.mono ?_
        rintro e w2 ⟨rfl, hq⟩
        have HQ2 := Lib.hid (HQ.out.trans hq)
        clear hq HC HQ c1
        go_wp2
        go_ret
        exact ⟨ret_bool HR.out.symm, HQ2.out⟩
      · rw [show eqI (gr xs k) ys = false by unfold eqI; exact decide_eq_false he] at HC
        have HN := Lib.hid (show ∀ j, j < k + 1 → gr xs j ≠ ys from fun j hj => by
          by_cases e : j = k
          · subst e; exact he
          · exact HALL.out j (by omega))
        clear he
        go_wp2_with fail
        refine HC.out.mono ?_
        rintro e w2 ⟨rfl, hq⟩
        have HQ2 := Lib.hid (HQ.out.trans hq)
        clear hq HC HQ c1
        go_wp2
        go_roundw
        case rel => exact ⟨k + 1, by omega, by go_num, HN, HQ2.out⟩
        case measure => simp [intOf]; omega
    · obtain rfl : k = n := by omega
      have HR := Lib.hid (pb_false (p := ys ∈ xs) (fun h => by
        obtain ⟨j, hj, e⟩ := List.mem_iff_getElem.1 h
        exact HALL.out j (by rw [← HL.out]; exact hj) (by rw [gr_get hj]; exact e)))
      have HQ2 := Lib.hid hq
      clear hq
      go_wp2
      go_ret
      exact ⟨ret_bool HR.out.symm, HQ2.out⟩

end Go.Proofs.Ytfcienghlbnjbaa

/- The shares of some strategies at which these have as much, by the model. -/
namespace Go.Proofs.Ytfcienghlbnjbaa
open Go.RowKit
open V (sumN detN rowC colC cofN minorN skip sgn Asc)

/-- The first j numbers of row p of the differences; the first i rows. -/
def dfR (a : List (List Int)) (r : Nat → Nat) (p j : Nat) : List Int := (List.range j).map fun q => mf a r p q
def dfL (a : List (List Int)) (r : Nat → Nat) (k i : Nat) : List (List Int) := (List.range i).map fun p => dfR a r p k
theorem dfR_succ (a : List (List Int)) (r : Nat → Nat) (p j : Nat) : dfR a r p (j + 1) = dfR a r p j ++ [mf a r p j] := by simp [dfR, List.range_succ]
theorem dfL_succ (a : List (List Int)) (r : Nat → Nat) (k i : Nat) : dfL a r k (i + 1) = dfL a r k i ++ [dfR a r i k] := by simp [dfL, List.range_succ]
theorem dfR_len (a : List (List Int)) (r : Nat → Nat) (p j : Nat) : (dfR a r p j).length = j := by simp [dfR]
theorem dfL_len (a : List (List Int)) (r : Nat → Nat) (k i : Nat) : (dfL a r k i).length = i := by simp [dfL]
theorem dfL_sq (a : List (List Int)) (r : Nat → Nat) (k : Nat) : Sq k (dfL a r k k) (mf a r) :=
  ⟨dfL_len _ _ _ _, fun p hp => by rw [gr_get (by rw [dfL_len]; exact hp)]; simp [dfL, dfR], fun p q hp hq => by
    unfold g2; rw [gr_get (by rw [dfL_len]; exact hp), gi_get (by simp [dfL, dfR]; exact hq)]; simp [dfL, dfR]⟩
theorem dfR_zero {a : List (List Int)} {r : Nat → Nat} {p j : Nat} (h : p = 0) : dfR a r p (j + 1) = dfR a r p j ++ [1] := by subst h; exact dfR_succ _ _ _ _
theorem dfR_next {a : List (List Int)} {r : Nat → Nat} {p j : Nat} (h : p ≠ 0) : dfR a r p (j + 1) = dfR a r p j ++ [g2 a (r p) (r j) - g2 a (r 0) (r j)] := by
  rw [dfR_succ, mf, if_neg h]
theorem mf_odd {a : List (List Int)} {r : Nat → Nat} {k c : Nat} (hk : k ≤ 3) (hc : c < k) (h : c % 2 = 1) : gi (kY a r r k) c = -(detN (k - 1) (minorN (mf a r) 0 c)) := by
  rw [← mf_cof hk hc, cofN_odd (by omega)]
theorem mf_even {a : List (List Int)} {r : Nat → Nat} {k c : Nat} (hk : k ≤ 3) (hc : c < k) (h : ¬ c % 2 = 1) : gi (kY a r r k) c = detN (k - 1) (minorN (mf a r) 0 c) := by
  rw [← mf_cof hk hc, cofN_even (by omega)]

/-- Shares of some strategies at which these have as much, and that they are at rest; or that there are none. -/
def NewW (w : World) (a : List (List Int)) (k : Nat) (r : Nat → Nat) (e : Ending) (w' : World) : Prop :=
  (LevAt a k r ∧ ∃ A1 c1 g, e = .returned (.tuple #[.slice A1 a.length c1, .bool true]) ∧ OwnI w.heap.size w'.heap.size w' g A1 a.length c1 (shr a.length r (kY a r r k) k) ∧ Below w.heap.size w w') ∨
  (¬ LevAt a k r ∧ ∃ v, e = .returned (.tuple #[v, .bool false]) ∧ Below w.heap.size w w')

theorem newW_of {w w' : World} {a : List (List Int)} {k n : Nat} {r : Nat → Nat} {A : Option Addr} {c g : Nat} (hl : a.length = n) (ho : OwnI w.heap.size w'.heap.size w' g A n c (shr n r (kY a r r k) k)) (hb : Below w.heap.size w w') :
    NewW w a k r (.returned (.tuple #[.slice A n c, .bool (pb (LevAt a k r))])) w' := by
  subst hl
  by_cases h : LevAt a k r
  · rw [pb_true h]; exact .inl ⟨h, A, c, g, rfl, ho, hb⟩
  · rw [pb_false h]; exact .inr ⟨h, _, rfl, hb⟩

set_option maxRecDepth 100000 in
set_option maxHeartbeats 6400000 in
theorem restOn_any (b o : Nat) (rb ro cc : Nat → Nat) (n c k cx : Nat) (X : Option Addr) (a : List (List Int)) (r : Nat → Nat) (w : World) (ht : Tab w b o rb ro cc n n a) (hx : Pl w X k cx r n) (hq : VQ a) (hl : a.length = n) (h1 : 1 ≤ k) (hk : k ≤ 3) (hr : Asc n k r) :
    Calls Try.prog 45 #[.slice (some ⟨b, o, none⟩) n c, .slice X k cx] w (NewW w a k r) := by
  have HT := Lib.hid ht
  have HX := Lib.hid hx
  have HV := Lib.hid hq
  have HL := Lib.hid hl
  have HR := Lib.hid (show Asc a.length k r by rw [hl]; exact hr)
  have hn3 := ht.n3
  have HAB := Lib.hid (mf_ab hq.1 hq.2 (show Asc a.length k r by rw [hl]; exact hr))
  obtain ⟨bx, ox, rfl, hcx⟩ := hx.ints.at_ (by omega)
  have c0 := hcx 0 (by omega)
  rw [gi_lstN (by omega)] at c0
  simp only [Nat.add_zero] at c0
  have HC0 := Lib.hid c0
  have hr0 := hx.lt 0 (by omega)
  have HR0 := Lib.hid (ht.row (r 0) hr0)
  have HCX := Lib.hid hcx
  have HS0 := Lib.hid (TM.start w)
  obtain ⟨i0, hi0, hz0, hz1, hz2⟩ := info_parts Try.infoI
  clear ht hx hq hl hr hcx c0
  go_enter Try.func45, Try.ntmps45
  go_wp2
  go_loopw [7, 8] (fun v i wr => ∃ (p : Nat) (vs : List Value), p ≤ k ∧ i = .int .i64 p ∧ Hid (TM w v vs (dfL a r k p) wr)) (fun _ i _ => k - (intOf i).toNat)
  case atStart => exact ⟨0, [], Nat.zero_le _, rfl, HS0⟩
  case round =>
    clear HS0
    obtain ⟨p, vs, hp, rfl, HTM⟩ := hrel
    obtain ⟨Av, cv, rfl⟩ := HTM.out.bo.form
    by_cases hlt : p < k
    · have HI := Lib.hid HTM.out.row
      clear HTM
      have c1 := HCX.out p hlt
      rw [gi_lstN hlt] at c1
      have HC1 := Lib.hid c1
      have hrp := HX.out.lt p hlt
      have HRW := Lib.hid (HT.out.row (r p) hrp)
      clear c1
      go_wp2
      generalize wr.heap.size = N at *
      go_loopw [9, 10] (fun u j wi => ∃ (q : Nat), q ≤ k ∧ j = .int .i64 q ∧ Hid (TN w N (.slice Av (dfL a r k p).length cv) vs (dfL a r k p) u (dfR a r p q) wi)) (fun _ j _ => k - (intOf j).toNat)
      case atStart => exact ⟨0, Nat.zero_le _, rfl, HI⟩
      case round =>
        clear HI
        obtain ⟨q, hq, rfl, HI⟩ := hrel
        obtain ⟨Au, cu, rfl⟩ := HI.out.bi.form
        by_cases hlm : q < k
        · have HML := Lib.hid (dfR_len a r p q)
          by_cases hp0 : p = 0
          · have hpz : ((p : Int) == 0) = true := by simp; omega
            have HRS := Lib.hid (dfR_zero (a := a) (r := r) (j := q) hp0)
            clear hp0
            have hHs := HI.out.hs
            have hlh := HI.out.lh
            generalize dfR a r p q = ys at *
            have hb := below_alloc wr (.cells #[iv 1] 3)
            have HB4 := Lib.hid ((HI.out.bi.below hb).own)
            have HN := Lib.hid (cell_one_new wr (iv 1) 3)
            have hyl : ys.length ≤ 3 := by have := HML.out; omega
            clear hb
            go_wp2_with (at_builtin; refine wpList_append_own_at _ rfl _ _ 24 rfl N 3 i0 (.int .i64 0) 1 8 Try.underlying24 hi0 hz0 hz1 hz2 rfl (by decide) _ ys.length (ys.map iv) rfl HB4.out ⟨wr.heap.size, 0, none⟩ 1 1 [iv 1] rfl rfl ?c1 ?c2 ?c3 ?c4 ?c5 ?_)
            case c1 => exact HN.out
            case c2 => intro u hu; simp at hu; subst hu; rfl
            case c3 => unfold maxLen; omega
            case c4 => omega
            case c5 => simp; omega
            intro v' w5 hown' hgrow _ hat
            have HI5 := Lib.hid (HI.out.push hown' hgrow (by simpa using hat))
            clear HB4 HN hown' hgrow hat HI
            go_wp2
            go_roundw
            case rel => exact ⟨q + 1, by omega, by go_num, Lib.hid (by rw [HRS.out]; exact HI5.out)⟩
            case measure => simp [intOf]; omega
          · have hpz : ((p : Int) == 0) = false := by simp; omega
            have HRS := Lib.hid (dfR_next (a := a) (r := r) (p := p) (j := q) hp0)
            have c2 := HCX.out q hlm
            rw [gi_lstN hlm] at c2
            have hsq := HX.out.lt q hlm
            have c3 := HT.out.cell (r p) (r q) hrp hsq
            have c4 := HT.out.cell (r 0) (r q) hr0 hsq
            obtain ⟨z1, z2⟩ := HT.out.bd (r p) (r q) hrp hsq
            obtain ⟨z3, z4⟩ := HT.out.bd (r 0) (r q) hr0 hsq
            have HKA := Lib.hid (And.intro (And.intro (And.intro HC1.out HRW.out) (And.intro c2 c3)) (And.intro (And.intro HC0.out HR0.out) c4))
            have HKB := Lib.hid (show (_ ∧ _) ∧ _ from And.intro (And.intro (And.intro (Keep.below HI.out.up _ _ HC1.out) (Keep.below HI.out.up _ _ HRW.out)) (And.intro (Keep.below HI.out.up _ _ c2) (Keep.below HI.out.up _ _ c3))) (And.intro (And.intro (Keep.below HI.out.up _ _ HC0.out) (Keep.below HI.out.up _ _ HR0.out)) (Keep.below HI.out.up _ _ c4)))
            have hHs := HI.out.hs
            have hlh := HI.out.lh
            have hk0 : 0 < k := by omega
            have hk0' : (0 : Int) < (k : Int) := by omega
            have HPR := Lib.hid hrp
            have HSQ := Lib.hid hsq
            clear c2 c3 c4
            generalize g2 a (r p) (r q) = x at *
            generalize g2 a (r 0) (r q) = y at *
            generalize dfR a r p q = ys at *
            have hyl : ys.length ≤ 3 := by have := HML.out; omega
            generalize hrr : r p = R at *
            have HRR := Lib.hid hrr
            generalize hss : r q = S at *
            have HSS := Lib.hid hss
            generalize hzz : r 0 = Z at *
            have HZZ := Lib.hid hzz
            clear hrr hss hzz
            have HW : Hid (IntKind.i64.wrap (x - y) = x - y) := Lib.hid (wrapIn (by omega))
            have k1 := HKB.out.1.1.1
            have k2 := HKB.out.1.1.2
            have k3 := HKB.out.1.2.1
            have k4 := HKB.out.1.2.2
            have k5 := HKB.out.2.1.1
            have k6 := HKB.out.2.1.2
            have k7 := HKB.out.2.2
            go_wp2
            go_region_held3 (fun W => ((W.cell? ⟨bx, ox + p, none⟩ = some (.int .i64 R) ∧ W.cell? ⟨b, o + R, none⟩ = some (.slice (some ⟨rb R, ro R, none⟩) n (cc R))) ∧ (W.cell? ⟨bx, ox + q, none⟩ = some (.int .i64 S) ∧ W.cell? ⟨rb R, ro R + S, none⟩ = some (.int .i64 x))) ∧ ((W.cell? ⟨bx, ox, none⟩ = some (.int .i64 Z) ∧ W.cell? ⟨b, o + Z, none⟩ = some (.slice (some ⟨rb Z, ro Z, none⟩) n (cc Z))) ∧ W.cell? ⟨rb Z, ro Z + S, none⟩ = some (.int .i64 y)))
              (first | exact HKK.out | exact HKB.out | go_keep)
              ((refine step_append_lies _ (by rfl) _ _ _ (by rfl) N 3 i0 _ 1 8 Try.underlying24 hi0 hz0 hz1 hz2 rfl (by omega) (.slice Au ys.length cu) ys.length (ys.map iv) (by rfl) ((HI.out.bi.own.alloc _).drew) ⟨wr.heap.size, 0, none⟩ 1 1 [iv (IntKind.i64.wrap (x - y))] (by rfl) (by rfl) (World.news_of_block (w := (wr.alloc (.cells #[iv (IntKind.i64.wrap (x - y))] 3)).drew) (cs := #[iv (IntKind.i64.wrap (x - y))]) (t := 3) (fr := (0, 0)) (heap_alloc_new wr _)) (by simp [Value.oneCell', iv]) (by omega) (by unfold maxLen; omega) (by omega) (by simp; omega) (wr.heap.size + 1) (by simp) ?_; intro gg cap w1 hown1 hgrow hat hlt1; rw [HW.out] at hown1; have HI2 := Lib.hid (HI.out.push2 ((below_alloc wr _).drew) hown1 hgrow hlt1); have HKK := Lib.hid (And.intro (And.intro (And.intro (Keep.below HI2.out.up _ _ HKA.out.1.1.1) (Keep.below HI2.out.up _ _ HKA.out.1.1.2)) (And.intro (Keep.below HI2.out.up _ _ HKA.out.1.2.1) (Keep.below HI2.out.up _ _ HKA.out.1.2.2))) (And.intro (And.intro (Keep.below HI2.out.up _ _ HKA.out.2.1.1) (Keep.below HI2.out.up _ _ HKA.out.2.1.2)) (Keep.below HI2.out.up _ _ HKA.out.2.2))); clear hown1 hgrow hat hlt1 HI))
            clear k1 k2 k3 k4 k5 k6 k7
            go_wp2
            go_roundw
            case rel => exact ⟨q + 1, by omega, by go_num, Lib.hid (by rw [HRS.out]; first | exact HI2.out | exact HI2.out.qu ⟨1, rfl⟩ | exact HI2.out.qu ⟨_, rfl⟩)⟩
            case measure => simp [intOf]; omega
        · obtain rfl : q = k := by omega
          have HBD := Lib.hid (show ∀ x ∈ dfR a r p q, -27 ≤ x ∧ x ≤ 27 from fun x hx => by
            obtain ⟨j, hj, rfl⟩ := List.mem_map.1 hx
            exact HAB.out p j hlt (List.mem_range.1 hj))
          obtain ⟨Ar, nr, cr, gg, e, rfl, ho, _⟩ := HI.out.bi.owns (by rw [dfR_len]; omega) (fun x hx => by have := HBD.out x hx; omega)
          injection e with e1 _ e3
          subst e1
          subst e3
          have HO := Lib.hid ho
          have HML := Lib.hid (dfR_len a r p q)
          have HTL := Lib.hid (dfL_len a r q p)
          have HMS := Lib.hid (dfL_succ a r q p)
          have hb := below_alloc wr (.cells #[.slice Au (dfR a r p q).length cu] 24)
          have HB4 := Lib.hid (HI.out.bo.below hb).own
          have HN := Lib.hid (cell_one_new wr (.slice Au (dfR a r p q).length cu) 24)
          have hHs := HI.out.hs
          have hlh := HI.out.lh
          clear hb ho HBD
          generalize dfR a r p q = ys at *
          generalize dfL a r q p = ms at *
          obtain ⟨i0', hi0', hz0', hz1', hz2'⟩ := info_parts Try.info_row
          go_wp2_with (at_builtin; refine wpList_append_own_at _ rfl _ _ 23 rfl w.heap.size 24 i0' (.slice none 0 0) 1 24 Try.underlying23 hi0' hz0' hz1' hz2' rfl (by decide) _ ms.length vs rfl HB4.out ⟨wr.heap.size, 0, none⟩ 1 1 [.slice Au ys.length cu] rfl rfl ?d1 ?d2 ?d3 ?d4 ?d5 ?_)
          case d2 => rfl
          case d3 => have := HTL.out; unfold maxLen; omega
          case d4 => have := HTL.out; omega
          case d5 => omega
          intro v' w5 hown' hgrow _ hat
          have HT5 := Lib.hid (HI.out.done HO.out hown' hgrow (by simpa using hat))
          clear HB4 HN hown' hgrow hat HI HO
          go_wp2
          go_roundw
          case rel => exact ⟨p + 1, _, by omega, by go_num, Lib.hid (by rw [HMS.out]; exact HT5.out)⟩
          case measure => simp [intOf]; omega
    · obtain rfl : p = k := by omega
      obtain ⟨A', n', c', gg, e, hn', hown⟩ := HTM.out.bo.owns (by rw [dfL_len]; omega)
      injection e with e1 e2 e3
      subst e1
      subst e2
      subst e3
      have HSQ := Lib.hid (dfL_sq a r p)
      have HML := Lib.hid HSQ.out.len
      have HIR := Lib.hid hown.rows
      rw [HML.out] at HIR ⊢
      have HB := Lib.hid HTM.out.up
      have HSM := Lib.hid (HSQ.out.small hk HAB.out)
      have HDT := Lib.hid (mf_det (a := a) (r := r) h1 hk)
      have HYL := Lib.hid (kY_len a r r p)
      have HBD := Lib.hid (det_small hk HAB.out)
      clear hown HTM hn'
      have HC := Lib.hid (det_any p hk _ _ _ _ wr HIR.out HSQ.out HAB.out)
      by_cases hd0 : detN p (mf a r) = 0
      · have HNO := Lib.hid (show ¬ LevAt a p r from fun h => by
          have := (lev_sum h.1 (by rw [kY_len]; omega)).1
          rw [kY_len, ← HDT.out] at this
          exact this hd0)
        rw [hd0] at HC
        clear hd0
        go_wp2_with fail
        refine HC.out.mono ?_
        rintro e w1 ⟨rfl, hb⟩
        have HB1 := Lib.hid (below_up HB.out hb)
        clear hb HC
        go_wp2
        go_ret2
        exact .inr ⟨HNO.out, _, rfl, HB1.out⟩
      have hdz : (detN p (mf a r) == 0) = false := by simpa using hd0
      have HD0 := Lib.hid hd0
      clear hd0
      generalize hD : detN p (mf a r) = D at *
      have HDD := Lib.hid hD
      obtain ⟨D1, D2⟩ := HBD.out
      clear hD
      go_wp2_with fail
      refine HC.out.mono ?_
      rintro e w1 ⟨rfl, hb⟩
      have HB1 := Lib.hid (below_up HB.out hb)
      have HIR1 := Lib.hid (HIR.out.keep (Keep.below hb))
      clear hb HC HB HIR
      have HS1 := Lib.hid (IU.start w1)
      have HZ : Hid (zsg (kY a r r p) p = if D < 0 then -1 else 1) := Lib.hid (by unfold zsg; rw [← HDT.out])
      have HZO := Lib.hid (zsg_or (kY a r r p) p)
      have HYB := Lib.hid (fun q (hq : q < p) => kY_bd HV.out.1 hk HR.out (by rw [← HV.out.2]; exact HR.out) (p := q) (by rw [kY_len]; exact hq))
      go_wp2
      generalize zsg (kY a r r p) p = z at *
      go_loopw [11, 12] (fun v i wr => ∃ (c : Nat), c ≤ p ∧ i = .int .i64 c ∧ Hid (IU w1 v (sgL (kY a r r p) z c) wr) ∧ Hid (∀ q, q < c → 0 < z * gi (kY a r r p) q)) (fun _ i _ => p - (intOf i).toNat)
      case atStart => exact ⟨0, Nat.zero_le _, rfl, HS1, Lib.hid (fun _ h => absurd h (by omega))⟩
      case round =>
        clear HS1
        obtain ⟨c, hc, rfl, HI, HALL⟩ := hrel
        obtain ⟨Av, cv, rfl⟩ := HI.out.bi.form
        by_cases hlt : c < p
        · have HC := Lib.hid (minor_any _ p _ _ 0 c wr (HIR1.out.keep (Keep.below HI.out.up)) HSM.out HSQ.out.even (by omega) (by omega))
          have HYC := HYB.out c hlt
          have HBC := Lib.hid (det_small (k := p - 1) (by omega) (HAB.out.minor' (by omega) 0 c))
          have HOD := Lib.hid (mf_odd (a := a) (r := r) hk hlt)
          have HEV := Lib.hid (mf_even (a := a) (r := r) hk hlt)
          have HSS := Lib.hid (sgL_succ (kY a r r p) z c)
          have HSL := Lib.hid (sgL_len (kY a r r p) z c)
          have HNX : Hid (0 < z * gi (kY a r r p) c → ∀ q, q < c + 1 → 0 < z * gi (kY a r r p) q) := Lib.hid (fun h q hq => by
            by_cases e : q = c
            · subst e; exact h
            · exact HALL.out q (by omega))
          have HNO : Hid (¬ 0 < z * gi (kY a r r p) c → ¬ LevAt a p r) := Lib.hid (fun h l => by
            have := (lev_sum l.1 (by rw [kY_len]; omega)).2 c (by rw [kY_len]; exact hlt)
            rw [kY_len] at this
            have e : zsg (kY a r r p) p = z := by rw [HZ.out]; unfold zsg; rw [← HDT.out]
            rw [e] at this; exact h this)
          go_wp2_with fail
          refine HC.out.mono ?_
          rintro e w2 ⟨A2, n2, c2, g2_, rfl, hn2, ho, hb⟩
          have HI2 := Lib.hid (HI.out.next hb)
          have HQ2 := Lib.hid (HSQ.out.minor' (r := 0) (c := c) (by omega) hlt)
          have HO2 := Lib.hid ho.rows
          obtain rfl : n2 = p - 1 := hn2.trans HQ2.out.len
          clear hb HC hn2 ho HI
          have HC := Lib.hid (det_any (p - 1) (by omega) _ _ _ _ w2 HO2.out HQ2.out (HAB.out.minor' (by omega) 0 c))
          have HBN := HBC.out
          generalize detN (p - 1) (minorN (mf a r) 0 c) = d at *
          generalize hyy : gi (kY a r r p) c = y at *
          have HYY := Lib.hid hyy
          clear hyy
          go_wp2_with fail
          refine HC.out.mono ?_
          rintro e w3 ⟨rfl, hb⟩
          have HI3 := Lib.hid (HI2.out.next hb)
          have HIR3 := Lib.hid (HIR1.out.keep (Keep.below HI3.out.up))
          clear hb HC HI2 HO2 HQ2
          have HC := Lib.hid (HDD.out ▸ det_any p hk _ _ _ _ w3 HIR3.out HSQ.out HAB.out)
          obtain ⟨y1, y2⟩ := HYC
          obtain ⟨b1, b2⟩ := HBN
          by_cases hpp : c % 2 = 1
          · by_cases hdn : D < 0
            · skip
              have HY1 := Lib.hid (HOD.out hpp)
              have HZ1 := Lib.hid (show z = -1 by rw [HZ.out, if_pos hdn])
              have e0 : ((c : Int) % 2 == 1) = true := by simp; omega
              have e1 : decide (D < 0) = true := by simpa using hdn
              have HVL := Lib.hid (show z * y = d by rw [HZ1.out, HY1.out]; omega)
              clear HY1 HZ1 HOD HEV HZ HZO
              by_cases hle : d ≤ 0
              · have HX2 := Lib.hid (HNO.out (by rw [HVL.out]; omega))
                clear HNO HNX
                go_wp2_with fail
                refine HC.out.mono ?_
                rintro e w4 ⟨rfl, hb⟩
                have HI4 := Lib.hid (HI3.out.next hb)
                clear hb HC HI3 HIR3
                have HB5 := Lib.hid (below_up HB1.out HI4.out.up)
                go_wp2
                go_ret2
                exact .inr ⟨HX2.out, _, rfl, HB5.out⟩
              · have HX2 := Lib.hid (HNX.out (by rw [HVL.out]; omega))
                clear HNO HNX
                go_wp2_with fail
                refine HC.out.mono ?_
                rintro e w4 ⟨rfl, hb⟩
                have HI4 := Lib.hid (HI3.out.next hb)
                clear hb HC HI3 HIR3
                rw [HVL.out] at HSS
                have hyl : (sgL (kY a r r p) z c).length ≤ 3 := by rw [HSL.out]; omega
                have HYY2 := Lib.hid (show sgL (kY a r r p) z c = sgL (kY a r r p) z c from rfl)
                generalize sgL (kY a r r p) z c = ys at *
                have hb := below_alloc w4 (.cells #[iv (d)] 3)
                have HB4 := Lib.hid ((HI4.out.bi.below hb).own)
                have HN := Lib.hid (cell_one_new w4 (iv (d)) 3)
                have hwz := HI4.out.up.size
                clear hb
                go_wp2_with (at_builtin; refine wpList_append_own_at _ rfl _ _ 24 rfl w1.heap.size 3 i0 (.int .i64 0) 1 8 Try.underlying24 hi0 hz0 hz1 hz2 rfl (by decide) _ ys.length (ys.map iv) rfl HB4.out ⟨w4.heap.size, 0, none⟩ 1 1 [iv (d)] rfl rfl ?c1 ?c2 ?c3 ?c4 ?c5 ?_)
                case c1 => exact HN.out
                case c2 => intro u hu; simp at hu; subst hu; rfl
                case c3 => unfold maxLen; omega
                case c4 => omega
                case c5 => simp; omega
                intro v' w5 hown' hgrow _ hat
                have HI5 := Lib.hid (HI4.out.push hown' hgrow (by simpa using hat))
                clear HB4 HN hown' hgrow hat HI4
                go_wp2
                go_roundw
                case rel => exact ⟨c + 1, by omega, by go_num, Lib.hid (by rw [HSS.out]; exact HI5.out), HX2⟩
                case measure => simp [intOf]; omega
            · skip
              have HY1 := Lib.hid (HOD.out hpp)
              have HZ1 := Lib.hid (show z = 1 by rw [HZ.out, if_neg hdn])
              have e0 : ((c : Int) % 2 == 1) = true := by simp; omega
              have e1 : decide (D < 0) = false := by simpa using hdn
              have HVL := Lib.hid (show z * y = -d by rw [HZ1.out, HY1.out]; omega)
              clear HY1 HZ1 HOD HEV HZ HZO
              by_cases hle : -d ≤ 0
              · have HX2 := Lib.hid (HNO.out (by rw [HVL.out]; omega))
                clear HNO HNX
                go_wp2_with fail
                refine HC.out.mono ?_
                rintro e w4 ⟨rfl, hb⟩
                have HI4 := Lib.hid (HI3.out.next hb)
                clear hb HC HI3 HIR3
                have HB5 := Lib.hid (below_up HB1.out HI4.out.up)
                go_wp2
                go_ret2
                exact .inr ⟨HX2.out, _, rfl, HB5.out⟩
              · have HX2 := Lib.hid (HNX.out (by rw [HVL.out]; omega))
                clear HNO HNX
                go_wp2_with fail
                refine HC.out.mono ?_
                rintro e w4 ⟨rfl, hb⟩
                have HI4 := Lib.hid (HI3.out.next hb)
                clear hb HC HI3 HIR3
                rw [HVL.out] at HSS
                have hyl : (sgL (kY a r r p) z c).length ≤ 3 := by rw [HSL.out]; omega
                have HYY2 := Lib.hid (show sgL (kY a r r p) z c = sgL (kY a r r p) z c from rfl)
                generalize sgL (kY a r r p) z c = ys at *
                have hb := below_alloc w4 (.cells #[iv (-d)] 3)
                have HB4 := Lib.hid ((HI4.out.bi.below hb).own)
                have HN := Lib.hid (cell_one_new w4 (iv (-d)) 3)
                have hwz := HI4.out.up.size
                clear hb
                go_wp2_with (at_builtin; refine wpList_append_own_at _ rfl _ _ 24 rfl w1.heap.size 3 i0 (.int .i64 0) 1 8 Try.underlying24 hi0 hz0 hz1 hz2 rfl (by decide) _ ys.length (ys.map iv) rfl HB4.out ⟨w4.heap.size, 0, none⟩ 1 1 [iv (-d)] rfl rfl ?c1 ?c2 ?c3 ?c4 ?c5 ?_)
                case c1 => exact HN.out
                case c2 => intro u hu; simp at hu; subst hu; rfl
                case c3 => unfold maxLen; omega
                case c4 => omega
                case c5 => simp; omega
                intro v' w5 hown' hgrow _ hat
                have HI5 := Lib.hid (HI4.out.push hown' hgrow (by simpa using hat))
                clear HB4 HN hown' hgrow hat HI4
                go_wp2
                go_roundw
                case rel => exact ⟨c + 1, by omega, by go_num, Lib.hid (by rw [HSS.out]; exact HI5.out), HX2⟩
                case measure => simp [intOf]; omega
          · by_cases hdn : D < 0
            · skip
              have HY1 := Lib.hid (HEV.out hpp)
              have HZ1 := Lib.hid (show z = -1 by rw [HZ.out, if_pos hdn])
              have e0 : ((c : Int) % 2 == 1) = false := by simp; omega
              have e1 : decide (D < 0) = true := by simpa using hdn
              have HVL := Lib.hid (show z * y = -d by rw [HZ1.out, HY1.out]; omega)
              clear HY1 HZ1 HOD HEV HZ HZO
              by_cases hle : -d ≤ 0
              · have HX2 := Lib.hid (HNO.out (by rw [HVL.out]; omega))
                clear HNO HNX
                go_wp2_with fail
                refine HC.out.mono ?_
                rintro e w4 ⟨rfl, hb⟩
                have HI4 := Lib.hid (HI3.out.next hb)
                clear hb HC HI3 HIR3
                have HB5 := Lib.hid (below_up HB1.out HI4.out.up)
                go_wp2
                go_ret2
                exact .inr ⟨HX2.out, _, rfl, HB5.out⟩
              · have HX2 := Lib.hid (HNX.out (by rw [HVL.out]; omega))
                clear HNO HNX
                go_wp2_with fail
                refine HC.out.mono ?_
                rintro e w4 ⟨rfl, hb⟩
                have HI4 := Lib.hid (HI3.out.next hb)
                clear hb HC HI3 HIR3
                rw [HVL.out] at HSS
                have hyl : (sgL (kY a r r p) z c).length ≤ 3 := by rw [HSL.out]; omega
                have HYY2 := Lib.hid (show sgL (kY a r r p) z c = sgL (kY a r r p) z c from rfl)
                generalize sgL (kY a r r p) z c = ys at *
                have hb := below_alloc w4 (.cells #[iv (-d)] 3)
                have HB4 := Lib.hid ((HI4.out.bi.below hb).own)
                have HN := Lib.hid (cell_one_new w4 (iv (-d)) 3)
                have hwz := HI4.out.up.size
                clear hb
                go_wp2_with (at_builtin; refine wpList_append_own_at _ rfl _ _ 24 rfl w1.heap.size 3 i0 (.int .i64 0) 1 8 Try.underlying24 hi0 hz0 hz1 hz2 rfl (by decide) _ ys.length (ys.map iv) rfl HB4.out ⟨w4.heap.size, 0, none⟩ 1 1 [iv (-d)] rfl rfl ?c1 ?c2 ?c3 ?c4 ?c5 ?_)
                case c1 => exact HN.out
                case c2 => intro u hu; simp at hu; subst hu; rfl
                case c3 => unfold maxLen; omega
                case c4 => omega
                case c5 => simp; omega
                intro v' w5 hown' hgrow _ hat
                have HI5 := Lib.hid (HI4.out.push hown' hgrow (by simpa using hat))
                clear HB4 HN hown' hgrow hat HI4
                go_wp2
                go_roundw
                case rel => exact ⟨c + 1, by omega, by go_num, Lib.hid (by rw [HSS.out]; exact HI5.out), HX2⟩
                case measure => simp [intOf]; omega
            · skip
              have HY1 := Lib.hid (HEV.out hpp)
              have HZ1 := Lib.hid (show z = 1 by rw [HZ.out, if_neg hdn])
              have e0 : ((c : Int) % 2 == 1) = false := by simp; omega
              have e1 : decide (D < 0) = false := by simpa using hdn
              have HVL := Lib.hid (show z * y = d by rw [HZ1.out, HY1.out]; omega)
              clear HY1 HZ1 HOD HEV HZ HZO
              by_cases hle : d ≤ 0
              · have HX2 := Lib.hid (HNO.out (by rw [HVL.out]; omega))
                clear HNO HNX
                go_wp2_with fail
                refine HC.out.mono ?_
                rintro e w4 ⟨rfl, hb⟩
                have HI4 := Lib.hid (HI3.out.next hb)
                clear hb HC HI3 HIR3
                have HB5 := Lib.hid (below_up HB1.out HI4.out.up)
                go_wp2
                go_ret2
                exact .inr ⟨HX2.out, _, rfl, HB5.out⟩
              · have HX2 := Lib.hid (HNX.out (by rw [HVL.out]; omega))
                clear HNO HNX
                go_wp2_with fail
                refine HC.out.mono ?_
                rintro e w4 ⟨rfl, hb⟩
                have HI4 := Lib.hid (HI3.out.next hb)
                clear hb HC HI3 HIR3
                rw [HVL.out] at HSS
                have hyl : (sgL (kY a r r p) z c).length ≤ 3 := by rw [HSL.out]; omega
                have HYY2 := Lib.hid (show sgL (kY a r r p) z c = sgL (kY a r r p) z c from rfl)
                generalize sgL (kY a r r p) z c = ys at *
                have hb := below_alloc w4 (.cells #[iv (d)] 3)
                have HB4 := Lib.hid ((HI4.out.bi.below hb).own)
                have HN := Lib.hid (cell_one_new w4 (iv (d)) 3)
                have hwz := HI4.out.up.size
                clear hb
                go_wp2_with (at_builtin; refine wpList_append_own_at _ rfl _ _ 24 rfl w1.heap.size 3 i0 (.int .i64 0) 1 8 Try.underlying24 hi0 hz0 hz1 hz2 rfl (by decide) _ ys.length (ys.map iv) rfl HB4.out ⟨w4.heap.size, 0, none⟩ 1 1 [iv (d)] rfl rfl ?c1 ?c2 ?c3 ?c4 ?c5 ?_)
                case c1 => exact HN.out
                case c2 => intro u hu; simp at hu; subst hu; rfl
                case c3 => unfold maxLen; omega
                case c4 => omega
                case c5 => simp; omega
                intro v' w5 hown' hgrow _ hat
                have HI5 := Lib.hid (HI4.out.push hown' hgrow (by simpa using hat))
                clear HB4 HN hown' hgrow hat HI4
                go_wp2
                go_roundw
                case rel => exact ⟨c + 1, by omega, by go_num, Lib.hid (by rw [HSS.out]; exact HI5.out), HX2⟩
                case measure => simp [intOf]; omega
        · obtain rfl : c = p := by omega
          have HLV := Lib.hid (show LevP (kY a r r c) from lev_of HZO.out (fun q hq => HALL.out q (by rw [HYL.out] at hq; exact hq)))
          have HSL := Lib.hid (sgL_len (kY a r r c) z c)
          have HCL := Lib.hid (show ClrP (sgL (kY a r r c) z c) from (LevP.clr (.inl fun q hq => by rw [sgL_len] at hq; rw [gi_sgL hq]; exact HALL.out q hq) (by rw [sgL_len]; omega)))
          have HMD := Lib.hid (show ∀ q, q < (sgL (kY a r r c) z c).length → Mid (gi (sgL (kY a r r c) z c) q) from fun q hq => by
            rw [sgL_len] at hq; rw [gi_sgL hq]
            have := HYB.out q hq
            unfold Mid
            rcases HZO.out with e | e <;> rw [e] <;> omega)
          have HSB := Lib.hid (show ∀ y ∈ sgL (kY a r r c) z c, -1000000000000000 ≤ y ∧ y ≤ 1000000000000000 from fun y hy => by
            obtain ⟨q, hq, rfl⟩ := List.mem_map.1 hy
            have := HYB.out q (List.mem_range.1 hq)
            rcases HZO.out with e | e <;> rw [e] <;> omega)
          have HIN := Lib.hid (HI.out.ints (by rw [HSL.out]; omega) HSB.out)
          have HB2 := Lib.hid (below_up HB1.out HI.out.up)
          have HSR := Lib.hid (shr_sgL (X := kY a r r c) HZO.out (n := n) (r := r) HYL.out)
          have HSV := Lib.hid (shr_VS (n := n) (kY_len a r r c) (by rw [← HL.out]; exact HR.out) (HLV.out.clr (by rw [kY_len]; omega)) (fun q hq => HYB.out q (by rw [HYL.out] at hq; exact hq)))
          have HC := Lib.hid (cleared_any Av _ cv _ wr HIN.out HMD.out (by rw [HSL.out]; exact hk))
          clear HSB HI HMD
          rw [HSL.out] at HC HIN ⊢
          go_wp2_with fail
          refine HC.out.mono ?_
          rintro e w2 hcl
          obtain ⟨A2, n2, c2, g2_, rfl, hn2, ho, hb⟩ : ∃ Av nq cq gg, e = .returned (.tuple #[.slice Av nq cq, .bool true]) ∧ nq = (sgL (kY a r r c) z c).length ∧ OwnI wr.heap.size w2.heap.size w2 gg Av nq cq (clrL (sgL (kY a r r c) z c) (gcdL (sgL (kY a r r c) z c) (sgL (kY a r r c) z c).length) (sgL (kY a r r c) z c).length) ∧ Below wr.heap.size wr w2 := by
            rcases hcl with ⟨_, h⟩ | ⟨h, _⟩
            · exact h
            · exact absurd HCL.out h
          rw [HSL.out] at hn2
          subst hn2
          have HO2 := Lib.hid ho.ints
          have HB3 := Lib.hid (below_up HB2.out hb)
          clear hcl ho hb HC HIN HB2
          have HC := Lib.hid (spread_any n n2 c2 cx A2 _ _ r w2 HO2.out ⟨HX.out.ints.keep (Keep.below HB3.out), HX.out.lt⟩ (by omega) hk)
          go_wp2_with fail
          refine HC.out.mono ?_
          rintro e w3 ⟨A3, n3, c3, g3, rfl, hn3', ho, hb⟩
          have HB4 := Lib.hid (below_up HB3.out hb)
          have hsz := HB3.out.size
          have HO3 := Lib.hid (show OwnI w.heap.size w3.heap.size w3 g3 A3 n3 c3 (shr n r (kY a r r n2) n2) from by
            rw [← HSR.out]; exact ho.mono hsz (Nat.le_refl _))
          obtain rfl : n3 = n := hn3'.trans (putL_len _ _ _ _)
          clear hn3' ho hb HC HB3 HO2 hsz
          have HC := Lib.hid (fits_any b o rb ro cc n3 c c3 A3 a _ w3 (HT.out.keep (Keep.below HB4.out)) HO3.out.ints (fun j hj => HSV.out.2.1 j (by rw [show (shr n3 r (kY a r r n2) n2).length = n3 from putL_len _ _ _ _]; exact hj)))
          have HRP := Lib.hid (show pb (RestP a (shr n3 r (kY a r r n2) n2) n3) = pb (LevAt a n2 r) from pb_congr (by
            unfold LevAt; rw [HL.out]; exact ⟨fun h => ⟨HLV.out, h⟩, fun h => h.2⟩))
          rw [HRP.out] at HC
          go_wp2_with fail
          refine HC.out.mono ?_
          rintro e w4 ⟨rfl, hb⟩
          have HB5 := Lib.hid (below_up HB4.out hb)
          have HO5 := Lib.hid ((HO3.out.below hb).mono (Nat.le_refl _) hb.size)
          clear hb HC HB4 HO3
          go_wp2
          go_ret2
          exact newW_of HL.out HO5.out HB5.out
end Go.Proofs.Ytfcienghlbnjbaa

/- Best shares by a part of a table, by the model. -/
namespace Go.Proofs.Ytfcienghlbnjbaa
open Go.RowKit
open V (sumN detN rowC colC cofN minorN skip sgn Asc Kern)

/-- Shares by a part, and that they are best; or that there are none. -/
def NewK (w : World) (a : List (List Int)) (k : Nat) (r s : Nat → Nat) (e : Ending) (w' : World) : Prop :=
  (KerP a k r s ∧ ∃ A1 c1 A2 c2, e = .returned (.tuple #[.slice A1 a.length c1, .slice A2 (gr a 0).length c2, .bool true]) ∧ Ints w' A1 a.length c1 (shr a.length r (kX a r s k) k) ∧
    Ints w' A2 (gr a 0).length c2 (shr (gr a 0).length s (kY a r s k) k) ∧ Below w.heap.size w w') ∨
  (¬ KerP a k r s ∧ ∃ v1 v2, e = .returned (.tuple #[v1, v2, .bool false]) ∧ Below w.heap.size w w')
theorem flip_tr {xss : List (List Int)} {k : Nat} {f : Nat → Nat → Int} (h : Sq k xss f) : Sq k (flip xss k k) (trN f) :=
  ⟨flip_len _ _ _, fun p hp => by rw [gr_flip hp]; simp, fun p q hp hq => by
    unfold g2; rw [gr_flip hp, gi_col hq]; exact h.eq q p hq hp⟩
theorem Pl.keep {w w' : World} {X k c r n} (h : Pl w X k c r n) (q : Keep w w') : Pl w' X k c r n := ⟨h.ints.keep q, h.lt⟩

/-- What cleared answers, with its flag as a letter. -/
def ClrV (w' : World) (xs : List Int) (ok : Bool) (v : Value) : Prop :=
  (ok = true ∧ ClrP xs ∧ ∃ A c, v = .slice A xs.length c ∧ Ints w' A xs.length c (clrL xs (gcdL xs xs.length) xs.length)) ∨ (ok = false ∧ ¬ ClrP xs)
theorem NewC.uni {w w' : World} {xs : List Int} {e : Ending} (h : NewC w xs e w') : ∃ ok v, e = .returned (.tuple #[v, .bool ok]) ∧ Below w.heap.size w w' ∧ ClrV w' xs ok v := by
  rcases h with ⟨h1, A, n, c, g, rfl, rfl, ho, hb⟩ | ⟨h1, rfl, hb⟩
  · exact ⟨true, _, rfl, hb, .inl ⟨rfl, h1, A, c, rfl, ho.ints⟩⟩
  · exact ⟨false, _, rfl, hb, .inr ⟨rfl, h1⟩⟩
theorem ClrV.keep {w' w2 : World} {xs : List Int} {ok : Bool} {v : Value} (h : ClrV w' xs ok v) (k : Keep w' w2) : ClrV w2 xs ok v := by
  rcases h with ⟨h1, h2, A, c, h3, h4⟩ | h
  · exact .inl ⟨h1, h2, A, c, h3, h4.keep k⟩
  · exact .inr h
theorem mid_of {x : Int} (h : -648 ≤ x ∧ x ≤ 648) : Mid x := by unfold Mid; omega

end Go.Proofs.Ytfcienghlbnjbaa

/- The value's shares, by the model. -/
namespace Go.Proofs.Ytfcienghlbnjbaa
open Go.RowKit
open V (Asc)

/-- The best shares of a table. -/
def NewV (w : World) (a : List (List Int)) (e : Ending) (w' : World) : Prop :=
  ∃ A1 c1 A2 c2, e = .returned (.tuple #[.slice A1 a.length c1, .slice A2 (gr a 0).length c2]) ∧ Ints w' A1 a.length c1 (bx a) ∧ Ints w' A2 (gr a 0).length c2 (by_ a) ∧ Below w.heap.size w w'
theorem NewK.no {w w' : World} {a : List (List Int)} {k : Nat} {r s : Nat → Nat} {e : Ending} (h : NewK w a k r s e w') (hn : ¬ KerP a k r s) : ∃ v1 v2, e = .returned (.tuple #[v1, v2, .bool false]) ∧ Below w.heap.size w w' := by
  rcases h with ⟨h1, _⟩ | ⟨_, h⟩
  · exact absurd h1 hn
  · exact h
theorem NewK.yes {w w' : World} {a : List (List Int)} {k : Nat} {r s : Nat → Nat} {e : Ending} (h : NewK w a k r s e w') (hn : KerP a k r s) :
    ∃ A1 c1 A2 c2, e = .returned (.tuple #[.slice A1 a.length c1, .slice A2 (gr a 0).length c2, .bool true]) ∧ Ints w' A1 a.length c1 (shr a.length r (kX a r s k) k) ∧
      Ints w' A2 (gr a 0).length c2 (shr (gr a 0).length s (kY a r s k) k) ∧ Below w.heap.size w w' := by
  rcases h with ⟨_, h⟩ | ⟨h1, _⟩
  · exact h
  · exact absurd hn h1
theorem memL_pl {w : World} {A : Option Addr} {n c S m : Nat} (h : Ints w A n c (memL S m)) (e : n = (memL S m).length) : Pl w A n c (idx S m) m := by
  subst e
  exact ⟨by rw [← memL_idx]; exact h, (idx_asc S m).1⟩

end Go.Proofs.Ytfcienghlbnjbaa

/- Fields, by both programs. -/
namespace Go.Proofs.Ytfcienghlbnjbaa
open Go.RowKit

/-- A square of numbers of at least 1. -/
structure VF (a : List (List Int)) : Prop where
  q : VQ a
  p : ∀ i j, i < a.length → j < a.length → 1 ≤ g2 a i j

/-- All the numbers of some lists, one behind the other. -/
theorem catL_all {xss : List (List Int)} {z : Int} : ∀ {i}, i ≤ xss.length → ((∀ x ∈ catL xss i, z ≤ x) ↔ ∀ p, p < i → ∀ x ∈ gr xss p, z ≤ x)
  | 0, _ => ⟨fun _ p h => absurd h (by omega), fun _ x h => by simp [catL] at h⟩
  | i + 1, hi => by
    have ih := catL_all (xss := xss) (z := z) (i := i) (by omega)
    constructor
    · intro h p hp x hx
      by_cases e : p = i
      · subst e; exact h x (by rw [catL, List.mem_append]; exact .inr hx)
      · exact ih.1 (fun y hy => h y (by rw [catL, List.mem_append]; exact .inl hy)) p (by omega) x hx
    · intro h x hx
      rw [catL, List.mem_append] at hx
      rcases hx with hx | hx
      · exact ih.2 (fun p hp => h p (by omega)) x hx
      · exact h i (by omega) x hx
theorem mem_gi {xs : List Int} {x : Int} (h : x ∈ xs) : ∃ k, k < xs.length ∧ gi xs k = x := by
  obtain ⟨k, hk, rfl⟩ := List.mem_iff_getElem.1 h
  exact ⟨k, hk, gi_get hk⟩
theorem lst_all {xs : List Int} {z : Int} (h0 : 0 < xs.length) : z ≤ lst xs ↔ ∀ x ∈ xs, z ≤ x := by
  constructor
  · intro h x hx
    obtain ⟨k, hk, rfl⟩ := mem_gi hx
    have := mn_le (xs := xs) (k := xs.length - 1) (j := k) (by omega)
    unfold lst at h
    omega
  · intro h
    obtain ⟨j, hj, e⟩ := mn_mem (xs := xs) (xs.length - 1)
    unfold lst
    rw [e]
    exact h _ (gi_mem (by omega))
theorem field_least {a : List (List Int)} (v : VQ a) (h0 : 0 < (catL a a.length).length) : VF a ↔ 1 ≤ lst (catL a a.length) := by
  rw [lst_all h0, catL_all (Nat.le_refl _)]
  constructor
  · intro h p hp x hx
    obtain ⟨k, hk, rfl⟩ := mem_gi hx
    have := (v.1.rows p hp).1
    exact h.p p k hp (by have := v.2; omega)
  · intro h
    refine ⟨v, fun i j hi hj => h i hi _ (gi_mem ?_)⟩
    have := (v.1.rows i hi).1
    have := v.2
    omega
theorem VT.smallrows {a : List (List Int)} (v : VT a) : ∀ p, p < a.length → (gr a p).length ≤ 3 ∧ 0 < (gr a p).length ∧ ∀ x ∈ gr a p, -1000000 ≤ x ∧ x ≤ 1000000 := fun p hp => by
  have h := v.rows p hp
  have h1 := h.1
  have := v.m1
  have := v.m3
  refine ⟨by omega, by omega, fun x hx => ?_⟩
  obtain ⟨k, hk, rfl⟩ := mem_gi hx
  have := h.2 k hk
  unfold InR at this
  omega
theorem catL_pos {a : List (List Int)} (v : VT a) : 0 < (catL a a.length).length := by
  obtain ⟨l, hl⟩ : ∃ l, a.length = l + 1 := ⟨a.length - 1, by have := v.n1; omega⟩
  rw [hl, catL, List.length_append]
  have := (v.smallrows l (by omega)).2.1
  omega

end Go.Proofs.Ytfcienghlbnjbaa

/- One block alone has turned: what is elsewhere stays; new lists whose block is known. -/
namespace Go.Proofs.Ytfcienghlbnjbaa
open Go.RowKit
theorem eqI_same (xs : List Int) : eqI xs xs = true := eqI_yes rfl fun _ _ => rfl
theorem OwnI.one {lo hi g w w' b A n c xs} (h : OwnI lo hi w b A n c xs) (k : One g w w') (hne : b ≠ g) : OwnI lo hi w' b A n c xs := h.of_block fun _ => k.block b hne
theorem One.below {S g : Nat} {a w w' : World} (h : Below S a w) (k : One g w w') (hg : S ≤ g) : Below S a w' := Touch.below h (k.touch (Nat.le_refl g) (Nat.lt_succ_self g)) hg
theorem NewI.ge {w w' : World} {ys : List Int} {e : Ending} (h : NewI w ys e w') :
    ∃ Av c gg, e = .returned (.slice Av ys.length c) ∧ OwnI w.heap.size w'.heap.size w' gg Av ys.length c ys ∧ w.heap.size ≤ gg ∧ Below w.heap.size w w' := by
  obtain ⟨Av, n, c, gg, rfl, rfl, ho, hb⟩ := h
  by_cases h0 : 0 < ys.length
  · obtain ⟨o, e, h1, h2, hf⟩ := ho.own h0
    exact ⟨Av, c, gg, rfl, ho, h1, hb⟩
  · exact ⟨Av, c, w.heap.size, rfl, ⟨ho.ints, fun hn => absurd hn h0⟩, Nat.le_refl _, hb⟩
end Go.Proofs.Ytfcienghlbnjbaa

