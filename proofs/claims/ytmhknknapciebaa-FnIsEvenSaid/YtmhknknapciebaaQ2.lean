/- Texts merged: S2 Tab S3 S4 IP B2 S5 Cmp S6. -/
import Derived.Test.YtmhknknapciebaaQ1
import Derived.Deep.RegionHeld3
/- Greatest common divisors and fractions, by both programs. -/
namespace Go.Proofs.Ytmhknknapciebaa
open Go.RowKit

def Mid (x : Int) : Prop := -1000000000000000 ≤ x ∧ x ≤ 1000000000000000
theorem Mid.tmod {x y : Int} (hx : Mid x) : Mid (x.tmod y) := by
  have h : (x.tmod y).natAbs ≤ x.natAbs := by rw [Int.natAbs_tmod]; exact Nat.mod_le _ _
  unfold Mid at *
  omega

set_option maxHeartbeats 400000 in
theorem gcd_any (a b : Int) (w : World) (ha : Mid a) (hb : Mid b) :
    Calls Try.prog 91 #[.int .i64 a, .int .i64 b] w fun e w' => e = .returned (.int .i64 (gcdI a b)) ∧ Quiet w w' := by
  have HA := Lib.hid ha
  have HB := Lib.hid hb
  clear ha hb
  go_enter Try.func91, Try.ntmps91
  go_wp2
  go_loopw [0, 1] (fun s t wr => ∃ x y : Int, s = .int .i64 x ∧ t = .int .i64 y ∧ Hid (Mid x) ∧ Hid (Mid y) ∧ Hid (gcdI x y = gcdI a b) ∧ Quiet w wr) (fun _ t _ => (intOf t).natAbs)
  case atStart => exact ⟨a, b, rfl, rfl, HA, HB, Lib.hid rfl, Quiet.refl _⟩
  case round =>
    obtain ⟨x, y, rfl, rfl, HX, HY, HG, q, rfl⟩ := hrel
    obtain ⟨x1, x2⟩ := HX.out
    obtain ⟨y1, y2⟩ := HY.out
    by_cases hy : y = 0
    · subst hy
      have hg := Lib.hid (gcdI_zero x)
      go_wp2
      all_goals go_ret
      all_goals exact ⟨ret_int (by rw [← HG.out, hg.out]; omega), ⟨_, rfl⟩⟩
    · have hy' : (y != 0) = true := by simpa using hy
      have HM := Lib.hid (HX.out.tmod (y := y))
      have HS := Lib.hid (gcdI_step x y)
      have HT := Lib.hid (tmod_abs (a := x) hy)
      go_wp2
      go_roundw
      case rel => exact ⟨y, x.tmod y, rfl, rfl, HY, HM, Lib.hid (HS.out.trans HG.out), ⟨_, rfl⟩⟩
      case measure => have := HT.out; simpa [intOf] using this

/-- The greatest common divisor of the first k numbers. -/
def gcdL (xs : List Int) : Nat → Int
  | 0 => 0
  | k + 1 => gcdI (gcdL xs k) (gi xs k)
theorem gcdL_nn (xs : List Int) : ∀ k, 0 ≤ gcdL xs k
  | 0 => Int.le_refl _
  | _ + 1 => gcdI_nonneg _ _
theorem gcdL_mid {xs : List Int} (h : ∀ j, j < xs.length → Mid (gi xs j)) : ∀ {k : Nat}, k ≤ xs.length → Mid (gcdL xs k)
  | 0, _ => by simp [gcdL, Mid]
  | k + 1, hk => by
    have h1 := gcdL_mid h (k := k) (by omega)
    have h2 := h k (by omega)
    have h3 := gcdI_nonneg (gcdL xs k) (gi xs k)
    simp only [gcdL]
    by_cases e : gi xs k = 0
    · rw [e, gcdI_zero]; unfold Mid at *; omega
    · have h4 : gcdI (gcdL xs k) (gi xs k) ≤ max (gi xs k) (- gi xs k) := by
        rw [← gcdI_zero]
        have h5 : gcdI (gi xs k) 0 = (gi xs k).natAbs := by unfold gcdI; simp
        rw [h5]
        have : gcdI (gcdL xs k) (gi xs k) ∣ ((gi xs k).natAbs : Int) := Int.dvd_natAbs.2 (gcdI_dvd_right _ _)
        exact Int.le_of_dvd (by omega) this
      unfold Mid at *
      omega

set_option maxHeartbeats 1000000 in
theorem commonFactor_any (A : Option Addr) (n c : Nat) (xs : List Int) (w : World) (hx : Ints w A n c xs) (hm : ∀ j, j < xs.length → Mid (gi xs j)) :
    Calls Try.prog 114 #[.slice A n c] w fun e w' => e = .returned (.int .i64 (gcdL xs n)) ∧ Quiet w w' := by
  have HX := Lib.hid hx
  have HL := Lib.hid hx.len
  have hmx := hx.max
  have HM := Lib.hid hm
  clear hx hm
  go_enter Try.func114, Try.ntmps114
  go_wp2
  go_loopw [3, 8] (fun f i wr => ∃ (k : Nat) (x : Int), k ≤ n ∧ i = .int .i64 k ∧ f = .int .i64 x ∧ Hid (Mid x) ∧ Hid (gcdI x 0 = gcdL xs k) ∧ Quiet w wr) (fun _ i _ => n - (intOf i).toNat)
  case atStart => exact ⟨0, 0, Nat.zero_le _, rfl, rfl, Lib.hid (by unfold Mid; omega), Lib.hid (by rw [gcdI_zero]; rfl), Quiet.refl _⟩
  case round =>
    obtain ⟨k, x, hk, rfl, rfl, HF, HG, q, rfl⟩ := hrel
    by_cases hlt : k < n
    · obtain ⟨b, o, rfl, hc⟩ := HX.out.at_ (by omega)
      have c1 := hc k hlt
      have HZ := Lib.hid (HM.out k (by rw [HL.out]; exact hlt))
      have HG2 : Hid (gcdI x (gi xs k) = gcdL xs (k + 1)) := Lib.hid (by
        rw [gcdL]
        have := HG.out
        rw [gcdI_zero] at this
        rw [← this, gcdI_abs])
      clear hc
      go_wp2
      clear c1
      go_loopw [3, 5] (fun f v wi => ∃ (s t : Int), f = .int .i64 s ∧ v = .int .i64 t ∧ Hid (Mid s) ∧ Hid (Mid t) ∧ Hid (gcdI s t = gcdL xs (k + 1)) ∧ Quiet w wi) (fun _ v _ => (intOf v).natAbs)
      case atStart => exact ⟨x, gi xs k, rfl, rfl, HF, HZ, HG2, by first | exact ⟨_, rfl⟩ | exact Quiet.two _ _ _⟩
      case round =>
        clear HF HG HG2 HZ
        obtain ⟨s, t, rfl, rfl, HS, HT, HG, q2, rfl⟩ := hrel
        obtain ⟨s1, s2⟩ := HS.out
        obtain ⟨t1, t2⟩ := HT.out
        by_cases hy : t = 0
        · subst hy
          go_wp2
          go_roundw
          case rel => exact ⟨k + 1, s, by omega, by go_num, rfl, HS, HG, by first | exact ⟨_, rfl⟩ | exact Quiet.two _ _ _⟩
          case measure => simp [intOf]; omega
        · have hy' : (t != 0) = true := by simpa using hy
          have HM2 := Lib.hid (HS.out.tmod (y := t))
          have HS2 := Lib.hid (gcdI_step s t)
          have HT2 := Lib.hid (tmod_abs (a := s) hy)
          go_wp2
          go_quiet (fail)
          go_wp2
          go_roundw
          case rel => exact ⟨t, s.tmod t, rfl, rfl, HT, HM2, Lib.hid (HS2.out.trans HG.out), by first | exact ⟨_, rfl⟩ | exact Quiet.two _ _ _⟩
          case measure => have := HT2.out; simpa [intOf] using this
    · obtain rfl : k = n := by omega
      obtain ⟨x1, x2⟩ := HF.out
      have hg := Lib.hid (gcdI_zero x)
      go_wp2
      all_goals go_ret
      all_goals exact ⟨ret_int (by rw [← HG.out, hg.out]; omega), ⟨_, rfl⟩⟩

/-- A fraction as both programs have it. -/
def frV (u d : Int) : Value := .agg #[.int .i64 (frU u d), .int .i64 (frD u d)]

set_option maxHeartbeats 1000000 in
theorem frac_any (u d : Int) (w : World) (hu : Mid u) (hd : Mid d) (h1 : 1 ≤ d) :
    Calls Try.prog 54 #[.int .i64 u, .int .i64 d] w (Ret (frV u d) w) := by
  have HQ := Lib.hid (fun W => gcd_any u d W hu hd)
  have hg1 := gcdI_pos (a := u) (b := d) (by omega)
  have hg2 := gcdI_le (a := u) (b := d) (by omega)
  have HUB := Lib.hid (frU_bd (u := u) (d := d) (B := 1000000000000000) (by omega) hu)
  have HDB := Lib.hid (frD_bd (u := u) (d := d) (B := 1000000000000000) (by omega) hd.2)
  obtain ⟨u1, u2⟩ := hu
  obtain ⟨d1, d2⟩ := hd
  have hB := Lib.hid (below_alloc w (.cells #[.int .i64 0, .int .i64 0] 26))
  go_enter Try.func54, Try.ntmps54
  go_wp2_with fail
  refine (HQ.out _).mono ?_
  rintro e w2 ⟨rfl, q2, rfl⟩
  have HFU : Hid (frU u d = u.tdiv (gcdI u d)) := Lib.hid rfl
  have HFD : Hid (frD u d = d / gcdI u d) := Lib.hid (by unfold frD; rw [Int.tdiv_eq_ediv_of_nonneg (by omega)])
  generalize gcdI u d = g at *
  have b0 : Blk ((w.alloc (.cells #[.int .i64 0, .int .i64 0] 26)).drewN q2) w.heap.size 26 #[.int .i64 0, .int .i64 0] := blk_new w _ _
  have c0 := blk_cell b0 (i := 0) rfl
  have c1 := blk_cell b0 (i := 1) rfl
  have f0 := blk_frozen b0 0
  have f1 := blk_frozen b0 1
  have g0 : (g == 0) = false := by simp; omega
  go_wp2
  go_region
  all_goals clear c0 c1 f0 f1
  all_goals go_wp2
  have B1 := blk_set (blk_set (show Blk ((w.alloc (.cells #[.int .i64 0, .int .i64 0] 26)).drewN (q2 + 1)) w.heap.size 26 #[.int .i64 0, .int .i64 0] from blk_new w _ _) 0 (.int .i64 (u.tdiv g))) 1 (.int .i64 (d / g))
  have r0 := blk_cell B1 (i := 0) (v := .int .i64 (u.tdiv g)) rfl
  have r1 := blk_cell B1 (i := 1) (v := .int .i64 (d / g)) rfl
  have HBW := Lib.hid (((below_drewN hB.out (q2 + 1)).setCell (p := ⟨w.heap.size, 0, none⟩) (Nat.le_refl _) (.int .i64 (u.tdiv g))).setCell (p := ⟨w.heap.size, 1, none⟩) (Nat.le_refl _) (.int .i64 (d / g)))
  clear B1 b0
  generalize (((w.alloc (.cells #[.int .i64 0, .int .i64 0] 26)).drewN (q2 + 1)).setCell ⟨w.heap.size, 0, none⟩ (.int .i64 (u.tdiv g))).setCell ⟨w.heap.size, 1, none⟩ (.int .i64 (d / g)) = W3 at *
  refine bodyPost_ret (v := .agg #[.int .i64 (u.tdiv g), .int .i64 (d / g)]) (by simp [results, Try.results54, go_sem, r0, r1]) rfl ?_
  exact ⟨by rw [frV, HFU.out, HFD.out], HBW.out⟩

set_option maxHeartbeats 1000000 in
theorem fracOf_any (u d : Int) (w : World) (hu : Mid u) (hd : Mid d) (h1 : 1 ≤ d) :
    Calls Try.prog 93 #[.int .i64 u, .int .i64 d] w (Ret (frV u d) w) := by
  have hg1 := gcdI_pos (a := u) (b := d) (by omega)
  have hg2 := gcdI_le (a := u) (b := d) (by omega)
  have HGL : Hid (gcdL [u, d] 2 = gcdI u d) := Lib.hid (by
    show gcdI (gcdI 0 u) d = gcdI u d
    rw [gcdI_zero_left, gcdI_abs])
  have HMID : Hid (∀ j, j < [u, d].length → Mid (gi [u, d] j)) := Lib.hid (fun j hj => by
    have h : j = 0 ∨ j = 1 := by simp at hj; omega
    rcases h with rfl | rfl
    · exact hu
    · exact hd)
  obtain ⟨u1, u2⟩ := hu
  obtain ⟨d1, d2⟩ := hd
  have hB := Lib.hid (below_alloc w (.cells #[.int .i64 0, .int .i64 0] 26))
  have HB2 := Lib.hid (below_alloc (w.alloc (.cells #[.int .i64 0, .int .i64 0] 26)) (.cells #[iv u, iv d] 3))
  have HI : Hid (Ints ((w.alloc (.cells #[.int .i64 0, .int .i64 0] 26)).alloc (.cells #[iv u, iv d] 3)) (some ⟨w.heap.size + 1, 0, none⟩) 2 2 [u, d]) := Lib.hid (by
    have h := Ints.two (w.alloc (.cells #[.int .i64 0, .int .i64 0] 26)) u d
    rw [World.size_alloc] at h
    exact h)
  go_enter Try.func93, Try.ntmps93
  go_wp2_with fail
  have HC := Lib.hid (commonFactor_any _ _ _ _ _ HI.out HMID.out)
  refine HC.out.mono ?_
  rintro e w2 ⟨rfl, hq⟩
  rw [HGL.out]
  have b0 := blk_quiet (blk_below (blk_new w 26 #[.int .i64 0, .int .i64 0]) HB2.out) hq
  have HBW := Lib.hid (below_quiet (below_up hB.out HB2.out) hq)
  have HFU : Hid (frU u d = u.tdiv (gcdI u d)) := Lib.hid rfl
  have HFD : Hid (frD u d = d / gcdI u d) := Lib.hid (by unfold frD; rw [Int.tdiv_eq_ediv_of_nonneg (by omega)])
  clear hq HGL HI HB2 hB HMID
  generalize gcdI u d = g at *
  have c0 := blk_cell b0 (i := 0) rfl
  have c1 := blk_cell b0 (i := 1) rfl
  have f0 := blk_frozen b0 0
  have f1 := blk_frozen b0 1
  have g0 : (g == 0) = false := by simp; omega
  go_wp2
  go_region
  all_goals clear c0 c1 f0 f1
  all_goals go_wp2
  have B1 := blk_set (blk_set b0 0 (.int .i64 (u.tdiv g))) 1 (.int .i64 (d / g))
  have r0 := blk_cell B1 (i := 0) (v := .int .i64 (u.tdiv g)) rfl
  have r1 := blk_cell B1 (i := 1) (v := .int .i64 (d / g)) rfl
  have HBX := Lib.hid ((HBW.out.setCell (p := ⟨w.heap.size, 0, none⟩) (Nat.le_refl _) (.int .i64 (u.tdiv g))).setCell (p := ⟨w.heap.size, 1, none⟩) (Nat.le_refl _) (.int .i64 (d / g))).drew
  replace r0 : ((w2.setCell ⟨w.heap.size, 0, none⟩ (.int .i64 (u.tdiv g))).setCell ⟨w.heap.size, 1, none⟩ (.int .i64 (d / g))).drew.cell? ⟨w.heap.size, 0, none⟩ = some (.int .i64 (u.tdiv g)) := r0
  replace r1 : ((w2.setCell ⟨w.heap.size, 0, none⟩ (.int .i64 (u.tdiv g))).setCell ⟨w.heap.size, 1, none⟩ (.int .i64 (d / g))).drew.cell? ⟨w.heap.size, 1, none⟩ = some (.int .i64 (d / g)) := r1
  clear B1 b0 HBW
  generalize ((w2.setCell ⟨w.heap.size, 0, none⟩ (.int .i64 (u.tdiv g))).setCell ⟨w.heap.size, 1, none⟩ (.int .i64 (d / g))).drew = W3 at *
  refine bodyPost_ret (v := .agg #[.int .i64 (u.tdiv g), .int .i64 (d / g)]) (by simp [results, Try.results93, go_sem, r0, r1]) rfl ?_
  exact ⟨by rw [frV, HFU.out, HFD.out], HBX.out⟩
end Go.Proofs.Ytmhknknapciebaa

/- A valid table in memory, every cell by its row and its column. -/
namespace Go.Proofs.Ytmhknknapciebaa
open Go.RowKit

structure Tab (w : World) (b o : Nat) (rb ro cc : Nat → Nat) (n m : Nat) (xs : List (List Int)) : Prop where
  row : ∀ i, i < n → w.cell? ⟨b, o + i, none⟩ = some (.slice (some ⟨rb i, ro i, none⟩) m (cc i))
  cell : ∀ i j, i < n → j < m → w.cell? ⟨rb i, ro i + j, none⟩ = some (.int .i64 (g2 xs i j))
  bd : ∀ i j, i < n → j < m → -9 ≤ g2 xs i j ∧ g2 xs i j ≤ 9
  n1 : 1 ≤ n
  n3 : n ≤ 3
  m1 : 1 ≤ m
  m3 : m ≤ 3
  cap : ∀ i, i < n → m ≤ cc i
  ints : ∀ i, i < n → Ints w (some ⟨rb i, ro i, none⟩) m (cc i) (gr xs i)
theorem Tab.keep {w w' : World} {b o rb ro cc n m xs} (h : Tab w b o rb ro cc n m xs) (k : Keep w w') : Tab w' b o rb ro cc n m xs :=
  ⟨fun i hi => k _ _ (h.row i hi), fun i j hi hj => k _ _ (h.cell i j hi hj), h.bd, h.n1, h.n3, h.m1, h.m3, h.cap, fun i hi => (h.ints i hi).keep k⟩

theorem IntRows.tab {w A n c xs} (h : IntRows w A n c xs) (v : VT xs) : ∃ b o rb ro cc, A = some ⟨b, o, none⟩ ∧ Tab w b o rb ro cc n (gr xs 0).length xs := by
  have hl := h.len
  have n1 := v.n1
  have n3 := v.n3
  obtain ⟨b, o, rfl, hr⟩ := h.at_ (by omega)
  have each : ∀ i, i < n → ∃ y : Nat × Nat × Nat, w.cell? ⟨b, o + i, none⟩ = some (.slice (some ⟨y.1, y.2.1, none⟩) (gr xs 0).length y.2.2) ∧ (gr xs 0).length ≤ y.2.2 ∧
      (∀ j, j < (gr xs 0).length → w.cell? ⟨y.1, y.2.1 + j, none⟩ = some (.int .i64 (g2 xs i j))) ∧ Ints w (some ⟨y.1, y.2.1, none⟩) (gr xs 0).length y.2.2 (gr xs i) := by
    intro i hi
    obtain ⟨R, c', h1, h2⟩ := hr i hi
    have hrow := (v.rows i (by omega)).1
    have m1 := v.m1
    obtain ⟨b2, o2, rfl, hc⟩ := h2.at_ (by omega)
    refine ⟨(b2, o2, c'), by rw [← hrow]; exact h1, by rw [← hrow]; exact h2.cap, fun j hj => hc j (by omega), by rw [← hrow]; exact h2⟩
  obtain ⟨y, hy⟩ := Go.Deep.choose_lt each
  exact ⟨b, o, fun i => (y i).1, fun i => (y i).2.1, fun i => (y i).2.2, rfl, ⟨fun i hi => (hy i hi).1, fun i j hi hj => (hy i hi).2.2.1 j hj, fun i j hi hj => v.bd (by omega) hj, by omega, by omega, v.m1, v.m3, fun i hi => (hy i hi).2.1, fun i hi => (hy i hi).2.2.2⟩⟩

/-- Where a valid game lies: both tables' places. -/
structure GP where
  ba : Nat
  oa : Nat
  bb : Nat
  ob : Nat
  ra : Nat → Nat
  pa : Nat → Nat
  ca : Nat → Nat
  rb : Nat → Nat
  pb : Nat → Nat
  cb : Nat → Nat
  n : Nat
  m : Nat
  c : Nat
  d : Nat
structure GV (p : GP) (w : World) (xs ys : List (List Int)) : Prop where
  tx : Tab w p.ba p.oa p.ra p.pa p.ca p.n p.m xs
  ty : Tab w p.bb p.ob p.rb p.pb p.cb p.n p.m ys
  lx : xs.length = p.n
  mx : (gr xs 0).length = p.m
  capx : p.n ≤ p.c
  capy : p.n ≤ p.d
theorem GV.keep {p w w' xs ys} (h : GV p w xs ys) (k : Keep w w') : GV p w' xs ys := ⟨h.tx.keep k, h.ty.keep k, h.lx, h.mx, h.capx, h.capy⟩
theorem GV.of {w A B n c m d xs ys} (hx : IntRows w A n c xs) (hy : IntRows w B m d ys) (v : VG xs ys) :
    ∃ p : GP, A = some ⟨p.ba, p.oa, none⟩ ∧ B = some ⟨p.bb, p.ob, none⟩ ∧ n = p.n ∧ m = p.n ∧ c = p.c ∧ d = p.d ∧ GV p w xs ys := by
  obtain ⟨ba, oa, ra, pa, ca, rfl, tx⟩ := hx.tab v.ta
  obtain ⟨bb, ob, rb, pb, cb, rfl, ty⟩ := hy.tab v.tb
  have h1 := hx.len
  have h2 := hy.len
  have h3 := v.n
  obtain rfl : m = n := by omega
  exact ⟨⟨ba, oa, bb, ob, ra, pa, ca, rb, pb, cb, m, (gr xs 0).length, c, d⟩, rfl, rfl, rfl, rfl, rfl, rfl, tx, by rw [v.m]; exact ty, h1, rfl, hx.cap, hy.cap⟩

/-- A game that a function took by value: in its box g, with both tables. -/
structure GT (p : GP) (w0 w : World) (g : Nat) (xs ys : List (List Int)) : Prop where
  below : Below w0.heap.size w0 w
  box : Blk w g 47 #[.slice (some ⟨p.ba, p.oa, none⟩) p.n p.c, .slice (some ⟨p.bb, p.ob, none⟩) p.n p.d]
  gv0 : GV p w0 xs ys
theorem GT.gv {p w0 w g xs ys} (h : GT p w0 w g xs ys) : GV p w xs ys := h.gv0.keep (Keep.below h.below)
theorem GT.up {p w0 w w' g xs ys} (h : GT p w0 w g xs ys) (k : Below w.heap.size w w') : GT p w0 w' g xs ys :=
  ⟨below_up h.below k, blk_below h.box k, h.gv0⟩
theorem GT.up2 {p w0 w w' g xs ys} {B : Nat} (h : GT p w0 w g xs ys) (k : Below B w w') (hB : w0.heap.size ≤ B) (hg : g < B) : GT p w0 w' g xs ys :=
  ⟨h.below.trans (k.mono hB), (k.block g hg).trans h.box, h.gv0⟩
theorem GT.qu {p w0 w w' g xs ys} (h : GT p w0 w g xs ys) (k : Quiet w w') : GT p w0 w' g xs ys := h.up k.below
theorem GT.start {p w xs ys} (h : GV p w xs ys) : GT p w (w.alloc (.cells #[.slice (some ⟨p.ba, p.oa, none⟩) p.n p.c, .slice (some ⟨p.bb, p.ob, none⟩) p.n p.d] 47)) w.heap.size xs ys :=
  ⟨below_alloc _ _, blk_new _ _ _, h⟩
theorem GT.c0 {p w0 w g xs ys} (h : GT p w0 w g xs ys) : w.cell? ⟨g, 0, none⟩ = some (.slice (some ⟨p.ba, p.oa, none⟩) p.n p.c) := blk_cell h.box rfl
theorem GT.c1 {p w0 w g xs ys} (h : GT p w0 w g xs ys) : w.cell? ⟨g, 1, none⟩ = some (.slice (some ⟨p.bb, p.ob, none⟩) p.n p.d) := blk_cell h.box rfl
end Go.Proofs.Ytmhknknapciebaa

/- Means of tables, by both programs. -/
namespace Go.Proofs.Ytmhknknapciebaa
open Go.RowKit

set_option maxHeartbeats 1000000 in
theorem payUp_any (b o : Nat) (rb ro cc : Nat → Nat) (n m c cx cy : Nat) (X Y : Option Addr) (a : List (List Int)) (x y : List Int) (w : World) (h : Tab w b o rb ro cc n m a) (hx : Ints w X n cx x) (hy : Ints w Y m cy y) (hp : PB a x y n m) :
    Calls Try.prog 55 #[.slice (some ⟨b, o, none⟩) n c, .slice X n cx, .slice Y m cy] w fun e w' => e = .returned (.int .i64 (payU a x y m n)) ∧ Quiet w w' := by
  have HT := Lib.hid h
  have hn1 := h.n1
  have hn3 := h.n3
  have hm1 := h.m1
  have hm3 := h.m3
  obtain ⟨bx, ox, rfl, hcx⟩ := hx.at_ (by omega)
  obtain ⟨by_, oy, rfl, hcy⟩ := hy.at_ (by omega)
  have HX := Lib.hid hcx
  have HY := Lib.hid hcy
  have HP := Lib.hid hp
  clear h hx hy hcx hcy hp
  go_enter Try.func55, Try.ntmps55
  go_wp2
  go_loopw [7, 8] (fun s i wr => ∃ k : Nat, k ≤ n ∧ i = .int .i64 k ∧ s = .int .i64 (payU a x y m k) ∧ Quiet w wr) (fun _ i _ => n - (intOf i).toNat)
  case atStart => exact ⟨0, Nat.zero_le _, rfl, rfl, Quiet.refl _⟩
  case round =>
    obtain ⟨k, hk, rfl, rfl, q, rfl⟩ := hrel
    by_cases hlt : k < n
    · go_wp2
      go_loopw [7, 9] (fun s j wi => ∃ l : Nat, l ≤ m ∧ j = .int .i64 l ∧ s = .int .i64 (payU a x y m k + payR a x y k l) ∧ Quiet w wi) (fun _ j _ => m - (intOf j).toNat)
      case atStart => exact ⟨0, Nat.zero_le _, rfl, by rw [payR]; exact congrArg (Value.int .i64) (by omega), ⟨_, rfl⟩⟩
      case round =>
        obtain ⟨l, hl, rfl, rfl, q2, rfl⟩ := hrel
        by_cases hll : l < m
        · have c1 := HX.out k hlt
          have c2 := HY.out l hll
          have c3 := HT.out.row k hlt
          have c4 := HT.out.cell k l hlt hll
          obtain ⟨x1, x2⟩ := HP.out.x k hlt
          obtain ⟨y1, y2⟩ := HP.out.y l hll
          obtain ⟨z1, z2⟩ := HP.out.a k l hlt hll
          obtain ⟨p1, p2⟩ := mul_bd2 ⟨x1, x2⟩ ⟨y1, y2⟩
          obtain ⟨p3, p4⟩ := mul_bd ⟨x1, x2⟩ ⟨y1, y2⟩ ⟨z1, z2⟩
          obtain ⟨s1, s2⟩ := payP_bd HP.out hm3 hn3 hlt (j := l) hl
          have HS : Hid (payU a x y m k + payR a x y k (l + 1) = payU a x y m k + payR a x y k l + gi x k * gi y l * g2 a k l) := Lib.hid (by rw [payR]; omega)
          go_wp2
          go_quiet (fail)
          go_wp2
          go_roundw
          case rel => exact ⟨l + 1, by omega, by go_num, by rw [HS.out], by first | exact ⟨_, rfl⟩ | exact Quiet.two _ _ _⟩
          case measure => simp [intOf]; omega
        · obtain rfl : l = m := by omega
          go_wp2
          go_roundw
          case rel => exact ⟨k + 1, by omega, by go_num, by rw [payU], by first | exact ⟨_, rfl⟩ | exact Quiet.two _ _ _⟩
          case measure => simp [intOf]; omega
    · obtain rfl : k = n := by omega
      go_wp2
      go_ret
      exact ⟨rfl, ⟨_, rfl⟩⟩
end Go.Proofs.Ytmhknknapciebaa

/- Means of tables, by the program: terms in a slice made by append. -/
namespace Go.Proofs.Ytmhknknapciebaa
open Go.RowKit

theorem wrap_in64 {x : Int} (h : -9223372036854775808 ≤ x ∧ x ≤ 9223372036854775807) : IntKind.i64.wrap x = x := by rw [IntKind.wrap_i64]; omega
theorem Try.infoI : (Try.prog.info? 3).map (fun i => (i.zero, i.size, i.bytes)) = some (some (.int .i64 0), 1, 8) := by kernel_rfl
/-- Terms under way. -/
structure MP (a : List (List Int)) (x y : List Int) (m : Nat) (w : World) (i j : Nat) (v : Value) (L : List Int) (wr : World) : Prop where
  bld : BldI (w.heap.size + 1) wr.heap.size wr v L
  box : Blk wr w.heap.size 26 #[.int .i64 0, .int .i64 0]
  below : Below w.heap.size w wr
  len : L.length ≤ 3 * i + j
  bd : ∀ t ∈ L, -9000000 ≤ t ∧ t ≤ 9000000
  sum : tot L = payU a x y m i + payR a x y i j
theorem MP.start (a : List (List Int)) (x y : List Int) (m : Nat) (w : World) : MP a x y m w 0 0 (.slice none 0 0) [] (w.alloc (.cells #[.int .i64 0, .int .i64 0] 26)) :=
  ⟨BldI.nil _ _ _, blk_new _ _ _, below_alloc _ _, by simp, fun t ht => by simp at ht, rfl⟩
theorem MP.qu {a x y m w i j v L wr wr'} (h : MP a x y m w i j v L wr) (k : Quiet wr wr') : MP a x y m w i j v L wr' := by
  obtain ⟨q, rfl⟩ := k
  exact ⟨h.bld.of_blocks fun _ _ _ _ => rfl, h.box, below_drewN h.below q, h.len, h.bd, h.sum⟩
theorem MP.next {a x y m w i v L wr} (h : MP a x y m w i m v L wr) (hm : m ≤ 3) : MP a x y m w (i + 1) 0 v L wr :=
  ⟨h.bld, h.box, h.below, by have := h.len; omega, h.bd, by rw [h.sum, payU, payR]; omega⟩
theorem MP.push {a x y m w i j v L wr w2 w1} {gg cap : Nat} {t : Int} (h : MP a x y m w i j v L wr) (hb : Below wr.heap.size wr w2) (hs : w2.heap.size = wr.heap.size + 1)
    (hown : w1.ownsRow (w.heap.size + 1) 3 1 (.slice (some ⟨gg, 0, none⟩) (L.length + 1) cap) (L.length + 1) (L.map iv ++ [iv t])) (hgrow : w2.grownBy w1 v.ownBlock) (hlt : gg < w1.heap.size)
    (ht : -9000000 ≤ t ∧ t ≤ 9000000) (he : payR a x y i (j + 1) = payR a x y i j + t) : MP a x y m w i (j + 1) (.slice (some ⟨gg, 0, none⟩) (L.length + 1) cap) (L ++ [t]) w1 := by
  have hz := h.below.size
  have hv : ∀ k, v.ownBlock = some k → w.heap.size + 1 ≤ k := fun k hk => (h.bld.own.lt k hk).1
  have hbl : w.heap.size < wr.heap.size := blk_lt h.box
  have hsz := hgrow.size
  refine ⟨⟨by rw [List.length_append, List.length_singleton, List.map_append]; exact hown, fun k hk => ?_⟩, ?_, ?_, ?_, fun u hu => ?_, ?_⟩
  · have : gg = k := by simpa [Value.ownBlock] using hk
    omega
  · exact (hgrow.block _ (by omega) (fun e => by have := hv _ e.symm; omega)).trans ((hb.block _ hbl).trans h.box)
  · exact ⟨hgrow.os.trans (hb.os.trans h.below.os), hgrow.tape.trans (hb.tape.trans h.below.tape), hgrow.output.trans (hb.output.trans h.below.output), by omega, fun k hk =>
      (hgrow.block k (by omega) (fun e => by have := hv k e.symm; omega)).trans ((hb.block k (by omega)).trans (h.below.block k hk))⟩
  · have := h.len; rw [List.length_append, List.length_singleton]; omega
  · rcases List.mem_append.1 hu with hu | hu
    · exact h.bd u hu
    · simp at hu; subst hu; exact ht
  · rw [tot_snoc, h.sum, he]; omega
theorem MP.ints {a x y m w i j L wr} {A : Option Addr} {c : Nat} (h : MP a x y m w i j (.slice A L.length c) L wr) (hl : L.length ≤ 100) : Ints wr A L.length c L := by
  obtain ⟨A', n', c', g, e, hn, ho, _⟩ := h.bld.owns (by omega) (fun t ht => by have := h.bd t ht; omega)
  injection e with e1 e2 e3
  subst e1
  subst e2
  subst e3
  exact ho.ints
theorem MP.sumOk {a x y m w i j v L wr} (h : MP a x y m w i j v L wr) (hl : L.length ≤ 100) : SumOk L :=
  ⟨by omega, fun j hj => by have := h.bd _ (gi_mem hj); omega⟩
theorem tot_bd {x : List Int} {n : Nat} (hn : n ≤ 3) (hl : x.length = n) (h : ∀ i, i < n → 0 ≤ gi x i ∧ gi x i ≤ 1000) : 0 ≤ tot x ∧ tot x ≤ 3000 := by
  have := sm_bd (xs := x) (k := x.length) (lo := 0) (hi := 1000) fun j hj => h j (by omega)
  unfold tot
  omega

set_option maxRecDepth 100000 in
set_option maxHeartbeats 3200000 in
theorem meanPay_any (b o : Nat) (rb ro cc : Nat → Nat) (n m c cx cy : Nat) (X Y : Option Addr) (a : List (List Int)) (x y : List Int) (w : World) (h : Tab w b o rb ro cc n m a) (hx : Ints w X n cx x) (hy : Ints w Y m cy y) (hp : PB a x y n m) (tx : 0 < tot x) (ty : 0 < tot y) :
    Calls Try.prog 58 #[.slice (some ⟨b, o, none⟩) n c, .slice X n cx, .slice Y m cy] w (Ret (frV (payU a x y m n) (tot x * tot y)) w) := by
  have HT := Lib.hid h
  have hn1 := h.n1
  have hn3 := h.n3
  have hm1 := h.m1
  have hm3 := h.m3
  have hbx := tot_bd hn3 hx.len hp.x
  have hby := tot_bd hm3 hy.len hp.y
  have HSX := Lib.hid (show SumOk x from ⟨by rw [hx.len]; omega, fun j hj => by have := hp.x j (by rw [← hx.len]; exact hj); omega⟩)
  have HSY := Lib.hid (show SumOk y from ⟨by rw [hy.len]; omega, fun j hj => by have := hp.y j (by rw [← hy.len]; exact hj); omega⟩)
  have HIX := Lib.hid hx
  have HIY := Lib.hid hy
  obtain ⟨bx, ox, rfl, hcx⟩ := hx.at_ (by omega)
  obtain ⟨by_, oy, rfl, hcy⟩ := hy.at_ (by omega)
  have HX := Lib.hid hcx
  have HY := Lib.hid hcy
  have HP := Lib.hid hp
  clear h hx hy hcx hcy hp
  obtain ⟨i0, hi0, hz0, hz1, hz2⟩ := info_parts Try.infoI
  have HST := Lib.hid (MP.start a x y m w)
  go_enter Try.func58, Try.ntmps58
  go_wp2
  go_loopw [7, 14] (fun v i wr => ∃ (k : Nat) (L : List Int), k ≤ n ∧ i = .int .i64 k ∧ Hid (MP a x y m w k 0 v L wr)) (fun _ i _ => n - (intOf i).toNat)
  case atStart => exact ⟨0, [], Nat.zero_le _, rfl, HST⟩
  case round =>
    clear HST
    obtain ⟨k, L, hk, rfl, HM⟩ := hrel
    obtain ⟨Av, cv, rfl⟩ := HM.out.bld.form
    by_cases hlt : k < n
    · have HK := Lib.hid (Keep.below HM.out.below)
      have c3 := HK.out _ _ (HT.out.row k hlt)
      go_wp2
      clear c3
      go_loopw [7, 21] (fun v j wi => ∃ (l : Nat) (L : List Int), l ≤ m ∧ j = .int .i64 l ∧ Hid (MP a x y m w k l v L wi)) (fun _ j _ => m - (intOf j).toNat)
      case atStart => exact ⟨0, L, Nat.zero_le _, rfl, HM⟩
      case round =>
        clear HM HK
        obtain ⟨l, L, hl, rfl, HM⟩ := hrel
        obtain ⟨Av, cv, rfl⟩ := HM.out.bld.form
        by_cases hll : l < m
        · have HK := Lib.hid (Keep.below HM.out.below)
          have c4 := HK.out _ _ (HT.out.cell k l hlt hll)
          have c1 := HK.out _ _ (HX.out k hlt)
          have c2 := HK.out _ _ (HY.out l hll)
          obtain ⟨x1, x2⟩ := HP.out.x k hlt
          obtain ⟨y1, y2⟩ := HP.out.y l hll
          obtain ⟨z1, z2⟩ := HP.out.a k l hlt hll
          obtain ⟨p1, p2⟩ := mul_bd3 ⟨x1, x2⟩ ⟨z1, z2⟩
          obtain ⟨p3, p4⟩ := mul_bd ⟨x1, x2⟩ ⟨y1, y2⟩ ⟨z1, z2⟩
          rw [show gi x k * gi y l * g2 a k l = g2 a k l * gi x k * gi y l by rw [Int.mul_comm (gi x k * gi y l), Int.mul_assoc]] at p3 p4
          have HE : Hid (payR a x y k (l + 1) = payR a x y k l + g2 a k l * gi x k * gi y l) := Lib.hid (by
            rw [payR, Int.mul_comm (gi x k * gi y l), Int.mul_assoc])
          have hL := HM.out.len
          have hsz := HM.out.below.size
          have hbl : w.heap.size < wr.heap.size := blk_lt HM.out.box
          go_wp2
          have HW : Hid (IntKind.i64.wrap (IntKind.i64.wrap (g2 a k l * gi x k) * gi y l) = g2 a k l * gi x k * gi y l) := Lib.hid (by rw [wrap_in64 (x := g2 a k l * gi x k) (by omega), wrap_in64 (by omega)])
          go_region_held3 (fun W => W.cell? ⟨bx, ox + k, none⟩ = some (.int .i64 (gi x k)) ∧ W.cell? ⟨by_, oy + l, none⟩ = some (.int .i64 (gi y l)))
            (first | go_keep | exact HKK.out)
            ((refine step_append_lies _ (by rfl) _ _ _ (by rfl) (w.heap.size + 1) 3 i0 _ 1 8 Try.underlying23 hi0 hz0 hz1 hz2 rfl (by omega) (.slice Av L.length cv) L.length (L.map iv) (by rfl) ((HM.out.bld.own.alloc _).drew) ⟨wr.heap.size, 0, none⟩ 1 1 [iv (IntKind.i64.wrap (IntKind.i64.wrap (g2 a k l * gi x k) * gi y l))] (by rfl) (by rfl) (World.news_of_block (w := (wr.alloc (.cells #[iv (IntKind.i64.wrap (IntKind.i64.wrap (g2 a k l * gi x k) * gi y l))] 3)).drew) (cs := #[iv (IntKind.i64.wrap (IntKind.i64.wrap (g2 a k l * gi x k) * gi y l))]) (t := 3) (fr := (0, 0)) (heap_alloc_new wr _)) (by simp [Value.oneCell', iv]) (by omega) (by unfold maxLen; omega) (by omega) (by simp; omega) (wr.heap.size + 1) (by simp) ?_; intro gg cap w1 hown1 hgrow hat hlt1; rw [HW.out] at hown1; have HM2 := Lib.hid (HM.out.push ((below_alloc wr _).drew) (by simp) hown1 hgrow hlt1 ⟨p3, p4⟩ HE.out); have HKK := Lib.hid (And.intro (Keep.below HM2.out.below _ _ (HX.out k hlt)) (Keep.below HM2.out.below _ _ (HY.out l hll))); clear hown1 hgrow hat hlt1 HM))
          clear c1 c2 c4
          go_wp2
          go_roundw
          case rel => exact ⟨l + 1, _, by omega, by go_num, Lib.hid (by first | exact HM2.out | exact HM2.out.qu ⟨1, rfl⟩ | exact HM2.out.qu ⟨_, rfl⟩)⟩
          case measure => simp [intOf]; omega
        · obtain rfl : l = m := by omega
          have HN := Lib.hid (HM.out.next hm3)
          go_wp2
          go_roundw
          case rel => exact ⟨k + 1, _, by omega, by go_num, HN⟩
          case measure => simp [intOf]; omega
    · obtain rfl : k = n := by omega
      have hL := HM.out.len
      have hxy : 1 ≤ tot x * tot y ∧ tot x * tot y ≤ 9000000 := by
        have h1 : 1 * 1 ≤ tot x * tot y := Int.mul_le_mul (by omega) (by omega) (by omega) (by omega)
        have h2 : tot x * tot y ≤ 3000 * 3000 := Int.mul_le_mul hbx.2 hby.2 hby.1 (by omega)
        omega
      obtain ⟨xy1, xy2⟩ := hxy
      have hpu := payU_bd HP.out hm3 (Nat.le_refl k)
      have HSM : Hid (tot L = payU a x y m k) := Lib.hid (by rw [HM.out.sum, payR]; omega)
      have HC1 := Lib.hid (sumOf_any _ _ _ _ _ (HM.out.ints (by omega)) (HM.out.sumOk (by omega)))
      go_wp2_with fail
      refine HC1.out.mono ?_
      rintro e w2 ⟨rfl, hq⟩
      have HM2 := Lib.hid (HM.out.qu hq)
      clear hq HC1 HM
      rw [HSM.out]
      have HC1 := Lib.hid (sumOf_any _ _ _ _ _ (HIX.out.keep (Keep.below HM2.out.below)) HSX.out)
      go_wp2_with fail
      refine HC1.out.mono ?_
      rintro e w3 ⟨rfl, hq⟩
      have HM3 := Lib.hid (HM2.out.qu hq)
      clear hq HC1 HM2
      have HC1 := Lib.hid (sumOf_any _ _ _ _ _ (HIY.out.keep (Keep.below HM3.out.below)) HSY.out)
      go_wp2_with fail
      refine HC1.out.mono ?_
      rintro e w4 ⟨rfl, hq⟩
      have HM4 := Lib.hid (HM3.out.qu hq)
      clear hq HC1 HM3
      have HC1 := Lib.hid (fracOf_any (payU a x y m k) (tot x * tot y) w4 (by unfold Mid; omega) (by unfold Mid; omega) xy1)
      go_wp2_with fail
      refine HC1.out.mono ?_
      rintro e w5 ⟨rfl, hb⟩
      have b0 := blk_below HM4.out.box hb
      have HBW := Lib.hid (below_up HM4.out.below hb)
      clear hb HC1 HM4
      have HFV : Hid (frV (payU a x y m k) (tot x * tot y) = .agg #[.int .i64 (frU (payU a x y m k) (tot x * tot y)), .int .i64 (frD (payU a x y m k) (tot x * tot y))]) := Lib.hid rfl
      rw [HFV.out]
      generalize frU (payU a x y m k) (tot x * tot y) = U at *
      generalize frD (payU a x y m k) (tot x * tot y) = D at *
      have c0 := blk_cell b0 (i := 0) rfl
      have c1 := blk_cell b0 (i := 1) rfl
      have f0 := blk_frozen b0 0
      have f1 := blk_frozen b0 1
      go_wp2
      clear c0 c1 f0 f1
      have B1 := blk_set (blk_set b0 0 (.int .i64 U)) 1 (.int .i64 D)
      have r0 := blk_cell B1 (i := 0) (v := .int .i64 U) rfl
      have r1 := blk_cell B1 (i := 1) (v := .int .i64 D) rfl
      have HBX := Lib.hid ((HBW.out.setCell (p := ⟨w.heap.size, 0, none⟩) (Nat.le_refl _) (.int .i64 U)).setCell (p := ⟨w.heap.size, 1, none⟩) (Nat.le_refl _) (.int .i64 D))
      clear B1 b0 HBW
      generalize (w5.setCell ⟨w.heap.size, 0, none⟩ (.int .i64 U)).setCell ⟨w.heap.size, 1, none⟩ (.int .i64 D) = W3 at *
      refine bodyPost_ret (v := .agg #[.int .i64 U, .int .i64 D]) (by simp [results, Try.results58, go_sem, r0, r1]) rfl ?_
      exact ⟨by rw [HFV.out], HBX.out⟩
end Go.Proofs.Ytmhknknapciebaa

/- Numbers of a table, by the program. -/
namespace Go.Proofs.Ytmhknknapciebaa
open Go.RowKit

theorem isPay_any (x : Int) (w : World) : Calls Try.prog 113 #[.int .i64 x] w fun e w' => e = .returned (.bool (pb (InR x (-9) 9))) ∧ w = w' := by
  by_cases h1 : -9 ≤ x
  · by_cases h2 : x ≤ 9
    · have h := Lib.hid (pb_true (p := InR x (-9) 9) ⟨h1, h2⟩)
      go_enter Try.func113, Try.ntmps113
      go_wp2
      go_ret
      exact ⟨ret_bool (by rw [h.out]), rfl⟩
    · have h := Lib.hid (pb_false (p := InR x (-9) 9) (fun h => h2 h.2))
      have h2' : decide (x ≤ 9) = false := by simpa using h2
      go_enter Try.func113, Try.ntmps113
      go_wp2
      go_ret
      exact ⟨ret_bool (by rw [h.out]), rfl⟩
  · have h := Lib.hid (pb_false (p := InR x (-9) 9) (fun h => h1 h.1))
    have h1' : decide (-9 ≤ x) = false := by simpa using h1
    go_enter Try.func113, Try.ntmps113
    go_wp2
    go_ret
    exact ⟨ret_bool (by rw [h.out]), rfl⟩
end Go.Proofs.Ytmhknknapciebaa

/- Valid tables by the program. -/
namespace Go.Proofs.Ytmhknknapciebaa
open Go.RowKit

set_option maxHeartbeats 400000 in
theorem validRow_any (A : Option Addr) (n c : Nat) (r : List Int) (w : World) (hx : Ints w A n c r) :
    Calls Try.prog 92 #[.slice A n c] w fun e w' => e = .returned (.bool (pb (RowV r))) ∧ Quiet w w' := by
  obtain ⟨lx, cx, mx, _, hx⟩ := hx
  have Lx := Lib.hid lx
  clear lx
  by_cases h1 : n < 1
  · have HV := Lib.hid (pb_false (p := RowV r) fun v => by have := v.1; rw [Lx.out] at this; omega)
    go_enter Try.func92, Try.ntmps92
    go_wp2
    go_ret
    exact ⟨ret_bool HV.out.symm, Quiet.refl _⟩
  by_cases h3 : 3 < n
  · have HV := Lib.hid (pb_false (p := RowV r) fun v => by have := v.2.1; rw [Lx.out] at this; omega)
    go_enter Try.func92, Try.ntmps92
    go_wp2
    go_ret
    exact ⟨ret_bool HV.out.symm, Quiet.refl _⟩
  obtain ⟨b, o, rfl, hc⟩ := hx (by omega)
  go_enter Try.func92, Try.ntmps92
  go_wp2
  go_loopw [15] (fun i wr => ∃ k : Nat, k ≤ n ∧ i = .int .i64 k ∧ Hid (∀ j, j < k → InR (gi r j) (-9) 9) ∧ Quiet w wr) (fun i _ => n - (intOf i).toNat)
  case atStart => exact ⟨0, Nat.zero_le _, rfl, Lib.hid (fun _ h => absurd h (by omega)), Quiet.refl _⟩
  case round =>
    obtain ⟨k, hk, rfl, HALL, q, rfl⟩ := hrel
    by_cases hlt : k < n
    · have c1 := hc k hlt
      clear hc
      have HK := Lib.hid (show k < r.length by rw [Lx.out]; exact hlt)
      by_cases hin : InR (gi r k) (-9) 9
      · have HI := Lib.hid hin
        have HP := Lib.hid (fun (W : World) => (pb_true hin) ▸ isPay_any (gi r k) W)
        clear hin
        go_wp2_with (go_at_call 113; refine (HP.out _).mono ?_; rintro e w' ⟨rfl, rfl⟩)
        go_roundw
        case rel => exact ⟨k + 1, by omega, by go_num, Lib.hid (fun j hj => by
          by_cases hjk : j < k
          · exact HALL.out j hjk
          · obtain rfl : j = k := by omega
            exact HI.out), by first | exact ⟨_, rfl⟩ | exact Quiet.two _ _ _⟩
        case measure => simp [intOf]; omega
      · have HV := Lib.hid (RowV_no HK.out hin)
        have HP := Lib.hid (fun (W : World) => (pb_false hin) ▸ isPay_any (gi r k) W)
        clear hin
        go_wp2_with (go_at_call 113; refine (HP.out _).mono ?_; rintro e w' ⟨rfl, rfl⟩)
        go_ret
        exact ⟨ret_bool HV.out.symm, by first | exact ⟨_, rfl⟩ | exact Quiet.two _ _ _⟩
    · obtain rfl : k = n := by omega
      go_wp2
      go_ret
      exact ⟨ret_bool (pb_true ⟨by rw [Lx.out]; omega, by rw [Lx.out]; omega, fun j hj => HALL.out j (by rw [Lx.out] at hj; exact hj)⟩).symm, ⟨_, rfl⟩⟩

set_option maxHeartbeats 1000000 in
theorem ValidTable_impl (A : Option Addr) (n c : Nat) (a : List (List Int)) (w : World) (hx : IntRows w A n c a) :
    Calls Try.prog 57 #[.slice A n c] w fun e w' => e = .returned (.bool (pb (VT a))) ∧ Quiet w w' := by
  obtain ⟨lx, cx, mx, hx⟩ := hx
  have Lx := Lib.hid lx
  clear lx
  by_cases h1 : n < 1
  · have HV := Lib.hid (pb_false (p := VT a) fun v => by have := v.n1; rw [Lx.out] at this; omega)
    go_enter Try.func57, Try.ntmps57
    go_wp2
    go_ret
    exact ⟨ret_bool HV.out.symm, Quiet.refl _⟩
  by_cases h3 : 3 < n
  · have HV := Lib.hid (pb_false (p := VT a) fun v => by have := v.n3; rw [Lx.out] at this; omega)
    go_enter Try.func57, Try.ntmps57
    go_wp2
    go_ret
    exact ⟨ret_bool HV.out.symm, Quiet.refl _⟩
  obtain ⟨b, o, rfl, hc⟩ := hx (by omega)
  obtain ⟨R0, cc0, c0, hR0⟩ := hc 0 (by omega)
  have hL0 : (gr a 0).length ≤ 17592186044416 := hR0.max
  simp only [Nat.add_zero] at c0
  go_enter Try.func57, Try.ntmps57
  go_wp2
  go_loopw [15] (fun i wr => ∃ k : Nat, k ≤ n ∧ i = .int .i64 k ∧ Hid (∀ i, i < k → (gr a i).length = (gr a 0).length ∧ RowV (gr a i)) ∧ Quiet w wr) (fun i _ => n - (intOf i).toNat)
  case atStart => exact ⟨0, Nat.zero_le _, rfl, Lib.hid (fun _ h => absurd h (by omega)), Quiet.refl _⟩
  case round =>
    obtain ⟨k, hk, rfl, HALL, q, rfl⟩ := hrel
    by_cases hlt : k < n
    · obtain ⟨R, cc, c1, hR⟩ := hc k hlt
      have hL1 : (gr a k).length ≤ 17592186044416 := hR.max
      have hn0 : 0 < n := by omega
      clear hc
      have HK := Lib.hid (show k < a.length by rw [Lx.out]; exact hlt)
      by_cases hlen : (gr a k).length = (gr a 0).length
      · have hlen' : (((gr a k).length : Int) != ((gr a 0).length : Int)) = false := by simp [hlen]
        have HLEN := Lib.hid hlen
        clear hlen
        by_cases hv : RowV (gr a k)
        · have HI := Lib.hid hv
          have hq := fun W (hW : Quiet w W) => (pb_true hv ▸ validRow_any _ _ _ _ W (hR.keep (Keep.quiet hW)))
          clear hv
          go_wp2_with fail
          refine (hq _ ⟨_, rfl⟩).mono ?_
          rintro e w' ⟨rfl, q2, rfl⟩
          go_wp2
          go_roundw
          case rel => exact ⟨k + 1, by omega, by go_num, Lib.hid (fun j hj => by
            by_cases hjk : j < k
            · exact HALL.out j hjk
            · obtain rfl : j = k := by omega
              exact ⟨HLEN.out, HI.out⟩), ⟨_, rfl⟩⟩
          case measure => simp [intOf]; omega
        · have HV := Lib.hid (pb_false (p := VT a) fun v => hv (VT_rowV v HK.out))
          have hq := fun W (hW : Quiet w W) => (pb_false hv ▸ validRow_any _ _ _ _ W (hR.keep (Keep.quiet hW)))
          clear hv
          go_wp2_with fail
          refine (hq _ ⟨_, rfl⟩).mono ?_
          rintro e w' ⟨rfl, q2, rfl⟩
          go_wp2
          go_ret
          exact ⟨ret_bool HV.out.symm, by first | exact ⟨_, rfl⟩ | exact Quiet.two _ _ _⟩
      · have HV := Lib.hid (pb_false (p := VT a) fun v => hlen (v.rows k HK.out).1)
        have hlen' : (((gr a k).length : Int) != ((gr a 0).length : Int)) = true := by simp; omega
        clear hlen
        go_wp2
        go_ret
        exact ⟨ret_bool HV.out.symm, ⟨_, rfl⟩⟩
    · obtain rfl : k = n := by omega
      go_wp2
      go_ret
      exact ⟨ret_bool (pb_true (VT_of (by rw [Lx.out]; omega) (by rw [Lx.out]; omega) fun j hj => HALL.out j (by rw [Lx.out] at hj; exact hj))).symm, ⟨_, rfl⟩⟩
end Go.Proofs.Ytmhknknapciebaa

/- Means of a table with shares, by both programs. -/
namespace Go.Proofs.Ytmhknknapciebaa
open Go.RowKit

/-- The box of a fraction that a function returns, at its start. -/
structure PF (w W : World) : Prop where
  box : Blk W w.heap.size 26 #[.int .i64 0, .int .i64 0]
  below : Below w.heap.size w W
theorem PF.start (w : World) : PF w (w.alloc (.cells #[.int .i64 0, .int .i64 0] 26)) := ⟨blk_new _ _ _, below_alloc _ _⟩
theorem PF.up {w W W' : World} (h : PF w W) (k : Below W.heap.size W W') : PF w W' := ⟨blk_below h.box k, below_up h.below k⟩
theorem PF.keep {w W : World} (h : PF w W) : Keep w W := Keep.below h.below

theorem VT.vsn {a : List (List Int)} (v : VT a) (x : List Int) : pb (VSn x a.length) = pb (VS x a.length) :=
  pb_congr ⟨fun h => h.2.2, fun h => ⟨by have := v.n1; omega, by have := v.n3; omega, h⟩⟩
theorem VT.vsm {a : List (List Int)} (v : VT a) (x : List Int) : pb (VSn x (gr a 0).length) = pb (VS x (gr a 0).length) :=
  pb_congr ⟨fun h => h.2.2, fun h => ⟨by have := v.m1; omega, by have := v.m3; omega, h⟩⟩
theorem VT.pb_ {a : List (List Int)} {x y : List Int} (v : VT a) (hx : VS x a.length) (hy : VS y (gr a 0).length) : PB a x y a.length (gr a 0).length :=
  ⟨fun i j hi hj => v.bd hi hj, fun i hi => hx.2.1 i (by have := hx.1; omega), fun j hj => hy.2.1 j (by have := hy.1; omega)⟩
structure POk (a : List (List Int)) (x y : List Int) : Prop where
  v : VT a
  x : VS x a.length
  y : VS y (gr a 0).length
noncomputable def payF (a : List (List Int)) (x y : List Int) : Value := if pb (POk a x y) = true then frV (payU a x y (gr a 0).length a.length) (tot x * tot y) else .agg #[.int .i64 0, .int .i64 0]
theorem payF_yes {a x y} (h : POk a x y) : payF a x y = frV (payU a x y (gr a 0).length a.length) (tot x * tot y) := by rw [payF, if_pos (pb_true h)]
theorem payF_no {a x y} (h : ¬ POk a x y) : payF a x y = .agg #[.int .i64 0, .int .i64 0] := by rw [payF, if_neg (by rw [pb_false h]; decide)]

theorem validShares_any' (A : Option Addr) (n c : Nat) (xs : List Int) (m : Int) (w : World) (hx : Ints w A n c xs) (hm : m ≤ 3) :
    Calls Try.prog 53 #[.slice A n c, .int .i64 m] w fun e w' => e = .returned (.bool (pb (VS xs m))) ∧ Quiet w w' := validShares_any A n c xs m w hx hm
theorem ValidShares_any' (A : Option Addr) (n c : Nat) (xs : List Int) (m : Int) (w : World) (hx : Ints w A n c xs) (_ : m ≤ 3) :
    Calls Try.prog 39 #[.slice A n c, .int .i64 m] w fun e w' => e = .returned (.bool (pb (VSn xs m))) ∧ Quiet w w' := ValidShares_impl A n c xs m w hx

set_option maxRecDepth 100000 in
set_option maxHeartbeats 2000000 in
theorem PayOf_spec (A X Y : Option Addr) (n c nx cx ny cy : Nat) (a : List (List Int)) (x y : List Int) (w : World) (ha : IntRows w A n c a) (hx : Ints w X nx cx x) (hy : Ints w Y ny cy y) :
    Calls Try.prog 14 #[.slice A n c, .slice X nx cx, .slice Y ny cy] w (Ret (.tuple #[payF a x y, .bool (pb (POk a x y))]) w) := by
  have HA := Lib.hid ha
  have HX := Lib.hid hx
  have HY := Lib.hid hy
  have HPF := Lib.hid (PF.start w)
  clear ha hx hy
  by_cases hv : VT a
  · have HV := Lib.hid hv
    have hn1 := hv.n1
    have hn3 := hv.n3
    have hm1 := hv.m1
    have hm3 := hv.m3
    rw [HA.out.len] at hn1 hn3
    have HC := Lib.hid (pb_true hv ▸ validTable_any _ _ _ _ _ (HA.out.keep HPF.out.keep))
    clear hv
    have HLEN := Lib.hid HA.out.len
    by_cases hvx : VS x a.length
    · have HVX := Lib.hid hvx
      have hq := fun W (k : Keep w W) => validShares_any' _ _ _ _ (n : Int) W (HX.out.keep k) (by omega)
      rw [show pb (VS x (n : Int)) = true by rw [← HLEN.out]; exact pb_true hvx] at hq
      have HQ := Lib.hid hq
      clear hvx hq
      by_cases hvy : VS y (gr a 0).length
      · have HVY := Lib.hid hvy
        have hq := fun W (k : Keep w W) => validShares_any' _ _ _ _ ((gr a 0).length : Int) W (HY.out.keep k) (by omega)
        rw [show pb (VS y ((gr a 0).length : Int)) = true by exact pb_true hvy] at hq
        have HQ2 := Lib.hid hq
        have HP := Lib.hid (POk.mk HV.out HVX.out HVY.out)
        have HPB := Lib.hid (HV.out.pb_ HVX.out HVY.out)
        have tx := HVX.out.2.2
        have ty := HVY.out.2.2
        have h1 : n = nx := by have := HVX.out.1; have := HX.out.len; have := HLEN.out; omega
        have h2 : (gr a 0).length = ny := by have := HVY.out.1; have := HY.out.len; omega
        subst h1
        clear hvy hq
        obtain ⟨b, o, rb, ro, cc, rfl, tab⟩ := HA.out.tab HV.out
        have HT := Lib.hid tab
        have HM := Lib.hid h2
        clear tab h2
        have HN2 := Lib.hid HLEN.out
        rw [payF_yes HP.out, pb_true HP.out, HLEN.out, HM.out]
        rw [HM.out] at HT HPB
        rw [HLEN.out] at HPB
        rw [HM.out] at HQ2 hm1 hm3
        have hrow := HT.out.row 0 (by omega)
        simp only [Nat.add_zero] at hrow
        have HROW := Lib.hid hrow
        clear hrow
        go_enter Try.func14, Try.ntmps14
        go_wp2_with fail
        refine HC.out.mono ?_
        rintro e w1 ⟨rfl, hq⟩
        have HPF1 := Lib.hid (HPF.out.up hq.below)
        clear hq HC HPF
        go_wp2_with fail
        refine (HQ.out _ HPF1.out.keep).mono ?_
        rintro e w2 ⟨rfl, hq⟩
        have HPF := Lib.hid (HPF1.out.up hq.below)
        have hrow := HPF.out.keep _ _ HROW.out
        clear hq HQ HPF1
        go_wp2_with fail
        refine (HQ2.out _ HPF.out.keep).mono ?_
        rintro e w3 ⟨rfl, hq⟩
        have HPF1 := Lib.hid (HPF.out.up hq.below)
        clear hq HQ2 HPF hrow
        have hxy : 1 ≤ tot x * tot y ∧ tot x * tot y ≤ 9000000 := by
          have hbx := tot_bd hn3 HX.out.len HPB.out.x
          have hby := tot_bd hm3 HY.out.len HPB.out.y
          have h1 : 1 * 1 ≤ tot x * tot y := Int.mul_le_mul (by omega) (by omega) (by omega) (by omega)
          have h2 : tot x * tot y ≤ 3000 * 3000 := Int.mul_le_mul hbx.2 hby.2 hby.1 (by omega)
          omega
        obtain ⟨xy1, xy2⟩ := hxy
        have hpu := payU_bd HPB.out hm3 (Nat.le_refl n)
        go_wp2_with fail
        have HMP := Lib.hid (payUp_any b o rb ro cc n ny c cx cy X Y a x y w3 (HT.out.keep HPF1.out.keep) (HX.out.keep HPF1.out.keep) (HY.out.keep HPF1.out.keep) HPB.out)
        refine HMP.out.mono ?_
        rintro e w4 ⟨rfl, hb⟩
        have HPF := Lib.hid (HPF1.out.up hb.below)
        clear hb HMP HPF1
        go_wp2_with fail
        have HMP := Lib.hid (sum_any _ _ _ _ _ (HX.out.keep HPF.out.keep) (HVX.out.sumOk (by rw [HLEN.out]; omega)))
        refine HMP.out.mono ?_
        rintro e w5 ⟨rfl, hb⟩
        have HPF1 := Lib.hid (HPF.out.up hb.below)
        clear hb HMP HPF
        go_wp2_with fail
        have HMP := Lib.hid (sum_any _ _ _ _ _ (HY.out.keep HPF1.out.keep) (HVY.out.sumOk (by rw [HM.out]; omega)))
        refine HMP.out.mono ?_
        rintro e w6 ⟨rfl, hb⟩
        have HPF := Lib.hid (HPF1.out.up hb.below)
        clear hb HMP HPF1
        have HMP := Lib.hid (frac_any (payU a x y ny n) (tot x * tot y) w6 (by unfold Mid; omega) (by unfold Mid; omega) xy1)
        go_wp2_with fail
        refine HMP.out.mono ?_
        rintro e w7 ⟨rfl, hb⟩
        have HPF1 := Lib.hid (HPF.out.up hb)
        clear hb HMP HPF
        have HPF := HPF1
        clear HPF1
        have HFV : Hid (frV (payU a x y ny n) (tot x * tot y) = .agg #[.int .i64 (frU (payU a x y ny n) (tot x * tot y)), .int .i64 (frD (payU a x y ny n) (tot x * tot y))]) := Lib.hid rfl
        rw [HFV.out]
        generalize frU (payU a x y ny n) (tot x * tot y) = U at *
        generalize frD (payU a x y ny n) (tot x * tot y) = D at *
        have c0 := blk_cell HPF.out.box (i := 0) rfl
        have c1 := blk_cell HPF.out.box (i := 1) rfl
        have f0 := blk_frozen HPF.out.box 0
        have f1 := blk_frozen HPF.out.box 1
        go_wp2
        clear c0 c1 f0 f1
        have B1 := blk_set (blk_set HPF.out.box 0 (.int .i64 U)) 1 (.int .i64 D)
        have r0 := blk_cell B1 (i := 0) (v := .int .i64 U) rfl
        have r1 := blk_cell B1 (i := 1) (v := .int .i64 D) rfl
        have HBX := Lib.hid ((HPF.out.below.setCell (p := ⟨w.heap.size, 0, none⟩) (Nat.le_refl _) (.int .i64 U)).setCell (p := ⟨w.heap.size, 1, none⟩) (Nat.le_refl _) (.int .i64 D))
        clear B1 HPF
        generalize (w7.setCell ⟨w.heap.size, 0, none⟩ (.int .i64 U)).setCell ⟨w.heap.size, 1, none⟩ (.int .i64 D) = WE at *
        refine bodyPost_ret (v := .tuple #[.agg #[.int .i64 U, .int .i64 D], .bool true]) (by simp [results, Try.results14, go_sem, r0, r1]) rfl ?_
        exact ⟨by rw [HFV.out], HBX.out⟩
      · have hq := fun W (k : Keep w W) => validShares_any' _ _ _ _ ((gr a 0).length : Int) W (HY.out.keep k) (by omega)
        rw [show pb (VS y ((gr a 0).length : Int)) = false by exact pb_false hvy] at hq
        have HQ2 := Lib.hid hq
        have HNO := Lib.hid (show payF a x y = .agg #[.int .i64 0, .int .i64 0] ∧ pb (POk a x y) = false from ⟨payF_no fun h => hvy h.y, pb_false fun h => hvy h.y⟩)
        clear hvy hq
        obtain ⟨b, o, rfl, hr⟩ := HA.out.at_ (by omega)
        obtain ⟨R, c', hrow, -⟩ := hr 0 (by omega)
        simp only [Nat.add_zero] at hrow
        have HROW := Lib.hid hrow
        clear hr hrow
        go_enter Try.func14, Try.ntmps14
        go_wp2_with fail
        refine HC.out.mono ?_
        rintro e w1 ⟨rfl, hq⟩
        have HPF1 := Lib.hid (HPF.out.up hq.below)
        clear hq HC HPF
        go_wp2_with fail
        refine (HQ.out _ HPF1.out.keep).mono ?_
        rintro e w2 ⟨rfl, hq⟩
        have HPF := Lib.hid (HPF1.out.up hq.below)
        have hrow := HPF.out.keep _ _ HROW.out
        clear hq HQ HPF1
        go_wp2_with fail
        refine (HQ2.out _ HPF.out.keep).mono ?_
        rintro e w3 ⟨rfl, hq⟩
        have HPF1 := Lib.hid (HPF.out.up hq.below)
        clear hq HQ2 HPF hrow
        have HPF := HPF1
        clear HPF1
        have c0 := blk_cell HPF.out.box (i := 0) rfl
        have c1 := blk_cell HPF.out.box (i := 1) rfl
        have f0 := blk_frozen HPF.out.box 0
        have f1 := blk_frozen HPF.out.box 1
        go_wp2
        clear c0 c1 f0 f1
        have B1 := blk_set (blk_set HPF.out.box 0 (.int .i64 0)) 1 (.int .i64 0)
        have r0 := blk_cell B1 (i := 0) (v := .int .i64 0) rfl
        have r1 := blk_cell B1 (i := 1) (v := .int .i64 0) rfl
        have HBX := Lib.hid ((HPF.out.below.setCell (p := ⟨w.heap.size, 0, none⟩) (Nat.le_refl _) (.int .i64 0)).setCell (p := ⟨w.heap.size, 1, none⟩) (Nat.le_refl _) (.int .i64 0))
        clear B1 HPF
        generalize (w3.setCell ⟨w.heap.size, 0, none⟩ (.int .i64 0)).setCell ⟨w.heap.size, 1, none⟩ (.int .i64 0) = WE at *
        refine bodyPost_ret (v := .tuple #[.agg #[.int .i64 0, .int .i64 0], .bool false]) (by simp [results, Try.results14, go_sem, r0, r1]) rfl ?_
        exact ⟨by rw [HNO.out.1, HNO.out.2], HBX.out⟩
    · have hq := fun W (k : Keep w W) => validShares_any' _ _ _ _ (n : Int) W (HX.out.keep k) (by omega)
      rw [show pb (VS x (n : Int)) = false by rw [← HLEN.out]; exact pb_false hvx] at hq
      have HQ := Lib.hid hq
      have HNO := Lib.hid (show payF a x y = .agg #[.int .i64 0, .int .i64 0] ∧ pb (POk a x y) = false from ⟨payF_no fun h => hvx h.x, pb_false fun h => hvx h.x⟩)
      clear hvx hq
      go_enter Try.func14, Try.ntmps14
      go_wp2_with fail
      refine HC.out.mono ?_
      rintro e w1 ⟨rfl, hq⟩
      have HPF1 := Lib.hid (HPF.out.up hq.below)
      clear hq HC HPF
      go_wp2_with fail
      refine (HQ.out _ HPF1.out.keep).mono ?_
      rintro e w2 ⟨rfl, hq⟩
      have HPF := Lib.hid (HPF1.out.up hq.below)
      clear hq HQ HPF1
      have c0 := blk_cell HPF.out.box (i := 0) rfl
      have c1 := blk_cell HPF.out.box (i := 1) rfl
      have f0 := blk_frozen HPF.out.box 0
      have f1 := blk_frozen HPF.out.box 1
      go_wp2
      clear c0 c1 f0 f1
      have B1 := blk_set (blk_set HPF.out.box 0 (.int .i64 0)) 1 (.int .i64 0)
      have r0 := blk_cell B1 (i := 0) (v := .int .i64 0) rfl
      have r1 := blk_cell B1 (i := 1) (v := .int .i64 0) rfl
      have HBX := Lib.hid ((HPF.out.below.setCell (p := ⟨w.heap.size, 0, none⟩) (Nat.le_refl _) (.int .i64 0)).setCell (p := ⟨w.heap.size, 1, none⟩) (Nat.le_refl _) (.int .i64 0))
      clear B1 HPF
      generalize (w2.setCell ⟨w.heap.size, 0, none⟩ (.int .i64 0)).setCell ⟨w.heap.size, 1, none⟩ (.int .i64 0) = WE at *
      refine bodyPost_ret (v := .tuple #[.agg #[.int .i64 0, .int .i64 0], .bool false]) (by simp [results, Try.results14, go_sem, r0, r1]) rfl ?_
      exact ⟨by rw [HNO.out.1, HNO.out.2], HBX.out⟩
  · have HC := Lib.hid (pb_false hv ▸ validTable_any _ _ _ _ _ (HA.out.keep HPF.out.keep))
    have HNO := Lib.hid (show payF a x y = .agg #[.int .i64 0, .int .i64 0] ∧ pb (POk a x y) = false from ⟨payF_no fun h => hv h.v, pb_false fun h => hv h.v⟩)
    clear hv
    go_enter Try.func14, Try.ntmps14
    go_wp2_with fail
    refine HC.out.mono ?_
    rintro e w1 ⟨rfl, hq⟩
    have HPF1 := Lib.hid (HPF.out.up hq.below)
    clear hq HC HPF
    have HPF := HPF1
    clear HPF1
    have c0 := blk_cell HPF.out.box (i := 0) rfl
    have c1 := blk_cell HPF.out.box (i := 1) rfl
    have f0 := blk_frozen HPF.out.box 0
    have f1 := blk_frozen HPF.out.box 1
    go_wp2
    clear c0 c1 f0 f1
    have B1 := blk_set (blk_set HPF.out.box 0 (.int .i64 0)) 1 (.int .i64 0)
    have r0 := blk_cell B1 (i := 0) (v := .int .i64 0) rfl
    have r1 := blk_cell B1 (i := 1) (v := .int .i64 0) rfl
    have HBX := Lib.hid ((HPF.out.below.setCell (p := ⟨w.heap.size, 0, none⟩) (Nat.le_refl _) (.int .i64 0)).setCell (p := ⟨w.heap.size, 1, none⟩) (Nat.le_refl _) (.int .i64 0))
    clear B1 HPF
    generalize (w1.setCell ⟨w.heap.size, 0, none⟩ (.int .i64 0)).setCell ⟨w.heap.size, 1, none⟩ (.int .i64 0) = WE at *
    refine bodyPost_ret (v := .tuple #[.agg #[.int .i64 0, .int .i64 0], .bool false]) (by simp [results, Try.results14, go_sem, r0, r1]) rfl ?_
    exact ⟨by rw [HNO.out.1, HNO.out.2], HBX.out⟩

set_option maxRecDepth 100000 in
set_option maxHeartbeats 2000000 in
theorem PayOf_impl (A X Y : Option Addr) (n c nx cx ny cy : Nat) (a : List (List Int)) (x y : List Int) (w : World) (ha : IntRows w A n c a) (hx : Ints w X nx cx x) (hy : Ints w Y ny cy y) :
    Calls Try.prog 17 #[.slice A n c, .slice X nx cx, .slice Y ny cy] w (Ret (.tuple #[payF a x y, .bool (pb (POk a x y))]) w) := by
  have HA := Lib.hid ha
  have HX := Lib.hid hx
  have HY := Lib.hid hy
  have HPF := Lib.hid (PF.start w)
  clear ha hx hy
  by_cases hv : VT a
  · have HV := Lib.hid hv
    have hn1 := hv.n1
    have hn3 := hv.n3
    have hm1 := hv.m1
    have hm3 := hv.m3
    rw [HA.out.len] at hn1 hn3
    have HC := Lib.hid (pb_true hv ▸ ValidTable_impl _ _ _ _ _ (HA.out.keep HPF.out.keep))
    clear hv
    have HLEN := Lib.hid HA.out.len
    by_cases hvx : VS x a.length
    · have HVX := Lib.hid hvx
      have hq := fun W (k : Keep w W) => ValidShares_any' _ _ _ _ (n : Int) W (HX.out.keep k) (by omega)
      rw [show pb (VSn x (n : Int)) = true by rw [← HLEN.out]; rw [HV.out.vsn]; exact pb_true hvx] at hq
      have HQ := Lib.hid hq
      clear hvx hq
      by_cases hvy : VS y (gr a 0).length
      · have HVY := Lib.hid hvy
        have hq := fun W (k : Keep w W) => ValidShares_any' _ _ _ _ ((gr a 0).length : Int) W (HY.out.keep k) (by omega)
        rw [show pb (VSn y ((gr a 0).length : Int)) = true by rw [HV.out.vsm]; exact pb_true hvy] at hq
        have HQ2 := Lib.hid hq
        have HP := Lib.hid (POk.mk HV.out HVX.out HVY.out)
        have HPB := Lib.hid (HV.out.pb_ HVX.out HVY.out)
        have tx := HVX.out.2.2
        have ty := HVY.out.2.2
        have h1 : n = nx := by have := HVX.out.1; have := HX.out.len; have := HLEN.out; omega
        have h2 : (gr a 0).length = ny := by have := HVY.out.1; have := HY.out.len; omega
        subst h1
        clear hvy hq
        obtain ⟨b, o, rb, ro, cc, rfl, tab⟩ := HA.out.tab HV.out
        have HT := Lib.hid tab
        have HM := Lib.hid h2
        clear tab h2
        have HN2 := Lib.hid HLEN.out
        rw [payF_yes HP.out, pb_true HP.out, HLEN.out, HM.out]
        rw [HM.out] at HT HPB
        rw [HLEN.out] at HPB
        rw [HM.out] at HQ2 hm1 hm3
        have hrow := HT.out.row 0 (by omega)
        simp only [Nat.add_zero] at hrow
        have HROW := Lib.hid hrow
        clear hrow
        go_enter Try.func17, Try.ntmps17
        go_wp2_with fail
        refine HC.out.mono ?_
        rintro e w1 ⟨rfl, hq⟩
        have HPF1 := Lib.hid (HPF.out.up hq.below)
        clear hq HC HPF
        go_wp2_with fail
        refine (HQ.out _ HPF1.out.keep).mono ?_
        rintro e w2 ⟨rfl, hq⟩
        have HPF := Lib.hid (HPF1.out.up hq.below)
        have hrow := HPF.out.keep _ _ HROW.out
        clear hq HQ HPF1
        go_wp2_with fail
        refine (HQ2.out _ HPF.out.keep).mono ?_
        rintro e w3 ⟨rfl, hq⟩
        have HPF1 := Lib.hid (HPF.out.up hq.below)
        clear hq HQ2 HPF hrow
        go_wp2_with fail
        have HMP := Lib.hid (meanPay_any b o rb ro cc n ny c cx cy X Y a x y w3 (HT.out.keep HPF1.out.keep) (HX.out.keep HPF1.out.keep) (HY.out.keep HPF1.out.keep) HPB.out tx ty)
        refine HMP.out.mono ?_
        rintro e w7 ⟨rfl, hb⟩
        have HPF := Lib.hid (HPF1.out.up hb)
        clear hb HMP HPF1
        have HFV : Hid (frV (payU a x y ny n) (tot x * tot y) = .agg #[.int .i64 (frU (payU a x y ny n) (tot x * tot y)), .int .i64 (frD (payU a x y ny n) (tot x * tot y))]) := Lib.hid rfl
        rw [HFV.out]
        generalize frU (payU a x y ny n) (tot x * tot y) = U at *
        generalize frD (payU a x y ny n) (tot x * tot y) = D at *
        have c0 := blk_cell HPF.out.box (i := 0) rfl
        have c1 := blk_cell HPF.out.box (i := 1) rfl
        have f0 := blk_frozen HPF.out.box 0
        have f1 := blk_frozen HPF.out.box 1
        go_wp2
        clear c0 c1 f0 f1
        have B1 := blk_set (blk_set HPF.out.box 0 (.int .i64 U)) 1 (.int .i64 D)
        have r0 := blk_cell B1 (i := 0) (v := .int .i64 U) rfl
        have r1 := blk_cell B1 (i := 1) (v := .int .i64 D) rfl
        have HBX := Lib.hid ((HPF.out.below.setCell (p := ⟨w.heap.size, 0, none⟩) (Nat.le_refl _) (.int .i64 U)).setCell (p := ⟨w.heap.size, 1, none⟩) (Nat.le_refl _) (.int .i64 D))
        clear B1 HPF
        generalize (w7.setCell ⟨w.heap.size, 0, none⟩ (.int .i64 U)).setCell ⟨w.heap.size, 1, none⟩ (.int .i64 D) = WE at *
        refine bodyPost_ret (v := .tuple #[.agg #[.int .i64 U, .int .i64 D], .bool true]) (by simp [results, Try.results17, go_sem, r0, r1]) rfl ?_
        exact ⟨by rw [HFV.out], HBX.out⟩
      · have hq := fun W (k : Keep w W) => ValidShares_any' _ _ _ _ ((gr a 0).length : Int) W (HY.out.keep k) (by omega)
        rw [show pb (VSn y ((gr a 0).length : Int)) = false by rw [HV.out.vsm]; exact pb_false hvy] at hq
        have HQ2 := Lib.hid hq
        have HNO := Lib.hid (show payF a x y = .agg #[.int .i64 0, .int .i64 0] ∧ pb (POk a x y) = false from ⟨payF_no fun h => hvy h.y, pb_false fun h => hvy h.y⟩)
        clear hvy hq
        obtain ⟨b, o, rfl, hr⟩ := HA.out.at_ (by omega)
        obtain ⟨R, c', hrow, -⟩ := hr 0 (by omega)
        simp only [Nat.add_zero] at hrow
        have HROW := Lib.hid hrow
        clear hr hrow
        go_enter Try.func17, Try.ntmps17
        go_wp2_with fail
        refine HC.out.mono ?_
        rintro e w1 ⟨rfl, hq⟩
        have HPF1 := Lib.hid (HPF.out.up hq.below)
        clear hq HC HPF
        go_wp2_with fail
        refine (HQ.out _ HPF1.out.keep).mono ?_
        rintro e w2 ⟨rfl, hq⟩
        have HPF := Lib.hid (HPF1.out.up hq.below)
        have hrow := HPF.out.keep _ _ HROW.out
        clear hq HQ HPF1
        go_wp2_with fail
        refine (HQ2.out _ HPF.out.keep).mono ?_
        rintro e w3 ⟨rfl, hq⟩
        have HPF1 := Lib.hid (HPF.out.up hq.below)
        clear hq HQ2 HPF hrow
        have HPF := HPF1
        clear HPF1
        have c0 := blk_cell HPF.out.box (i := 0) rfl
        have c1 := blk_cell HPF.out.box (i := 1) rfl
        have f0 := blk_frozen HPF.out.box 0
        have f1 := blk_frozen HPF.out.box 1
        go_wp2
        clear c0 c1 f0 f1
        have B1 := blk_set (blk_set HPF.out.box 0 (.int .i64 0)) 1 (.int .i64 0)
        have r0 := blk_cell B1 (i := 0) (v := .int .i64 0) rfl
        have r1 := blk_cell B1 (i := 1) (v := .int .i64 0) rfl
        have HBX := Lib.hid ((HPF.out.below.setCell (p := ⟨w.heap.size, 0, none⟩) (Nat.le_refl _) (.int .i64 0)).setCell (p := ⟨w.heap.size, 1, none⟩) (Nat.le_refl _) (.int .i64 0))
        clear B1 HPF
        generalize (w3.setCell ⟨w.heap.size, 0, none⟩ (.int .i64 0)).setCell ⟨w.heap.size, 1, none⟩ (.int .i64 0) = WE at *
        refine bodyPost_ret (v := .tuple #[.agg #[.int .i64 0, .int .i64 0], .bool false]) (by simp [results, Try.results17, go_sem, r0, r1]) rfl ?_
        exact ⟨by rw [HNO.out.1, HNO.out.2], HBX.out⟩
    · have hq := fun W (k : Keep w W) => ValidShares_any' _ _ _ _ (n : Int) W (HX.out.keep k) (by omega)
      rw [show pb (VSn x (n : Int)) = false by rw [← HLEN.out]; rw [HV.out.vsn]; exact pb_false hvx] at hq
      have HQ := Lib.hid hq
      have HNO := Lib.hid (show payF a x y = .agg #[.int .i64 0, .int .i64 0] ∧ pb (POk a x y) = false from ⟨payF_no fun h => hvx h.x, pb_false fun h => hvx h.x⟩)
      clear hvx hq
      go_enter Try.func17, Try.ntmps17
      go_wp2_with fail
      refine HC.out.mono ?_
      rintro e w1 ⟨rfl, hq⟩
      have HPF1 := Lib.hid (HPF.out.up hq.below)
      clear hq HC HPF
      go_wp2_with fail
      refine (HQ.out _ HPF1.out.keep).mono ?_
      rintro e w2 ⟨rfl, hq⟩
      have HPF := Lib.hid (HPF1.out.up hq.below)
      clear hq HQ HPF1
      have c0 := blk_cell HPF.out.box (i := 0) rfl
      have c1 := blk_cell HPF.out.box (i := 1) rfl
      have f0 := blk_frozen HPF.out.box 0
      have f1 := blk_frozen HPF.out.box 1
      go_wp2
      clear c0 c1 f0 f1
      have B1 := blk_set (blk_set HPF.out.box 0 (.int .i64 0)) 1 (.int .i64 0)
      have r0 := blk_cell B1 (i := 0) (v := .int .i64 0) rfl
      have r1 := blk_cell B1 (i := 1) (v := .int .i64 0) rfl
      have HBX := Lib.hid ((HPF.out.below.setCell (p := ⟨w.heap.size, 0, none⟩) (Nat.le_refl _) (.int .i64 0)).setCell (p := ⟨w.heap.size, 1, none⟩) (Nat.le_refl _) (.int .i64 0))
      clear B1 HPF
      generalize (w2.setCell ⟨w.heap.size, 0, none⟩ (.int .i64 0)).setCell ⟨w.heap.size, 1, none⟩ (.int .i64 0) = WE at *
      refine bodyPost_ret (v := .tuple #[.agg #[.int .i64 0, .int .i64 0], .bool false]) (by simp [results, Try.results17, go_sem, r0, r1]) rfl ?_
      exact ⟨by rw [HNO.out.1, HNO.out.2], HBX.out⟩
  · have HC := Lib.hid (pb_false hv ▸ ValidTable_impl _ _ _ _ _ (HA.out.keep HPF.out.keep))
    have HNO := Lib.hid (show payF a x y = .agg #[.int .i64 0, .int .i64 0] ∧ pb (POk a x y) = false from ⟨payF_no fun h => hv h.v, pb_false fun h => hv h.v⟩)
    clear hv
    go_enter Try.func17, Try.ntmps17
    go_wp2_with fail
    refine HC.out.mono ?_
    rintro e w1 ⟨rfl, hq⟩
    have HPF1 := Lib.hid (HPF.out.up hq.below)
    clear hq HC HPF
    have HPF := HPF1
    clear HPF1
    have c0 := blk_cell HPF.out.box (i := 0) rfl
    have c1 := blk_cell HPF.out.box (i := 1) rfl
    have f0 := blk_frozen HPF.out.box 0
    have f1 := blk_frozen HPF.out.box 1
    go_wp2
    clear c0 c1 f0 f1
    have B1 := blk_set (blk_set HPF.out.box 0 (.int .i64 0)) 1 (.int .i64 0)
    have r0 := blk_cell B1 (i := 0) (v := .int .i64 0) rfl
    have r1 := blk_cell B1 (i := 1) (v := .int .i64 0) rfl
    have HBX := Lib.hid ((HPF.out.below.setCell (p := ⟨w.heap.size, 0, none⟩) (Nat.le_refl _) (.int .i64 0)).setCell (p := ⟨w.heap.size, 1, none⟩) (Nat.le_refl _) (.int .i64 0))
    clear B1 HPF
    generalize (w1.setCell ⟨w.heap.size, 0, none⟩ (.int .i64 0)).setCell ⟨w.heap.size, 1, none⟩ (.int .i64 0) = WE at *
    refine bodyPost_ret (v := .tuple #[.agg #[.int .i64 0, .int .i64 0], .bool false]) (by simp [results, Try.results17, go_sem, r0, r1]) rfl ?_
    exact ⟨by rw [HNO.out.1, HNO.out.2], HBX.out⟩

theorem frV_form (u d : Int) : ∃ U D, frV u d = .agg #[.int .i64 U, .int .i64 D] := ⟨_, _, rfl⟩
theorem payF_form (a : List (List Int)) (x y : List Int) : ∃ U D, payF a x y = .agg #[.int .i64 U, .int .i64 D] := by
  unfold payF
  split
  · exact frV_form _ _
  · exact ⟨_, _, rfl⟩

end Go.Proofs.Ytmhknknapciebaa

/- Ints compared by the library's cmp.Compare. -/
namespace Go.Proofs.Ytmhknknapciebaa
open Go.RowKit

theorem isNaN_any (x : Int) (w : World) : Calls Try.prog 117 #[.int .i64 x] w fun e w' => e = .returned (.bool false) ∧ w' = w := by
  go_enter Try.func117, Try.ntmps117
  go_wp2
  go_ret
  exact ⟨by first | rfl | simp, rfl⟩
set_option maxHeartbeats 1600000 in
theorem compare_any (x y : Int) (w : World) : Calls Try.prog 115 #[.int .i64 x, .int .i64 y] w fun e w' => e = .returned (.int .i64 (if y < x then 1 else if x < y then -1 else 0)) ∧ w' = w := by
  have HN := Lib.hid (fun z W => isNaN_any z W)
  by_cases h1 : x < y
  · have h2 : ¬ y < x := by omega
    have HE := Lib.hid (show (if y < x then (1 : Int) else if x < y then -1 else 0) = -1 by rw [if_neg h2, if_pos h1])
    rw [HE.out]
    go_enter Try.func115, Try.ntmps115
    go_wp2_with (go_at_call 117; refine (HN.out _ _).mono ?_; rintro e w' ⟨rfl, rfl⟩)
    go_ret
    exact ⟨rfl, rfl⟩
  · by_cases h2 : y < x
    · have HE := Lib.hid (show (if y < x then (1 : Int) else if x < y then -1 else 0) = 1 by rw [if_pos h2])
      rw [HE.out]
      go_enter Try.func115, Try.ntmps115
      go_wp2_with (go_at_call 117; refine (HN.out _ _).mono ?_; rintro e w' ⟨rfl, rfl⟩)
      go_ret
      exact ⟨rfl, rfl⟩
    · have HE := Lib.hid (show (if y < x then (1 : Int) else if x < y then -1 else 0) = 0 by rw [if_neg h2, if_neg h1])
      rw [HE.out]
      go_enter Try.func115, Try.ntmps115
      go_wp2_with (go_at_call 117; refine (HN.out _ _).mono ?_; rintro e w' ⟨rfl, rfl⟩)
      go_ret
      exact ⟨rfl, rfl⟩
end Go.Proofs.Ytmhknknapciebaa

/- Fractions compared by the harness; less, by both programs. -/
namespace Go.Proofs.Ytmhknknapciebaa
open Go.RowKit

set_option maxHeartbeats 400000 in
theorem eqFrac_self (v : Value) (w : World) (hv : ∃ U D, v = .agg #[.int .i64 U, .int .i64 D]) : Calls Try.prog 18 #[v, v] w (Ret (.bool true) w) := by
  obtain ⟨U, D, rfl⟩ := hv
  have b0 := blk_old (blk_new w 26 #[.int .i64 U, .int .i64 D]) (.cells #[.int .i64 U, .int .i64 D] 26)
  have b1 := blk_new (w.alloc (.cells #[.int .i64 U, .int .i64 D] 26)) 26 #[.int .i64 U, .int .i64 D]
  have HB := Lib.hid (below_up (below_alloc w (.cells #[.int .i64 U, .int .i64 D] 26)) (below_alloc _ (.cells #[.int .i64 U, .int .i64 D] 26)))
  rw [World.size_alloc] at b1
  have c0 := blk_cell b0 (i := 0) rfl
  have c1 := blk_cell b0 (i := 1) rfl
  have c2 := blk_cell b1 (i := 0) rfl
  have c3 := blk_cell b1 (i := 1) rfl
  go_enter Try.func18, Try.ntmps18
  go_wp2
  go_ret
  exact ⟨rfl, HB.out⟩

def lessB (u d v e : Int) : Bool := decide (u * e < v * d)
theorem less_bd {u v : Int} (hu : -1000000000 ≤ u ∧ u ≤ 1000000000) (hv : 0 ≤ v ∧ v ≤ 1000000000) : -1000000000000000000 ≤ u * v ∧ u * v ≤ 1000000000000000000 := by
  have h1 : u * v ≤ 1000000000 * v := Int.mul_le_mul_of_nonneg_right hu.2 hv.1
  have h2 : -1000000000 * v ≤ u * v := Int.mul_le_mul_of_nonneg_right hu.1 hv.1
  omega

set_option maxHeartbeats 400000 in
theorem less_spec (u d v e : Int) (w : World) (hu : -1000000000 ≤ u ∧ u ≤ 1000000000) (hv : -1000000000 ≤ v ∧ v ≤ 1000000000) (hd : 0 ≤ d ∧ d ≤ 1000000000) (he : 0 ≤ e ∧ e ≤ 1000000000) :
    Calls Try.prog 95 #[.agg #[.int .i64 u, .int .i64 d], .agg #[.int .i64 v, .int .i64 e]] w (Ret (.bool (lessB u d v e)) w) := by
  obtain ⟨p1, p2⟩ := less_bd hu he
  obtain ⟨p3, p4⟩ := less_bd hv hd
  have b0 := blk_old (blk_new w 26 #[.int .i64 u, .int .i64 d]) (.cells #[.int .i64 v, .int .i64 e] 26)
  have b1 := blk_new (w.alloc (.cells #[.int .i64 u, .int .i64 d] 26)) 26 #[.int .i64 v, .int .i64 e]
  have HB := Lib.hid (below_up (below_alloc w (.cells #[.int .i64 u, .int .i64 d] 26)) (below_alloc _ (.cells #[.int .i64 v, .int .i64 e] 26)))
  rw [World.size_alloc] at b1
  have c0 := blk_cell b0 (i := 0) rfl
  have c1 := blk_cell b0 (i := 1) rfl
  have c2 := blk_cell b1 (i := 0) rfl
  have c3 := blk_cell b1 (i := 1) rfl
  go_enter Try.func95, Try.ntmps95
  go_wp2
  go_ret
  exact ⟨rfl, HB.out⟩

set_option maxHeartbeats 400000 in
theorem compareFracs_any (u d v e : Int) (w : World) (hu : -1000000000 ≤ u ∧ u ≤ 1000000000) (hv : -1000000000 ≤ v ∧ v ≤ 1000000000) (hd : 0 ≤ d ∧ d ≤ 1000000000) (he : 0 ≤ e ∧ e ≤ 1000000000) :
    Calls Try.prog 96 #[.agg #[.int .i64 u, .int .i64 d], .agg #[.int .i64 v, .int .i64 e]] w (Ret (.int .i64 (if v * d < u * e then 1 else if u * e < v * d then -1 else 0)) w) := by
  obtain ⟨p1, p2⟩ := less_bd hu he
  obtain ⟨p3, p4⟩ := less_bd hv hd
  have b0 := blk_old (blk_new w 26 #[.int .i64 u, .int .i64 d]) (.cells #[.int .i64 v, .int .i64 e] 26)
  have b1 := blk_new (w.alloc (.cells #[.int .i64 u, .int .i64 d] 26)) 26 #[.int .i64 v, .int .i64 e]
  have HB := Lib.hid (below_up (below_alloc w (.cells #[.int .i64 u, .int .i64 d] 26)) (below_alloc _ (.cells #[.int .i64 v, .int .i64 e] 26)))
  rw [World.size_alloc] at b1
  have c0 := blk_cell b0 (i := 0) rfl
  have c1 := blk_cell b0 (i := 1) rfl
  have c2 := blk_cell b1 (i := 0) rfl
  have c3 := blk_cell b1 (i := 1) rfl
  have HC := Lib.hid (fun W => compare_any (u * e) (v * d) W)
  generalize hX : (if v * d < u * e then (1 : Int) else if u * e < v * d then -1 else 0) = X at *
  clear hX
  go_enter Try.func96, Try.ntmps96
  go_wp2_with fail
  refine (HC.out _).mono ?_
  rintro e w2 ⟨rfl, rfl⟩
  go_wp2
  go_ret
  exact ⟨rfl, HB.out⟩
set_option maxHeartbeats 400000 in
theorem less_impl (u d v e : Int) (w : World) (hu : -1000000000 ≤ u ∧ u ≤ 1000000000) (hv : -1000000000 ≤ v ∧ v ≤ 1000000000) (hd : 0 ≤ d ∧ d ≤ 1000000000) (he : 0 ≤ e ∧ e ≤ 1000000000) :
    Calls Try.prog 61 #[.agg #[.int .i64 u, .int .i64 d], .agg #[.int .i64 v, .int .i64 e]] w (Ret (.bool (lessB u d v e)) w) := by
  have HC := Lib.hid (fun W => compareFracs_any u d v e W hu hv hd he)
  have b0 := blk_old (blk_new w 26 #[.int .i64 u, .int .i64 d]) (.cells #[.int .i64 v, .int .i64 e] 26)
  have b1 := blk_new (w.alloc (.cells #[.int .i64 u, .int .i64 d] 26)) 26 #[.int .i64 v, .int .i64 e]
  have HB := Lib.hid (below_up (below_alloc w (.cells #[.int .i64 u, .int .i64 d] 26)) (below_alloc _ (.cells #[.int .i64 v, .int .i64 e] 26)))
  rw [World.size_alloc] at b1
  have c0 := blk_cell b0 (i := 0) rfl
  have c1 := blk_cell b0 (i := 1) rfl
  have c2 := blk_cell b1 (i := 0) rfl
  have c3 := blk_cell b1 (i := 1) rfl
  have HL : Hid (lessB u d v e = decide ((if v * d < u * e then (1 : Int) else if u * e < v * d then -1 else 0) < 0)) := Lib.hid (by
    unfold lessB
    by_cases h1 : v * d < u * e
    · rw [if_pos h1, decide_eq_false (by omega)]; rfl
    · rw [if_neg h1]
      by_cases h2 : u * e < v * d
      · rw [if_pos h2, decide_eq_true h2]; rfl
      · rw [if_neg h2, decide_eq_false h2]; rfl)
  rw [HL.out]
  generalize (if v * d < u * e then (1 : Int) else if u * e < v * d then -1 else 0) = X at *
  go_enter Try.func61, Try.ntmps61
  go_wp2_with fail
  generalize (w.alloc (.cells #[.int .i64 u, .int .i64 d] 26)).alloc (.cells #[.int .i64 v, .int .i64 e] 26) = w1 at *
  refine (HC.out _).mono ?_
  rintro e w2 ⟨rfl, hb⟩
  go_wp2
  go_ret
  exact ⟨rfl, below_up HB.out hb⟩
end Go.Proofs.Ytmhknknapciebaa

