/- Greatest common divisors and fractions, by both programs. -/
import Derived.Test.YtibliobcbbhopaaS1
import Derived.Test.YtibliobcbbhopaaLitI
import Derived.Deep.RegionHeld3
namespace Go.Proofs.Ytibliobcbbhopaa
open Go.RowKit

def Mid (x : Int) : Prop := -1000000000000000 ≤ x ∧ x ≤ 1000000000000000
theorem Mid.tmod {x y : Int} (hx : Mid x) : Mid (x.tmod y) := by
  have h : (x.tmod y).natAbs ≤ x.natAbs := by rw [Int.natAbs_tmod]; exact Nat.mod_le _ _
  unfold Mid at *
  omega

set_option maxHeartbeats 400000 in
theorem gcd_any (a b : Int) (w : World) (ha : Mid a) (hb : Mid b) :
    Calls Try.prog 95 #[.int .i64 a, .int .i64 b] w fun e w' => e = .returned (.int .i64 (gcdI a b)) ∧ Quiet w w' := by
  have HA := Lib.hid ha
  have HB := Lib.hid hb
  clear ha hb
  go_enter Try.func95, Try.ntmps95
  go_wp2
  go_loopw [0, 1] (fun s t wr => ∃ x y : Int, s = .int .i64 x ∧ t = .int .i64 y ∧ Hid (Mid x) ∧ Hid (Mid y) ∧ Hid (gcdI x y = gcdI a b) ∧ Quiet w wr) (fun _ t _ => (intOf t).natAbs)
  case atStart => exact ⟨a, b, rfl, rfl, HA, HB, Lib.hid rfl, Quiet.refl _⟩
  case round =>
    obtain ⟨x, y, rfl, rfl, HX, HY, HG, q, rfl⟩ := hrel
    obtain ⟨x1, x2⟩ := HX.out
    obtain ⟨y1, y2⟩ := HY.out
    by_cases hy : y = 0
    · subst hy
      have hg := Lib.hid (gcdI_zero x)
      go_wp2
      all_goals go_ret
      all_goals exact ⟨ret_int (by rw [← HG.out, hg.out]; omega), ⟨_, rfl⟩⟩
    · have hy' : (y != 0) = true := by simpa using hy
      have HM := Lib.hid (HX.out.tmod (y := y))
      have HS := Lib.hid (gcdI_step x y)
      have HT := Lib.hid (tmod_abs (a := x) hy)
      go_wp2
      go_roundw
      case rel => exact ⟨y, x.tmod y, rfl, rfl, HY, HM, Lib.hid (HS.out.trans HG.out), ⟨_, rfl⟩⟩
      case measure => have := HT.out; simpa [intOf] using this

/-- The greatest common divisor of the first k numbers. -/
def gcdL (xs : List Int) : Nat → Int
  | 0 => 0
  | k + 1 => gcdI (gcdL xs k) (gi xs k)
theorem gcdL_nn (xs : List Int) : ∀ k, 0 ≤ gcdL xs k
  | 0 => Int.le_refl _
  | _ + 1 => gcdI_nonneg _ _
theorem gcdL_mid {xs : List Int} (h : ∀ j, j < xs.length → Mid (gi xs j)) : ∀ {k : Nat}, k ≤ xs.length → Mid (gcdL xs k)
  | 0, _ => by simp [gcdL, Mid]
  | k + 1, hk => by
    have h1 := gcdL_mid h (k := k) (by omega)
    have h2 := h k (by omega)
    have h3 := gcdI_nonneg (gcdL xs k) (gi xs k)
    simp only [gcdL]
    by_cases e : gi xs k = 0
    · rw [e, gcdI_zero]; unfold Mid at *; omega
    · have h4 : gcdI (gcdL xs k) (gi xs k) ≤ max (gi xs k) (- gi xs k) := by
        rw [← gcdI_zero]
        have h5 : gcdI (gi xs k) 0 = (gi xs k).natAbs := by unfold gcdI; simp
        rw [h5]
        have : gcdI (gcdL xs k) (gi xs k) ∣ ((gi xs k).natAbs : Int) := Int.dvd_natAbs.2 (gcdI_dvd_right _ _)
        exact Int.le_of_dvd (by omega) this
      unfold Mid at *
      omega

set_option maxHeartbeats 1000000 in
theorem commonFactor_any (A : Option Addr) (n c : Nat) (xs : List Int) (w : World) (hx : Ints w A n c xs) (hm : ∀ j, j < xs.length → Mid (gi xs j)) :
    Calls Try.prog 100 #[.slice A n c] w fun e w' => e = .returned (.int .i64 (gcdL xs n)) ∧ Quiet w w' := by
  have HX := Lib.hid hx
  have HL := Lib.hid hx.len
  have hmx := hx.max
  have HM := Lib.hid hm
  clear hx hm
  go_enter Try.func100, Try.ntmps100
  go_wp2
  go_loopw [3, 8] (fun f i wr => ∃ (k : Nat) (x : Int), k ≤ n ∧ i = .int .i64 k ∧ f = .int .i64 x ∧ Hid (Mid x) ∧ Hid (gcdI x 0 = gcdL xs k) ∧ Quiet w wr) (fun _ i _ => n - (intOf i).toNat)
  case atStart => exact ⟨0, 0, Nat.zero_le _, rfl, rfl, Lib.hid (by unfold Mid; omega), Lib.hid (by rw [gcdI_zero]; rfl), Quiet.refl _⟩
  case round =>
    obtain ⟨k, x, hk, rfl, rfl, HF, HG, q, rfl⟩ := hrel
    by_cases hlt : k < n
    · obtain ⟨b, o, rfl, hc⟩ := HX.out.at_ (by omega)
      have c1 := hc k hlt
      have HZ := Lib.hid (HM.out k (by rw [HL.out]; exact hlt))
      have HG2 : Hid (gcdI x (gi xs k) = gcdL xs (k + 1)) := Lib.hid (by
        rw [gcdL]
        have := HG.out
        rw [gcdI_zero] at this
        rw [← this, gcdI_abs])
      clear hc
      go_wp2
      clear c1
      go_loopw [3, 5] (fun f v wi => ∃ (s t : Int), f = .int .i64 s ∧ v = .int .i64 t ∧ Hid (Mid s) ∧ Hid (Mid t) ∧ Hid (gcdI s t = gcdL xs (k + 1)) ∧ Quiet w wi) (fun _ v _ => (intOf v).natAbs)
      case atStart => exact ⟨x, gi xs k, rfl, rfl, HF, HZ, HG2, by first | exact ⟨_, rfl⟩ | exact Quiet.two _ _ _⟩
      case round =>
        clear HF HG HG2 HZ
        obtain ⟨s, t, rfl, rfl, HS, HT, HG, q2, rfl⟩ := hrel
        obtain ⟨s1, s2⟩ := HS.out
        obtain ⟨t1, t2⟩ := HT.out
        by_cases hy : t = 0
        · subst hy
          go_wp2
          go_roundw
          case rel => exact ⟨k + 1, s, by omega, by go_num, rfl, HS, HG, by first | exact ⟨_, rfl⟩ | exact Quiet.two _ _ _⟩
          case measure => simp [intOf]; omega
        · have hy' : (t != 0) = true := by simpa using hy
          have HM2 := Lib.hid (HS.out.tmod (y := t))
          have HS2 := Lib.hid (gcdI_step s t)
          have HT2 := Lib.hid (tmod_abs (a := s) hy)
          go_wp2
          go_quiet (fail)
          go_wp2
          go_roundw
          case rel => exact ⟨t, s.tmod t, rfl, rfl, HT, HM2, Lib.hid (HS2.out.trans HG.out), by first | exact ⟨_, rfl⟩ | exact Quiet.two _ _ _⟩
          case measure => have := HT2.out; simpa [intOf] using this
    · obtain rfl : k = n := by omega
      obtain ⟨x1, x2⟩ := HF.out
      have hg := Lib.hid (gcdI_zero x)
      go_wp2
      all_goals go_ret
      all_goals exact ⟨ret_int (by rw [← HG.out, hg.out]; omega), ⟨_, rfl⟩⟩

/-- A fraction as both programs have it. -/
def frV (u d : Int) : Value := .agg #[.int .i64 (frU u d), .int .i64 (frD u d)]

set_option maxHeartbeats 1000000 in
theorem frac_any (u d : Int) (w : World) (hu : Mid u) (hd : Mid d) (h1 : 1 ≤ d) :
    Calls Try.prog 78 #[.int .i64 u, .int .i64 d] w (Ret (frV u d) w) := by
  have HQ := Lib.hid (fun W => gcd_any u d W hu hd)
  have hg1 := gcdI_pos (a := u) (b := d) (by omega)
  have hg2 := gcdI_le (a := u) (b := d) (by omega)
  have HUB := Lib.hid (frU_bd (u := u) (d := d) (B := 1000000000000000) (by omega) hu)
  have HDB := Lib.hid (frD_bd (u := u) (d := d) (B := 1000000000000000) (by omega) hd.2)
  obtain ⟨u1, u2⟩ := hu
  obtain ⟨d1, d2⟩ := hd
  have hB := Lib.hid (below_alloc w (.cells #[.int .i64 0, .int .i64 0] 53))
  go_enter Try.func78, Try.ntmps78
  go_wp2_with fail
  refine (HQ.out _).mono ?_
  rintro e w2 ⟨rfl, q2, rfl⟩
  have HFU : Hid (frU u d = u.tdiv (gcdI u d)) := Lib.hid rfl
  have HFD : Hid (frD u d = d / gcdI u d) := Lib.hid (by unfold frD; rw [Int.tdiv_eq_ediv_of_nonneg (by omega)])
  generalize gcdI u d = g at *
  have b0 : Blk ((w.alloc (.cells #[.int .i64 0, .int .i64 0] 53)).drewN q2) w.heap.size 53 #[.int .i64 0, .int .i64 0] := blk_new w _ _
  have c0 := blk_cell b0 (i := 0) rfl
  have c1 := blk_cell b0 (i := 1) rfl
  have f0 := blk_frozen b0 0
  have f1 := blk_frozen b0 1
  have g0 : (g == 0) = false := by simp; omega
  go_wp2
  go_region
  all_goals clear c0 c1 f0 f1
  all_goals go_wp2
  have B1 := blk_set (blk_set (show Blk ((w.alloc (.cells #[.int .i64 0, .int .i64 0] 53)).drewN (q2 + 1)) w.heap.size 53 #[.int .i64 0, .int .i64 0] from blk_new w _ _) 0 (.int .i64 (u.tdiv g))) 1 (.int .i64 (d / g))
  have r0 := blk_cell B1 (i := 0) (v := .int .i64 (u.tdiv g)) rfl
  have r1 := blk_cell B1 (i := 1) (v := .int .i64 (d / g)) rfl
  have HBW := Lib.hid (((below_drewN hB.out (q2 + 1)).setCell (p := ⟨w.heap.size, 0, none⟩) (Nat.le_refl _) (.int .i64 (u.tdiv g))).setCell (p := ⟨w.heap.size, 1, none⟩) (Nat.le_refl _) (.int .i64 (d / g)))
  clear B1 b0
  generalize (((w.alloc (.cells #[.int .i64 0, .int .i64 0] 53)).drewN (q2 + 1)).setCell ⟨w.heap.size, 0, none⟩ (.int .i64 (u.tdiv g))).setCell ⟨w.heap.size, 1, none⟩ (.int .i64 (d / g)) = W3 at *
  refine bodyPost_ret (v := .agg #[.int .i64 (u.tdiv g), .int .i64 (d / g)]) (by simp [results, Try.results78, go_sem, r0, r1]) rfl ?_
  exact ⟨by rw [frV, HFU.out, HFD.out], HBW.out⟩

set_option maxHeartbeats 1000000 in
theorem fracOf_any (u d : Int) (w : World) (hu : Mid u) (hd : Mid d) (h1 : 1 ≤ d) :
    Calls Try.prog 96 #[.int .i64 u, .int .i64 d] w (Ret (frV u d) w) := by
  have hg1 := gcdI_pos (a := u) (b := d) (by omega)
  have hg2 := gcdI_le (a := u) (b := d) (by omega)
  have HGL : Hid (gcdL [u, d] 2 = gcdI u d) := Lib.hid (by
    show gcdI (gcdI 0 u) d = gcdI u d
    rw [gcdI_zero_left, gcdI_abs])
  have HMID : Hid (∀ j, j < [u, d].length → Mid (gi [u, d] j)) := Lib.hid (fun j hj => by
    have h : j = 0 ∨ j = 1 := by simp at hj; omega
    rcases h with rfl | rfl
    · exact hu
    · exact hd)
  obtain ⟨u1, u2⟩ := hu
  obtain ⟨d1, d2⟩ := hd
  have hB := Lib.hid (below_alloc w (.cells #[.int .i64 0, .int .i64 0] 53))
  have HB2 := Lib.hid (below_alloc (w.alloc (.cells #[.int .i64 0, .int .i64 0] 53)) (.cells #[iv u, iv d] 3))
  have HI : Hid (Ints ((w.alloc (.cells #[.int .i64 0, .int .i64 0] 53)).alloc (.cells #[iv u, iv d] 3)) (some ⟨w.heap.size + 1, 0, none⟩) 2 2 [u, d]) := Lib.hid (by
    have h := Ints.two (w.alloc (.cells #[.int .i64 0, .int .i64 0] 53)) u d
    rw [World.size_alloc] at h
    exact h)
  go_enter Try.func96, Try.ntmps96
  go_wp2_with fail
  have HC := Lib.hid (commonFactor_any _ _ _ _ _ HI.out HMID.out)
  refine HC.out.mono ?_
  rintro e w2 ⟨rfl, hq⟩
  rw [HGL.out]
  have b0 := blk_quiet (blk_below (blk_new w 53 #[.int .i64 0, .int .i64 0]) HB2.out) hq
  have HBW := Lib.hid (below_quiet (below_up hB.out HB2.out) hq)
  have HFU : Hid (frU u d = u.tdiv (gcdI u d)) := Lib.hid rfl
  have HFD : Hid (frD u d = d / gcdI u d) := Lib.hid (by unfold frD; rw [Int.tdiv_eq_ediv_of_nonneg (by omega)])
  clear hq HGL HI HB2 hB HMID
  generalize gcdI u d = g at *
  have c0 := blk_cell b0 (i := 0) rfl
  have c1 := blk_cell b0 (i := 1) rfl
  have f0 := blk_frozen b0 0
  have f1 := blk_frozen b0 1
  have g0 : (g == 0) = false := by simp; omega
  go_wp2
  go_region
  all_goals clear c0 c1 f0 f1
  all_goals go_wp2
  have B1 := blk_set (blk_set b0 0 (.int .i64 (u.tdiv g))) 1 (.int .i64 (d / g))
  have r0 := blk_cell B1 (i := 0) (v := .int .i64 (u.tdiv g)) rfl
  have r1 := blk_cell B1 (i := 1) (v := .int .i64 (d / g)) rfl
  have HBX := Lib.hid ((HBW.out.setCell (p := ⟨w.heap.size, 0, none⟩) (Nat.le_refl _) (.int .i64 (u.tdiv g))).setCell (p := ⟨w.heap.size, 1, none⟩) (Nat.le_refl _) (.int .i64 (d / g))).drew
  replace r0 : ((w2.setCell ⟨w.heap.size, 0, none⟩ (.int .i64 (u.tdiv g))).setCell ⟨w.heap.size, 1, none⟩ (.int .i64 (d / g))).drew.cell? ⟨w.heap.size, 0, none⟩ = some (.int .i64 (u.tdiv g)) := r0
  replace r1 : ((w2.setCell ⟨w.heap.size, 0, none⟩ (.int .i64 (u.tdiv g))).setCell ⟨w.heap.size, 1, none⟩ (.int .i64 (d / g))).drew.cell? ⟨w.heap.size, 1, none⟩ = some (.int .i64 (d / g)) := r1
  clear B1 b0 HBW
  generalize ((w2.setCell ⟨w.heap.size, 0, none⟩ (.int .i64 (u.tdiv g))).setCell ⟨w.heap.size, 1, none⟩ (.int .i64 (d / g))).drew = W3 at *
  refine bodyPost_ret (v := .agg #[.int .i64 (u.tdiv g), .int .i64 (d / g)]) (by simp [results, Try.results96, go_sem, r0, r1]) rfl ?_
  exact ⟨by rw [frV, HFU.out, HFD.out], HBX.out⟩
end Go.Proofs.Ytibliobcbbhopaa
