/- The harness of the exact laws: games. -/
import Derived.Test.YtfilbknikbfjhaaA2
namespace Go.Proofs.Ytfilbknikbfjhaa
open Go.RowKit

theorem szR_le (left : Int) (xs : List (List Int)) (h0 : 0 ≤ left) (h1 : left ≤ 1048576) : -1 ≤ szR left xs ∧ szR left xs ≤ 1048576 := by
  induction xs generalizing left with
  | nil => simp only [szR]; omega
  | cons x xs ih =>
    have := szI_le left x.length h0 h1
    rw [szR]
    split
    · omega
    · exact ih _ (by omega) (by omega)
theorem szRR_le (left : Int) (xs : List (List Int)) (h0 : 0 ≤ left) (h1 : left ≤ 1048576) : -1 ≤ szRR left xs ∧ szRR left xs ≤ 1048576 := by
  have := szI_le left xs.length h0 h1
  rw [szRR]
  split
  · omega
  · exact szR_le _ _ (by omega) (by omega)

def szG (left : Int) (xs ys : List (List Int)) : Int := if szRR left xs < 0 then -1 else if szRR (szRR left xs) ys < 0 then -1 else szRR (szRR left xs) ys
theorem szG_no1 {left : Int} {xs ys : List (List Int)} (h : szRR left xs < 0) : szG left xs ys = -1 := by rw [szG, if_pos h]
theorem szG_eq {left : Int} {xs ys : List (List Int)} (h : ¬ szRR left xs < 0) (h1 : -1 ≤ szRR (szRR left xs) ys) : szG left xs ys = szRR (szRR left xs) ys := by
  rw [szG, if_neg h]; split <;> omega
theorem szG_no2 {left : Int} {xs ys : List (List Int)} (h : ¬ szRR left xs < 0) (h1 : szRR (szRR left xs) ys < 0) : szG left xs ys = -1 := by
  rw [szG, if_neg h, if_pos h1]

set_option maxHeartbeats 400000 in
theorem szGame_any (A B : Option Addr) (n c m d : Nat) (xs ys : List (List Int)) (left : Int) (w : World) (hx : IntRows w A n c xs) (hy : IntRows w B m d ys) (h0 : 0 ≤ left) (h1 : left ≤ 1048576) :
    Calls Try.prog 26 #[.agg #[.slice A n c, .slice B m d], .int .i64 left] w fun e w' => e = .returned (.int .i64 (szG left xs ys)) ∧ Below w.heap.size w w' := by
  have HX := Lib.hid hx
  have HY := Lib.hid hy
  clear hx hy
  have hb := szRR_le left xs h0 h1
  by_cases hs : szRR left xs < 0
  · have HS := Lib.hid (szG_no1 (ys := ys) hs)
    go_enter Try.func26, Try.ntmps26
    go_wp2_with fail
    refine (szIntSS_any _ _ _ _ _ _ (HX.out.keep (Keep.below (below_alloc _ _))) h0 h1).mono ?_
    rintro e w1 ⟨rfl, q, rfl⟩
    go_wp2
    go_ret
    exact ⟨ret_int HS.out.symm, below_drewN (below_alloc _ _) _⟩
  · have hb2 := szRR_le (szRR left xs) ys (by omega) hb.2
    by_cases hs2 : szRR (szRR left xs) ys < 0
    · have HS := Lib.hid (szG_no2 hs hs2)
      go_enter Try.func26, Try.ntmps26
      go_wp2_with fail
      refine (szIntSS_any _ _ _ _ _ _ (HX.out.keep (Keep.below (below_alloc _ _))) h0 h1).mono ?_
      rintro e w1 ⟨rfl, q, rfl⟩
      go_wp2_with fail
      refine (szIntSS_any _ _ _ _ _ _ (HY.out.keep (Keep.below (below_drewN (below_alloc _ _) _))) (by omega) hb.2).mono ?_
      rintro e w1 ⟨rfl, q2, rfl⟩
      go_wp2
      go_ret
      exact ⟨ret_int HS.out.symm, by first | exact below_drewN (below_alloc _ _) _ | exact below_drewN (below_drewN (below_alloc _ _) _) _⟩
    · have HS := Lib.hid (szG_eq hs (ys := ys) (by omega))
      go_enter Try.func26, Try.ntmps26
      go_wp2_with fail
      refine (szIntSS_any _ _ _ _ _ _ (HX.out.keep (Keep.below (below_alloc _ _))) h0 h1).mono ?_
      rintro e w1 ⟨rfl, q, rfl⟩
      go_wp2_with fail
      refine (szIntSS_any _ _ _ _ _ _ (HY.out.keep (Keep.below (below_drewN (below_alloc _ _) _))) (by omega) hb.2).mono ?_
      rintro e w1 ⟨rfl, q2, rfl⟩
      go_wp2
      go_ret
      exact ⟨ret_int HS.out.symm, by first | exact below_drewN (below_alloc _ _) _ | exact below_drewN (below_drewN (below_alloc _ _) _) _⟩

def MadeG (w : World) (n m : Nat) (xs ys : List (List Int)) (e : Ending) (w' : World) : Prop :=
  ∃ g1 g2 mid, e = .returned (.agg #[.slice (some ⟨g1, 0, none⟩) n n, .slice (some ⟨g2, 0, none⟩) m m]) ∧ OwnR w.heap.size mid w' g1 (some ⟨g1, 0, none⟩) n n xs ∧ OwnR mid w'.heap.size w' g2 (some ⟨g2, 0, none⟩) m m ys ∧
    Below w.heap.size w w' ∧ w.heap.size ≤ mid ∧ mid ≤ w'.heap.size

set_option maxHeartbeats 400000 in
theorem toGame_any (A B : Option Addr) (n c m d : Nat) (xs ys : List (List Int)) (w : World) (hx : IntRows w A n c xs) (hy : IntRows w B m d ys) :
    Calls Try.prog 27 #[.agg #[.slice A n c, .slice B m d]] w (MadeG w n m xs ys) := by
  have HX := Lib.hid hx
  have HY := Lib.hid hy
  clear hx hy
  go_enter Try.func27, Try.ntmps27
  go_wp2_with fail
  have b0 := blk_old (blk_old (blk_new w 37 #[.slice A n c, .slice B m d]) (.cells #[.slice none 0 0, .slice none 0 0] 25)) (.cells #[.slice none 0 0, .slice none 0 0] 25)
  have b1 := blk_old (blk_new (w.alloc (.cells #[.slice A n c, .slice B m d] 37)) 25 #[.slice none 0 0, .slice none 0 0]) (.cells #[.slice none 0 0, .slice none 0 0] 25)
  have b2 := blk_new ((w.alloc (.cells #[.slice A n c, .slice B m d] 37)).alloc (.cells #[.slice none 0 0, .slice none 0 0] 25)) 25 #[.slice none 0 0, .slice none 0 0]
  have hb0 := below_up (below_up (below_alloc w (.cells #[.slice A n c, .slice B m d] 37)) (below_alloc _ (.cells #[.slice none 0 0, .slice none 0 0] 25))) (below_alloc _ (.cells #[.slice none 0 0, .slice none 0 0] 25))
  simp only [World.size_alloc] at b0 b1 b2
  generalize (((w.alloc (.cells #[.slice A n c, .slice B m d] 37)).alloc (.cells #[.slice none 0 0, .slice none 0 0] 25)).alloc (.cells #[.slice none 0 0, .slice none 0 0] 25)) = W1 at *
  refine (toIntSS_any _ _ _ _ _ (HX.out.keep (Keep.below hb0))).mono ?_
  rintro e w1 ⟨rfl, hown, hb, -⟩
  have HO := Lib.hid hown
  have HB1 := Lib.hid (below_up hb0 hb)
  have hz0 := blk_lt b2
  have b0 := blk_below b0 hb
  have b1 := blk_below b1 hb
  have b2 := blk_below b2 hb
  have hz : w.heap.size + 1 + 1 < W1.heap.size := hz0
  clear hown hb hb0
  generalize W1.heap.size = g1 at *
  have c1 := blk_cell b0 (i := 1) rfl
  have c2 := blk_cell b2 (i := 0) rfl
  have f2 := blk_frozen b2 0
  go_wp2_with fail
  clear c1 c2 f2
  have B2 := (blk_set b2 0 (.slice (some ⟨g1, 0, none⟩) n n))
  have b1 := (blk_other b1 (p := ⟨w.heap.size + 1 + 1, 0, none⟩) (by simp) (.slice (some ⟨g1, 0, none⟩) n n))
  have HB2 := HB1.out.setCell (p := ⟨w.heap.size + 1 + 1, 0, none⟩) (by simp; omega) (.slice (some ⟨g1, 0, none⟩) n n)
  have HO2 := Lib.hid (HO.out.of_blocks (w' := w1.setCell ⟨w.heap.size + 1 + 1, 0, none⟩ (.slice (some ⟨g1, 0, none⟩) n n)) fun g h1 _ _ => Below.heap_setCell _ _ _ _ (by show g ≠ w.heap.size + 1 + 1; omega))
  have hz3 : w.heap.size < w1.heap.size := by have := blk_lt b2; omega
  have hw1 : w1.heap.size = (w1.setCell ⟨w.heap.size + 1 + 1, 0, none⟩ (.slice (some ⟨g1, 0, none⟩) n n)).heap.size := by simp
  have HO := Lib.hid (HO2.out.mono (Nat.le_refl _) (Nat.le_of_eq hw1))
  clear HO2 HB1 b0 b2 hw1
  generalize w1.setCell ⟨w.heap.size + 1 + 1, 0, none⟩ (.slice (some ⟨g1, 0, none⟩) n n) = W2 at *
  refine (toIntSS_any _ _ _ _ _ (HY.out.keep (Keep.below HB2))).mono ?_
  rintro e w2 ⟨rfl, hown2, hb, -⟩
  have HP := Lib.hid hown2
  have HO2 := Lib.hid (HO.out.below hb)
  have hz5 := hb.size
  have HB3 := Lib.hid (below_up HB2 hb)
  have b1 := blk_below b1 hb
  have b2 := blk_below B2 hb
  have hz4 : w.heap.size + 1 + 1 < W2.heap.size := blk_lt B2
  clear hb hown2 HB2 B2 HO
  generalize W2.heap.size = g2 at *
  have c2 := blk_cell b2 (i := 0) rfl
  have c3 := blk_cell b2 (i := 1) rfl
  have f2 := blk_frozen b2 1
  have c4 := blk_cell b1 (i := 0) rfl
  have c5 := blk_cell b1 (i := 1) rfl
  have f4 := blk_frozen b1 0
  have f5 := blk_frozen b1 1

  go_wp2
  clear c2 c3 f2 c4 c5 f4 f5
  have hT := (((Touch.refl w.heap.size (w.heap.size + 1 + 1 + 1) w2).set (p := ⟨w.heap.size + 1 + 1, 1, none⟩) (by show w.heap.size ≤ w.heap.size + 1 + 1; omega) (by show w.heap.size + 1 + 1 < _; omega) (.slice (some ⟨g2, 0, none⟩) m m)).set
    (p := ⟨w.heap.size + 1, 0, none⟩) (by show w.heap.size ≤ w.heap.size + 1; omega) (by show w.heap.size + 1 < _; omega) (.slice (some ⟨g1, 0, none⟩) n n)).set
    (p := ⟨w.heap.size + 1, 1, none⟩) (by show w.heap.size ≤ w.heap.size + 1; omega) (by show w.heap.size + 1 < _; omega) (.slice (some ⟨g2, 0, none⟩) m m)
  have b1c := blk_set (blk_set (blk_other b1 (p := ⟨w.heap.size + 1 + 1, 1, none⟩) (by simp) (.slice (some ⟨g2, 0, none⟩) m m)) 0 (.slice (some ⟨g1, 0, none⟩) n n)) 1 (.slice (some ⟨g2, 0, none⟩) m m)
  generalize ((w2.setCell ⟨w.heap.size + 1 + 1, 1, none⟩ (.slice (some ⟨g2, 0, none⟩) m m)).setCell ⟨w.heap.size + 1, 0, none⟩ (.slice (some ⟨g1, 0, none⟩) n n)).setCell ⟨w.heap.size + 1, 1, none⟩ (.slice (some ⟨g2, 0, none⟩) m m) = W3 at *
  have k0 : W3.cell? ⟨w.heap.size + 1, 0, none⟩ = some (.slice (some ⟨g1, 0, none⟩) n n) := blk_cell b1c rfl
  have k1 : W3.cell? ⟨w.heap.size + 1, 1, none⟩ = some (.slice (some ⟨g2, 0, none⟩) m m) := blk_cell b1c rfl
  refine bodyPost_ret (v := .agg #[.slice (some ⟨g1, 0, none⟩) n n, .slice (some ⟨g2, 0, none⟩) m m]) (by simp [results, Try.results27, go_sem, k0, k1]) rfl ?_
  have hsz := hT.size
  exact ⟨g1, g2, g2, rfl, (HO2.out.touch hT (.inr (by omega))).mono (by omega) (Nat.le_refl _), (HP.out.touch hT (.inr (by omega))).mono (Nat.le_refl _) (Nat.le_of_eq hT.size.symm), Touch.below HB3.out hT (Nat.le_refl _), by omega, by omega⟩

def eqG (xs ys zs us : List (List Int)) : Bool := eqRR xs zs && eqRR ys us

set_option maxHeartbeats 400000 in
theorem eqGame_any (A B C D : Option Addr) (n c m d n' c' m' d' : Nat) (xs ys zs us : List (List Int)) (w : World) (hx : IntRows w A n c xs) (hy : IntRows w B m d ys) (hz : IntRows w C n' c' zs) (hu : IntRows w D m' d' us) :
    Calls Try.prog 29 #[.agg #[.slice A n c, .slice B m d], .agg #[.slice C n' c', .slice D m' d']] w fun e w' => e = .returned (.bool (eqG xs ys zs us)) ∧ Below w.heap.size w w' := by
  have HX := Lib.hid hx
  have HY := Lib.hid hy
  have HZ := Lib.hid hz
  have HU := Lib.hid hu
  clear hx hy hz hu
  cases h1 : eqRR xs zs with
  | false =>
    have HE := Lib.hid (show eqG xs ys zs us = false by simp [eqG, h1])
    go_enter Try.func29, Try.ntmps29
    go_wp2_with fail
    have hb0 := below_up (below_alloc w (.cells #[.slice A n c, .slice B m d] 25)) (below_alloc _ (.cells #[.slice C n' c', .slice D m' d'] 25))
    refine ((h1 ▸ eqIntSS_any _ _ _ _ _ _ _ _ _ (HX.out.keep (Keep.below hb0)) (HZ.out.keep (Keep.below hb0)))).mono ?_
    rintro e w1 ⟨rfl, hq⟩
    have HB := Lib.hid (below_quiet hb0 hq)
    clear hq hb0 h1
    go_wp2
    go_ret
    exact ⟨ret_bool HE.out.symm, HB.out⟩
  | true =>
    have HE := Lib.hid (show eqG xs ys zs us = eqRR ys us by simp [eqG, h1])
    go_enter Try.func29, Try.ntmps29
    go_wp2_with fail
    have hb0 := below_up (below_alloc w (.cells #[.slice A n c, .slice B m d] 25)) (below_alloc _ (.cells #[.slice C n' c', .slice D m' d'] 25))
    have b0 := blk_old (blk_new w 25 #[.slice A n c, .slice B m d]) (.cells #[.slice C n' c', .slice D m' d'] 25)
    have b1 := blk_new (w.alloc (.cells #[.slice A n c, .slice B m d] 25)) 25 #[.slice C n' c', .slice D m' d']
    simp only [World.size_alloc] at b1
    generalize (w.alloc (.cells #[.slice A n c, .slice B m d] 25)).alloc (.cells #[.slice C n' c', .slice D m' d'] 25) = W1 at *
    refine ((h1 ▸ eqIntSS_any _ _ _ _ _ _ _ _ _ (HX.out.keep (Keep.below hb0)) (HZ.out.keep (Keep.below hb0)))).mono ?_
    rintro e w1 ⟨rfl, hq⟩
    have hb1 := below_quiet hb0 hq
    have c0 := blk_cell (blk_quiet b0 hq) (i := 1) rfl
    have c1 := blk_cell (blk_quiet b1 hq) (i := 1) rfl
    have HB := Lib.hid hb1
    clear hq hb0 h1 b0 b1 hb1
    go_wp2_with fail
    cases h2 : eqRR ys us with
    | false =>
      refine ((h2 ▸ eqIntSS_any _ _ _ _ _ _ _ _ _ (HY.out.keep (Keep.below HB.out)) (HU.out.keep (Keep.below HB.out)))).mono ?_
      rintro e w2 ⟨rfl, hq⟩
      rw [h2] at HE
      have HB2 := Lib.hid (below_quiet HB.out hq)
      clear hq h2
      go_wp2
      go_ret
      exact ⟨ret_bool HE.out.symm, HB2.out⟩
    | true =>
      refine ((h2 ▸ eqIntSS_any _ _ _ _ _ _ _ _ _ (HY.out.keep (Keep.below HB.out)) (HU.out.keep (Keep.below HB.out)))).mono ?_
      rintro e w2 ⟨rfl, hq⟩
      rw [h2] at HE
      have HB2 := Lib.hid (below_quiet HB.out hq)
      clear hq h2
      go_wp2
      go_ret
      exact ⟨ret_bool HE.out.symm, HB2.out⟩
theorem eqG_refl (xs ys : List (List Int)) : eqG xs ys xs ys = true := by simp [eqG, eqRR]
end Go.Proofs.Ytfilbknikbfjhaa
