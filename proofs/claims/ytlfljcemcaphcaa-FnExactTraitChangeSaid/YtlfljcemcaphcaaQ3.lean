/- Texts merged: KN3 KN4 A3 A4 A5 Mix Put KN5. -/
import Derived.Test.YtlfljcemcaphcaaQ2
import Derived.StillTailTactics
/- KinOf, InbredOf and HelpPays, by the model. -/
namespace Go.Proofs.Ytlfljcemcaphcaa
open Go.RowKit

theorem nat_of {n : Nat} {k : Int} (h : Blw n k) : ∃ i : Nat, k = i ∧ i < n := ⟨k.toNat, (Int.toNat_of_nonneg h.1).symm, by have := h.1; have := h.2; omega⟩
theorem inR_blw (n : Nat) (k : Int) : pb (InR k 0 ((n : Int) - 1)) = pb (Blw n k) := pb_congr ⟨fun h => ⟨h.1, by have := h.2; omega⟩, fun h => ⟨h.1, by have := h.2; omega⟩⟩
theorem inR_blw2 (k : Int) : pb (InR k 0 1000) = pb (Blw 1001 k) := pb_congr ⟨fun h => ⟨h.1, by have := h.2; omega⟩, fun h => ⟨h.1, by have := h.2; omega⟩⟩
/-- Two people. -/
structure KOk (f : List (List Int)) (i j : Int) : Prop where
  v : VPe f
  i : Blw f.length i
  j : Blw f.length j
noncomputable def kinF (f : List (List Int)) (i j : Int) : Value := if pb (KOk f i j) = true then fK (kK f i.toNat j.toNat) else .agg #[.int .i64 0, .int .i64 0]
theorem kinF_yes {f} {i j : Nat} (h : KOk f i j) : kinF f i j = fK (kK f i j) := by rw [kinF, if_pos (pb_true h), Int.toNat_natCast, Int.toNat_natCast]
theorem kinF_no {f i j} (h : ¬ KOk f i j) : kinF f i j = .agg #[.int .i64 0, .int .i64 0] := by rw [kinF, if_neg (by rw [pb_false h]; decide)]
theorem kinF_form (f : List (List Int)) (i j : Int) : ∃ U D, kinF f i j = .agg #[.int .i64 U, .int .i64 D] := by
  unfold kinF
  split
  · exact fK_form _
  · exact ⟨0, 0, rfl⟩
/-- One of the people. -/
structure IOk (f : List (List Int)) (i : Int) : Prop where
  v : VPe f
  i : Blw f.length i
/-- The kinship of both parents, in parts of 64. -/
def bK (f : List (List Int)) (i : Nat) : Int := if g2 f i 0 < 0 then 0 else kK f (g2 f i 0).toNat (g2 f i 1).toNat
theorem bK_bd (f : List (List Int)) (i : Nat) : 0 ≤ bK f i ∧ bK f i < 64 := by
  unfold bK
  split
  · decide
  · exact kK_bd _ _ _
theorem kK_bK {f : List (List Int)} (v : VPe f) {i : Nat} (hi : i < f.length) : 2 * kK f i i = 64 + bK f i := kK_self v hi
noncomputable def inbF (f : List (List Int)) (i : Int) : Value := if pb (IOk f i) = true then fK (bK f i.toNat) else .agg #[.int .i64 0, .int .i64 0]
theorem inbF_yes {f} {i : Nat} (h : IOk f i) : inbF f i = fK (bK f i) := by rw [inbF, if_pos (pb_true h), Int.toNat_natCast]
theorem inbF_no {f i} (h : ¬ IOk f i) : inbF f i = .agg #[.int .i64 0, .int .i64 0] := by rw [inbF, if_neg (by rw [pb_false h]; decide)]
theorem inbF_form (f : List (List Int)) (i : Int) : ∃ U D, inbF f i = .agg #[.int .i64 U, .int .i64 D] := by
  unfold inbF
  split
  · exact fK_form _
  · exact ⟨0, 0, rfl⟩
/-- It pays to help. -/
structure HOk (f : List (List Int)) (i j c g : Int) : Prop where
  k : KOk f i j
  hc : Blw 1001 c
  hg : Blw 1001 g
  lt : kK f i.toNat i.toNat * c < kK f i.toNat j.toNat * g
theorem mulK {f : List (List Int)} {i j : Nat} {c : Int} (hc : Blw 1001 c) : -200000 ≤ kK f i j * c ∧ kK f i j * c ≤ 200000 := by
  have h1 := kK_bd f i j
  have h2 : 0 * c ≤ kK f i j * c := Int.mul_le_mul_of_nonneg_right h1.1 hc.1
  have h3 : kK f i j * c ≤ 64 * 1000 := Int.mul_le_mul (by omega) (by have := hc.2; omega) hc.1 (by omega)
  omega

set_option maxRecDepth 100000 in
set_option maxHeartbeats 2000000 in
theorem bred_any (A : Option Addr) (n c : Nat) (f : List (List Int)) (v : VPe f) (i : Nat) (hi : i < f.length) (w : World) (hx : IntRows w A n c f) :
    Calls Try.prog 45 #[.slice A n c, .int .i64 i] w (Ret (fK (bK f i)) w) := by
  have n6 := v.n6
  have hm := hx.max
  have hnl := hx.len
  have hxa := hx.keep (PF.start w).keep
  have HPF := Lib.hid (PF.start w)
  have HXA := Lib.hid hxa
  obtain ⟨b, o, rfl, hc⟩ := hxa.at_ (by omega)
  obtain ⟨R, cc, c1, hR⟩ := hc i (by omega)
  have hlen := v.two hi
  rw [hlen] at c1 hR
  obtain ⟨b2, o2, rfl, hc2⟩ := hR.at_ (by omega)
  have c20 := hc2 0 (by omega)
  have c21 := hc2 1 (by omega)
  simp only [Nat.add_zero] at c20
  replace c20 : (w.alloc (.cells #[.int .i64 0, .int .i64 0] 28)).cell? ⟨b2, o2, none⟩ = some (.int .i64 (g2 f i 0)) := c20
  replace c21 : (w.alloc (.cells #[.int .i64 0, .int .i64 0] 28)).cell? ⟨b2, o2 + 1, none⟩ = some (.int .i64 (g2 f i 1)) := c21
  have hin : i < n := by omega
  have hpar := v.par hi
  obtain ⟨U, D, hform⟩ := fK_form (bK f i)
  have HFORM := Lib.hid hform
  have HLN := Lib.hid hnl
  clear hc hc2 hR hlen hx hxa hnl hform
  rcases hpar with ⟨hp, hq⟩ | ⟨hp, hq, _⟩
  · have HK := Lib.hid (show bK f i = 0 by unfold bK; rw [if_pos (by omega)])
    rw [hp] at c20
    rw [hq] at c21
    clear v
    have HC := Lib.hid (fun W => fracK_spec 0 1 (bK f i) W (by omega) (by omega) (by rw [HK.out]; rfl))
    rw [HFORM.out] at HC
    go_enter Try.func45, Try.ntmps45
    go_wp2_with fail
    refine (HC.out _).mono ?_
    rintro e w2 ⟨rfl, hb⟩
    have HPF := Lib.hid (HPF.out.up hb)
    clear hb HC
    have c0 := blk_cell HPF.out.box (i := 0) rfl
    have c1 := blk_cell HPF.out.box (i := 1) rfl
    have f0 := blk_frozen HPF.out.box 0
    have f1 := blk_frozen HPF.out.box 1
    go_wp2
    clear c0 c1 f0 f1
    have B1 := blk_set (blk_set HPF.out.box 0 (.int .i64 U)) 1 (.int .i64 D)
    have r0 := blk_cell B1 (i := 0) (v := .int .i64 U) rfl
    have r1 := blk_cell B1 (i := 1) (v := .int .i64 D) rfl
    have HBX := Lib.hid ((HPF.out.below.setCell (p := ⟨w.heap.size, 0, none⟩) (Nat.le_refl _) (.int .i64 U)).setCell (p := ⟨w.heap.size, 1, none⟩) (Nat.le_refl _) (.int .i64 D))
    clear B1 HPF
    generalize (w2.setCell ⟨w.heap.size, 0, none⟩ (.int .i64 U)).setCell ⟨w.heap.size, 1, none⟩ (.int .i64 D) = WE at *
    refine bodyPost_ret (v := .agg #[.int .i64 U, .int .i64 D]) (by simp [results, Try.results45, go_sem, r0, r1]) rfl ?_
    exact ⟨by rw [HFORM.out], HBX.out⟩
  · obtain ⟨p, ep⟩ : ∃ p : Nat, g2 f i 0 = p := ⟨_, (Int.toNat_of_nonneg hp.1).symm⟩
    obtain ⟨q, eq⟩ : ∃ q : Nat, g2 f i 1 = q := ⟨_, (Int.toNat_of_nonneg hq.1).symm⟩
    have HK := Lib.hid (show kK f p q = bK f i by unfold bK; rw [if_neg (by omega), ep, eq, Int.toNat_natCast, Int.toNat_natCast])
    rw [ep] at c20 hp
    rw [eq] at c21 hq
    have hp0 : ((p : Int) < 0) = False := by simp
    have HC := Lib.hid (kin_any (some ⟨b, o, none⟩) n c f v (p + q + 1) p q (by omega) (by omega) (by omega))
    rw [HK.out, HFORM.out] at HC
    clear v ep eq hp hq
    go_enter Try.func45, Try.ntmps45
    go_wp2
    generalize w.alloc (.cells #[.int .i64 0, .int .i64 0] 28) = w0 at *
    go_still_tail 13, (by kernel_rfl)
    have HXA := Lib.hid (show IntRows w0.drew _ n c f from HXA.out.keep (Keep.drewN _ 1))
    have HPF := Lib.hid (show PF w w0.drew from HPF.out.up (Quiet.below ⟨1, rfl⟩))
    change wpList _ _ _ _ _ w0.drew
    generalize w0.drew = w1 at *
    go_wp2_with fail
    refine (HC.out _ HXA.out).mono ?_
    rintro e w2 ⟨rfl, hb⟩
    have HPF := Lib.hid (HPF.out.up hb)
    clear hb HC
    have c0 := blk_cell HPF.out.box (i := 0) rfl
    have c1 := blk_cell HPF.out.box (i := 1) rfl
    have f0 := blk_frozen HPF.out.box 0
    have f1 := blk_frozen HPF.out.box 1
    go_wp2
    clear c0 c1 f0 f1
    have B1 := blk_set (blk_set HPF.out.box 0 (.int .i64 U)) 1 (.int .i64 D)
    have r0 := blk_cell B1 (i := 0) (v := .int .i64 U) rfl
    have r1 := blk_cell B1 (i := 1) (v := .int .i64 D) rfl
    have HBX := Lib.hid ((HPF.out.below.setCell (p := ⟨w.heap.size, 0, none⟩) (Nat.le_refl _) (.int .i64 U)).setCell (p := ⟨w.heap.size, 1, none⟩) (Nat.le_refl _) (.int .i64 D))
    clear B1 HPF
    generalize (w2.setCell ⟨w.heap.size, 0, none⟩ (.int .i64 U)).setCell ⟨w.heap.size, 1, none⟩ (.int .i64 D) = WE at *
    refine bodyPost_ret (v := .agg #[.int .i64 U, .int .i64 D]) (by simp [results, Try.results45, go_sem, r0, r1]) rfl ?_
    exact ⟨by rw [HFORM.out], HBX.out⟩

set_option maxRecDepth 100000 in
set_option maxHeartbeats 2000000 in
theorem KinOf_spec (A : Option Addr) (n c : Nat) (f : List (List Int)) (i j : Int) (w : World) (hx : IntRows w A n c f) (_ : Fit i) (_ : Fit j) :
    Calls Try.prog 18 #[.slice A n c, .int .i64 i, .int .i64 j] w (Ret (.tuple #[kinF f i j, .bool (pb (KOk f i j))]) w) := by
  have hm := hx.max
  have HLN := Lib.hid hx.len
  have HPF := Lib.hid (PF.start w)
  have HXA := Lib.hid (hx.keep HPF.out.keep)
  clear hx
  have HC := Lib.hid (validFolk_any A n c f _ HXA.out)
  by_cases hv : VPe f
  · rw [pb_true hv] at HC
    have HI := Lib.hid (fun W => inRange_any i 0 ((n : Int) - 1) W)
    rw [inR_blw, ← HLN.out] at HI
    by_cases hi : Blw f.length i
    · rw [pb_true hi] at HI
      have HJ := Lib.hid (fun W => inRange_any j 0 ((n : Int) - 1) W)
      rw [inR_blw, ← HLN.out] at HJ
      by_cases hj : Blw f.length j
      · rw [pb_true hj] at HJ
        have hok : KOk f i j := ⟨hv, hi, hj⟩
        obtain ⟨i, rfl, hi2⟩ := nat_of hi
        obtain ⟨j, rfl, hj2⟩ := nat_of hj
        have HK := Lib.hid (kin_any A n c f hv (i + j + 1) i j hi2 hj2 (by omega))
        rw [kinF_yes hok, pb_true hok]
        obtain ⟨U, D, hform⟩ := fK_form (kK f i j)
        have HFORM := Lib.hid hform
        rw [hform] at HK
        rw [HLN.out] at HI HJ
        clear hform hok hv hi hj hi2 hj2
        go_enter Try.func18, Try.ntmps18
        go_wp2_with fail
        refine HC.out.mono ?_
        rintro e w1 ⟨rfl, hq⟩
        have hb := hq.below (B := (w.alloc (.cells #[.int .i64 0, .int .i64 0] 28)).heap.size)
        have HPF := Lib.hid (HPF.out.up hb)
        have HXA := Lib.hid (HXA.out.keep (Keep.below hb))
        clear hb hq HC
        go_wp2_with (go_at_call 40; (first | (with_reducible refine (HI.out _).mono ?_) | (with_reducible refine (HJ.out _).mono ?_)); rintro e w' ⟨rfl, rfl⟩)
        refine (HK.out _ HXA.out).mono ?_
        rintro e w2 ⟨rfl, hb⟩
        have HPF := Lib.hid (HPF.out.up hb)
        clear hb HK HI HJ
        have c0 := blk_cell HPF.out.box (i := 0) rfl
        have c1 := blk_cell HPF.out.box (i := 1) rfl
        have f0 := blk_frozen HPF.out.box 0
        have f1 := blk_frozen HPF.out.box 1
        go_wp2
        clear c0 c1 f0 f1
        have B1 := blk_set (blk_set HPF.out.box 0 (.int .i64 U)) 1 (.int .i64 D)
        have r0 := blk_cell B1 (i := 0) (v := .int .i64 U) rfl
        have r1 := blk_cell B1 (i := 1) (v := .int .i64 D) rfl
        have HBX := Lib.hid ((HPF.out.below.setCell (p := ⟨w.heap.size, 0, none⟩) (Nat.le_refl _) (.int .i64 U)).setCell (p := ⟨w.heap.size, 1, none⟩) (Nat.le_refl _) (.int .i64 D))
        clear B1 HPF
        generalize (w2.setCell ⟨w.heap.size, 0, none⟩ (.int .i64 U)).setCell ⟨w.heap.size, 1, none⟩ (.int .i64 D) = WE at *
        refine bodyPost_ret (v := .tuple #[.agg #[.int .i64 U, .int .i64 D], .bool true]) (by simp [results, Try.results18, go_sem, r0, r1]) rfl ?_
        exact ⟨by rw [HFORM.out], HBX.out⟩
      · rw [pb_false hj] at HJ
        have HNO := Lib.hid (show kinF f i j = .agg #[.int .i64 0, .int .i64 0] ∧ pb (KOk f i j) = false from (fun h : ¬ KOk f i j => ⟨kinF_no h, pb_false h⟩) (fun h => hj h.j))
        rw [HNO.out.1, HNO.out.2]
        rw [HLN.out] at HI HJ
        clear hv hi hj
        go_enter Try.func18, Try.ntmps18
        go_wp2_with fail
        refine HC.out.mono ?_
        rintro e w1 ⟨rfl, hq⟩
        have HPF := Lib.hid (HPF.out.up (hq.below (B := (w.alloc (.cells #[.int .i64 0, .int .i64 0] 28)).heap.size)))
        clear hq HC
        have c0 := blk_cell HPF.out.box (i := 0) rfl
        have c1 := blk_cell HPF.out.box (i := 1) rfl
        have f0 := blk_frozen HPF.out.box 0
        have f1 := blk_frozen HPF.out.box 1
        go_wp2_with (go_at_call 40; (first | (with_reducible refine (HI.out _).mono ?_) | (with_reducible refine (HJ.out _).mono ?_)); rintro e w' ⟨rfl, rfl⟩)
        clear c0 c1 f0 f1
        have B1 := blk_set (blk_set HPF.out.box 0 (.int .i64 0)) 1 (.int .i64 0)
        have r0 := blk_cell B1 (i := 0) (v := .int .i64 0) rfl
        have r1 := blk_cell B1 (i := 1) (v := .int .i64 0) rfl
        have HBX := Lib.hid ((HPF.out.below.setCell (p := ⟨w.heap.size, 0, none⟩) (Nat.le_refl _) (.int .i64 0)).setCell (p := ⟨w.heap.size, 1, none⟩) (Nat.le_refl _) (.int .i64 0))
        clear B1 HPF
        generalize (w1.setCell ⟨w.heap.size, 0, none⟩ (.int .i64 0)).setCell ⟨w.heap.size, 1, none⟩ (.int .i64 0) = WE at *
        refine bodyPost_ret (v := .tuple #[.agg #[.int .i64 0, .int .i64 0], .bool false]) (by simp [results, Try.results18, go_sem, r0, r1]) rfl ?_
        exact ⟨rfl, HBX.out⟩
    · rw [pb_false hi] at HI
      have HNO := Lib.hid (show kinF f i j = .agg #[.int .i64 0, .int .i64 0] ∧ pb (KOk f i j) = false from (fun h : ¬ KOk f i j => ⟨kinF_no h, pb_false h⟩) (fun h => hi h.i))
      rw [HNO.out.1, HNO.out.2]
      rw [HLN.out] at HI
      clear hv hi
      go_enter Try.func18, Try.ntmps18
      go_wp2_with fail
      refine HC.out.mono ?_
      rintro e w1 ⟨rfl, hq⟩
      have HPF := Lib.hid (HPF.out.up (hq.below (B := (w.alloc (.cells #[.int .i64 0, .int .i64 0] 28)).heap.size)))
      clear hq HC
      have c0 := blk_cell HPF.out.box (i := 0) rfl
      have c1 := blk_cell HPF.out.box (i := 1) rfl
      have f0 := blk_frozen HPF.out.box 0
      have f1 := blk_frozen HPF.out.box 1
      go_wp2_with (go_at_call 40; (with_reducible refine (HI.out _).mono ?_); rintro e w' ⟨rfl, rfl⟩)
      clear c0 c1 f0 f1
      have B1 := blk_set (blk_set HPF.out.box 0 (.int .i64 0)) 1 (.int .i64 0)
      have r0 := blk_cell B1 (i := 0) (v := .int .i64 0) rfl
      have r1 := blk_cell B1 (i := 1) (v := .int .i64 0) rfl
      have HBX := Lib.hid ((HPF.out.below.setCell (p := ⟨w.heap.size, 0, none⟩) (Nat.le_refl _) (.int .i64 0)).setCell (p := ⟨w.heap.size, 1, none⟩) (Nat.le_refl _) (.int .i64 0))
      clear B1 HPF
      generalize (w1.setCell ⟨w.heap.size, 0, none⟩ (.int .i64 0)).setCell ⟨w.heap.size, 1, none⟩ (.int .i64 0) = WE at *
      refine bodyPost_ret (v := .tuple #[.agg #[.int .i64 0, .int .i64 0], .bool false]) (by simp [results, Try.results18, go_sem, r0, r1]) rfl ?_
      exact ⟨rfl, HBX.out⟩
  · rw [pb_false hv] at HC
    have HNO := Lib.hid (show kinF f i j = .agg #[.int .i64 0, .int .i64 0] ∧ pb (KOk f i j) = false from (fun h : ¬ KOk f i j => ⟨kinF_no h, pb_false h⟩) (fun h => hv h.v))
    rw [HNO.out.1, HNO.out.2]
    clear hv
    go_enter Try.func18, Try.ntmps18
    go_wp2_with fail
    refine HC.out.mono ?_
    rintro e w1 ⟨rfl, hq⟩
    have HPF := Lib.hid (HPF.out.up (hq.below (B := (w.alloc (.cells #[.int .i64 0, .int .i64 0] 28)).heap.size)))
    clear hq HC
    have c0 := blk_cell HPF.out.box (i := 0) rfl
    have c1 := blk_cell HPF.out.box (i := 1) rfl
    have f0 := blk_frozen HPF.out.box 0
    have f1 := blk_frozen HPF.out.box 1
    go_wp2
    clear c0 c1 f0 f1
    have B1 := blk_set (blk_set HPF.out.box 0 (.int .i64 0)) 1 (.int .i64 0)
    have r0 := blk_cell B1 (i := 0) (v := .int .i64 0) rfl
    have r1 := blk_cell B1 (i := 1) (v := .int .i64 0) rfl
    have HBX := Lib.hid ((HPF.out.below.setCell (p := ⟨w.heap.size, 0, none⟩) (Nat.le_refl _) (.int .i64 0)).setCell (p := ⟨w.heap.size, 1, none⟩) (Nat.le_refl _) (.int .i64 0))
    clear B1 HPF
    generalize (w1.setCell ⟨w.heap.size, 0, none⟩ (.int .i64 0)).setCell ⟨w.heap.size, 1, none⟩ (.int .i64 0) = WE at *
    refine bodyPost_ret (v := .tuple #[.agg #[.int .i64 0, .int .i64 0], .bool false]) (by simp [results, Try.results18, go_sem, r0, r1]) rfl ?_
    exact ⟨rfl, HBX.out⟩

end Go.Proofs.Ytlfljcemcaphcaa

/- InbredOf and HelpPays, by the model. -/
namespace Go.Proofs.Ytlfljcemcaphcaa
open Go.RowKit

set_option maxRecDepth 100000 in
set_option maxHeartbeats 2000000 in
theorem InbredOf_spec (A : Option Addr) (n c : Nat) (f : List (List Int)) (i : Int) (w : World) (hx : IntRows w A n c f) (_ : Fit i) :
    Calls Try.prog 21 #[.slice A n c, .int .i64 i] w (Ret (.tuple #[inbF f i, .bool (pb (IOk f i))]) w) := by
  have hm := hx.max
  have HLN := Lib.hid hx.len
  have HPF := Lib.hid (PF.start w)
  have HXA := Lib.hid (hx.keep HPF.out.keep)
  clear hx
  have HC := Lib.hid (validFolk_any A n c f _ HXA.out)
  by_cases hv : VPe f
  · rw [pb_true hv] at HC
    have HI := Lib.hid (fun W => inRange_any i 0 ((n : Int) - 1) W)
    rw [inR_blw, ← HLN.out] at HI
    by_cases hi : Blw f.length i
    · rw [pb_true hi] at HI
      have hok : IOk f i := ⟨hv, hi⟩
      obtain ⟨i, rfl, hi2⟩ := nat_of hi
      have HK := Lib.hid (fun W h => bred_any A n c f hv i hi2 W h)
      rw [inbF_yes hok, pb_true hok]
      obtain ⟨U, D, hform⟩ := fK_form (bK f i)
      have HFORM := Lib.hid hform
      rw [hform] at HK
      rw [HLN.out] at HI
      clear hform hok hv hi hi2
      go_enter Try.func21, Try.ntmps21
      go_wp2_with fail
      refine HC.out.mono ?_
      rintro e w1 ⟨rfl, hq⟩
      have hb := hq.below (B := (w.alloc (.cells #[.int .i64 0, .int .i64 0] 28)).heap.size)
      have HPF := Lib.hid (HPF.out.up hb)
      have HXA := Lib.hid (HXA.out.keep (Keep.below hb))
      clear hb hq HC
      go_wp2_with (go_at_call 40; (with_reducible refine (HI.out _).mono ?_); rintro e w' ⟨rfl, rfl⟩)
      refine (HK.out _ HXA.out).mono ?_
      rintro e w2 ⟨rfl, hb⟩
      have HPF := Lib.hid (HPF.out.up hb)
      clear hb HK HI
      have c0 := blk_cell HPF.out.box (i := 0) rfl
      have c1 := blk_cell HPF.out.box (i := 1) rfl
      have f0 := blk_frozen HPF.out.box 0
      have f1 := blk_frozen HPF.out.box 1
      go_wp2
      clear c0 c1 f0 f1
      have B1 := blk_set (blk_set HPF.out.box 0 (.int .i64 U)) 1 (.int .i64 D)
      have r0 := blk_cell B1 (i := 0) (v := .int .i64 U) rfl
      have r1 := blk_cell B1 (i := 1) (v := .int .i64 D) rfl
      have HBX := Lib.hid ((HPF.out.below.setCell (p := ⟨w.heap.size, 0, none⟩) (Nat.le_refl _) (.int .i64 U)).setCell (p := ⟨w.heap.size, 1, none⟩) (Nat.le_refl _) (.int .i64 D))
      clear B1 HPF
      generalize (w2.setCell ⟨w.heap.size, 0, none⟩ (.int .i64 U)).setCell ⟨w.heap.size, 1, none⟩ (.int .i64 D) = WE at *
      refine bodyPost_ret (v := .tuple #[.agg #[.int .i64 U, .int .i64 D], .bool true]) (by simp [results, Try.results21, go_sem, r0, r1]) rfl ?_
      exact ⟨by rw [HFORM.out], HBX.out⟩
    · rw [pb_false hi] at HI
      have HNO := Lib.hid (show inbF f i = .agg #[.int .i64 0, .int .i64 0] ∧ pb (IOk f i) = false from (fun h : ¬ IOk f i => ⟨inbF_no h, pb_false h⟩) (fun h => hi h.i))
      rw [HNO.out.1, HNO.out.2]
      rw [HLN.out] at HI
      clear hv hi
      go_enter Try.func21, Try.ntmps21
      go_wp2_with fail
      refine HC.out.mono ?_
      rintro e w1 ⟨rfl, hq⟩
      have HPF := Lib.hid (HPF.out.up (hq.below (B := (w.alloc (.cells #[.int .i64 0, .int .i64 0] 28)).heap.size)))
      clear hq HC
      have c0 := blk_cell HPF.out.box (i := 0) rfl
      have c1 := blk_cell HPF.out.box (i := 1) rfl
      have f0 := blk_frozen HPF.out.box 0
      have f1 := blk_frozen HPF.out.box 1
      go_wp2_with (go_at_call 40; (with_reducible refine (HI.out _).mono ?_); rintro e w' ⟨rfl, rfl⟩)
      clear c0 c1 f0 f1
      have B1 := blk_set (blk_set HPF.out.box 0 (.int .i64 0)) 1 (.int .i64 0)
      have r0 := blk_cell B1 (i := 0) (v := .int .i64 0) rfl
      have r1 := blk_cell B1 (i := 1) (v := .int .i64 0) rfl
      have HBX := Lib.hid ((HPF.out.below.setCell (p := ⟨w.heap.size, 0, none⟩) (Nat.le_refl _) (.int .i64 0)).setCell (p := ⟨w.heap.size, 1, none⟩) (Nat.le_refl _) (.int .i64 0))
      clear B1 HPF
      generalize (w1.setCell ⟨w.heap.size, 0, none⟩ (.int .i64 0)).setCell ⟨w.heap.size, 1, none⟩ (.int .i64 0) = WE at *
      refine bodyPost_ret (v := .tuple #[.agg #[.int .i64 0, .int .i64 0], .bool false]) (by simp [results, Try.results21, go_sem, r0, r1]) rfl ?_
      exact ⟨rfl, HBX.out⟩
  · rw [pb_false hv] at HC
    have HNO := Lib.hid (show inbF f i = .agg #[.int .i64 0, .int .i64 0] ∧ pb (IOk f i) = false from (fun h : ¬ IOk f i => ⟨inbF_no h, pb_false h⟩) (fun h => hv h.v))
    rw [HNO.out.1, HNO.out.2]
    clear hv
    go_enter Try.func21, Try.ntmps21
    go_wp2_with fail
    refine HC.out.mono ?_
    rintro e w1 ⟨rfl, hq⟩
    have HPF := Lib.hid (HPF.out.up (hq.below (B := (w.alloc (.cells #[.int .i64 0, .int .i64 0] 28)).heap.size)))
    clear hq HC
    have c0 := blk_cell HPF.out.box (i := 0) rfl
    have c1 := blk_cell HPF.out.box (i := 1) rfl
    have f0 := blk_frozen HPF.out.box 0
    have f1 := blk_frozen HPF.out.box 1
    go_wp2
    clear c0 c1 f0 f1
    have B1 := blk_set (blk_set HPF.out.box 0 (.int .i64 0)) 1 (.int .i64 0)
    have r0 := blk_cell B1 (i := 0) (v := .int .i64 0) rfl
    have r1 := blk_cell B1 (i := 1) (v := .int .i64 0) rfl
    have HBX := Lib.hid ((HPF.out.below.setCell (p := ⟨w.heap.size, 0, none⟩) (Nat.le_refl _) (.int .i64 0)).setCell (p := ⟨w.heap.size, 1, none⟩) (Nat.le_refl _) (.int .i64 0))
    clear B1 HPF
    generalize (w1.setCell ⟨w.heap.size, 0, none⟩ (.int .i64 0)).setCell ⟨w.heap.size, 1, none⟩ (.int .i64 0) = WE at *
    refine bodyPost_ret (v := .tuple #[.agg #[.int .i64 0, .int .i64 0], .bool false]) (by simp [results, Try.results21, go_sem, r0, r1]) rfl ?_
    exact ⟨rfl, HBX.out⟩

set_option maxRecDepth 100000 in
set_option maxHeartbeats 4000000 in
theorem HelpPays_spec (A : Option Addr) (n c : Nat) (f : List (List Int)) (i j s g : Int) (w : World) (hx : IntRows w A n c f) (_ : Fit i) (_ : Fit j) (_ : Fit s) (_ : Fit g) :
    Calls Try.prog 23 #[.slice A n c, .int .i64 i, .int .i64 j, .int .i64 s, .int .i64 g] w (Ret (.bool (pb (HOk f i j s g))) w) := by
  have hm := hx.max
  have HLN := Lib.hid hx.len
  have HXA := Lib.hid hx
  clear hx
  have HC := Lib.hid (validFolk_any A n c f _ HXA.out)
  by_cases hv : VPe f
  · rw [pb_true hv] at HC
    have HI := Lib.hid (fun W => inRange_any i 0 ((n : Int) - 1) W)
    rw [inR_blw, ← HLN.out] at HI
    by_cases hi : Blw f.length i
    · rw [pb_true hi] at HI
      have HJ := Lib.hid (fun W => inRange_any j 0 ((n : Int) - 1) W)
      rw [inR_blw, ← HLN.out] at HJ
      by_cases hj : Blw f.length j
      · rw [pb_true hj] at HJ
        have HS := Lib.hid (fun W => inRange_any s 0 1000 W)
        rw [inR_blw2] at HS
        by_cases hs : Blw 1001 s
        · rw [pb_true hs] at HS
          have HG := Lib.hid (fun W => inRange_any g 0 1000 W)
          rw [inR_blw2] at HG
          by_cases hg : Blw 1001 g
          · rw [pb_true hg] at HG
            have hok : KOk f i j := ⟨hv, hi, hj⟩
            obtain ⟨i, rfl, hi2⟩ := nat_of hi
            obtain ⟨j, rfl, hj2⟩ := nat_of hj
            have HEND : Hid (pb (HOk f i j s g) = decide (kK f i i * s < kK f i j * g)) := Lib.hid (by
              by_cases h : kK f i i * s < kK f i j * g
              · rw [pb_true (p := HOk f i j s g) ⟨hok, hs, hg, by rw [Int.toNat_natCast, Int.toNat_natCast]; exact h⟩, decide_eq_true h]
              · rw [pb_false (p := HOk f i j s g) (fun k => h (by have := k.lt; rw [Int.toNat_natCast, Int.toNat_natCast] at this; exact this)), decide_eq_false h])
            rw [HEND.out]
            have sb := hs
            have gb := hg
            unfold Blw at sb gb
            have HK1 := Lib.hid (kin_any A n c f hv (i + i + 1) i i hi2 hi2 (by omega))
            have HK2 := Lib.hid (kin_any A n c f hv (i + j + 1) i j hi2 hj2 (by omega))
            have HF1 := Lib.hid (fun W => fracK_spec s 1 (64 * s) W (by omega) (by omega) (by omega))
            have HF2 := Lib.hid (fun W => fracK_spec g 1 (64 * g) W (by omega) (by omega) (by omega))
            have kb1 := kK_bd f i i
            have kb2 := kK_bd f i j
            have HT1 := Lib.hid (fun W => timesK_spec (kK f i i) (64 * s) (kK f i i * s) W (by omega) (by omega) (by rw [Int.mul_comm 64 s, Int.mul_assoc]))
            have HT2 := Lib.hid (fun W => timesK_spec (kK f i j) (64 * g) (kK f i j * g) W (by omega) (by omega) (by rw [Int.mul_comm 64 g, Int.mul_assoc]))
            have HL := Lib.hid (fun W => lessK_spec (kK f i i * s) (kK f i j * g) W (mulK hs) (mulK hg))
            rw [HLN.out] at HI HJ
            clear hok hv hi hj hi2 hj2 hs hg kb1 kb2 sb gb
            generalize decide (kK f i i * s < kK f i j * g) = B at *
            go_enter Try.func23, Try.ntmps23
            go_wp2_with fail
            refine HC.out.mono ?_
            rintro e w1 ⟨rfl, hq⟩
            have hb := hq.below (B := w.heap.size)
            have HXA := Lib.hid (HXA.out.keep (Keep.below hb))
            have HB := Lib.hid hb
            clear hb hq HC
            go_wp2_with (go_at_call 40; (first | (with_reducible refine (HI.out _).mono ?_) | (with_reducible refine (HJ.out _).mono ?_) | (with_reducible refine (HS.out _).mono ?_) | (with_reducible refine (HG.out _).mono ?_)); rintro e w' ⟨rfl, rfl⟩)
            refine (HK1.out _ HXA.out).mono ?_
            rintro e w2 ⟨rfl, hb⟩
            have HB := Lib.hid (below_up HB.out hb)
            have HXA := Lib.hid (HXA.out.keep (Keep.below hb))
            clear hb HK1
            go_wp2_with fail
            refine (HF1.out _).mono ?_
            rintro e w3 ⟨rfl, hb⟩
            have HB := Lib.hid (below_up HB.out hb)
            have HXA := Lib.hid (HXA.out.keep (Keep.below hb))
            clear hb HF1
            go_wp2_with fail
            refine (HT1.out _).mono ?_
            rintro e w4 ⟨rfl, hb⟩
            have HB := Lib.hid (below_up HB.out hb)
            have HXA := Lib.hid (HXA.out.keep (Keep.below hb))
            clear hb HT1
            go_wp2_with fail
            refine (HK2.out _ HXA.out).mono ?_
            rintro e w5 ⟨rfl, hb⟩
            have HB := Lib.hid (below_up HB.out hb)
            clear hb HK2
            go_wp2_with fail
            refine (HF2.out _).mono ?_
            rintro e w6 ⟨rfl, hb⟩
            have HB := Lib.hid (below_up HB.out hb)
            clear hb HF2
            go_wp2_with fail
            refine (HT2.out _).mono ?_
            rintro e w7 ⟨rfl, hb⟩
            have HB := Lib.hid (below_up HB.out hb)
            clear hb HT2
            go_wp2_with fail
            refine (HL.out _).mono ?_
            rintro e w8 ⟨rfl, hb⟩
            have HB := Lib.hid (below_up HB.out hb)
            clear hb HL
            go_wp2
            go_ret
            exact ⟨rfl, HB.out⟩
          · rw [pb_false hg] at HG
            rw [pb_false (p := HOk f i j s g) (fun h => hg h.hg)]
            rw [HLN.out] at HI HJ
            clear hv hi hj hs hg
            go_enter Try.func23, Try.ntmps23
            go_wp2_with fail
            refine HC.out.mono ?_
            rintro e w1 ⟨rfl, hq⟩
            have HB := Lib.hid (hq.below (B := w.heap.size))
            clear hq HC
            go_wp2_with (go_at_call 40; (first | (with_reducible refine (HI.out _).mono ?_) | (with_reducible refine (HJ.out _).mono ?_) | (with_reducible refine (HS.out _).mono ?_) | (with_reducible refine (HG.out _).mono ?_)); rintro e w' ⟨rfl, rfl⟩)
            go_ret
            exact ⟨rfl, HB.out⟩
        · rw [pb_false hs] at HS
          rw [pb_false (p := HOk f i j s g) (fun h => hs h.hc)]
          rw [HLN.out] at HI HJ
          clear hv hi hj hs
          go_enter Try.func23, Try.ntmps23
          go_wp2_with fail
          refine HC.out.mono ?_
          rintro e w1 ⟨rfl, hq⟩
          have HB := Lib.hid (hq.below (B := w.heap.size))
          clear hq HC
          go_wp2_with (go_at_call 40; (first | (with_reducible refine (HI.out _).mono ?_) | (with_reducible refine (HJ.out _).mono ?_) | (with_reducible refine (HS.out _).mono ?_)); rintro e w' ⟨rfl, rfl⟩)
          go_ret
          exact ⟨rfl, HB.out⟩
      · rw [pb_false hj] at HJ
        rw [pb_false (p := HOk f i j s g) (fun h => hj h.k.j)]
        rw [HLN.out] at HI HJ
        clear hv hi hj
        go_enter Try.func23, Try.ntmps23
        go_wp2_with fail
        refine HC.out.mono ?_
        rintro e w1 ⟨rfl, hq⟩
        have HB := Lib.hid (hq.below (B := w.heap.size))
        clear hq HC
        go_wp2_with (go_at_call 40; (first | (with_reducible refine (HI.out _).mono ?_) | (with_reducible refine (HJ.out _).mono ?_)); rintro e w' ⟨rfl, rfl⟩)
        go_ret
        exact ⟨rfl, HB.out⟩
    · rw [pb_false hi] at HI
      rw [pb_false (p := HOk f i j s g) (fun h => hi h.k.i)]
      rw [HLN.out] at HI
      clear hv hi
      go_enter Try.func23, Try.ntmps23
      go_wp2_with fail
      refine HC.out.mono ?_
      rintro e w1 ⟨rfl, hq⟩
      have HB := Lib.hid (hq.below (B := w.heap.size))
      clear hq HC
      go_wp2_with (go_at_call 40; (first | (with_reducible refine (HI.out _).mono ?_)); rintro e w' ⟨rfl, rfl⟩)
      go_ret
      exact ⟨rfl, HB.out⟩
  · rw [pb_false hv] at HC
    rw [pb_false (p := HOk f i j s g) (fun h => hv h.k.v)]
    clear hv
    go_enter Try.func23, Try.ntmps23
    go_wp2_with fail
    refine HC.out.mono ?_
    rintro e w1 ⟨rfl, hq⟩
    have HB := Lib.hid (hq.below (B := w.heap.size))
    clear hq HC
    go_wp2
    go_ret
    exact ⟨rfl, HB.out⟩

end Go.Proofs.Ytlfljcemcaphcaa

/- The harness of the exact laws: games. -/
namespace Go.Proofs.Ytlfljcemcaphcaa
open Go.RowKit

theorem szR_le (left : Int) (xs : List (List Int)) (h0 : 0 ≤ left) (h1 : left ≤ 1048576) : -1 ≤ szR left xs ∧ szR left xs ≤ 1048576 := by
  induction xs generalizing left with
  | nil => simp only [szR]; omega
  | cons x xs ih =>
    have := szI_le left x.length h0 h1
    rw [szR]
    split
    · omega
    · exact ih _ (by omega) (by omega)
theorem szRR_le (left : Int) (xs : List (List Int)) (h0 : 0 ≤ left) (h1 : left ≤ 1048576) : -1 ≤ szRR left xs ∧ szRR left xs ≤ 1048576 := by
  have := szI_le left xs.length h0 h1
  rw [szRR]
  split
  · omega
  · exact szR_le _ _ (by omega) (by omega)

def szG (left : Int) (xs ys : List (List Int)) : Int := if szRR left xs < 0 then -1 else if szRR (szRR left xs) ys < 0 then -1 else szRR (szRR left xs) ys
theorem szG_no1 {left : Int} {xs ys : List (List Int)} (h : szRR left xs < 0) : szG left xs ys = -1 := by rw [szG, if_pos h]
theorem szG_eq {left : Int} {xs ys : List (List Int)} (h : ¬ szRR left xs < 0) (h1 : -1 ≤ szRR (szRR left xs) ys) : szG left xs ys = szRR (szRR left xs) ys := by
  rw [szG, if_neg h]; split <;> omega
theorem szG_no2 {left : Int} {xs ys : List (List Int)} (h : ¬ szRR left xs < 0) (h1 : szRR (szRR left xs) ys < 0) : szG left xs ys = -1 := by
  rw [szG, if_neg h, if_pos h1]

def MadeG (w : World) (n m : Nat) (xs ys : List (List Int)) (e : Ending) (w' : World) : Prop :=
  ∃ g1 g2 mid, e = .returned (.agg #[.slice (some ⟨g1, 0, none⟩) n n, .slice (some ⟨g2, 0, none⟩) m m]) ∧ OwnR w.heap.size mid w' g1 (some ⟨g1, 0, none⟩) n n xs ∧ OwnR mid w'.heap.size w' g2 (some ⟨g2, 0, none⟩) m m ys ∧
    Below w.heap.size w w' ∧ w.heap.size ≤ mid ∧ mid ≤ w'.heap.size

def eqG (xs ys zs us : List (List Int)) : Bool := eqRR xs zs && eqRR ys us

theorem eqG_refl (xs ys : List (List Int)) : eqG xs ys xs ys = true := by simp [eqG, eqRR]
end Go.Proofs.Ytlfljcemcaphcaa

/- What an exact law on a game knows at each step. -/
namespace Go.Proofs.Ytlfljcemcaphcaa
open Go.RowKit

end Go.Proofs.Ytlfljcemcaphcaa

/- The harness of the exact laws: every cell marked by a number of its own, and looked at again. -/
namespace Go.Proofs.Ytlfljcemcaphcaa
open Go.RowKit

def seqI (k : Int) (n : Nat) : List Int := (List.range n).map fun (i : Nat) => k + (i : Int)
theorem seqI_len (k : Int) (n : Nat) : (seqI k n).length = n := by simp [seqI]
theorem gi_seqI {k : Int} {n i : Nat} (h : i < n) : gi (seqI k n) i = k + i := by rw [gi_get (by rw [seqI_len]; exact h)]; simp [seqI]
theorem gi_set_eq {xs : List Int} {i : Nat} {v : Int} (h : i < xs.length) : gi (xs.set i v) i = v := by rw [gi_get (by simpa using h)]; simp
theorem gi_set_ne {xs : List Int} {i j : Nat} {v : Int} (h : j < xs.length) (hne : j ≠ i) : gi (xs.set i v) j = gi xs j := by
  rw [gi_get (by simpa using h), gi_get h, List.getElem_set]; simp [Ne.symm hne]

/-- Only block b has turned. -/
structure One (b : Nat) (w w' : World) : Prop where
  os : w'.os = w.os
  tape : w'.tape = w.tape
  output : w'.output = w.output
  size : w'.heap.size = w.heap.size
  block : ∀ g, g ≠ b → w'.heap[g]? = w.heap[g]?
theorem One.refl (b : Nat) (w : World) : One b w w := ⟨rfl, rfl, rfl, rfl, fun _ _ => rfl⟩
theorem One.set {b : Nat} {a w : World} (h : One b a w) (i : Nat) (u : Value) : One b a (w.setCell ⟨b, i, none⟩ u) :=
  ⟨h.os, h.tape, h.output, by simpa [World.setCell] using h.size, fun g hg => (Below.heap_setCell _ _ _ _ hg).trans (h.block g hg)⟩
theorem One.touch {b lo hi : Nat} {w w' : World} (h : One b w w') (h1 : lo ≤ b) (h2 : b < hi) : Touch lo hi w w' := ⟨h.os, h.tape, h.output, h.size, fun k hk => h.block k (by omega)⟩

theorem OwnI.set {lo hi w b o n c xs} (h : OwnI lo hi w b (some ⟨b, o, none⟩) n c xs) {i : Nat} (hi' : i < n) {v : Int} (hv : -9223372036854775808 ≤ v ∧ v ≤ 9223372036854775807) :
    OwnI lo hi (w.setCell ⟨b, o + i, none⟩ (.int .i64 v)) b (some ⟨b, o, none⟩) n c (xs.set i v) := by
  have hl := h.ints.len
  obtain ⟨o', e, h1, h2, hf⟩ := h.own (by omega)
  injection e with e
  injection e with _ e _
  subst e
  obtain ⟨b', o', e, hc⟩ := h.ints.at_ (by omega)
  injection e with e
  injection e with e1 e2 _
  subst e1
  subst e2
  refine ⟨⟨by rw [List.length_set]; exact hl, h.ints.cap, h.ints.max, fun x hx => ?_, fun _ => ⟨b, o, rfl, fun k hk => ?_⟩⟩, fun _ => ⟨o, rfl, h1, h2, fun k hk => ?_⟩⟩
  · rcases List.mem_or_eq_of_mem_set hx with hx | rfl
    · exact h.ints.wf x hx
    · exact hv
  · by_cases e : k = i
    · subst e
      rw [gi_set_eq (by omega), World.cell?_setCell_same w _ _ (hc k hk)]
    · rw [gi_set_ne (by omega) e, World.cell?_setCell_other w _ _ _ (fun e' => by injection e' with _ e' _; omega)]
      exact hc k hk
  · rw [World.frozen?_setCell]; exact hf k hk

def MarkedI (lo hi : Nat) (w : World) (b : Nat) (A : Option Addr) (n c : Nat) (k : Int) (e : Ending) (w' : World) : Prop :=
  e = .returned (.int .i64 (k + n)) ∧ OwnI lo hi w' b A n c (seqI k n) ∧ (n = 0 → w = w') ∧ One b w w'

/-- How many numbers stand ahead of row j; the rows as they are marked. -/
def offs (xss : List (List Int)) : Nat → Int
  | 0 => 0
  | j + 1 => offs xss j + (gr xss j).length
theorem offs_ge (xss : List (List Int)) : ∀ j, 0 ≤ offs xss j
  | 0 => Int.le_refl _
  | j + 1 => by have := offs_ge xss j; simp only [offs]; omega
theorem offs_mono (xss : List (List Int)) {i j : Nat} (h : i ≤ j) : offs xss i ≤ offs xss j := by
  induction j with
  | zero => obtain rfl : i = 0 := by omega
            exact Int.le_refl _
  | succ j ih =>
    by_cases e : i = j + 1
    · subst e; exact Int.le_refl _
    · have := ih (by omega); simp only [offs]; omega
def mkR (k : Int) (xss : List (List Int)) : List (List Int) := (List.range xss.length).map fun j => seqI (k + offs xss j) (gr xss j).length
theorem mkR_len (k : Int) (xss : List (List Int)) : (mkR k xss).length = xss.length := by simp [mkR]
theorem gr_mkR {k : Int} {xss : List (List Int)} {j : Nat} (h : j < xss.length) : gr (mkR k xss) j = seqI (k + offs xss j) (gr xss j).length := by
  rw [gr_get (by rw [mkR_len]; exact h)]; simp [mkR]

theorem gr_set_eq {xs : List (List Int)} {i : Nat} {v : List Int} (h : i < xs.length) : gr (xs.set i v) i = v := by rw [gr_get (by simpa using h)]; simp
theorem gr_set_ne {xs : List (List Int)} {i j : Nat} {v : List Int} (hne : j ≠ i) : gr (xs.set i v) j = gr xs j := by
  unfold gr; rw [List.getD_eq_getElem?_getD, List.getD_eq_getElem?_getD, List.getElem?_set_ne (Ne.symm hne)]

/-- A row of its own, and what comes of the rows when it alone is written. -/
theorem OwnR.at_row {lo hi w b A n c xss} (h : OwnR lo hi w b A n c xss) {i : Nat} (hi' : i < n) :
    ∃ o g R cc, A = some ⟨b, o, none⟩ ∧ w.cell? ⟨b, o + i, none⟩ = some (.slice R (gr xss i).length cc) ∧ OwnI lo hi w g R (gr xss i).length cc (gr xss i) ∧
      ∀ w' r, r.length = (gr xss i).length → OwnI lo hi w' g R (gr xss i).length cc r → ((gr xss i).length = 0 → w = w') → One g w w' → OwnR lo hi w' b A n c (xss.set i r) ∧ Touch lo hi w w' := by
  obtain ⟨o, G, R, C, rfl, h1, h2, hr, hd⟩ := h.at_ (by omega)
  have hl := h.len
  refine ⟨o, G i, R i, C i, rfl, (hr i hi').2.1, (hr i hi').2.2.1, fun w' r hrl hown h0 hone => ?_⟩
  have hsame : ∀ g, (0 < (gr xss i).length → g ≠ G i) → w'.heap[g]? = w.heap[g]? := fun g hg => by
    by_cases e : 0 < (gr xss i).length
    · exact hone.block g (hg e)
    · rw [h0 (by omega)]
  refine ⟨⟨by rw [List.length_set]; exact hl, h.cap, h.max, fun _ => ⟨o, G, R, C, rfl, h1, h2, fun k hk => ?_, fun j k hjk hk hj0 hk0 => ?_⟩⟩, ?_⟩
  · have eb := hsame b (fun hp => (Ne.symm ((hr i hi').2.2.2 hp)))
    have el : (gr (xss.set i r) k).length = (gr xss k).length := by
      by_cases e : k = i
      · subst e; rw [gr_set_eq (by omega), hrl]
      · rw [gr_set_ne e]
    rw [el]
    refine ⟨by rw [World.frozen?_of_block (w := w) eb]; exact (hr k hk).1, by rw [World.cell?_of_block (w := w) eb]; exact (hr k hk).2.1, ?_, (hr k hk).2.2.2⟩
    by_cases e : k = i
    · subst e; rw [gr_set_eq (by omega)]; exact hown
    · rw [gr_set_ne e]
      exact (hr k hk).2.2.1.of_block fun hp => hsame _ fun hp' => by
        rcases Nat.lt_or_gt_of_ne e with h | h
        · exact hd k i h hi' hp hp'
        · exact Ne.symm (hd i k h hk hp' hp)
  · have el : ∀ k, (gr (xss.set i r) k).length = (gr xss k).length := fun k => by
      by_cases e : k = i
      · subst e; rw [gr_set_eq (by omega), hrl]
      · rw [gr_set_ne e]
    rw [el] at hj0 hk0
    exact hd j k hjk hk hj0 hk0
  · by_cases e : 0 < (gr xss i).length
    · obtain ⟨_, _, q1, q2, _⟩ := (hr i hi').2.2.1.own e
      exact hone.touch q1 q2
    · rw [h0 (by omega)]; exact Touch.refl _ _ _

def MarkedR (lo hi : Nat) (w : World) (b : Nat) (A : Option Addr) (n c : Nat) (xss : List (List Int)) (k : Int) (e : Ending) (w' : World) : Prop :=
  e = .returned (.int .i64 (k + offs xss n)) ∧ OwnR lo hi w' b A n c (mkR k xss) ∧ Touch lo hi w w'

end Go.Proofs.Ytlfljcemcaphcaa

/- A list that a call owns; numbers of which the first have turned. -/
namespace Go.Proofs.Ytlfljcemcaphcaa
open Go.RowKit

/-- A list that a call owns, in block g from its beginning on. -/
structure NX (w : World) (n g : Nat) (L : List Int) (W : World) : Prop where
  own : OwnI w.heap.size W.heap.size W g (some ⟨g, 0, none⟩) n n L
  up : Below w.heap.size w W
  lo : w.heap.size ≤ g
theorem NX.next {w n g L W W'} (h : NX w n g L W) (k : Below W.heap.size W W') : NX w n g L W' := ⟨(h.own.below k).mono (Nat.le_refl _) k.size, below_up h.up k, h.lo⟩
theorem NX.cell {w n g L W} (h : NX w n g L W) {i : Nat} (hi : i < n) : W.cell? ⟨g, i, none⟩ = some (.int .i64 (gi L i)) := by
  obtain ⟨b, o, e, hc⟩ := h.own.ints.at_ (by omega)
  injection e with e
  injection e with e1 e2
  subst e1
  subst e2
  have := hc i hi
  rw [Nat.zero_add] at this
  exact this
theorem NX.frozen {w n g L W} (h : NX w n g L W) {i : Nat} (hi : i < n) : W.frozen? ⟨g, i, none⟩ = false := by
  obtain ⟨o, e, _, _, hf⟩ := h.own.own (by omega)
  injection e with e
  injection e with _ e2
  subst e2
  have := hf i hi
  rw [Nat.zero_add] at this
  exact this
theorem NX.set {w n g L W} (h : NX w n g L W) {i : Nat} (hi : i < n) {v : Int} (hv : -9223372036854775808 ≤ v ∧ v ≤ 9223372036854775807) : NX w n g (L.set i v) (W.setCell ⟨g, i, none⟩ (.int .i64 v)) := by
  have h1 := h.own.set hi hv
  rw [Nat.zero_add] at h1
  exact ⟨h1.mono (Nat.le_refl _) (by simp [World.setCell]), h.up.setCell (p := ⟨g, i, none⟩) h.lo _, h.lo⟩
/-- Numbers of which the first k have turned. -/
def mixT (f h : Nat → Int) (n k : Nat) : List Int := (List.range n).map fun i => if i < k then f i else h i
theorem mixT_len (f h : Nat → Int) (n k : Nat) : (mixT f h n k).length = n := by simp [mixT]
theorem gi_mixT {f h : Nat → Int} {n k i : Nat} (hi : i < n) : gi (mixT f h n k) i = if i < k then f i else h i := by
  rw [gi_get (by rw [mixT_len]; exact hi)]; simp [mixT]
theorem mixT_set {f h : Nat → Int} {n k : Nat} : (mixT f h n k).set k (f k) = mixT f h n (k + 1) := gi_ext (by rw [List.length_set, mixT_len, mixT_len]) fun i hi => by
  rw [List.length_set, mixT_len] at hi
  rw [gi_mixT hi]
  by_cases e : i = k
  · subst e; rw [gi_set_eq (by rw [mixT_len]; exact hi), if_pos (by omega)]
  · rw [gi_set_ne (by rw [mixT_len]; exact hi) e, gi_mixT hi]
    by_cases h2 : i < k
    · rw [if_pos h2, if_pos (by omega)]
    · rw [if_neg h2, if_neg (by omega)]
theorem mixT_zero (f h : Nat → Int) (n : Nat) : mixT f h n 0 = (List.range n).map h := gi_ext (by rw [mixT_len]; simp) fun i hi => by
  rw [mixT_len] at hi
  rw [gi_mixT hi, if_neg (by omega), gi_get (by simpa using hi)]; simp
theorem mixT_all (f h : Nat → Int) (n : Nat) : mixT f h n n = (List.range n).map f := gi_ext (by rw [mixT_len]; simp) fun i hi => by
  rw [mixT_len] at hi
  rw [gi_mixT hi, if_pos hi, gi_get (by simpa using hi)]; simp
theorem list_range (x : List Int) : (List.range x.length).map (gi x) = x := gi_ext (by simp) fun i hi => by
  have hi' : i < x.length := by simpa using hi
  rw [gi_get hi]; simp
theorem gi_range {f : Nat → Int} {n i : Nat} (h : i < n) : gi ((List.range n).map f) i = f i := by rw [gi_get (by simpa using h)]; simp

end Go.Proofs.Ytlfljcemcaphcaa

/- A region that ends in one frame but for some slots, whatever the order: walked on once. -/
namespace Go.Proofs.Ytlfljcemcaphcaa
open Go.RowKit

/-- A frame with other values in some slots. -/
def frmL (a : Act) : List Nat → List Value → Act
  | d :: ds, u :: us => frmL (a.put (some d) u) ds us
  | _, _ => a
/-- At the end of a region: the frame but for some slots, and F of these and of the world. -/
def PutQ (a : Act) (ds : List Nat) (F : List Value → World → Prop) : Exit → Act → World → Prop
  | .normal, b, v => ∃ us, b = frmL a ds us ∧ F us v
  | _, _, _ => False
theorem PutQ.mk {a b : Act} {ds : List Nat} {F : List Value → World → Prop} {v : World} (us : List Value) (h : b = frmL a ds us) (f : F us v) : PutQ a ds F .normal b v := ⟨us, h, f⟩
theorem region_put {P : Program} {c : Code} {Q : Exit → Act → World → Prop} {a : Act} {w : World} (ds : List Nat) (F : List Value → World → Prop) (h : c.wp P (PutQ a ds F) a w) (k : ∀ us v, F us v → Q .normal (frmL a ds us) v) : c.wp P Q a w :=
  Code.wp_mono (fun e b v h => by
    cases e <;> first | exact (h : False).elim | (obtain ⟨us, rfl, hf⟩ := (h : ∃ us, b = frmL a ds us ∧ F us v); exact k us v hf)) h
end Go.Proofs.Ytlfljcemcaphcaa

/- The people, by the program: valid people and numbers, the people as structs, parents; fractions added and divided, and halved. -/
namespace Go.Proofs.Ytlfljcemcaphcaa
open Go.RowKit

set_option maxHeartbeats 1000000 in
theorem plusKI_any (u d v e : Int) (w : World) (hu : -20000000 ≤ u ∧ u ≤ 20000000) (hv : -20000000 ≤ v ∧ v ≤ 20000000) (hd : 1 ≤ d ∧ d ≤ 20000000) (he : 1 ≤ e ∧ e ≤ 20000000) :
    Calls Try.prog 66 #[.agg #[.int .i64 u, .int .i64 d], .agg #[.int .i64 v, .int .i64 e]] w (Ret (frV (u * e + v * d) (d * e)) w) := by
  obtain ⟨p1, p2⟩ := mulbd (x := u) (y := e) (A := 20000000) (B := 20000000) hu (by omega)
  obtain ⟨p3, p4⟩ := mulbd (x := v) (y := d) (A := 20000000) (B := 20000000) hv (by omega)
  obtain ⟨p5, p6⟩ := mulbd (x := d) (y := e) (A := 20000000) (B := 20000000) (by omega) (by omega)
  obtain ⟨p7, p8⟩ := mulbd (x := u) (y := v) (A := 20000000) (B := 20000000) hu hv
  have p9 : 1 ≤ d * e := by have h : 1 * 1 ≤ d * e := Int.mul_le_mul hd.1 he.1 (by omega) (by omega); omega
  have HC := Lib.hid (fun W => fracOf_any (u * e + v * d) (d * e) W (by unfold Mid; omega) (by unfold Mid; omega) p9)
  have b0 := blk_old (blk_old (blk_new w 28 #[.int .i64 u, .int .i64 d]) (.cells #[.int .i64 v, .int .i64 e] 28)) (.cells #[.int .i64 0, .int .i64 0] 28)
  have b1 := blk_old (blk_new (w.alloc (.cells #[.int .i64 u, .int .i64 d] 28)) 28 #[.int .i64 v, .int .i64 e]) (.cells #[.int .i64 0, .int .i64 0] 28)
  have b2 := blk_new ((w.alloc (.cells #[.int .i64 u, .int .i64 d] 28)).alloc (.cells #[.int .i64 v, .int .i64 e] 28)) 28 #[.int .i64 0, .int .i64 0]
  have HB := Lib.hid (below_up (below_up (below_alloc w (.cells #[.int .i64 u, .int .i64 d] 28)) (below_alloc _ (.cells #[.int .i64 v, .int .i64 e] 28))) (below_alloc _ (.cells #[.int .i64 0, .int .i64 0] 28)))
  have HFV : Hid (frV (u * e + v * d) (d * e) = .agg #[.int .i64 (frU (u * e + v * d) (d * e)), .int .i64 (frD (u * e + v * d) (d * e))]) := Lib.hid rfl
  rw [HFV.out] at HC
  simp only [World.size_alloc] at b1 b2
  have c0 := blk_cell b0 (i := 0) rfl
  have c1 := blk_cell b0 (i := 1) rfl
  have c2 := blk_cell b1 (i := 0) rfl
  have c3 := blk_cell b1 (i := 1) rfl
  have HB2 := Lib.hid b2
  clear b0 b1 b2
  go_enter Try.func66, Try.ntmps66
  go_wp2_with fail
  clear c0 c1 c2 c3
  generalize ((w.alloc (.cells #[.int .i64 u, .int .i64 d] 28)).alloc (.cells #[.int .i64 v, .int .i64 e] 28)).alloc (.cells #[.int .i64 0, .int .i64 0] 28) = w1 at *
  refine (HC.out _).mono ?_
  rintro e w2 ⟨rfl, hb⟩
  have b0 := blk_below HB2.out hb
  have HBW := Lib.hid (below_up HB.out hb)
  clear hb HC HB HB2
  generalize frU (u * e + v * d) (d * e) = U at *
  generalize frD (u * e + v * d) (d * e) = D at *
  have c0 := blk_cell b0 (i := 0) rfl
  have c1 := blk_cell b0 (i := 1) rfl
  have f0 := blk_frozen b0 0
  have f1 := blk_frozen b0 1
  go_wp2
  clear c0 c1 f0 f1
  have B1 := blk_set (blk_set b0 0 (.int .i64 U)) 1 (.int .i64 D)
  have r0 := blk_cell B1 (i := 0) (v := .int .i64 U) rfl
  have r1 := blk_cell B1 (i := 1) (v := .int .i64 D) rfl
  have hle : w.heap.size ≤ w.heap.size + 1 + 1 := by omega
  have HBX := Lib.hid ((HBW.out.setCell (p := ⟨w.heap.size + 1 + 1, 0, none⟩) hle (.int .i64 U)).setCell (p := ⟨w.heap.size + 1 + 1, 1, none⟩) hle (.int .i64 D))
  clear B1 b0 HBW
  generalize (w2.setCell ⟨w.heap.size + 1 + 1, 0, none⟩ (.int .i64 U)).setCell ⟨w.heap.size + 1 + 1, 1, none⟩ (.int .i64 D) = WE at *
  refine bodyPost_ret (v := .agg #[.int .i64 U, .int .i64 D]) (by simp [results, Try.results66, go_sem, r0, r1]) rfl ?_
  exact ⟨by rw [HFV.out], HBX.out⟩
set_option maxRecDepth 100000 in
set_option maxHeartbeats 1600000 in
theorem overKI_any (U1 D1 U2 D2 : Int) (w : World) (h1 : 0 ≤ U1 * D2 ∧ U1 * D2 ≤ 1000000000000000) (h2 : 1 ≤ D1 * U2 ∧ D1 * U2 ≤ 1000000000000000) :
    Calls Try.prog 67 #[.agg #[.int .i64 U1, .int .i64 D1], .agg #[.int .i64 U2, .int .i64 D2]] w (Ret (frV (U1 * D2) (D1 * U2)) w) := by
  have hb1 := below_alloc w (.cells #[.int .i64 U1, .int .i64 D1] 28)
  have hb2 := below_alloc (w.alloc (.cells #[.int .i64 U1, .int .i64 D1] 28)) (.cells #[.int .i64 U2, .int .i64 D2] 28)
  have HB := Lib.hid (below_up hb1 hb2)
  have b1 := blk_old (blk_new w 28 #[.int .i64 U1, .int .i64 D1]) (.cells #[.int .i64 U2, .int .i64 D2] 28)
  have b2 := blk_new (w.alloc (.cells #[.int .i64 U1, .int .i64 D1] 28)) 28 #[.int .i64 U2, .int .i64 D2]
  rw [World.size_alloc] at b2
  have HPF := Lib.hid (PF.start ((w.alloc (.cells #[.int .i64 U1, .int .i64 D1] 28)).alloc (.cells #[.int .i64 U2, .int .i64 D2] 28)))
  have c0 := blk_cell (blk_old b1 (.cells #[.int .i64 0, .int .i64 0] 28)) (i := 0) rfl
  have c1 := blk_cell (blk_old b1 (.cells #[.int .i64 0, .int .i64 0] 28)) (i := 1) rfl
  have c2 := blk_cell (blk_old b2 (.cells #[.int .i64 0, .int .i64 0] 28)) (i := 0) rfl
  have c3 := blk_cell (blk_old b2 (.cells #[.int .i64 0, .int .i64 0] 28)) (i := 1) rfl
  have HSZ : Hid (((w.alloc (.cells #[.int .i64 U1, .int .i64 D1] 28)).alloc (.cells #[.int .i64 U2, .int .i64 D2] 28)).heap.size = w.heap.size + 1 + 1) := Lib.hid (by simp)
  obtain ⟨h11, h12⟩ := h1
  obtain ⟨h21, h22⟩ := h2
  have w1 : IntKind.i64.wrap (U1 * D2) = U1 * D2 := wrap_in64 (by omega)
  have w2 : IntKind.i64.wrap (D1 * U2) = D1 * U2 := wrap_in64 (by omega)
  clear hb1 hb2 b1 b2
  go_enter Try.func67, Try.ntmps67
  have HC := Lib.hid (fun W => fracOf_any (U1 * D2) (D1 * U2) W (by unfold Mid; omega) (by unfold Mid; omega) h21)
  go_wp2_with fail
  clear c0 c1 c2 c3
  generalize (w.alloc (.cells #[.int .i64 U1, .int .i64 D1] 28)).alloc (.cells #[.int .i64 U2, .int .i64 D2] 28) = V at *
  refine (HC.out _).mono ?_
  rintro e w5 ⟨rfl, hb⟩
  have HPF1 := Lib.hid (HPF.out.up hb)
  clear hb HC HPF
  have HFV : Hid (frV (U1 * D2) (D1 * U2) = .agg #[.int .i64 (frU (U1 * D2) (D1 * U2)), .int .i64 (frD (U1 * D2) (D1 * U2))]) := Lib.hid rfl
  rw [HFV.out]
  generalize frU (U1 * D2) (D1 * U2) = U at *
  generalize frD (U1 * D2) (D1 * U2) = D at *
  have c0 := blk_cell HPF1.out.box (i := 0) rfl
  have c1 := blk_cell HPF1.out.box (i := 1) rfl
  have f0 := blk_frozen HPF1.out.box 0
  have f1 := blk_frozen HPF1.out.box 1
  rw [HSZ.out] at c0 c1 f0 f1
  go_wp2
  clear c0 c1 f0 f1
  have hbx := HPF1.out.box
  rw [HSZ.out] at hbx
  have B1 := blk_set (blk_set hbx 0 (.int .i64 U)) 1 (.int .i64 D)
  have r0 := blk_cell B1 (i := 0) (v := .int .i64 U) rfl
  have r1 := blk_cell B1 (i := 1) (v := .int .i64 D) rfl
  have HBX := Lib.hid (((HB.out.trans (HPF1.out.below.mono (by rw [HSZ.out]; omega))).setCell (p := ⟨w.heap.size + 1 + 1, 0, none⟩) (by show w.heap.size ≤ w.heap.size + 1 + 1; omega) (.int .i64 U)).setCell (p := ⟨w.heap.size + 1 + 1, 1, none⟩) (by show w.heap.size ≤ w.heap.size + 1 + 1; omega) (.int .i64 D))
  clear B1 HPF1 hbx
  generalize (w5.setCell ⟨w.heap.size + 1 + 1, 0, none⟩ (.int .i64 U)).setCell ⟨w.heap.size + 1 + 1, 1, none⟩ (.int .i64 D) = WE at *
  refine bodyPost_ret (v := .agg #[.int .i64 U, .int .i64 D]) (by simp [results, Try.results67, go_sem, r0, r1]) rfl ?_
  exact ⟨by rw [HFV.out], HBX.out⟩

theorem fracK_impl (u d x : Int) (w : World) (hu : -200000 ≤ u ∧ u ≤ 200000) (hd : 1 ≤ d ∧ d ≤ 200000) (h : u * 64 = x * d) : Calls Try.prog 51 #[.int .i64 u, .int .i64 d] w (Ret (fK x) w) := by
  have k := fracOf_any u d w (by unfold Mid; omega) (by unfold Mid; omega) hd.1
  rw [frV_K (by omega) h] at k
  exact k
theorem plusK_impl (x y : Int) (w : World) (hx : -200000 ≤ x ∧ x ≤ 200000) (hy : -200000 ≤ y ∧ y ≤ 200000) : Calls Try.prog 66 #[fK x, fK y] w (Ret (fK (x + y)) w) := by
  have h1 := fK_u hx
  have h2 := fK_u hy
  have h3 := fK_d x
  have h4 := fK_d y
  have h := plusKI_any (frU x 64) (frD x 64) (frU y 64) (frD y 64) w (by omega) (by omega) (by omega) (by omega)
  rw [fK_plus] at h
  exact h
/-- Divided by 2 some times. -/
theorem overK_impl (x y u d z e : Int) (w : World) (hx : 0 ≤ x ∧ x ≤ 200000) (hy : 1 ≤ y ∧ y ≤ 200000) (hu : 1 ≤ u ∧ u ≤ 200000) (hd : 1 ≤ d ∧ d ≤ 200000) (he : 1 ≤ e) (hz : x * d * e = z * (y * u)) : Calls Try.prog 67 #[frV x y, frV u d] w (Ret (frV z e) w) := by
  have h1 := frU_le (u := x) (d := y) (B := 200000) (by omega) hx.1 hx.2
  have h2 := frD_bd (u := x) (d := y) (B := 200000) (by omega) hy.2
  have h3 := frU_le (u := u) (d := d) (B := 200000) (by omega) (by omega) hu.2
  have h4 := frD_bd (u := u) (d := d) (B := 200000) (by omega) hd.2
  have h5 := fr_pos (u := u) (d := d) (by omega) (by omega)
  have m1 : 0 * 0 ≤ frU x y * frD u d := Int.mul_le_mul h1.1 (by omega) (by omega) (by omega)
  have m2 : frU x y * frD u d ≤ 200000 * 200000 := Int.mul_le_mul h1.2 h4.2 (by omega) (by omega)
  have m3 : 1 * 1 ≤ frD x y * frU u d := Int.mul_le_mul h2.1 (by omega) (by omega) (by omega)
  have m4 : frD x y * frU u d ≤ 200000 * 200000 := Int.mul_le_mul h2.2 h3.2 (by omega) (by omega)
  have h := overKI_any (frU x y) (frD x y) (frU u d) (frD u d) w (by omega) (by omega)
  have r1 := fr_ratio x y
  have r2 := fr_ratio u d
  have hyu : 0 < y * u := Int.mul_pos (by omega) (by omega)
  obtain ⟨e1, e2⟩ := fr_eq (u := frU x y * frD u d) (d := frD x y * frU u d) (v := z) (e := e) (by omega) (by omega) (by
    generalize frU x y = X at *
    generalize frD x y = Y at *
    generalize frU u d = P at *
    generalize frD u d = Q at *
    have key : X * Q * e * (y * u) = z * (Y * P) * (y * u) := by
      have t1 : X * Q * e * (y * u) = (X * y) * (u * Q) * e := by grind
      have t2 : z * (Y * P) * (y * u) = (z * (y * u)) * (Y * P) := by grind
      rw [t1, t2, r1, ← r2, ← hz]; grind
    exact Int.eq_of_mul_eq_mul_right (by omega) key)
  have hv : frV (frU x y * frD u d) (frD x y * frU u d) = frV z e := by unfold frV; rw [e1, e2]
  rw [hv] at h
  exact h

/-- Valid people, and numbers of them. -/
def AF (f : List (List Int)) (xs : List Int) : Prop := VPe f ∧ ∀ k, k < xs.length → Blw f.length (gi xs k)
set_option maxHeartbeats 1600000 in
theorem areFolk_any (A : Option Addr) (n c : Nat) (f : List (List Int)) (X : Option Addr) (m d : Nat) (xs : List Int) (w : World) (hx : IntRows w A n c f) (hy : Ints w X m d xs) :
    Calls Try.prog 42 #[.slice A n c, .slice X m d] w fun e w' => e = .returned (.bool (pb (AF f xs))) ∧ Quiet w w' := by
  have hm := hx.max
  have hm2 := hy.max
  have HLN := Lib.hid hx.len
  have HLM := Lib.hid hy.len
  have HY := Lib.hid hy
  have HC := Lib.hid (ValidFolk_impl A n c f w hx)
  clear hx hy
  by_cases hv : VPe f
  · rw [pb_true hv] at HC
    have HV := Lib.hid hv
    clear hv
    go_enter Try.func42, Try.ntmps42
    go_wp2_with fail
    refine HC.out.mono ?_
    rintro e w1 ⟨rfl, q0, rfl⟩
    clear HC
    go_wp2
    go_loopw [12] (fun i wr => ∃ k : Nat, k ≤ m ∧ i = .int .i64 k ∧ Hid (∀ i, i < k → Blw f.length (gi xs i)) ∧ Quiet w wr) (fun i _ => m - (intOf i).toNat)
    case atStart => exact ⟨0, Nat.zero_le _, rfl, Lib.hid (fun _ h => absurd h (by omega)), by first | exact ⟨_, rfl⟩ | exact Quiet.two _ _ _⟩
    case round =>
      obtain ⟨k, hk, rfl, HALL, q, rfl⟩ := hrel
      by_cases hlt : k < m
      · obtain ⟨b2, o2, rfl, hc2⟩ := HY.out.at_ (by omega)
        have c2 := hc2 k hlt
        clear hc2
        have HB := Lib.hid (fun W => isBelow_any n (gi xs k) W)
        by_cases hb : Blw (n : Int) (gi xs k)
        · rw [pb_true hb] at HB
          have HK := Lib.hid (show Blw f.length (gi xs k) by rw [HLN.out]; exact hb)
          clear hb
          go_wp2_with (go_at_call 50; refine (HB.out _).mono ?_; rintro e w' ⟨rfl, rfl⟩)
          go_roundw
          case rel => exact ⟨k + 1, by omega, by go_num, Lib.hid (fun j hj => by
            by_cases hjk : j < k
            · exact HALL.out j hjk
            · obtain rfl : j = k := by omega
              exact HK.out), by first | exact ⟨_, rfl⟩ | exact Quiet.two _ _ _⟩
          case measure => simp [intOf]; omega
        · rw [pb_false hb] at HB
          have HN := Lib.hid (pb_false (p := AF f xs) (fun h => hb (by have := h.2 k (by rw [HLM.out]; exact hlt); rw [HLN.out] at this; exact this)))
          clear hb
          go_wp2_with (go_at_call 50; refine (HB.out _).mono ?_; rintro e w' ⟨rfl, rfl⟩)
          go_ret
          exact ⟨ret_bool HN.out.symm, by first | exact ⟨_, rfl⟩ | exact Quiet.two _ _ _⟩
      · obtain rfl : k = m := by omega
        have HP := Lib.hid (pb_true (p := AF f xs) ⟨HV.out, fun i hi => HALL.out i (by rw [HLM.out] at hi; exact hi)⟩)
        go_wp2
        go_ret
        exact ⟨ret_bool HP.out.symm, by first | exact ⟨_, rfl⟩ | exact Quiet.two _ _ _⟩
  · rw [pb_false hv] at HC
    have HN := Lib.hid (pb_false (p := AF f xs) (fun h => hv h.1))
    clear hv
    go_enter Try.func42, Try.ntmps42
    go_wp2_with fail
    refine HC.out.mono ?_
    rintro e w1 ⟨rfl, q0, rfl⟩
    clear HC
    go_wp2
    go_ret
    exact ⟨ret_bool HN.out.symm, by first | exact ⟨_, rfl⟩ | exact Quiet.two _ _ _⟩

/-- A person, as the program has it. -/
def peV (f : List (List Int)) (k : Nat) : Value := .agg #[.int .i64 k, .int .i64 (g2 f k 0), .int .i64 (g2 f k 1)]
/-- The people in block g. -/
structure PE (w : World) (g n : Nat) (f : List (List Int)) : Prop where
  c0 : ∀ k, k < n → w.cell? ⟨g, k * 3, none⟩ = some (.int .i64 k)
  c1 : ∀ k, k < n → w.cell? ⟨g, k * 3 + 1, none⟩ = some (.int .i64 (g2 f k 0))
  c2 : ∀ k, k < n → w.cell? ⟨g, k * 3 + 2, none⟩ = some (.int .i64 (g2 f k 1))
theorem PE.keep {w w' g n f} (h : PE w g n f) (k : Keep w w') : PE w' g n f := ⟨fun i hi => k _ _ (h.c0 i hi), fun i hi => k _ _ (h.c1 i hi), fun i hi => k _ _ (h.c2 i hi)⟩
/-- Numbers under way in block g. -/
structure PUk (wb : World) (g m : Nat) (L : List Int) (W : World) : Prop where
  len : L.length = m
  at_ : ∀ k, k < m → W.cell? ⟨g, k, none⟩ = some (.int .i64 (gi L k)) ∧ W.frozen? ⟨g, k, none⟩ = false
  lo : wb.heap.size ≤ g
  lt : g < W.heap.size
  up : Below wb.heap.size wb W
theorem PUk.next {wb g m L W W'} (h : PUk wb g m L W) (k : Below W.heap.size W W') : PUk wb g m L W' :=
  ⟨h.len, fun i hi => by have e := k.block g h.lt; rw [World.cell?_of_block (w := W) e, World.frozen?_of_block (w := W) e]; exact h.at_ i hi, h.lo, Nat.lt_of_lt_of_le h.lt k.size, below_up h.up k⟩
theorem PUk.set {wb g m L W} (h : PUk wb g m L W) {i : Nat} (hi : i < m) (v : Int) : PUk wb g m (L.set i v) (W.setCell ⟨g, i, none⟩ (.int .i64 v)) := by
  refine ⟨by rw [List.length_set]; exact h.len, fun k hk => ⟨?_, by rw [World.frozen?_setCell]; exact (h.at_ k hk).2⟩, h.lo, by simpa [World.setCell] using h.lt, h.up.setCell (p := ⟨g, i, none⟩) h.lo _⟩
  by_cases e : k = i
  · subst e
    rw [gi_set_eq (by rw [h.len]; exact hk), World.cell?_setCell_same W _ _ (h.at_ k hk).1]
  · rw [gi_set_ne (by rw [h.len]; exact hk) e, World.cell?_setCell_other W _ _ _ (fun e' => by injection e' with _ e' _; omega)]
    exact (h.at_ k hk).1
def peF (f : List (List Int)) (k : Nat) : Int := if k % 3 = 0 then ((k / 3 : Nat) : Int) else g2 f (k / 3) (k % 3 - 1)
theorem peF0 (f : List (List Int)) (k : Nat) : peF f (k * 3) = k := by unfold peF; rw [if_pos (by omega)]; congr 1; omega
theorem peF1 (f : List (List Int)) (k : Nat) : peF f (k * 3 + 1) = g2 f k 0 := by unfold peF; rw [if_neg (by omega), show (k * 3 + 1) / 3 = k by omega, show (k * 3 + 1) % 3 - 1 = 0 by omega]
theorem peF2 (f : List (List Int)) (k : Nat) : peF f (k * 3 + 2) = g2 f k 1 := by unfold peF; rw [if_neg (by omega), show (k * 3 + 2) / 3 = k by omega, show (k * 3 + 2) % 3 - 1 = 1 by omega]
theorem made_zero3 (n k : Nat) (hk : k < n * 3) : (madeCells #[.int .i64 0, .int .i64 0, .int .i64 0] (n * 3))[k]? = some (.int .i64 0) := by
  have h2 : k % 3 = 0 ∨ k % 3 = 1 ∨ k % 3 = 2 := by omega
  rcases h2 with h2 | h2 | h2 <;> simp [madeCells, hk, h2]
theorem PUk.start (w : World) (n : Nat) (h : Nat → Int) : PUk w w.heap.size (n * 3) (mixT h (fun _ => 0) (n * 3) 0) (w.alloc (.cells (madeCells #[.int .i64 0, .int .i64 0, .int .i64 0] (n * 3)) 60)) := by
  have hb := blk_new w 60 (madeCells #[.int .i64 0, .int .i64 0, .int .i64 0] (n * 3))
  refine ⟨mixT_len _ _ _ _, fun k hk => ⟨?_, blk_frozen hb _⟩, Nat.le_refl _, by simp, below_alloc _ _⟩
  rw [gi_mixT hk, if_neg (by omega)]
  exact blk_cell hb (made_zero3 n k hk)
theorem PUk.step {w g n f k W} (h : PUk w g (n * 3) (mixT (peF f) (fun _ => 0) (n * 3) (k * 3)) W) (hk : k < n) :
    PUk w g (n * 3) (mixT (peF f) (fun _ => 0) (n * 3) ((k + 1) * 3)) (((W.setCell ⟨g, k * 3, none⟩ (.int .i64 k)).setCell ⟨g, k * 3 + 1, none⟩ (.int .i64 (g2 f k 0))).setCell ⟨g, k * 3 + 2, none⟩ (.int .i64 (g2 f k 1))) := by
  have h1 := ((h.set (i := k * 3) (by omega) (peF f (k * 3))).set (i := k * 3 + 1) (by omega) (peF f (k * 3 + 1))).set (i := k * 3 + 1 + 1) (by omega) (peF f (k * 3 + 1 + 1))
  rw [mixT_set, mixT_set, mixT_set, show k * 3 + 1 + 1 + 1 = (k + 1) * 3 by omega, peF0, peF1, show k * 3 + 1 + 1 = k * 3 + 2 by omega, peF2] at h1
  exact h1
theorem PUk.done {w g n f W} (h : PUk w g (n * 3) (mixT (peF f) (fun _ => 0) (n * 3) (n * 3)) W) : PE W g n f := by
  have c := fun k (hk : k < n * 3) => (h.at_ k hk).1
  refine ⟨fun k hk => ?_, fun k hk => ?_, fun k hk => ?_⟩
  · rw [c _ (by omega), gi_mixT (by omega), if_pos (by omega), peF0]
  · rw [c _ (by omega), gi_mixT (by omega), if_pos (by omega), peF1]
  · rw [c _ (by omega), gi_mixT (by omega), if_pos (by omega), peF2]
theorem Try.infoPe : (Try.prog.info? 60).map (fun i => (i.zero, i.size, i.bytes)) = some (some (.agg #[.int .i64 0, .int .i64 0, .int .i64 0]), 3, 24) := by kernel_rfl
set_option maxRecDepth 100000 in
set_option maxHeartbeats 2000000 in
theorem peopleOf_any (A : Option Addr) (n c : Nat) (f : List (List Int)) (v : VPe f) (w : World) (hx : IntRows w A n c f) :
    Calls Try.prog 43 #[.slice A n c] w fun e w' => ∃ g, e = .returned (.slice (some ⟨g, 0, none⟩) n n) ∧ PE w' g n f ∧ Below w.heap.size w w' := by
  have hl := hx.len
  have hn1 : 1 ≤ n := by rw [← hl]; exact v.n1
  have hn6 : n ≤ 6 := by rw [← hl]; exact v.n6
  have HX := Lib.hid hx
  have HV := Lib.hid v
  have HLN := Lib.hid hl
  have HP0 := Lib.hid (PUk.start w n (peF f))
  rw [show (mixT (peF f) (fun _ => 0) (n * 3) 0) = mixT (peF f) (fun _ => 0) (n * 3) (0 * 3) by rfl] at HP0
  obtain ⟨i0, hi0, hz0, hz1, hz2⟩ := info_parts Try.infoPe
  have hmk := run_make (P := Try.prog) w 56 60 i0 (.agg #[.int .i64 0, .int .i64 0, .int .i64 0]) Try.underlying56 hi0 hz0 .i64 .i64 (n : Int) (n : Int) (by omega) (Int.le_refl _) (by rw [hz2]; omega) (by omega)
  rw [Int.toNat_natCast, hz1] at hmk
  clear hx v hl
  go_enter Try.func43, Try.ntmps43
  go_wp2
  clear hmk
  generalize w.alloc (.cells (madeCells #[.int .i64 0, .int .i64 0, .int .i64 0] (n * 3)) 60) = W0 at *
  go_loopw [11] (fun i_ wr => ∃ k : Nat, k ≤ n ∧ i_ = .int .i64 k ∧ Hid (PUk w w.heap.size (n * 3) (mixT (peF f) (fun _ => 0) (n * 3) (k * 3)) wr)) (fun i_ _ => n - (intOf i_).toNat)
  case atStart => exact ⟨0, Nat.zero_le _, rfl, HP0⟩
  case round =>
    clear HP0
    obtain ⟨k, hk, rfl, HG⟩ := hrel
    by_cases hlt : k < n
    · have hxk := HX.out.keep (Keep.below HG.out.up)
      obtain ⟨b, o, rfl, hc⟩ := hxk.at_ (by omega)
      obtain ⟨R, cc, c1, hR⟩ := hc k hlt
      have hlen := HV.out.two (i := k) (by rw [HLN.out]; exact hlt)
      rw [hlen] at c1 hR
      obtain ⟨b2, o2, rfl, hc2⟩ := hR.at_ (by omega)
      have c20 := hc2 0 (by omega)
      have c21 := hc2 1 (by omega)
      simp only [Nat.add_zero] at c20
      replace c20 : wr.cell? ⟨b2, o2, none⟩ = some (.int .i64 (g2 f k 0)) := c20
      replace c21 : wr.cell? ⟨b2, o2 + 1, none⟩ = some (.int .i64 (g2 f k 1)) := c21
      have q1 := HG.out.at_ (k * 3) (by omega)
      have q2 := HG.out.at_ (k * 3 + 1) (by omega)
      have q3 := HG.out.at_ (k * 3 + 2) (by omega)
      obtain ⟨q1, z1⟩ := q1
      obtain ⟨q2, z2⟩ := q2
      obtain ⟨q3, z3⟩ := q3
      have HGN := Lib.hid (HG.out.next (Quiet.below (B := wr.heap.size) ⟨1, rfl⟩))
      have HST := Lib.hid (HGN.out.step hlt)
      clear hc hc2 hR hlen hxk HG HGN
      generalize g2 f k 0 = x at *
      generalize g2 f k 1 = y at *
      go_wp2
      go_still_tail 11, (by kernel_rfl)
      go_wp2
      go_roundw
      case rel => exact ⟨k + 1, by omega, by go_num, Lib.hid (by exact HST.out)⟩
      case measure => simp [intOf]; omega
    · obtain rfl : k = n := by omega
      have HD := Lib.hid (And.intro HG.out.done HG.out.up)
      go_wp2
      go_ret
      exact ⟨_, rfl, HD.out.1, HD.out.2⟩

end Go.Proofs.Ytlfljcemcaphcaa

