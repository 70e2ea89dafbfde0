/- The law FnMoreIsSurer holds: for every code, of what it draws, with one number of the first strategy 1 more the chance is no less, and with one of the second strategy no more. No condition. -/
import Derived.Test.YtjkmgpiiamffgaaQ10
namespace Go.Proofs.Ytjkmgpiiamffgaa
open Go.ChangeShapes Go.WideShapes Go.ChangeAt Go.RowKit Go.Deep
theorem pf_mk (x y z t : Int) (n i : Nat) : pfA [[x, y], [z, t]] n i = x * ((i : Int) - 1) + y * ((n : Int) - (i : Int)) ∧ pgA [[x, y], [z, t]] n i = z * (i : Int) + t * ((n : Int) - (i : Int) - 1) := by
  unfold pfA pgA; simp [g2, gr, gi]
/-- The chance with more for the first strategy, or less for the second one, is no less. -/
theorem more_fx {a c : List (List Int)} {n i : Nat} (ha : CR a n) (hc : CR c n) (hi : i ≤ n) (hf : ∀ j, 1 ≤ j → j ≤ n - 1 → pfA a n j ≤ pfA c n j) (hg : ∀ j, 1 ≤ j → j ≤ n - 1 → pgA c n j ≤ pgA a n j) :
    lessB (frU (fxU c n i) (fxT c n)) (frD (fxU c n i) (fxT c n)) (frU (fxU a n i) (fxT a n)) (frD (fxU a n i) (fxT a n)) = false := by
  have h1 := (ha.fx hi).2
  have h2 := (hc.fx hi).2
  have hn := ha.n2
  unfold lessB
  rw [decide_eq_false_iff_not, fr_lt (by omega) (by omega)]
  -- the sums, crossed
  have key : ∀ k, k ≤ i → ∀ l, l ≤ n → i ≤ l → sm (numL (pfA a n) (pgA a n) (n - 1)) k * (sm (numL (pfA c n) (pgA c n) (n - 1)) l - sm (numL (pfA c n) (pgA c n) (n - 1)) i) ≤ sm (numL (pfA c n) (pgA c n) (n - 1)) k * (sm (numL (pfA a n) (pgA a n) (n - 1)) l - sm (numL (pfA a n) (pgA a n) (n - 1)) i) := fun k hk => by
    induction k with
    | zero => intro l _ _; simp [sm]
    | succ k ihk =>
      have row : ∀ l, l ≤ n → i ≤ l → numP (pfA a n) (pgA a n) (n - 1) k * (sm (numL (pfA c n) (pgA c n) (n - 1)) l - sm (numL (pfA c n) (pgA c n) (n - 1)) i) ≤ numP (pfA c n) (pgA c n) (n - 1) k * (sm (numL (pfA a n) (pgA a n) (n - 1)) l - sm (numL (pfA a n) (pgA a n) (n - 1)) i) := fun l => by
        induction l with
        | zero => intro _ hil; obtain rfl : i = 0 := by omega
                  simp
        | succ l ihl =>
          intro hl hil
          by_cases e : i = l + 1
          · subst e; simp
          · have ih := ihl (by omega) (by omega)
            have hx := num_cross (f := pfA a n) (g := pgA a n) (f' := pfA c n) (g' := pgA c n) (m := n - 1) (fun j x y => ⟨by have := (ha.fg.f j x y).1; omega, hf j x y⟩) (fun j x y => ⟨by have := (hc.fg.g j x y).1; omega, hg j x y⟩) (k := k) (l := l) (by omega) (by omega)
            rw [sm, sm, gi_numL (by omega), gi_numL (by omega)]
            generalize numP (pfA a n) (pgA a n) (n - 1) k = p at *
            generalize numP (pfA c n) (pgA c n) (n - 1) k = q at *
            generalize numP (pfA a n) (pgA a n) (n - 1) l = r at *
            generalize numP (pfA c n) (pgA c n) (n - 1) l = s at *
            generalize sm (numL (pfA a n) (pgA a n) (n - 1)) l = A1 at *
            generalize sm (numL (pfA a n) (pgA a n) (n - 1)) i = A2 at *
            generalize sm (numL (pfA c n) (pgA c n) (n - 1)) l = C1 at *
            generalize sm (numL (pfA c n) (pgA c n) (n - 1)) i = C2 at *
            have e1 : p * (C1 + s - C2) = p * (C1 - C2) + s * p := by grind
            have e2 : q * (A1 + r - A2) = q * (A1 - A2) + q * r := by grind
            omega
      intro l hl hil
      have i1 := ihk (by omega) l hl hil
      have i2 := row l hl hil
      rw [sm, sm, gi_numL (by omega), gi_numL (by omega)]
      generalize numP (pfA a n) (pgA a n) (n - 1) k = p at *
      generalize numP (pfA c n) (pgA c n) (n - 1) k = q at *
      generalize sm (numL (pfA a n) (pgA a n) (n - 1)) l - sm (numL (pfA a n) (pgA a n) (n - 1)) i = A1 at *
      generalize sm (numL (pfA c n) (pgA c n) (n - 1)) l - sm (numL (pfA c n) (pgA c n) (n - 1)) i = C1 at *
      generalize sm (numL (pfA a n) (pgA a n) (n - 1)) k = A3 at *
      generalize sm (numL (pfA c n) (pgA c n) (n - 1)) k = C3 at *
      have e1 : (A3 + p) * C1 = A3 * C1 + p * C1 := by grind
      have e2 : (C3 + q) * A1 = C3 * A1 + q * A1 := by grind
      omega
  have hk := key i (Nat.le_refl _) n (Nat.le_refl _) hi
  have ea : sm (numL (pfA a n) (pgA a n) (n - 1)) n = fxT a n := ha.fxU_all
  have ec : sm (numL (pfA c n) (pgA c n) (n - 1)) n = fxT c n := hc.fxU_all
  rw [ea, ec] at hk
  unfold fxU
  generalize sm (numL (pfA a n) (pgA a n) (n - 1)) i = A2 at *
  generalize sm (numL (pfA c n) (pgA c n) (n - 1)) i = C2 at *
  generalize fxT a n = A1 at *
  generalize fxT c n = C1 at *
  have e1 : A2 * (C1 - C2) = A2 * C1 - A2 * C2 := by grind
  have e2 : C2 * (A1 - A2) = C2 * A1 - A2 * C2 := by grind
  omega
/-- What is asked of a table with one number 1 more: if it is one at all, how the chances stand. -/
theorem less_up {x y z t x' y' z' t' : Int} {n i : Nat} (ha : CR [[x, y], [z, t]] n) (hi : i ≤ n) (h1 : x ≤ x') (h2 : y ≤ y') (h3 : z' ≤ z) (h4 : t' ≤ t) (hq : FQ [[x', y'], [z', t']] n i) :
    lessB (frU (fxU [[x', y'], [z', t']] n i) (fxT [[x', y'], [z', t']] n)) (frD (fxU [[x', y'], [z', t']] n i) (fxT [[x', y'], [z', t']] n)) (frU (fxU [[x, y], [z, t]] n i) (fxT [[x, y], [z, t]] n)) (frD (fxU [[x, y], [z, t]] n i) (fxT [[x, y], [z, t]] n)) = false := by
  have hc : CR [[x', y'], [z', t']] n := hq.1.cr
  refine more_fx ha hc hi (fun j a b => ?_) (fun j a b => ?_)
  · rw [(pf_mk _ _ _ _ _ _).1, (pf_mk _ _ _ _ _ _).1]
    have q1 := Int.mul_le_mul_of_nonneg_right h1 (show (0 : Int) ≤ (j : Int) - 1 by omega)
    have q2 := Int.mul_le_mul_of_nonneg_right h2 (show (0 : Int) ≤ (n : Int) - (j : Int) by have := ha.n2; omega)
    omega
  · rw [(pf_mk _ _ _ _ _ _).2, (pf_mk _ _ _ _ _ _).2]
    have q1 := Int.mul_le_mul_of_nonneg_right h3 (show (0 : Int) ≤ (j : Int) by omega)
    have q2 := Int.mul_le_mul_of_nonneg_right h4 (show (0 : Int) ≤ (n : Int) - (j : Int) - 1 by have := ha.n2; omega)
    omega
theorem less_dn {x y z t x' y' z' t' : Int} {n i : Nat} (ha : CR [[x, y], [z, t]] n) (hi : i ≤ n) (h1 : x' ≤ x) (h2 : y' ≤ y) (h3 : z ≤ z') (h4 : t ≤ t') (hq : FQ [[x', y'], [z', t']] n i) :
    lessB (frU (fxU [[x, y], [z, t]] n i) (fxT [[x, y], [z, t]] n)) (frD (fxU [[x, y], [z, t]] n i) (fxT [[x, y], [z, t]] n)) (frU (fxU [[x', y'], [z', t']] n i) (fxT [[x', y'], [z', t']] n)) (frD (fxU [[x', y'], [z', t']] n i) (fxT [[x', y'], [z', t']] n)) = false := by
  have hc : CR [[x', y'], [z', t']] n := hq.1.cr
  refine more_fx hc ha hi (fun j a b => ?_) (fun j a b => ?_)
  · rw [(pf_mk _ _ _ _ _ _).1, (pf_mk _ _ _ _ _ _).1]
    have q1 := Int.mul_le_mul_of_nonneg_right h1 (show (0 : Int) ≤ (j : Int) - 1 by omega)
    have q2 := Int.mul_le_mul_of_nonneg_right h2 (show (0 : Int) ≤ (n : Int) - (j : Int) by have := ha.n2; omega)
    omega
  · rw [(pf_mk _ _ _ _ _ _).2, (pf_mk _ _ _ _ _ _).2]
    have q1 := Int.mul_le_mul_of_nonneg_right h3 (show (0 : Int) ≤ (j : Int) by omega)
    have q2 := Int.mul_le_mul_of_nonneg_right h4 (show (0 : Int) ≤ (n : Int) - (j : Int) - 1 by have := ha.n2; omega)
    omega
/-- A table of two rows of two numbers in memory: its blocks. -/
structure LitT (pa pb pc : Nat) (x y z t : Int) (W : World) : Prop where
  a : Blk W pa 3 #[.int .i64 x, .int .i64 y]
  b : Blk W pb 3 #[.int .i64 z, .int .i64 t]
  c : Blk W pc 30 #[.slice (some ⟨pa, 0, none⟩) 2 2, .slice (some ⟨pb, 0, none⟩) 2 2]
  ab : pa ≠ pb
  ac : pa ≠ pc
  bc : pb ≠ pc
theorem LitT.next {pa pb pc : Nat} {x y z t : Int} {W W' : World} (h : LitT pa pb pc x y z t W) (k : Below W.heap.size W W') : LitT pa pb pc x y z t W' := ⟨blk_below h.a k, blk_below h.b k, blk_below h.c k, h.ab, h.ac, h.bc⟩
theorem LitT.quiet {pa pb pc : Nat} {x y z t : Int} {W W' : World} (h : LitT pa pb pc x y z t W) (k : Quiet W W') : LitT pa pb pc x y z t W' := h.next k.below
theorem LitT.a0 {pa pb pc : Nat} {x y z t : Int} {W : World} (h : LitT pa pb pc x y z t W) (v : Int) : LitT pa pb pc v y z t (W.setCell ⟨pa, 0, none⟩ (.int .i64 v)) := ⟨blk_set h.a 0 _, blk_other h.b (p := ⟨pa, 0, none⟩) (Ne.symm h.ab) _, blk_other h.c (p := ⟨pa, 0, none⟩) (Ne.symm h.ac) _, h.ab, h.ac, h.bc⟩
theorem LitT.a1 {pa pb pc : Nat} {x y z t : Int} {W : World} (h : LitT pa pb pc x y z t W) (v : Int) : LitT pa pb pc x v z t (W.setCell ⟨pa, 1, none⟩ (.int .i64 v)) := ⟨blk_set h.a 1 _, blk_other h.b (p := ⟨pa, 1, none⟩) (Ne.symm h.ab) _, blk_other h.c (p := ⟨pa, 1, none⟩) (Ne.symm h.ac) _, h.ab, h.ac, h.bc⟩
theorem LitT.b0 {pa pb pc : Nat} {x y z t : Int} {W : World} (h : LitT pa pb pc x y z t W) (v : Int) : LitT pa pb pc x y v t (W.setCell ⟨pb, 0, none⟩ (.int .i64 v)) := ⟨blk_other h.a (p := ⟨pb, 0, none⟩) h.ab _, blk_set h.b 0 _, blk_other h.c (p := ⟨pb, 0, none⟩) (Ne.symm h.bc) _, h.ab, h.ac, h.bc⟩
theorem LitT.b1 {pa pb pc : Nat} {x y z t : Int} {W : World} (h : LitT pa pb pc x y z t W) (v : Int) : LitT pa pb pc x y z v (W.setCell ⟨pb, 1, none⟩ (.int .i64 v)) := ⟨blk_other h.a (p := ⟨pb, 1, none⟩) h.ab _, blk_set h.b 1 _, blk_other h.c (p := ⟨pb, 1, none⟩) (Ne.symm h.bc) _, h.ab, h.ac, h.bc⟩
theorem LitT.rows {pa pb pc : Nat} {x y z t : Int} {W : World} (h : LitT pa pb pc x y z t W) (hx : -1000 ≤ x ∧ x ≤ 1000) (hy : -1000 ≤ y ∧ y ≤ 1000) (hz : -1000 ≤ z ∧ z ≤ 1000) (ht : -1000 ≤ t ∧ t ≤ 1000) : IntRows W (some ⟨pc, 0, none⟩) 2 2 [[x, y], [z, t]] := rows_of hx hy hz ht h.a h.b h.c
theorem lit_mk {a : List (List Int)} (h : VP a) : a = [[g2 a 0 0, g2 a 0 1], [g2 a 1 0, g2 a 1 1]] := by
  have hl := h.2
  have hr := h.1.q.1.rows
  have h0 : (gr a 0).length = 2 := by have := h.1.q.2; omega
  have h1 : (gr a 1).length = 2 := by have := (hr 1 (by omega)).1; omega
  refine gr_ext (by simpa using hl) fun k hk => ?_
  have hk2 : k = 0 ∨ k = 1 := by omega
  rcases hk2 with rfl | rfl
  · refine gi_ext (by simpa [gr] using h0) fun j hj => ?_
    have hj2 : j = 0 ∨ j = 1 := by omega
    rcases hj2 with rfl | rfl <;> simp [g2, gr, gi]
  · refine gi_ext (by simpa [gr] using h1) fun j hj => ?_
    have hj2 : j = 0 ∨ j = 1 := by omega
    rcases hj2 with rfl | rfl <;> simp [g2, gr, gi]

set_option maxRecDepth 100000 in
set_option maxHeartbeats 12000000 in
theorem fnMoreIsSurer_calls (A : Option Addr) (n c : Nat) (w : World) (hx : Bytes w A n c) :
    Calls Try.prog 5 #[.slice A n c] w fun e w' => e = .returned (.bool true) ∧ Below w.heap.size w w' := by
  have hmx := hx.max
  have H0 := Lib.hid (DrawPaysAt_any A n c w hx)
  clear hx
  by_cases hs : 1048576 < n
  · go_enter Try.func5, Try.ntmps5
    go_wp2
    go_ret
    exact ⟨rfl, Below.refl _ _⟩
  · go_enter Try.func5, Try.ntmps5
    go_wp2_with fail
    refine H0.out.mono ?_
    rintro e w1 ⟨Av, l, cv, gg, xss, n, i, rfl, ⟨n1, n2⟩, ⟨i1, i2⟩, hsm, hown, hb⟩
    have HR := Lib.hid hown.rows
    have B1 := Lib.hid hb
    clear hsm hown hb H0
    by_cases hv : FQ xss n i
    · obtain ⟨n, rfl, hcr⟩ := hv.1.nat
      obtain ⟨i, rfl⟩ : ∃ j : Nat, i = j := ⟨i.toNat, by have := hv.2; unfold InR at this; omega⟩
      have hin : i ≤ n := by have := hv.2; unfold InR at this; omega
      have hn6 := hcr.n6
      have hn2 := hcr.n2
      obtain ⟨x, y, z, t, rfl⟩ : ∃ x y z t, xss = [[x, y], [z, t]] := ⟨_, _, _, _, lit_mk hcr.p⟩
      have bx := hcr.p.bd (i := 0) (j := 0) (by omega) (by omega)
      have by_ := hcr.p.bd (i := 0) (j := 1) (by omega) (by omega)
      have bz := hcr.p.bd (i := 1) (j := 0) (by omega) (by omega)
      have bt := hcr.p.bd (i := 1) (j := 1) (by omega) (by omega)
      have hgx : g2 [[x, y], [z, t]] 0 0 = x := rfl
      have hgy : g2 [[x, y], [z, t]] 0 1 = y := rfl
      have hgz : g2 [[x, y], [z, t]] 1 0 = z := rfl
      have hgt : g2 [[x, y], [z, t]] 1 1 = t := rfl
      rw [hgx] at bx
      rw [hgy] at by_
      rw [hgz] at bz
      rw [hgt] at bt
      have HXY := Lib.hid (And.intro hgx (And.intro hgy (And.intro hgz hgt)))
      obtain ⟨b, o, rb, ro, cc, rfl, rfl, tab⟩ := hcr.tab HR.out
      have HT := Lib.hid tab
      have HV0 := ff_yes hcr hin
      have HCR := Lib.hid hcr
      have hX := hcr.fr hin
      unfold frV at HV0
      have HV := Lib.hid HV0
      obtain ⟨⟨x1, x2⟩, x3, x4⟩ := hX
      clear hgx hgy hgz hgt tab hv HV0 hcr
      generalize hPU : paU [[x, y], [z, t]] n i = pu
      generalize hPV : paV [[x, y], [z, t]] n i = pv
      have HPA := Lib.hid (And.intro hPU hPV)
      clear hPU hPV
      generalize hgX : frU (fxU [[x, y], [z, t]] n i) (fxT [[x, y], [z, t]] n) = X at *
      generalize hgD : frD (fxU [[x, y], [z, t]] n i) (fxT [[x, y], [z, t]] n) = D at *
      have HXD := Lib.hid (And.intro hgX hgD)
      clear hgX hgD
      have HC := Lib.hid (PaysAt_impl _ _ _ [[x, y], [z, t]] n i w1 HR.out ⟨by omega, by omega⟩ ⟨by omega, by omega⟩)
      rw [HPA.out.1, HPA.out.2] at HC
      go_wp2_with fail
      refine HC.out.mono ?_
      rintro e w2 ⟨rfl, hb⟩
      have HR_2 := Lib.hid (HR.out.keep (Keep.below hb))
      have HT_2 := Lib.hid (HT.out.keep (Keep.below hb))
      have B_2 := Lib.hid (below_up B1.out hb)
      clear hb HC HR HT B1
      have HC := Lib.hid (PaysAt_spec _ _ _ [[x, y], [z, t]] n i w2 HR_2.out ⟨by omega, by omega⟩ ⟨by omega, by omega⟩)
      rw [HPA.out.1, HPA.out.2] at HC
      go_wp2_with fail
      refine HC.out.mono ?_
      rintro e w3 ⟨rfl, hb⟩
      have HR_3 := Lib.hid (HR_2.out.keep (Keep.below hb))
      have HT_3 := Lib.hid (HT_2.out.keep (Keep.below hb))
      have B_3 := Lib.hid (below_up B_2.out hb)
      clear hb HC HR_2 HT_2 B_2
      have HC := Lib.hid (FixedFrom_impl _ _ _ [[x, y], [z, t]] n i w3 HR_3.out ⟨by omega, by omega⟩ ⟨by omega, by omega⟩)
      rw [HV.out.1, HV.out.2] at HC
      go_wp2_with fail
      refine HC.out.mono ?_
      rintro e w4 ⟨rfl, hb⟩
      have HR_4 := Lib.hid (HR_3.out.keep (Keep.below hb))
      have HT_4 := Lib.hid (HT_3.out.keep (Keep.below hb))
      have B_4 := Lib.hid (below_up B_3.out hb)
      clear hb HC HR_3 HT_3 B_3
      have hal := below_alloc w4 (.cells #[.int .i64 X, .int .i64 D] 27)
      have HR_4b := Lib.hid (HR_4.out.keep (Keep.below hal))
      have HT_4b := Lib.hid (HT_4.out.keep (Keep.below hal))
      have B_4b := Lib.hid (below_up B_4.out hal)
      have X0 := Lib.hid (blk_cell (blk_new w4 27 #[.int .i64 X, .int .i64 D]) (i := 0) (v := .int .i64 X) rfl)
      have X1 := Lib.hid (blk_cell (blk_new w4 27 #[.int .i64 X, .int .i64 D]) (i := 1) (v := .int .i64 D) rfl)
      clear hal HR_4 HT_4 B_4
      go_wp2
      generalize w4.alloc (.cells #[.int .i64 X, .int .i64 D] 27) = w4a at *
      generalize w4.heap.size = h4a at *
      go_loopw [12] (fun k_ wr => ∃ k : Nat, k ≤ 2 ∧ k_ = .int .i64 k ∧ Hid (Below w4a.heap.size w4a wr)) (fun k_ _ => 2 - (intOf k_).toNat)
      case atStart => exact ⟨0, Nat.zero_le _, rfl, Lib.hid (Below.refl _ _)⟩
      case round =>
        obtain ⟨k, hk, rfl, HB⟩ := hrel
        have HTR := Lib.hid (HT_4b.out.keep (Keep.below HB.out))
        have BR := Lib.hid (below_up B_4b.out HB.out)
        have XR0 := Lib.hid (Keep.below HB.out _ _ X0.out)
        have XR1 := Lib.hid (Keep.below HB.out _ _ X1.out)
        by_cases hlt : k < 2
        · have hkk : k = 0 ∨ k = 1 := by omega
          rcases hkk with rfl | rfl
          · have HS0 := Lib.hid (show (wr.cell? ⟨b, o, none⟩ = some (.slice (some ⟨rb 0, ro 0, none⟩) 2 (cc 0)) ∧ wr.cell? ⟨b, o + 1, none⟩ = some (.slice (some ⟨rb 1, ro 1, none⟩) 2 (cc 1))) ∧ (wr.cell? ⟨rb 0, ro 0, none⟩ = some (.int .i64 x) ∧ wr.cell? ⟨rb 0, ro 0 + 1, none⟩ = some (.int .i64 y)) ∧ (wr.cell? ⟨rb 1, ro 1, none⟩ = some (.int .i64 z) ∧ wr.cell? ⟨rb 1, ro 1 + 1, none⟩ = some (.int .i64 t)) from by
              have h0 := HTR.out.row 0 (by omega)
              have h1 := HTR.out.row 1 (by omega)
              have h2 := HTR.out.cell 0 0 (by omega) (by omega)
              have h3 := HTR.out.cell 0 1 (by omega) (by omega)
              have h4 := HTR.out.cell 1 0 (by omega) (by omega)
              have h5 := HTR.out.cell 1 1 (by omega) (by omega)
              simp only [Nat.add_zero, HXY.out.1, HXY.out.2.1, HXY.out.2.2.1, HXY.out.2.2.2] at h0 h2 h3 h4 h5
              exact ⟨⟨h0, h1⟩, ⟨h2, h3⟩, h4, h5⟩)
            have SX := HS0
            have q1 := HS0.out.1.1
            have q2 := HS0.out.1.2
            have q3 := HS0.out.2.1.1
            have q4 := HS0.out.2.1.2
            have q5 := HS0.out.2.2.1
            have q6 := HS0.out.2.2.2
            go_wp2
            apply region_put [66, 67, 68, 69, 70, 71, 72, 73, 74, 75, 76, 77, 78, 79, 80, 81, 82, 83, 84, 85, 86, 87, 88, 13] (fun us v => ∃ (u66 u67 u68 u69 u70 u71 u72 u73 u74 u75 u76 u77 u78 u79 u80 u81 u82 u83 u84 u85 u86 u87 u88 : Value) (pa pb pc : Nat), us = [u66, u67, u68, u69, u70, u71, u72, u73, u74, u75, u76, u77, u78, u79, u80, u81, u82, u83, u84, u85, u86, u87, u88, .slice (some ⟨pc, 0, none⟩) 2 2] ∧ Hid (LitT pa pb pc x y z t v) ∧ Hid (Below wr.heap.size wr v) ∧ Hid (wr.heap.size ≤ pa ∧ wr.heap.size ≤ pb))
            · go_region_held3 (fun W => (W.cell? ⟨b, o, none⟩ = some (.slice (some ⟨rb 0, ro 0, none⟩) 2 (cc 0)) ∧ W.cell? ⟨b, o + 1, none⟩ = some (.slice (some ⟨rb 1, ro 1, none⟩) 2 (cc 1))) ∧ (W.cell? ⟨rb 0, ro 0, none⟩ = some (.int .i64 x) ∧ W.cell? ⟨rb 0, ro 0 + 1, none⟩ = some (.int .i64 y)) ∧ (W.cell? ⟨rb 1, ro 1, none⟩ = some (.int .i64 z) ∧ W.cell? ⟨rb 1, ro 1 + 1, none⟩ = some (.int .i64 t)))
                (first | exact SX.out | with_reducible exact And.intro (And.intro (kc1 SX.out.1.1) (kc1 SX.out.1.2)) (And.intro (And.intro (kc1 SX.out.2.1.1) (kc1 SX.out.2.1.2)) (And.intro (kc1 SX.out.2.2.1) (kc1 SX.out.2.2.2))) | with_reducible exact And.intro (And.intro (kd1 SX.out.1.1) (kd1 SX.out.1.2)) (And.intro (And.intro (kd1 SX.out.2.1.1) (kd1 SX.out.2.1.2)) (And.intro (kd1 SX.out.2.2.1) (kd1 SX.out.2.2.2))) | with_reducible exact And.intro (And.intro (kc2 SX.out.1.1) (kc2 SX.out.1.2)) (And.intro (And.intro (kc2 SX.out.2.1.1) (kc2 SX.out.2.1.2)) (And.intro (kc2 SX.out.2.2.1) (kc2 SX.out.2.2.2))) | with_reducible exact And.intro (And.intro (kd2 SX.out.1.1) (kd2 SX.out.1.2)) (And.intro (And.intro (kd2 SX.out.2.1.1) (kd2 SX.out.2.1.2)) (And.intro (kd2 SX.out.2.2.1) (kd2 SX.out.2.2.2))) | with_reducible exact And.intro (And.intro (kc3 SX.out.1.1) (kc3 SX.out.1.2)) (And.intro (And.intro (kc3 SX.out.2.1.1) (kc3 SX.out.2.1.2)) (And.intro (kc3 SX.out.2.2.1) (kc3 SX.out.2.2.2))) | with_reducible exact And.intro (And.intro (kd3 SX.out.1.1) (kd3 SX.out.1.2)) (And.intro (And.intro (kd3 SX.out.2.1.1) (kd3 SX.out.2.1.2)) (And.intro (kd3 SX.out.2.2.1) (kd3 SX.out.2.2.2))) | with_reducible exact And.intro (And.intro (kc4 SX.out.1.1) (kc4 SX.out.1.2)) (And.intro (And.intro (kc4 SX.out.2.1.1) (kc4 SX.out.2.1.2)) (And.intro (kc4 SX.out.2.2.1) (kc4 SX.out.2.2.2))) | with_reducible exact And.intro (And.intro (kd4 SX.out.1.1) (kd4 SX.out.1.2)) (And.intro (And.intro (kd4 SX.out.2.1.1) (kd4 SX.out.2.1.2)) (And.intro (kd4 SX.out.2.2.1) (kd4 SX.out.2.2.2))) | with_reducible exact And.intro (And.intro (kc5 SX.out.1.1) (kc5 SX.out.1.2)) (And.intro (And.intro (kc5 SX.out.2.1.1) (kc5 SX.out.2.1.2)) (And.intro (kc5 SX.out.2.2.1) (kc5 SX.out.2.2.2))) | with_reducible exact And.intro (And.intro (kd5 SX.out.1.1) (kd5 SX.out.1.2)) (And.intro (And.intro (kd5 SX.out.2.1.1) (kd5 SX.out.2.1.2)) (And.intro (kd5 SX.out.2.2.1) (kd5 SX.out.2.2.2))) | go_keep)
                (fail)
              all_goals first
                | exact PutQ.mk _ (by simp only [frmL, Act.put, List.setIfInBounds_toArray, List.set_cons_zero, List.set_cons_succ]; rfl) ⟨_, _, _, _, _, _, _, _, _, _, _, _, _, _, _, _, _, _, _, _, _, _, _, wr.heap.size, wr.heap.size + 1, wr.heap.size + 1 + 1, rfl, Lib.hid ⟨blk_push [(.cells #[.int .i64 x, .int .i64 y] 3), (.cells #[.int .i64 z, .int .i64 t] 3), (.cells #[.slice (some ⟨wr.heap.size, 0, none⟩) 2 2, .slice (some ⟨wr.heap.size + 1, 0, none⟩) 2 2] 30)] wr 0 rfl, blk_push [(.cells #[.int .i64 x, .int .i64 y] 3), (.cells #[.int .i64 z, .int .i64 t] 3), (.cells #[.slice (some ⟨wr.heap.size, 0, none⟩) 2 2, .slice (some ⟨wr.heap.size + 1, 0, none⟩) 2 2] 30)] wr 1 rfl, blk_push [(.cells #[.int .i64 x, .int .i64 y] 3), (.cells #[.int .i64 z, .int .i64 t] 3), (.cells #[.slice (some ⟨wr.heap.size, 0, none⟩) 2 2, .slice (some ⟨wr.heap.size + 1, 0, none⟩) 2 2] 30)] wr 2 rfl, by omega, by omega, by omega⟩, Lib.hid (push_drew wr [(.cells #[.int .i64 x, .int .i64 y] 3), (.cells #[.int .i64 z, .int .i64 t] 3), (.cells #[.slice (some ⟨wr.heap.size, 0, none⟩) 2 2, .slice (some ⟨wr.heap.size + 1, 0, none⟩) 2 2] 30)]), Lib.hid ⟨by omega, by omega⟩⟩
                | exact PutQ.mk _ (by simp only [frmL, Act.put, List.setIfInBounds_toArray, List.set_cons_zero, List.set_cons_succ]; rfl) ⟨_, _, _, _, _, _, _, _, _, _, _, _, _, _, _, _, _, _, _, _, _, _, _, wr.heap.size + 1, wr.heap.size, wr.heap.size + 1 + 1, rfl, Lib.hid ⟨blk_push [(.cells #[.int .i64 z, .int .i64 t] 3), (.cells #[.int .i64 x, .int .i64 y] 3), (.cells #[.slice (some ⟨wr.heap.size + 1, 0, none⟩) 2 2, .slice (some ⟨wr.heap.size, 0, none⟩) 2 2] 30)] wr 1 rfl, blk_push [(.cells #[.int .i64 z, .int .i64 t] 3), (.cells #[.int .i64 x, .int .i64 y] 3), (.cells #[.slice (some ⟨wr.heap.size + 1, 0, none⟩) 2 2, .slice (some ⟨wr.heap.size, 0, none⟩) 2 2] 30)] wr 0 rfl, blk_push [(.cells #[.int .i64 z, .int .i64 t] 3), (.cells #[.int .i64 x, .int .i64 y] 3), (.cells #[.slice (some ⟨wr.heap.size + 1, 0, none⟩) 2 2, .slice (some ⟨wr.heap.size, 0, none⟩) 2 2] 30)] wr 2 rfl, by omega, by omega, by omega⟩, Lib.hid (push_drew wr [(.cells #[.int .i64 z, .int .i64 t] 3), (.cells #[.int .i64 x, .int .i64 y] 3), (.cells #[.slice (some ⟨wr.heap.size + 1, 0, none⟩) 2 2, .slice (some ⟨wr.heap.size, 0, none⟩) 2 2] 30)]), Lib.hid ⟨by omega, by omega⟩⟩
                | fail
            · rintro _ v ⟨xuu66, xuu67, xuu68, xuu69, xuu70, xuu71, xuu72, xuu73, xuu74, xuu75, xuu76, xuu77, xuu78, xuu79, xuu80, xuu81, xuu82, xuu83, xuu84, xuu85, xuu86, xuu87, xuu88, ua, ub, uc, rfl, HL, HBL, HPP⟩
              simp only [frmL, Act.put, List.setIfInBounds_toArray, List.set_cons_zero, List.set_cons_succ]
              clear q1 q2 q3 q4 q5 q6
              clear SX HS0
              have r0 := blk_cell HL.out.c (i := 0) rfl
              have r1 := blk_cell HL.out.a (i := 0) rfl
              have r2 := blk_frozen HL.out.a 0
              have HLu := Lib.hid (show LitT ua ub uc (x + 1) (y) (z) (t) ((v.setCell ⟨ua, 0, none⟩ (.int .i64 (x + 1))).drew) from (HL.out.a0 (x + 1)).quiet ⟨1, rfl⟩)
              have HBu := Lib.hid ((HBL.out.setCell (p := ⟨ua, 0, none⟩) (by show _ ≤ ua; have := HPP.out; omega) (.int .i64 (x + 1))).drew)
              have hws : IntKind.i64.wrap (x + 1) = x + 1 := wrap_in64 (by omega)
              clear HL HBL HPP
              go_wp2
              go_region
              clear r0 r1 r2 hws
              go_wp2
              generalize (v.setCell ⟨ua, 0, none⟩ (.int .i64 (x + 1))).drew = v2 at *
              have HTR2 := Lib.hid (HTR.out.keep (Keep.below HBu.out))
              have HS0 := Lib.hid (show (v2.cell? ⟨b, o, none⟩ = some (.slice (some ⟨rb 0, ro 0, none⟩) 2 (cc 0)) ∧ v2.cell? ⟨b, o + 1, none⟩ = some (.slice (some ⟨rb 1, ro 1, none⟩) 2 (cc 1))) ∧ (v2.cell? ⟨rb 0, ro 0, none⟩ = some (.int .i64 x) ∧ v2.cell? ⟨rb 0, ro 0 + 1, none⟩ = some (.int .i64 y)) ∧ (v2.cell? ⟨rb 1, ro 1, none⟩ = some (.int .i64 z) ∧ v2.cell? ⟨rb 1, ro 1 + 1, none⟩ = some (.int .i64 t)) from by
                have h0 := HTR2.out.row 0 (by omega)
                have h1 := HTR2.out.row 1 (by omega)
                have h2 := HTR2.out.cell 0 0 (by omega) (by omega)
                have h3 := HTR2.out.cell 0 1 (by omega) (by omega)
                have h4 := HTR2.out.cell 1 0 (by omega) (by omega)
                have h5 := HTR2.out.cell 1 1 (by omega) (by omega)
                simp only [Nat.add_zero, HXY.out.1, HXY.out.2.1, HXY.out.2.2.1, HXY.out.2.2.2] at h0 h2 h3 h4 h5
                exact ⟨⟨h0, h1⟩, ⟨h2, h3⟩, h4, h5⟩)
              have SX := HS0
              have q1 := HS0.out.1.1
              have q2 := HS0.out.1.2
              have q3 := HS0.out.2.1.1
              have q4 := HS0.out.2.1.2
              have q5 := HS0.out.2.2.1
              have q6 := HS0.out.2.2.2
              skip
              apply region_put [101, 102, 103, 104, 105, 106, 107, 108, 109, 110, 111, 112, 113, 114, 115, 116, 117, 118, 119, 120, 121, 122, 123, 14] (fun us v => ∃ (u101 u102 u103 u104 u105 u106 u107 u108 u109 u110 u111 u112 u113 u114 u115 u116 u117 u118 u119 u120 u121 u122 u123 : Value) (pa pb pc : Nat), us = [u101, u102, u103, u104, u105, u106, u107, u108, u109, u110, u111, u112, u113, u114, u115, u116, u117, u118, u119, u120, u121, u122, u123, .slice (some ⟨pc, 0, none⟩) 2 2] ∧ Hid (LitT pa pb pc x y z t v) ∧ Hid (Below v2.heap.size v2 v) ∧ Hid (v2.heap.size ≤ pa ∧ v2.heap.size ≤ pb))
              · go_region_held3 (fun W => (W.cell? ⟨b, o, none⟩ = some (.slice (some ⟨rb 0, ro 0, none⟩) 2 (cc 0)) ∧ W.cell? ⟨b, o + 1, none⟩ = some (.slice (some ⟨rb 1, ro 1, none⟩) 2 (cc 1))) ∧ (W.cell? ⟨rb 0, ro 0, none⟩ = some (.int .i64 x) ∧ W.cell? ⟨rb 0, ro 0 + 1, none⟩ = some (.int .i64 y)) ∧ (W.cell? ⟨rb 1, ro 1, none⟩ = some (.int .i64 z) ∧ W.cell? ⟨rb 1, ro 1 + 1, none⟩ = some (.int .i64 t)))
                  (first | exact SX.out | with_reducible exact And.intro (And.intro (kc1 SX.out.1.1) (kc1 SX.out.1.2)) (And.intro (And.intro (kc1 SX.out.2.1.1) (kc1 SX.out.2.1.2)) (And.intro (kc1 SX.out.2.2.1) (kc1 SX.out.2.2.2))) | with_reducible exact And.intro (And.intro (kd1 SX.out.1.1) (kd1 SX.out.1.2)) (And.intro (And.intro (kd1 SX.out.2.1.1) (kd1 SX.out.2.1.2)) (And.intro (kd1 SX.out.2.2.1) (kd1 SX.out.2.2.2))) | with_reducible exact And.intro (And.intro (kc2 SX.out.1.1) (kc2 SX.out.1.2)) (And.intro (And.intro (kc2 SX.out.2.1.1) (kc2 SX.out.2.1.2)) (And.intro (kc2 SX.out.2.2.1) (kc2 SX.out.2.2.2))) | with_reducible exact And.intro (And.intro (kd2 SX.out.1.1) (kd2 SX.out.1.2)) (And.intro (And.intro (kd2 SX.out.2.1.1) (kd2 SX.out.2.1.2)) (And.intro (kd2 SX.out.2.2.1) (kd2 SX.out.2.2.2))) | with_reducible exact And.intro (And.intro (kc3 SX.out.1.1) (kc3 SX.out.1.2)) (And.intro (And.intro (kc3 SX.out.2.1.1) (kc3 SX.out.2.1.2)) (And.intro (kc3 SX.out.2.2.1) (kc3 SX.out.2.2.2))) | with_reducible exact And.intro (And.intro (kd3 SX.out.1.1) (kd3 SX.out.1.2)) (And.intro (And.intro (kd3 SX.out.2.1.1) (kd3 SX.out.2.1.2)) (And.intro (kd3 SX.out.2.2.1) (kd3 SX.out.2.2.2))) | with_reducible exact And.intro (And.intro (kc4 SX.out.1.1) (kc4 SX.out.1.2)) (And.intro (And.intro (kc4 SX.out.2.1.1) (kc4 SX.out.2.1.2)) (And.intro (kc4 SX.out.2.2.1) (kc4 SX.out.2.2.2))) | with_reducible exact And.intro (And.intro (kd4 SX.out.1.1) (kd4 SX.out.1.2)) (And.intro (And.intro (kd4 SX.out.2.1.1) (kd4 SX.out.2.1.2)) (And.intro (kd4 SX.out.2.2.1) (kd4 SX.out.2.2.2))) | with_reducible exact And.intro (And.intro (kc5 SX.out.1.1) (kc5 SX.out.1.2)) (And.intro (And.intro (kc5 SX.out.2.1.1) (kc5 SX.out.2.1.2)) (And.intro (kc5 SX.out.2.2.1) (kc5 SX.out.2.2.2))) | with_reducible exact And.intro (And.intro (kd5 SX.out.1.1) (kd5 SX.out.1.2)) (And.intro (And.intro (kd5 SX.out.2.1.1) (kd5 SX.out.2.1.2)) (And.intro (kd5 SX.out.2.2.1) (kd5 SX.out.2.2.2))) | go_keep)
                  (fail)
                all_goals first
                  | exact PutQ.mk _ (by simp only [frmL, Act.put, List.setIfInBounds_toArray, List.set_cons_zero, List.set_cons_succ]; rfl) ⟨_, _, _, _, _, _, _, _, _, _, _, _, _, _, _, _, _, _, _, _, _, _, _, v2.heap.size, v2.heap.size + 1, v2.heap.size + 1 + 1, rfl, Lib.hid ⟨blk_push [(.cells #[.int .i64 x, .int .i64 y] 3), (.cells #[.int .i64 z, .int .i64 t] 3), (.cells #[.slice (some ⟨v2.heap.size, 0, none⟩) 2 2, .slice (some ⟨v2.heap.size + 1, 0, none⟩) 2 2] 30)] v2 0 rfl, blk_push [(.cells #[.int .i64 x, .int .i64 y] 3), (.cells #[.int .i64 z, .int .i64 t] 3), (.cells #[.slice (some ⟨v2.heap.size, 0, none⟩) 2 2, .slice (some ⟨v2.heap.size + 1, 0, none⟩) 2 2] 30)] v2 1 rfl, blk_push [(.cells #[.int .i64 x, .int .i64 y] 3), (.cells #[.int .i64 z, .int .i64 t] 3), (.cells #[.slice (some ⟨v2.heap.size, 0, none⟩) 2 2, .slice (some ⟨v2.heap.size + 1, 0, none⟩) 2 2] 30)] v2 2 rfl, by omega, by omega, by omega⟩, Lib.hid (push_drew v2 [(.cells #[.int .i64 x, .int .i64 y] 3), (.cells #[.int .i64 z, .int .i64 t] 3), (.cells #[.slice (some ⟨v2.heap.size, 0, none⟩) 2 2, .slice (some ⟨v2.heap.size + 1, 0, none⟩) 2 2] 30)]), Lib.hid ⟨by omega, by omega⟩⟩
                  | exact PutQ.mk _ (by simp only [frmL, Act.put, List.setIfInBounds_toArray, List.set_cons_zero, List.set_cons_succ]; rfl) ⟨_, _, _, _, _, _, _, _, _, _, _, _, _, _, _, _, _, _, _, _, _, _, _, v2.heap.size + 1, v2.heap.size, v2.heap.size + 1 + 1, rfl, Lib.hid ⟨blk_push [(.cells #[.int .i64 z, .int .i64 t] 3), (.cells #[.int .i64 x, .int .i64 y] 3), (.cells #[.slice (some ⟨v2.heap.size + 1, 0, none⟩) 2 2, .slice (some ⟨v2.heap.size, 0, none⟩) 2 2] 30)] v2 1 rfl, blk_push [(.cells #[.int .i64 z, .int .i64 t] 3), (.cells #[.int .i64 x, .int .i64 y] 3), (.cells #[.slice (some ⟨v2.heap.size + 1, 0, none⟩) 2 2, .slice (some ⟨v2.heap.size, 0, none⟩) 2 2] 30)] v2 0 rfl, blk_push [(.cells #[.int .i64 z, .int .i64 t] 3), (.cells #[.int .i64 x, .int .i64 y] 3), (.cells #[.slice (some ⟨v2.heap.size + 1, 0, none⟩) 2 2, .slice (some ⟨v2.heap.size, 0, none⟩) 2 2] 30)] v2 2 rfl, by omega, by omega, by omega⟩, Lib.hid (push_drew v2 [(.cells #[.int .i64 z, .int .i64 t] 3), (.cells #[.int .i64 x, .int .i64 y] 3), (.cells #[.slice (some ⟨v2.heap.size + 1, 0, none⟩) 2 2, .slice (some ⟨v2.heap.size, 0, none⟩) 2 2] 30)]), Lib.hid ⟨by omega, by omega⟩⟩
                  | fail
              · rintro _ v ⟨xdu101, xdu102, xdu103, xdu104, xdu105, xdu106, xdu107, xdu108, xdu109, xdu110, xdu111, xdu112, xdu113, xdu114, xdu115, xdu116, xdu117, xdu118, xdu119, xdu120, xdu121, xdu122, xdu123, da, db, dc, rfl, HL, HBL, HPP⟩
                simp only [frmL, Act.put, List.setIfInBounds_toArray, List.set_cons_zero, List.set_cons_succ]
                clear q1 q2 q3 q4 q5 q6
                clear SX HS0 HTR2
                have r0 := blk_cell HL.out.c (i := 1) rfl
                have r1 := blk_cell HL.out.b (i := 0) rfl
                have r2 := blk_frozen HL.out.b 0
                have HLd := Lib.hid (show LitT da db dc (x) (y) (z + 1) (t) ((v.setCell ⟨db, 0, none⟩ (.int .i64 (z + 1))).drew) from (HL.out.b0 (z + 1)).quiet ⟨1, rfl⟩)
                have HBd := Lib.hid ((HBL.out.setCell (p := ⟨db, 0, none⟩) (by show _ ≤ db; have := HPP.out; omega) (.int .i64 (z + 1))).drew)
                have hws : IntKind.i64.wrap (z + 1) = z + 1 := wrap_in64 (by omega)
                clear HL HBL HPP
                go_wp2
                go_region
                clear r0 r1 r2 hws
                skip
                generalize (v.setCell ⟨db, 0, none⟩ (.int .i64 (z + 1))).drew = w4 at *
                have HLu4 := Lib.hid (HLu.out.next HBd.out)
                have B4 := Lib.hid (below_up HBu.out HBd.out)
                have X40 := Lib.hid (Keep.below B4.out _ _ XR0.out)
                have X41 := Lib.hid (Keep.below B4.out _ _ XR1.out)
                clear HLu HBd HBu XR0 XR1
                by_cases hq1 : FQ [[x + 1, y], [z, t]] n i
                · have HC := Lib.hid (FixedFrom_impl _ _ _ [[x + 1, y], [z, t]] n i w4 (HLu4.out.rows (by omega) (by omega) (by omega) (by omega)) ⟨by omega, by omega⟩ ⟨by omega, by omega⟩)
                  have hcr := hq1.1.cr
                  have V1 := ff_yes hcr hin
                  have LS := less_up HCR.out hin (by omega) (by omega) (by omega) (by omega) hq1
                  have bz2 := hcr.fr hin
                  unfold frV at V1
                  rw [V1.1, V1.2] at HC
                  rw [HXD.out.1, HXD.out.2] at LS
                  have HLS1 := Lib.hid (fun W => LS ▸ lessOfH_any (frU (fxU [[x + 1, y], [z, t]] n i) (fxT [[x + 1, y], [z, t]] n)) (frD (fxU [[x + 1, y], [z, t]] n i) (fxT [[x + 1, y], [z, t]] n)) X D W (bd12 bz2.1 (by omega)) (by omega) (by omega) (by omega))
                  clear V1 LS bz2 hcr hq1
                  generalize frU (fxU [[x + 1, y], [z, t]] n i) (fxT [[x + 1, y], [z, t]] n) = U1 at *
                  generalize frD (fxU [[x + 1, y], [z, t]] n i) (fxT [[x + 1, y], [z, t]] n) = D1 at *
                  go_wp2_with fail
                  refine HC.out.mono ?_
                  rintro e w6 ⟨rfl, hb⟩
                  have hb2 := below_up hb (below_alloc w6 (.cells #[.int .i64 U1, .int .i64 D1] 27))
                  have B7 := Lib.hid (below_up B4.out hb2)
                  have X70 := Lib.hid (Keep.below hb2 _ _ X40.out)
                  have X71 := Lib.hid (Keep.below hb2 _ _ X41.out)
                  have HLd7 := Lib.hid (HLd.out.next hb2)
                  have Y70 := Lib.hid (blk_cell (blk_new w6 27 #[.int .i64 U1, .int .i64 D1]) (i := 0) (v := .int .i64 U1) rfl)
                  have Y71 := Lib.hid (blk_cell (blk_new w6 27 #[.int .i64 U1, .int .i64 D1]) (i := 1) (v := .int .i64 D1) rfl)
                  clear hb hb2 HC B4 X40 X41 HLu4 HLd
                  by_cases hq2 : FQ [[x, y], [z + 1, t]] n i
                  · have HC := Lib.hid (FixedFrom_impl _ _ _ [[x, y], [z + 1, t]] n i (w6.alloc (.cells #[.int .i64 U1, .int .i64 D1] 27)) (HLd7.out.rows (by omega) (by omega) (by omega) (by omega)) ⟨by omega, by omega⟩ ⟨by omega, by omega⟩)
                    have hcr := hq2.1.cr
                    have V2 := ff_yes hcr hin
                    have LS := less_dn HCR.out hin (by omega) (by omega) (by omega) (by omega) hq2
                    have bz2 := hcr.fr hin
                    unfold frV at V2
                    rw [V2.1, V2.2] at HC
                    rw [HXD.out.1, HXD.out.2] at LS
                    have HLS2 := Lib.hid (fun W => LS ▸ lessOfH_any X D (frU (fxU [[x, y], [z + 1, t]] n i) (fxT [[x, y], [z + 1, t]] n)) (frD (fxU [[x, y], [z + 1, t]] n i) (fxT [[x, y], [z + 1, t]] n)) W (by omega) (bd12 bz2.1 (by omega)) (by omega) (by omega))
                    clear V2 LS bz2 hcr hq2
                    generalize frU (fxU [[x, y], [z + 1, t]] n i) (fxT [[x, y], [z + 1, t]] n) = U2 at *
                    generalize frD (fxU [[x, y], [z + 1, t]] n i) (fxT [[x, y], [z + 1, t]] n) = D2 at *
                    go_wp2_with fail
                    generalize w6.alloc (.cells #[.int .i64 U1, .int .i64 D1] 27) = w7 at *
                    generalize w6.heap.size = h7 at *
                    refine HC.out.mono ?_
                    rintro e w8 ⟨rfl, hb⟩
                    have hb2 := below_up hb (below_alloc w8 (.cells #[.int .i64 U2, .int .i64 D2] 27))
                    have B8 := Lib.hid (below_up B7.out hb2)
                    have X80 := Lib.hid (Keep.below hb2 _ _ X70.out)
                    have X81 := Lib.hid (Keep.below hb2 _ _ X71.out)
                    have Y80 := Lib.hid (Keep.below hb2 _ _ Y70.out)
                    have Y81 := Lib.hid (Keep.below hb2 _ _ Y71.out)
                    have Z80 := Lib.hid (blk_cell (blk_new w8 27 #[.int .i64 U2, .int .i64 D2]) (i := 0) (v := .int .i64 U2) rfl)
                    have Z81 := Lib.hid (blk_cell (blk_new w8 27 #[.int .i64 U2, .int .i64 D2]) (i := 1) (v := .int .i64 D2) rfl)
                    clear hb hb2 HC B7 X70 X71 Y70 Y71 HLd7
                    have x80 := X80.out
                    have x81 := X81.out
                    have y80 := Y80.out
                    have y81 := Y81.out
                    have z80 := Z80.out
                    have z81 := Z81.out
                    go_wp2_with fail
                    generalize w8.alloc (.cells #[.int .i64 U2, .int .i64 D2] 27) = w9 at *
                    generalize w8.heap.size = h9 at *
                    refine (HLS1.out _).mono ?_
                    rintro e w10 ⟨rfl, hb⟩
                    have B10 := Lib.hid (below_up B8.out hb)
                    clear x80 x81 y80 y81 z80 z81
                    have x80 := Keep.below hb _ _ X80.out
                    have x81 := Keep.below hb _ _ X81.out
                    have z80 := Keep.below hb _ _ Z80.out
                    have z81 := Keep.below hb _ _ Z81.out
                    clear hb
                    go_wp2_with fail
                    refine (HLS2.out _).mono ?_
                    rintro e w11 ⟨rfl, hb⟩
                    have B11 := Lib.hid (below_up B10.out hb)
                    clear x80 x81 z80 z81 hb
                    go_wp2
                    go_roundw
                    case rel => exact ⟨1, by omega, by go_num, Lib.hid (below_up HB.out B11.out)⟩
                    case measure => simp [intOf]
                  · have HC := Lib.hid (FixedFrom_impl _ _ _ [[x, y], [z + 1, t]] n i (w6.alloc (.cells #[.int .i64 U1, .int .i64 D1] 27)) (HLd7.out.rows (by omega) (by omega) (by omega) (by omega)) ⟨by omega, by omega⟩ ⟨by omega, by omega⟩)
                    rw [ff_no hq2, pb_false hq2] at HC
                    clear hq2
                    go_wp2_with fail
                    generalize w6.alloc (.cells #[.int .i64 U1, .int .i64 D1] 27) = w7 at *
                    generalize w6.heap.size = h7 at *
                    refine HC.out.mono ?_
                    rintro e w8 ⟨rfl, hb⟩
                    have hb2 := below_up hb (below_alloc w8 (.cells #[.int .i64 0, .int .i64 0] 27))
                    have B8 := Lib.hid (below_up B7.out hb2)
                    have X80 := Lib.hid (Keep.below hb2 _ _ X70.out)
                    have X81 := Lib.hid (Keep.below hb2 _ _ X71.out)
                    have Y80 := Lib.hid (Keep.below hb2 _ _ Y70.out)
                    have Y81 := Lib.hid (Keep.below hb2 _ _ Y71.out)
                    have Z80 := Lib.hid (blk_cell (blk_new w8 27 #[.int .i64 0, .int .i64 0]) (i := 0) (v := .int .i64 0) rfl)
                    have Z81 := Lib.hid (blk_cell (blk_new w8 27 #[.int .i64 0, .int .i64 0]) (i := 1) (v := .int .i64 0) rfl)
                    clear hb hb2 HC B7 X70 X71 Y70 Y71 HLd7
                    have x80 := X80.out
                    have x81 := X81.out
                    have y80 := Y80.out
                    have y81 := Y81.out
                    have z80 := Z80.out
                    have z81 := Z81.out
                    go_wp2_with fail
                    generalize w8.alloc (.cells #[.int .i64 0, .int .i64 0] 27) = w9 at *
                    generalize w8.heap.size = h9 at *
                    refine (HLS1.out _).mono ?_
                    rintro e w10 ⟨rfl, hb⟩
                    have B10 := Lib.hid (below_up B8.out hb)
                    clear x80 x81 y80 y81 z80 z81
                    have x80 := Keep.below hb _ _ X80.out
                    have x81 := Keep.below hb _ _ X81.out
                    have z80 := Keep.below hb _ _ Z80.out
                    have z81 := Keep.below hb _ _ Z81.out
                    clear hb
                    go_wp2
                    go_roundw
                    case rel => exact ⟨1, by omega, by go_num, Lib.hid (below_up HB.out B10.out)⟩
                    case measure => simp [intOf]
                · have HC := Lib.hid (FixedFrom_impl _ _ _ [[x + 1, y], [z, t]] n i w4 (HLu4.out.rows (by omega) (by omega) (by omega) (by omega)) ⟨by omega, by omega⟩ ⟨by omega, by omega⟩)
                  rw [ff_no hq1, pb_false hq1] at HC
                  clear hq1
                  go_wp2_with fail
                  refine HC.out.mono ?_
                  rintro e w6 ⟨rfl, hb⟩
                  have hb2 := below_up hb (below_alloc w6 (.cells #[.int .i64 0, .int .i64 0] 27))
                  have B7 := Lib.hid (below_up B4.out hb2)
                  have X70 := Lib.hid (Keep.below hb2 _ _ X40.out)
                  have X71 := Lib.hid (Keep.below hb2 _ _ X41.out)
                  have HLd7 := Lib.hid (HLd.out.next hb2)
                  have Y70 := Lib.hid (blk_cell (blk_new w6 27 #[.int .i64 0, .int .i64 0]) (i := 0) (v := .int .i64 0) rfl)
                  have Y71 := Lib.hid (blk_cell (blk_new w6 27 #[.int .i64 0, .int .i64 0]) (i := 1) (v := .int .i64 0) rfl)
                  clear hb hb2 HC B4 X40 X41 HLu4 HLd
                  by_cases hq2 : FQ [[x, y], [z + 1, t]] n i
                  · have HC := Lib.hid (FixedFrom_impl _ _ _ [[x, y], [z + 1, t]] n i (w6.alloc (.cells #[.int .i64 0, .int .i64 0] 27)) (HLd7.out.rows (by omega) (by omega) (by omega) (by omega)) ⟨by omega, by omega⟩ ⟨by omega, by omega⟩)
                    have hcr := hq2.1.cr
                    have V2 := ff_yes hcr hin
                    have LS := less_dn HCR.out hin (by omega) (by omega) (by omega) (by omega) hq2
                    have bz2 := hcr.fr hin
                    unfold frV at V2
                    rw [V2.1, V2.2] at HC
                    rw [HXD.out.1, HXD.out.2] at LS
                    have HLS2 := Lib.hid (fun W => LS ▸ lessOfH_any X D (frU (fxU [[x, y], [z + 1, t]] n i) (fxT [[x, y], [z + 1, t]] n)) (frD (fxU [[x, y], [z + 1, t]] n i) (fxT [[x, y], [z + 1, t]] n)) W (by omega) (bd12 bz2.1 (by omega)) (by omega) (by omega))
                    clear V2 LS bz2 hcr hq2
                    generalize frU (fxU [[x, y], [z + 1, t]] n i) (fxT [[x, y], [z + 1, t]] n) = U2 at *
                    generalize frD (fxU [[x, y], [z + 1, t]] n i) (fxT [[x, y], [z + 1, t]] n) = D2 at *
                    go_wp2_with fail
                    generalize w6.alloc (.cells #[.int .i64 0, .int .i64 0] 27) = w7 at *
                    generalize w6.heap.size = h7 at *
                    refine HC.out.mono ?_
                    rintro e w8 ⟨rfl, hb⟩
                    have hb2 := below_up hb (below_alloc w8 (.cells #[.int .i64 U2, .int .i64 D2] 27))
                    have B8 := Lib.hid (below_up B7.out hb2)
                    have X80 := Lib.hid (Keep.below hb2 _ _ X70.out)
                    have X81 := Lib.hid (Keep.below hb2 _ _ X71.out)
                    have Y80 := Lib.hid (Keep.below hb2 _ _ Y70.out)
                    have Y81 := Lib.hid (Keep.below hb2 _ _ Y71.out)
                    have Z80 := Lib.hid (blk_cell (blk_new w8 27 #[.int .i64 U2, .int .i64 D2]) (i := 0) (v := .int .i64 U2) rfl)
                    have Z81 := Lib.hid (blk_cell (blk_new w8 27 #[.int .i64 U2, .int .i64 D2]) (i := 1) (v := .int .i64 D2) rfl)
                    clear hb hb2 HC B7 X70 X71 Y70 Y71 HLd7
                    have x80 := X80.out
                    have x81 := X81.out
                    have y80 := Y80.out
                    have y81 := Y81.out
                    have z80 := Z80.out
                    have z81 := Z81.out
                    go_wp2_with fail
                    generalize w8.alloc (.cells #[.int .i64 U2, .int .i64 D2] 27) = w9 at *
                    generalize w8.heap.size = h9 at *
                    refine (HLS2.out _).mono ?_
                    rintro e w11 ⟨rfl, hb⟩
                    have B11 := Lib.hid (below_up B8.out hb)
                    clear x80 x81 z80 z81 hb y80 y81
                    go_wp2
                    go_roundw
                    case rel => exact ⟨1, by omega, by go_num, Lib.hid (below_up HB.out B11.out)⟩
                    case measure => simp [intOf]
                  · have HC := Lib.hid (FixedFrom_impl _ _ _ [[x, y], [z + 1, t]] n i (w6.alloc (.cells #[.int .i64 0, .int .i64 0] 27)) (HLd7.out.rows (by omega) (by omega) (by omega) (by omega)) ⟨by omega, by omega⟩ ⟨by omega, by omega⟩)
                    rw [ff_no hq2, pb_false hq2] at HC
                    clear hq2
                    go_wp2_with fail
                    generalize w6.alloc (.cells #[.int .i64 0, .int .i64 0] 27) = w7 at *
                    generalize w6.heap.size = h7 at *
                    refine HC.out.mono ?_
                    rintro e w8 ⟨rfl, hb⟩
                    have hb2 := below_up hb (below_alloc w8 (.cells #[.int .i64 0, .int .i64 0] 27))
                    have B8 := Lib.hid (below_up B7.out hb2)
                    have X80 := Lib.hid (Keep.below hb2 _ _ X70.out)
                    have X81 := Lib.hid (Keep.below hb2 _ _ X71.out)
                    have Y80 := Lib.hid (Keep.below hb2 _ _ Y70.out)
                    have Y81 := Lib.hid (Keep.below hb2 _ _ Y71.out)
                    have Z80 := Lib.hid (blk_cell (blk_new w8 27 #[.int .i64 0, .int .i64 0]) (i := 0) (v := .int .i64 0) rfl)
                    have Z81 := Lib.hid (blk_cell (blk_new w8 27 #[.int .i64 0, .int .i64 0]) (i := 1) (v := .int .i64 0) rfl)
                    clear hb hb2 HC B7 X70 X71 Y70 Y71 HLd7
                    have x80 := X80.out
                    have x81 := X81.out
                    have y80 := Y80.out
                    have y81 := Y81.out
                    have z80 := Z80.out
                    have z81 := Z81.out
                    go_wp2
                    go_roundw
                    case rel => exact ⟨1, by omega, by go_num, Lib.hid (below_up HB.out B8.out)⟩
                    case measure => simp [intOf]
          · have HS0 := Lib.hid (show (wr.cell? ⟨b, o, none⟩ = some (.slice (some ⟨rb 0, ro 0, none⟩) 2 (cc 0)) ∧ wr.cell? ⟨b, o + 1, none⟩ = some (.slice (some ⟨rb 1, ro 1, none⟩) 2 (cc 1))) ∧ (wr.cell? ⟨rb 0, ro 0, none⟩ = some (.int .i64 x) ∧ wr.cell? ⟨rb 0, ro 0 + 1, none⟩ = some (.int .i64 y)) ∧ (wr.cell? ⟨rb 1, ro 1, none⟩ = some (.int .i64 z) ∧ wr.cell? ⟨rb 1, ro 1 + 1, none⟩ = some (.int .i64 t)) from by
              have h0 := HTR.out.row 0 (by omega)
              have h1 := HTR.out.row 1 (by omega)
              have h2 := HTR.out.cell 0 0 (by omega) (by omega)
              have h3 := HTR.out.cell 0 1 (by omega) (by omega)
              have h4 := HTR.out.cell 1 0 (by omega) (by omega)
              have h5 := HTR.out.cell 1 1 (by omega) (by omega)
              simp only [Nat.add_zero, HXY.out.1, HXY.out.2.1, HXY.out.2.2.1, HXY.out.2.2.2] at h0 h2 h3 h4 h5
              exact ⟨⟨h0, h1⟩, ⟨h2, h3⟩, h4, h5⟩)
            have SX := HS0
            have q1 := HS0.out.1.1
            have q2 := HS0.out.1.2
            have q3 := HS0.out.2.1.1
            have q4 := HS0.out.2.1.2
            have q5 := HS0.out.2.2.1
            have q6 := HS0.out.2.2.2
            go_wp2
            apply region_put [66, 67, 68, 69, 70, 71, 72, 73, 74, 75, 76, 77, 78, 79, 80, 81, 82, 83, 84, 85, 86, 87, 88, 13] (fun us v => ∃ (u66 u67 u68 u69 u70 u71 u72 u73 u74 u75 u76 u77 u78 u79 u80 u81 u82 u83 u84 u85 u86 u87 u88 : Value) (pa pb pc : Nat), us = [u66, u67, u68, u69, u70, u71, u72, u73, u74, u75, u76, u77, u78, u79, u80, u81, u82, u83, u84, u85, u86, u87, u88, .slice (some ⟨pc, 0, none⟩) 2 2] ∧ Hid (LitT pa pb pc x y z t v) ∧ Hid (Below wr.heap.size wr v) ∧ Hid (wr.heap.size ≤ pa ∧ wr.heap.size ≤ pb))
            · go_region_held3 (fun W => (W.cell? ⟨b, o, none⟩ = some (.slice (some ⟨rb 0, ro 0, none⟩) 2 (cc 0)) ∧ W.cell? ⟨b, o + 1, none⟩ = some (.slice (some ⟨rb 1, ro 1, none⟩) 2 (cc 1))) ∧ (W.cell? ⟨rb 0, ro 0, none⟩ = some (.int .i64 x) ∧ W.cell? ⟨rb 0, ro 0 + 1, none⟩ = some (.int .i64 y)) ∧ (W.cell? ⟨rb 1, ro 1, none⟩ = some (.int .i64 z) ∧ W.cell? ⟨rb 1, ro 1 + 1, none⟩ = some (.int .i64 t)))
                (first | exact SX.out | with_reducible exact And.intro (And.intro (kc1 SX.out.1.1) (kc1 SX.out.1.2)) (And.intro (And.intro (kc1 SX.out.2.1.1) (kc1 SX.out.2.1.2)) (And.intro (kc1 SX.out.2.2.1) (kc1 SX.out.2.2.2))) | with_reducible exact And.intro (And.intro (kd1 SX.out.1.1) (kd1 SX.out.1.2)) (And.intro (And.intro (kd1 SX.out.2.1.1) (kd1 SX.out.2.1.2)) (And.intro (kd1 SX.out.2.2.1) (kd1 SX.out.2.2.2))) | with_reducible exact And.intro (And.intro (kc2 SX.out.1.1) (kc2 SX.out.1.2)) (And.intro (And.intro (kc2 SX.out.2.1.1) (kc2 SX.out.2.1.2)) (And.intro (kc2 SX.out.2.2.1) (kc2 SX.out.2.2.2))) | with_reducible exact And.intro (And.intro (kd2 SX.out.1.1) (kd2 SX.out.1.2)) (And.intro (And.intro (kd2 SX.out.2.1.1) (kd2 SX.out.2.1.2)) (And.intro (kd2 SX.out.2.2.1) (kd2 SX.out.2.2.2))) | with_reducible exact And.intro (And.intro (kc3 SX.out.1.1) (kc3 SX.out.1.2)) (And.intro (And.intro (kc3 SX.out.2.1.1) (kc3 SX.out.2.1.2)) (And.intro (kc3 SX.out.2.2.1) (kc3 SX.out.2.2.2))) | with_reducible exact And.intro (And.intro (kd3 SX.out.1.1) (kd3 SX.out.1.2)) (And.intro (And.intro (kd3 SX.out.2.1.1) (kd3 SX.out.2.1.2)) (And.intro (kd3 SX.out.2.2.1) (kd3 SX.out.2.2.2))) | with_reducible exact And.intro (And.intro (kc4 SX.out.1.1) (kc4 SX.out.1.2)) (And.intro (And.intro (kc4 SX.out.2.1.1) (kc4 SX.out.2.1.2)) (And.intro (kc4 SX.out.2.2.1) (kc4 SX.out.2.2.2))) | with_reducible exact And.intro (And.intro (kd4 SX.out.1.1) (kd4 SX.out.1.2)) (And.intro (And.intro (kd4 SX.out.2.1.1) (kd4 SX.out.2.1.2)) (And.intro (kd4 SX.out.2.2.1) (kd4 SX.out.2.2.2))) | with_reducible exact And.intro (And.intro (kc5 SX.out.1.1) (kc5 SX.out.1.2)) (And.intro (And.intro (kc5 SX.out.2.1.1) (kc5 SX.out.2.1.2)) (And.intro (kc5 SX.out.2.2.1) (kc5 SX.out.2.2.2))) | with_reducible exact And.intro (And.intro (kd5 SX.out.1.1) (kd5 SX.out.1.2)) (And.intro (And.intro (kd5 SX.out.2.1.1) (kd5 SX.out.2.1.2)) (And.intro (kd5 SX.out.2.2.1) (kd5 SX.out.2.2.2))) | go_keep)
                (fail)
              all_goals first
                | exact PutQ.mk _ (by simp only [frmL, Act.put, List.setIfInBounds_toArray, List.set_cons_zero, List.set_cons_succ]; rfl) ⟨_, _, _, _, _, _, _, _, _, _, _, _, _, _, _, _, _, _, _, _, _, _, _, wr.heap.size, wr.heap.size + 1, wr.heap.size + 1 + 1, rfl, Lib.hid ⟨blk_push [(.cells #[.int .i64 x, .int .i64 y] 3), (.cells #[.int .i64 z, .int .i64 t] 3), (.cells #[.slice (some ⟨wr.heap.size, 0, none⟩) 2 2, .slice (some ⟨wr.heap.size + 1, 0, none⟩) 2 2] 30)] wr 0 rfl, blk_push [(.cells #[.int .i64 x, .int .i64 y] 3), (.cells #[.int .i64 z, .int .i64 t] 3), (.cells #[.slice (some ⟨wr.heap.size, 0, none⟩) 2 2, .slice (some ⟨wr.heap.size + 1, 0, none⟩) 2 2] 30)] wr 1 rfl, blk_push [(.cells #[.int .i64 x, .int .i64 y] 3), (.cells #[.int .i64 z, .int .i64 t] 3), (.cells #[.slice (some ⟨wr.heap.size, 0, none⟩) 2 2, .slice (some ⟨wr.heap.size + 1, 0, none⟩) 2 2] 30)] wr 2 rfl, by omega, by omega, by omega⟩, Lib.hid (push_drew wr [(.cells #[.int .i64 x, .int .i64 y] 3), (.cells #[.int .i64 z, .int .i64 t] 3), (.cells #[.slice (some ⟨wr.heap.size, 0, none⟩) 2 2, .slice (some ⟨wr.heap.size + 1, 0, none⟩) 2 2] 30)]), Lib.hid ⟨by omega, by omega⟩⟩
                | exact PutQ.mk _ (by simp only [frmL, Act.put, List.setIfInBounds_toArray, List.set_cons_zero, List.set_cons_succ]; rfl) ⟨_, _, _, _, _, _, _, _, _, _, _, _, _, _, _, _, _, _, _, _, _, _, _, wr.heap.size + 1, wr.heap.size, wr.heap.size + 1 + 1, rfl, Lib.hid ⟨blk_push [(.cells #[.int .i64 z, .int .i64 t] 3), (.cells #[.int .i64 x, .int .i64 y] 3), (.cells #[.slice (some ⟨wr.heap.size + 1, 0, none⟩) 2 2, .slice (some ⟨wr.heap.size, 0, none⟩) 2 2] 30)] wr 1 rfl, blk_push [(.cells #[.int .i64 z, .int .i64 t] 3), (.cells #[.int .i64 x, .int .i64 y] 3), (.cells #[.slice (some ⟨wr.heap.size + 1, 0, none⟩) 2 2, .slice (some ⟨wr.heap.size, 0, none⟩) 2 2] 30)] wr 0 rfl, blk_push [(.cells #[.int .i64 z, .int .i64 t] 3), (.cells #[.int .i64 x, .int .i64 y] 3), (.cells #[.slice (some ⟨wr.heap.size + 1, 0, none⟩) 2 2, .slice (some ⟨wr.heap.size, 0, none⟩) 2 2] 30)] wr 2 rfl, by omega, by omega, by omega⟩, Lib.hid (push_drew wr [(.cells #[.int .i64 z, .int .i64 t] 3), (.cells #[.int .i64 x, .int .i64 y] 3), (.cells #[.slice (some ⟨wr.heap.size + 1, 0, none⟩) 2 2, .slice (some ⟨wr.heap.size, 0, none⟩) 2 2] 30)]), Lib.hid ⟨by omega, by omega⟩⟩
                | fail
            · rintro _ v ⟨xuu66, xuu67, xuu68, xuu69, xuu70, xuu71, xuu72, xuu73, xuu74, xuu75, xuu76, xuu77, xuu78, xuu79, xuu80, xuu81, xuu82, xuu83, xuu84, xuu85, xuu86, xuu87, xuu88, ua, ub, uc, rfl, HL, HBL, HPP⟩
              simp only [frmL, Act.put, List.setIfInBounds_toArray, List.set_cons_zero, List.set_cons_succ]
              clear q1 q2 q3 q4 q5 q6
              clear SX HS0
              have r0 := blk_cell HL.out.c (i := 0) rfl
              have r1 := blk_cell HL.out.a (i := 1) rfl
              have r2 := blk_frozen HL.out.a 1
              have HLu := Lib.hid (show LitT ua ub uc (x) (y + 1) (z) (t) ((v.setCell ⟨ua, 1, none⟩ (.int .i64 (y + 1))).drew) from (HL.out.a1 (y + 1)).quiet ⟨1, rfl⟩)
              have HBu := Lib.hid ((HBL.out.setCell (p := ⟨ua, 1, none⟩) (by show _ ≤ ua; have := HPP.out; omega) (.int .i64 (y + 1))).drew)
              have hws : IntKind.i64.wrap (y + 1) = y + 1 := wrap_in64 (by omega)
              clear HL HBL HPP
              go_wp2
              go_region
              clear r0 r1 r2 hws
              go_wp2
              generalize (v.setCell ⟨ua, 1, none⟩ (.int .i64 (y + 1))).drew = v2 at *
              have HTR2 := Lib.hid (HTR.out.keep (Keep.below HBu.out))
              have HS0 := Lib.hid (show (v2.cell? ⟨b, o, none⟩ = some (.slice (some ⟨rb 0, ro 0, none⟩) 2 (cc 0)) ∧ v2.cell? ⟨b, o + 1, none⟩ = some (.slice (some ⟨rb 1, ro 1, none⟩) 2 (cc 1))) ∧ (v2.cell? ⟨rb 0, ro 0, none⟩ = some (.int .i64 x) ∧ v2.cell? ⟨rb 0, ro 0 + 1, none⟩ = some (.int .i64 y)) ∧ (v2.cell? ⟨rb 1, ro 1, none⟩ = some (.int .i64 z) ∧ v2.cell? ⟨rb 1, ro 1 + 1, none⟩ = some (.int .i64 t)) from by
                have h0 := HTR2.out.row 0 (by omega)
                have h1 := HTR2.out.row 1 (by omega)
                have h2 := HTR2.out.cell 0 0 (by omega) (by omega)
                have h3 := HTR2.out.cell 0 1 (by omega) (by omega)
                have h4 := HTR2.out.cell 1 0 (by omega) (by omega)
                have h5 := HTR2.out.cell 1 1 (by omega) (by omega)
                simp only [Nat.add_zero, HXY.out.1, HXY.out.2.1, HXY.out.2.2.1, HXY.out.2.2.2] at h0 h2 h3 h4 h5
                exact ⟨⟨h0, h1⟩, ⟨h2, h3⟩, h4, h5⟩)
              have SX := HS0
              have q1 := HS0.out.1.1
              have q2 := HS0.out.1.2
              have q3 := HS0.out.2.1.1
              have q4 := HS0.out.2.1.2
              have q5 := HS0.out.2.2.1
              have q6 := HS0.out.2.2.2
              skip
              apply region_put [101, 102, 103, 104, 105, 106, 107, 108, 109, 110, 111, 112, 113, 114, 115, 116, 117, 118, 119, 120, 121, 122, 123, 14] (fun us v => ∃ (u101 u102 u103 u104 u105 u106 u107 u108 u109 u110 u111 u112 u113 u114 u115 u116 u117 u118 u119 u120 u121 u122 u123 : Value) (pa pb pc : Nat), us = [u101, u102, u103, u104, u105, u106, u107, u108, u109, u110, u111, u112, u113, u114, u115, u116, u117, u118, u119, u120, u121, u122, u123, .slice (some ⟨pc, 0, none⟩) 2 2] ∧ Hid (LitT pa pb pc x y z t v) ∧ Hid (Below v2.heap.size v2 v) ∧ Hid (v2.heap.size ≤ pa ∧ v2.heap.size ≤ pb))
              · go_region_held3 (fun W => (W.cell? ⟨b, o, none⟩ = some (.slice (some ⟨rb 0, ro 0, none⟩) 2 (cc 0)) ∧ W.cell? ⟨b, o + 1, none⟩ = some (.slice (some ⟨rb 1, ro 1, none⟩) 2 (cc 1))) ∧ (W.cell? ⟨rb 0, ro 0, none⟩ = some (.int .i64 x) ∧ W.cell? ⟨rb 0, ro 0 + 1, none⟩ = some (.int .i64 y)) ∧ (W.cell? ⟨rb 1, ro 1, none⟩ = some (.int .i64 z) ∧ W.cell? ⟨rb 1, ro 1 + 1, none⟩ = some (.int .i64 t)))
                  (first | exact SX.out | with_reducible exact And.intro (And.intro (kc1 SX.out.1.1) (kc1 SX.out.1.2)) (And.intro (And.intro (kc1 SX.out.2.1.1) (kc1 SX.out.2.1.2)) (And.intro (kc1 SX.out.2.2.1) (kc1 SX.out.2.2.2))) | with_reducible exact And.intro (And.intro (kd1 SX.out.1.1) (kd1 SX.out.1.2)) (And.intro (And.intro (kd1 SX.out.2.1.1) (kd1 SX.out.2.1.2)) (And.intro (kd1 SX.out.2.2.1) (kd1 SX.out.2.2.2))) | with_reducible exact And.intro (And.intro (kc2 SX.out.1.1) (kc2 SX.out.1.2)) (And.intro (And.intro (kc2 SX.out.2.1.1) (kc2 SX.out.2.1.2)) (And.intro (kc2 SX.out.2.2.1) (kc2 SX.out.2.2.2))) | with_reducible exact And.intro (And.intro (kd2 SX.out.1.1) (kd2 SX.out.1.2)) (And.intro (And.intro (kd2 SX.out.2.1.1) (kd2 SX.out.2.1.2)) (And.intro (kd2 SX.out.2.2.1) (kd2 SX.out.2.2.2))) | with_reducible exact And.intro (And.intro (kc3 SX.out.1.1) (kc3 SX.out.1.2)) (And.intro (And.intro (kc3 SX.out.2.1.1) (kc3 SX.out.2.1.2)) (And.intro (kc3 SX.out.2.2.1) (kc3 SX.out.2.2.2))) | with_reducible exact And.intro (And.intro (kd3 SX.out.1.1) (kd3 SX.out.1.2)) (And.intro (And.intro (kd3 SX.out.2.1.1) (kd3 SX.out.2.1.2)) (And.intro (kd3 SX.out.2.2.1) (kd3 SX.out.2.2.2))) | with_reducible exact And.intro (And.intro (kc4 SX.out.1.1) (kc4 SX.out.1.2)) (And.intro (And.intro (kc4 SX.out.2.1.1) (kc4 SX.out.2.1.2)) (And.intro (kc4 SX.out.2.2.1) (kc4 SX.out.2.2.2))) | with_reducible exact And.intro (And.intro (kd4 SX.out.1.1) (kd4 SX.out.1.2)) (And.intro (And.intro (kd4 SX.out.2.1.1) (kd4 SX.out.2.1.2)) (And.intro (kd4 SX.out.2.2.1) (kd4 SX.out.2.2.2))) | with_reducible exact And.intro (And.intro (kc5 SX.out.1.1) (kc5 SX.out.1.2)) (And.intro (And.intro (kc5 SX.out.2.1.1) (kc5 SX.out.2.1.2)) (And.intro (kc5 SX.out.2.2.1) (kc5 SX.out.2.2.2))) | with_reducible exact And.intro (And.intro (kd5 SX.out.1.1) (kd5 SX.out.1.2)) (And.intro (And.intro (kd5 SX.out.2.1.1) (kd5 SX.out.2.1.2)) (And.intro (kd5 SX.out.2.2.1) (kd5 SX.out.2.2.2))) | go_keep)
                  (fail)
                all_goals first
                  | exact PutQ.mk _ (by simp only [frmL, Act.put, List.setIfInBounds_toArray, List.set_cons_zero, List.set_cons_succ]; rfl) ⟨_, _, _, _, _, _, _, _, _, _, _, _, _, _, _, _, _, _, _, _, _, _, _, v2.heap.size, v2.heap.size + 1, v2.heap.size + 1 + 1, rfl, Lib.hid ⟨blk_push [(.cells #[.int .i64 x, .int .i64 y] 3), (.cells #[.int .i64 z, .int .i64 t] 3), (.cells #[.slice (some ⟨v2.heap.size, 0, none⟩) 2 2, .slice (some ⟨v2.heap.size + 1, 0, none⟩) 2 2] 30)] v2 0 rfl, blk_push [(.cells #[.int .i64 x, .int .i64 y] 3), (.cells #[.int .i64 z, .int .i64 t] 3), (.cells #[.slice (some ⟨v2.heap.size, 0, none⟩) 2 2, .slice (some ⟨v2.heap.size + 1, 0, none⟩) 2 2] 30)] v2 1 rfl, blk_push [(.cells #[.int .i64 x, .int .i64 y] 3), (.cells #[.int .i64 z, .int .i64 t] 3), (.cells #[.slice (some ⟨v2.heap.size, 0, none⟩) 2 2, .slice (some ⟨v2.heap.size + 1, 0, none⟩) 2 2] 30)] v2 2 rfl, by omega, by omega, by omega⟩, Lib.hid (push_drew v2 [(.cells #[.int .i64 x, .int .i64 y] 3), (.cells #[.int .i64 z, .int .i64 t] 3), (.cells #[.slice (some ⟨v2.heap.size, 0, none⟩) 2 2, .slice (some ⟨v2.heap.size + 1, 0, none⟩) 2 2] 30)]), Lib.hid ⟨by omega, by omega⟩⟩
                  | exact PutQ.mk _ (by simp only [frmL, Act.put, List.setIfInBounds_toArray, List.set_cons_zero, List.set_cons_succ]; rfl) ⟨_, _, _, _, _, _, _, _, _, _, _, _, _, _, _, _, _, _, _, _, _, _, _, v2.heap.size + 1, v2.heap.size, v2.heap.size + 1 + 1, rfl, Lib.hid ⟨blk_push [(.cells #[.int .i64 z, .int .i64 t] 3), (.cells #[.int .i64 x, .int .i64 y] 3), (.cells #[.slice (some ⟨v2.heap.size + 1, 0, none⟩) 2 2, .slice (some ⟨v2.heap.size, 0, none⟩) 2 2] 30)] v2 1 rfl, blk_push [(.cells #[.int .i64 z, .int .i64 t] 3), (.cells #[.int .i64 x, .int .i64 y] 3), (.cells #[.slice (some ⟨v2.heap.size + 1, 0, none⟩) 2 2, .slice (some ⟨v2.heap.size, 0, none⟩) 2 2] 30)] v2 0 rfl, blk_push [(.cells #[.int .i64 z, .int .i64 t] 3), (.cells #[.int .i64 x, .int .i64 y] 3), (.cells #[.slice (some ⟨v2.heap.size + 1, 0, none⟩) 2 2, .slice (some ⟨v2.heap.size, 0, none⟩) 2 2] 30)] v2 2 rfl, by omega, by omega, by omega⟩, Lib.hid (push_drew v2 [(.cells #[.int .i64 z, .int .i64 t] 3), (.cells #[.int .i64 x, .int .i64 y] 3), (.cells #[.slice (some ⟨v2.heap.size + 1, 0, none⟩) 2 2, .slice (some ⟨v2.heap.size, 0, none⟩) 2 2] 30)]), Lib.hid ⟨by omega, by omega⟩⟩
                  | fail
              · rintro _ v ⟨xdu101, xdu102, xdu103, xdu104, xdu105, xdu106, xdu107, xdu108, xdu109, xdu110, xdu111, xdu112, xdu113, xdu114, xdu115, xdu116, xdu117, xdu118, xdu119, xdu120, xdu121, xdu122, xdu123, da, db, dc, rfl, HL, HBL, HPP⟩
                simp only [frmL, Act.put, List.setIfInBounds_toArray, List.set_cons_zero, List.set_cons_succ]
                clear q1 q2 q3 q4 q5 q6
                clear SX HS0 HTR2
                have r0 := blk_cell HL.out.c (i := 1) rfl
                have r1 := blk_cell HL.out.b (i := 1) rfl
                have r2 := blk_frozen HL.out.b 1
                have HLd := Lib.hid (show LitT da db dc (x) (y) (z) (t + 1) ((v.setCell ⟨db, 1, none⟩ (.int .i64 (t + 1))).drew) from (HL.out.b1 (t + 1)).quiet ⟨1, rfl⟩)
                have HBd := Lib.hid ((HBL.out.setCell (p := ⟨db, 1, none⟩) (by show _ ≤ db; have := HPP.out; omega) (.int .i64 (t + 1))).drew)
                have hws : IntKind.i64.wrap (t + 1) = t + 1 := wrap_in64 (by omega)
                clear HL HBL HPP
                go_wp2
                go_region
                clear r0 r1 r2 hws
                skip
                generalize (v.setCell ⟨db, 1, none⟩ (.int .i64 (t + 1))).drew = w4 at *
                have HLu4 := Lib.hid (HLu.out.next HBd.out)
                have B4 := Lib.hid (below_up HBu.out HBd.out)
                have X40 := Lib.hid (Keep.below B4.out _ _ XR0.out)
                have X41 := Lib.hid (Keep.below B4.out _ _ XR1.out)
                clear HLu HBd HBu XR0 XR1
                by_cases hq1 : FQ [[x, y + 1], [z, t]] n i
                · have HC := Lib.hid (FixedFrom_impl _ _ _ [[x, y + 1], [z, t]] n i w4 (HLu4.out.rows (by omega) (by omega) (by omega) (by omega)) ⟨by omega, by omega⟩ ⟨by omega, by omega⟩)
                  have hcr := hq1.1.cr
                  have V1 := ff_yes hcr hin
                  have LS := less_up HCR.out hin (by omega) (by omega) (by omega) (by omega) hq1
                  have bz2 := hcr.fr hin
                  unfold frV at V1
                  rw [V1.1, V1.2] at HC
                  rw [HXD.out.1, HXD.out.2] at LS
                  have HLS1 := Lib.hid (fun W => LS ▸ lessOfH_any (frU (fxU [[x, y + 1], [z, t]] n i) (fxT [[x, y + 1], [z, t]] n)) (frD (fxU [[x, y + 1], [z, t]] n i) (fxT [[x, y + 1], [z, t]] n)) X D W (bd12 bz2.1 (by omega)) (by omega) (by omega) (by omega))
                  clear V1 LS bz2 hcr hq1
                  generalize frU (fxU [[x, y + 1], [z, t]] n i) (fxT [[x, y + 1], [z, t]] n) = U1 at *
                  generalize frD (fxU [[x, y + 1], [z, t]] n i) (fxT [[x, y + 1], [z, t]] n) = D1 at *
                  go_wp2_with fail
                  refine HC.out.mono ?_
                  rintro e w6 ⟨rfl, hb⟩
                  have hb2 := below_up hb (below_alloc w6 (.cells #[.int .i64 U1, .int .i64 D1] 27))
                  have B7 := Lib.hid (below_up B4.out hb2)
                  have X70 := Lib.hid (Keep.below hb2 _ _ X40.out)
                  have X71 := Lib.hid (Keep.below hb2 _ _ X41.out)
                  have HLd7 := Lib.hid (HLd.out.next hb2)
                  have Y70 := Lib.hid (blk_cell (blk_new w6 27 #[.int .i64 U1, .int .i64 D1]) (i := 0) (v := .int .i64 U1) rfl)
                  have Y71 := Lib.hid (blk_cell (blk_new w6 27 #[.int .i64 U1, .int .i64 D1]) (i := 1) (v := .int .i64 D1) rfl)
                  clear hb hb2 HC B4 X40 X41 HLu4 HLd
                  by_cases hq2 : FQ [[x, y], [z, t + 1]] n i
                  · have HC := Lib.hid (FixedFrom_impl _ _ _ [[x, y], [z, t + 1]] n i (w6.alloc (.cells #[.int .i64 U1, .int .i64 D1] 27)) (HLd7.out.rows (by omega) (by omega) (by omega) (by omega)) ⟨by omega, by omega⟩ ⟨by omega, by omega⟩)
                    have hcr := hq2.1.cr
                    have V2 := ff_yes hcr hin
                    have LS := less_dn HCR.out hin (by omega) (by omega) (by omega) (by omega) hq2
                    have bz2 := hcr.fr hin
                    unfold frV at V2
                    rw [V2.1, V2.2] at HC
                    rw [HXD.out.1, HXD.out.2] at LS
                    have HLS2 := Lib.hid (fun W => LS ▸ lessOfH_any X D (frU (fxU [[x, y], [z, t + 1]] n i) (fxT [[x, y], [z, t + 1]] n)) (frD (fxU [[x, y], [z, t + 1]] n i) (fxT [[x, y], [z, t + 1]] n)) W (by omega) (bd12 bz2.1 (by omega)) (by omega) (by omega))
                    clear V2 LS bz2 hcr hq2
                    generalize frU (fxU [[x, y], [z, t + 1]] n i) (fxT [[x, y], [z, t + 1]] n) = U2 at *
                    generalize frD (fxU [[x, y], [z, t + 1]] n i) (fxT [[x, y], [z, t + 1]] n) = D2 at *
                    go_wp2_with fail
                    generalize w6.alloc (.cells #[.int .i64 U1, .int .i64 D1] 27) = w7 at *
                    generalize w6.heap.size = h7 at *
                    refine HC.out.mono ?_
                    rintro e w8 ⟨rfl, hb⟩
                    have hb2 := below_up hb (below_alloc w8 (.cells #[.int .i64 U2, .int .i64 D2] 27))
                    have B8 := Lib.hid (below_up B7.out hb2)
                    have X80 := Lib.hid (Keep.below hb2 _ _ X70.out)
                    have X81 := Lib.hid (Keep.below hb2 _ _ X71.out)
                    have Y80 := Lib.hid (Keep.below hb2 _ _ Y70.out)
                    have Y81 := Lib.hid (Keep.below hb2 _ _ Y71.out)
                    have Z80 := Lib.hid (blk_cell (blk_new w8 27 #[.int .i64 U2, .int .i64 D2]) (i := 0) (v := .int .i64 U2) rfl)
                    have Z81 := Lib.hid (blk_cell (blk_new w8 27 #[.int .i64 U2, .int .i64 D2]) (i := 1) (v := .int .i64 D2) rfl)
                    clear hb hb2 HC B7 X70 X71 Y70 Y71 HLd7
                    have x80 := X80.out
                    have x81 := X81.out
                    have y80 := Y80.out
                    have y81 := Y81.out
                    have z80 := Z80.out
                    have z81 := Z81.out
                    go_wp2_with fail
                    generalize w8.alloc (.cells #[.int .i64 U2, .int .i64 D2] 27) = w9 at *
                    generalize w8.heap.size = h9 at *
                    refine (HLS1.out _).mono ?_
                    rintro e w10 ⟨rfl, hb⟩
                    have B10 := Lib.hid (below_up B8.out hb)
                    clear x80 x81 y80 y81 z80 z81
                    have x80 := Keep.below hb _ _ X80.out
                    have x81 := Keep.below hb _ _ X81.out
                    have z80 := Keep.below hb _ _ Z80.out
                    have z81 := Keep.below hb _ _ Z81.out
                    clear hb
                    go_wp2_with fail
                    refine (HLS2.out _).mono ?_
                    rintro e w11 ⟨rfl, hb⟩
                    have B11 := Lib.hid (below_up B10.out hb)
                    clear x80 x81 z80 z81 hb
                    go_wp2
                    go_roundw
                    case rel => exact ⟨2, by omega, by go_num, Lib.hid (below_up HB.out B11.out)⟩
                    case measure => simp [intOf]
                  · have HC := Lib.hid (FixedFrom_impl _ _ _ [[x, y], [z, t + 1]] n i (w6.alloc (.cells #[.int .i64 U1, .int .i64 D1] 27)) (HLd7.out.rows (by omega) (by omega) (by omega) (by omega)) ⟨by omega, by omega⟩ ⟨by omega, by omega⟩)
                    rw [ff_no hq2, pb_false hq2] at HC
                    clear hq2
                    go_wp2_with fail
                    generalize w6.alloc (.cells #[.int .i64 U1, .int .i64 D1] 27) = w7 at *
                    generalize w6.heap.size = h7 at *
                    refine HC.out.mono ?_
                    rintro e w8 ⟨rfl, hb⟩
                    have hb2 := below_up hb (below_alloc w8 (.cells #[.int .i64 0, .int .i64 0] 27))
                    have B8 := Lib.hid (below_up B7.out hb2)
                    have X80 := Lib.hid (Keep.below hb2 _ _ X70.out)
                    have X81 := Lib.hid (Keep.below hb2 _ _ X71.out)
                    have Y80 := Lib.hid (Keep.below hb2 _ _ Y70.out)
                    have Y81 := Lib.hid (Keep.below hb2 _ _ Y71.out)
                    have Z80 := Lib.hid (blk_cell (blk_new w8 27 #[.int .i64 0, .int .i64 0]) (i := 0) (v := .int .i64 0) rfl)
                    have Z81 := Lib.hid (blk_cell (blk_new w8 27 #[.int .i64 0, .int .i64 0]) (i := 1) (v := .int .i64 0) rfl)
                    clear hb hb2 HC B7 X70 X71 Y70 Y71 HLd7
                    have x80 := X80.out
                    have x81 := X81.out
                    have y80 := Y80.out
                    have y81 := Y81.out
                    have z80 := Z80.out
                    have z81 := Z81.out
                    go_wp2_with fail
                    generalize w8.alloc (.cells #[.int .i64 0, .int .i64 0] 27) = w9 at *
                    generalize w8.heap.size = h9 at *
                    refine (HLS1.out _).mono ?_
                    rintro e w10 ⟨rfl, hb⟩
                    have B10 := Lib.hid (below_up B8.out hb)
                    clear x80 x81 y80 y81 z80 z81
                    have x80 := Keep.below hb _ _ X80.out
                    have x81 := Keep.below hb _ _ X81.out
                    have z80 := Keep.below hb _ _ Z80.out
                    have z81 := Keep.below hb _ _ Z81.out
                    clear hb
                    go_wp2
                    go_roundw
                    case rel => exact ⟨2, by omega, by go_num, Lib.hid (below_up HB.out B10.out)⟩
                    case measure => simp [intOf]
                · have HC := Lib.hid (FixedFrom_impl _ _ _ [[x, y + 1], [z, t]] n i w4 (HLu4.out.rows (by omega) (by omega) (by omega) (by omega)) ⟨by omega, by omega⟩ ⟨by omega, by omega⟩)
                  rw [ff_no hq1, pb_false hq1] at HC
                  clear hq1
                  go_wp2_with fail
                  refine HC.out.mono ?_
                  rintro e w6 ⟨rfl, hb⟩
                  have hb2 := below_up hb (below_alloc w6 (.cells #[.int .i64 0, .int .i64 0] 27))
                  have B7 := Lib.hid (below_up B4.out hb2)
                  have X70 := Lib.hid (Keep.below hb2 _ _ X40.out)
                  have X71 := Lib.hid (Keep.below hb2 _ _ X41.out)
                  have HLd7 := Lib.hid (HLd.out.next hb2)
                  have Y70 := Lib.hid (blk_cell (blk_new w6 27 #[.int .i64 0, .int .i64 0]) (i := 0) (v := .int .i64 0) rfl)
                  have Y71 := Lib.hid (blk_cell (blk_new w6 27 #[.int .i64 0, .int .i64 0]) (i := 1) (v := .int .i64 0) rfl)
                  clear hb hb2 HC B4 X40 X41 HLu4 HLd
                  by_cases hq2 : FQ [[x, y], [z, t + 1]] n i
                  · have HC := Lib.hid (FixedFrom_impl _ _ _ [[x, y], [z, t + 1]] n i (w6.alloc (.cells #[.int .i64 0, .int .i64 0] 27)) (HLd7.out.rows (by omega) (by omega) (by omega) (by omega)) ⟨by omega, by omega⟩ ⟨by omega, by omega⟩)
                    have hcr := hq2.1.cr
                    have V2 := ff_yes hcr hin
                    have LS := less_dn HCR.out hin (by omega) (by omega) (by omega) (by omega) hq2
                    have bz2 := hcr.fr hin
                    unfold frV at V2
                    rw [V2.1, V2.2] at HC
                    rw [HXD.out.1, HXD.out.2] at LS
                    have HLS2 := Lib.hid (fun W => LS ▸ lessOfH_any X D (frU (fxU [[x, y], [z, t + 1]] n i) (fxT [[x, y], [z, t + 1]] n)) (frD (fxU [[x, y], [z, t + 1]] n i) (fxT [[x, y], [z, t + 1]] n)) W (by omega) (bd12 bz2.1 (by omega)) (by omega) (by omega))
                    clear V2 LS bz2 hcr hq2
                    generalize frU (fxU [[x, y], [z, t + 1]] n i) (fxT [[x, y], [z, t + 1]] n) = U2 at *
                    generalize frD (fxU [[x, y], [z, t + 1]] n i) (fxT [[x, y], [z, t + 1]] n) = D2 at *
                    go_wp2_with fail
                    generalize w6.alloc (.cells #[.int .i64 0, .int .i64 0] 27) = w7 at *
                    generalize w6.heap.size = h7 at *
                    refine HC.out.mono ?_
                    rintro e w8 ⟨rfl, hb⟩
                    have hb2 := below_up hb (below_alloc w8 (.cells #[.int .i64 U2, .int .i64 D2] 27))
                    have B8 := Lib.hid (below_up B7.out hb2)
                    have X80 := Lib.hid (Keep.below hb2 _ _ X70.out)
                    have X81 := Lib.hid (Keep.below hb2 _ _ X71.out)
                    have Y80 := Lib.hid (Keep.below hb2 _ _ Y70.out)
                    have Y81 := Lib.hid (Keep.below hb2 _ _ Y71.out)
                    have Z80 := Lib.hid (blk_cell (blk_new w8 27 #[.int .i64 U2, .int .i64 D2]) (i := 0) (v := .int .i64 U2) rfl)
                    have Z81 := Lib.hid (blk_cell (blk_new w8 27 #[.int .i64 U2, .int .i64 D2]) (i := 1) (v := .int .i64 D2) rfl)
                    clear hb hb2 HC B7 X70 X71 Y70 Y71 HLd7
                    have x80 := X80.out
                    have x81 := X81.out
                    have y80 := Y80.out
                    have y81 := Y81.out
                    have z80 := Z80.out
                    have z81 := Z81.out
                    go_wp2_with fail
                    generalize w8.alloc (.cells #[.int .i64 U2, .int .i64 D2] 27) = w9 at *
                    generalize w8.heap.size = h9 at *
                    refine (HLS2.out _).mono ?_
                    rintro e w11 ⟨rfl, hb⟩
                    have B11 := Lib.hid (below_up B8.out hb)
                    clear x80 x81 z80 z81 hb y80 y81
                    go_wp2
                    go_roundw
                    case rel => exact ⟨2, by omega, by go_num, Lib.hid (below_up HB.out B11.out)⟩
                    case measure => simp [intOf]
                  · have HC := Lib.hid (FixedFrom_impl _ _ _ [[x, y], [z, t + 1]] n i (w6.alloc (.cells #[.int .i64 0, .int .i64 0] 27)) (HLd7.out.rows (by omega) (by omega) (by omega) (by omega)) ⟨by omega, by omega⟩ ⟨by omega, by omega⟩)
                    rw [ff_no hq2, pb_false hq2] at HC
                    clear hq2
                    go_wp2_with fail
                    generalize w6.alloc (.cells #[.int .i64 0, .int .i64 0] 27) = w7 at *
                    generalize w6.heap.size = h7 at *
                    refine HC.out.mono ?_
                    rintro e w8 ⟨rfl, hb⟩
                    have hb2 := below_up hb (below_alloc w8 (.cells #[.int .i64 0, .int .i64 0] 27))
                    have B8 := Lib.hid (below_up B7.out hb2)
                    have X80 := Lib.hid (Keep.below hb2 _ _ X70.out)
                    have X81 := Lib.hid (Keep.below hb2 _ _ X71.out)
                    have Y80 := Lib.hid (Keep.below hb2 _ _ Y70.out)
                    have Y81 := Lib.hid (Keep.below hb2 _ _ Y71.out)
                    have Z80 := Lib.hid (blk_cell (blk_new w8 27 #[.int .i64 0, .int .i64 0]) (i := 0) (v := .int .i64 0) rfl)
                    have Z81 := Lib.hid (blk_cell (blk_new w8 27 #[.int .i64 0, .int .i64 0]) (i := 1) (v := .int .i64 0) rfl)
                    clear hb hb2 HC B7 X70 X71 Y70 Y71 HLd7
                    have x80 := X80.out
                    have x81 := X81.out
                    have y80 := Y80.out
                    have y81 := Y81.out
                    have z80 := Z80.out
                    have z81 := Z81.out
                    go_wp2
                    go_roundw
                    case rel => exact ⟨2, by omega, by go_num, Lib.hid (below_up HB.out B8.out)⟩
                    case measure => simp [intOf]
        · obtain rfl : k = 2 := by omega
          go_wp2
          go_ret
          exact ⟨rfl, BR.out⟩
    · have HV := Lib.hid (show ffV xss n i = .agg #[.int .i64 0, .int .i64 0] ∧ pb (FQ xss n i) = false from ⟨ff_no hv, pb_false hv⟩)
      clear hv
      generalize hPU : paU xss n i = pu
      generalize hPV : paV xss n i = pv
      have HPA := Lib.hid (And.intro hPU hPV)
      clear hPU hPV
      have HC := Lib.hid (PaysAt_impl _ _ _ xss n i w1 HR.out ⟨by omega, by omega⟩ ⟨by omega, by omega⟩)
      rw [HPA.out.1, HPA.out.2] at HC
      go_wp2_with fail
      refine HC.out.mono ?_
      rintro e w2 ⟨rfl, hb⟩
      have HR_2 := Lib.hid (HR.out.keep (Keep.below hb))
      have B_2 := Lib.hid (below_up B1.out hb)
      clear hb HC HR B1
      have HC := Lib.hid (PaysAt_spec _ _ _ xss n i w2 HR_2.out ⟨by omega, by omega⟩ ⟨by omega, by omega⟩)
      rw [HPA.out.1, HPA.out.2] at HC
      go_wp2_with fail
      refine HC.out.mono ?_
      rintro e w3 ⟨rfl, hb⟩
      have HR_3 := Lib.hid (HR_2.out.keep (Keep.below hb))
      have B_3 := Lib.hid (below_up B_2.out hb)
      clear hb HC HR_2 B_2
      have HC := Lib.hid (FixedFrom_impl _ _ _ xss n i w3 HR_3.out ⟨by omega, by omega⟩ ⟨by omega, by omega⟩)
      rw [HV.out.1, HV.out.2] at HC
      go_wp2_with fail
      refine HC.out.mono ?_
      rintro e w4 ⟨rfl, hb⟩
      have HR_4 := Lib.hid (HR_3.out.keep (Keep.below hb))
      have B_4 := Lib.hid (below_up B_3.out hb)
      clear hb HC HR_3 B_3
      have hal := below_alloc w4 (.cells #[.int .i64 0, .int .i64 0] 27)
      have HR_4b := Lib.hid (HR_4.out.keep (Keep.below hal))
      have B_4b := Lib.hid (below_up B_4.out hal)
      have X0 := Lib.hid (blk_cell (blk_new w4 27 #[.int .i64 0, .int .i64 0]) (i := 0) (v := .int .i64 0) rfl)
      have X1 := Lib.hid (blk_cell (blk_new w4 27 #[.int .i64 0, .int .i64 0]) (i := 1) (v := .int .i64 0) rfl)
      clear hal HR_4 B_4
      have q_X0 := X0.out
      have q_X1 := X1.out
      go_wp2
      go_ret
      exact ⟨rfl, B_4b.out⟩

set_option maxRecDepth 100000 in
theorem hFnMoreIsSurer_lifted (os : Os) (started : os.Started) (H : Type) (enc : TypeId × Value → H) :
    ReturnsInHanded {} Try.checked os 5 .any (Rows.fnMoreIsSurerSpec.pre6 enc Try.prog Try.f5 Rows.fnMoreIsSurerRow.domain false) (Rows.fnMoreIsSurerSpec.post enc Try.prog Try.f5 false true false false) := by
  refine returnsInHanded_of_change_sized (C := Try.checked) Try.own started (by kernel_rfl) Try.func5
    (ChangeSpec.witness6 (enc := enc) (C := Try.checked) false ⟨#[], #[.slice none 0 0], []⟩ 8 (by kernel_rfl) (by kernel_rfl) (by kernel_rfl) (by kernel_rfl)) ?_
  intro W base args ds gs before hval0 hW _ hwt _
  have hval : ∀ (j : Nat) t v, Try.f5.params[j]? = some t → args[j]? = some v → Value.okWide Try.prog W .any base t v := hval0
  have hA : ∃ p, DataW.TrodAll enc Try.prog W 0 (fun _ => true) true Try.f5.params.toList args.toList ds p := by obtain ⟨p, q, hA0, _⟩ := hW; exact ⟨p, hA0⟩
  obtain ⟨p, hA⟩ := hA
  have hwt' := weights_arg hwt (j := 0) (t := 22) (by rw [Try.params5]; rfl) (d := ds.getD 0 .nil)
  rw [Try.params5] at hA hval
  obtain ⟨v0, d0, rfl, rfl, h0⟩ := trodAll_one hA
  obtain ⟨A, n, c, rfl, hx⟩ := open_bytes (hval 0 22 v0 rfl rfl) h0 (hwt' rfl)
  refine (fnMoreIsSurer_calls A n c W hx).mono fun e W' ⟨he, hb⟩ => ?_
  subst he
  exact ⟨_, rfl, law_post (F := Try.f5) rfl rfl (by rw [Try.params5]; simp only [List.mem_cons, List.not_mem_nil, or_false, forall_eq]; exact ⟨by kernel_rfl, of_decide_eq_true (by kernel_rfl)⟩) hW (fun h => by subst h; rfl) hb⟩

theorem hFnMoreIsSurer_holds : Rows.FnMoreIsSurerSaid :=
  OpenClaim.holds_of_wide 5 Try.f5 rfl rfl rfl rfl rfl rfl rfl ⟨rfl, rfl, rfl, rfl, rfl⟩ rfl rfl rfl rfl rfl (by kernel_rfl) Try.func5
    (by unfold joinedFacts; simp only [Bool.and_eq_true]; (repeat' apply And.intro) <;> (first | (with_reducible exact prog_enters) | ((with_reducible refine prog_lifts ?_); rfl) | ((with_reducible refine prog_make ?_); rfl) | kernel_rfl))
    (of_decide_eq_true (by kernel_rfl)) (by unfold Func.isWrapper; first | (rw [if_pos (by decide +kernel)]; kernel_rfl) | (rw [if_neg (by decide +kernel)]; exact ⟨rfl, rfl⟩))
    (fun os started H enc _ => hFnMoreIsSurer_lifted os started H enc)

end Go.Proofs.Ytjkmgpiiamffgaa
