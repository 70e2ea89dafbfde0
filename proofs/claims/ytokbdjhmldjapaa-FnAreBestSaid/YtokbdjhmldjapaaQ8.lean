/- Texts merged: LiftB LiftC Math13 FnTab Y1 Math14 H1 Y2 Math15 Math16 FnBS. -/
import Derived.Test.YtokbdjhmldjapaaQ7
import Derived.ChangeSlices
/- An argument of bytes, opened. -/
namespace Go.Proofs.Ytokbdjhmldjapaa
open Go.ChangeShapes Go.WideShapes Go.ChangeAt Go.RowKit Go.Deep

theorem Try.cells_u8 : Try.prog.cellsOf 5 = 1 := by kernel_rfl
theorem Try.bytes_u8 : Try.prog.bytesOf 5 = 1 := by kernel_rfl
theorem open_bytes {H : Type} {enc : TypeId × Value → H} {W : World} {v : Value} {d : DataW H} {p : List MemPlace} {b0 : Nat} (hval : Value.okWide Try.prog W .any b0 22 v)
    (h : DataW.Trod enc Try.prog W 0 (fun _ => true) true 22 v d p) (hw : ∀ n ∈ d.weights Try.prog 22, n ≤ reachBytes) :
    ∃ A n c, v = .slice A n c ∧ Bytes W A n c := by
  obtain ⟨a1, len, cap, rfl⟩ := okWide_slice Try.underlying22 hval
  obtain ⟨fuel, hf⟩ := h
  rcases open_ints Try.underlying22 Try.underlying5 Try.cells_u8 hf with ⟨hcs, hx⟩ | ⟨a, len', cap', zs, hcs, _, hl, hm, hz, hx, hcell, hwz⟩
  · simp [Value.cells] at hcs
    obtain ⟨rfl, rfl, rfl⟩ := hcs
    exact ⟨none, 0, 0, rfl, Nat.le_refl _, by omega, fun h => absurd h (by omega)⟩
  · simp [Value.cells] at hcs
    obtain ⟨rfl, rfl, rfl⟩ := hcs
    simp only [Prod.mk.injEq] at hx
    obtain ⟨rfl, rfl⟩ := hx
    simp only [if_true] at hz
    have h1 := hw _ (weights_slice Try.underlying22 (.inl rfl))
    simp only [lits, List.length_map, List.length_take, List.length_drop, Try.bytes_u8, reachBytes] at h1
    refine ⟨some a, len, cap, rfl, hl, by omega, fun hn => ?_⟩
    have hspot : a.spot = none := by simpa [Addr.add] using World.cell?_spot (hcell 0 (by omega))
    obtain ⟨b, o, sp⟩ := a
    simp only at hspot
    subst hspot
    refine ⟨b, o, rfl, fun k hk => ⟨zs.getD k 0, ?_, ?_, by rw [← add_plain]; exact hcell k (by omega)⟩⟩
    · rw [List.getD_eq_getElem?_getD]; have := hwz (zs.getD k 0) (by rw [List.getD_eq_getElem?_getD, List.getElem?_eq_getElem (show k < zs.length by omega)]; simp)
      simp [Lit.wf, IntKind.min, IntKind.max, IntKind.signed, IntKind.bits] at this
      omega
    · rw [List.getD_eq_getElem?_getD]; have := hwz (zs.getD k 0) (by rw [List.getD_eq_getElem?_getD, List.getElem?_eq_getElem (show k < zs.length by omega)]; simp)
      simp [Lit.wf, IntKind.min, IntKind.max, IntKind.signed, IntKind.bits] at this
      omega
end Go.Proofs.Ytokbdjhmldjapaa

/- Arguments that are a slice of ints, or an int, opened. -/
namespace Go.Proofs.Ytokbdjhmldjapaa
open Go.ChangeShapes Go.WideShapes Go.ChangeAt Go.RowKit Go.Deep

theorem open_intS {H : Type} {enc : TypeId × Value → H} {W : World} {v : Value} {d : DataW H} {p : List MemPlace} {b0 : Nat} (hval : Value.okWide Try.prog W .any b0 32 v)
    (h : DataW.Trod enc Try.prog W 0 (fun _ => true) true 32 v d p) (hw : ∀ n ∈ d.weights Try.prog 32, n ≤ reachBytes) :
    ∃ A n c xs, v = .slice A n c ∧ Ints W A n c xs := by
  obtain ⟨a1, len, cap, rfl⟩ := okWide_slice Try.underlying32 hval
  obtain ⟨fuel, hf⟩ := h
  rcases open_ints Try.underlying32 Try.underlying3 Try.cells3 hf with ⟨hcs, hx⟩ | ⟨a, len', cap', zs, hcs, _, hl, hm, hz, hx, hcell, hwz⟩
  · simp [Value.cells] at hcs
    obtain ⟨rfl, rfl, rfl⟩ := hcs
    exact ⟨none, 0, 0, [], rfl, rfl, Nat.le_refl _, by omega, fun _ h => by simp at h, fun h => absurd h (by omega)⟩
  · simp [Value.cells] at hcs
    obtain ⟨rfl, rfl, rfl⟩ := hcs
    simp only [Prod.mk.injEq] at hx
    obtain ⟨rfl, rfl⟩ := hx
    simp only [if_true] at hz
    have h1 := hw _ (weights_slice Try.underlying32 (.inl rfl))
    simp only [lits, List.length_map, List.length_take, List.length_drop, Try.bytes3, reachBytes] at h1
    have hlen : (zs.take len).length = len := by rw [List.length_take]; omega
    refine ⟨some a, len, cap, zs.take len, rfl, hlen, hl, by omega, fun x hx => ?_, fun hn => ?_⟩
    · have := hwz x (List.mem_of_mem_take hx)
      simp [Lit.wf, IntKind.min, IntKind.max, IntKind.signed, IntKind.bits] at this
      omega
    have hspot : a.spot = none := by simpa [Addr.add] using World.cell?_spot (hcell 0 (by omega))
    obtain ⟨b, o, sp⟩ := a
    simp only at hspot
    subst hspot
    refine ⟨b, o, rfl, fun k hk => ?_⟩
    rw [← add_plain, hcell k (by omega)]
    congr 2
    rw [gi_get (by rw [hlen]; exact hk), List.getElem_take]
    simp [List.getD, show k < zs.length by omega]

theorem open_num {H : Type} {enc : TypeId × Value → H} {W : World} {v : Value} {d : DataW H} {p : List MemPlace} {b0 : Nat} (hval : Value.okWide Try.prog W .any b0 3 v)
    (h : DataW.Trod enc Try.prog W 0 (fun _ => true) true 3 v d p) : ∃ x, v = .int .i64 x ∧ Fit x := by
  obtain ⟨x, rfl, _, _, hw⟩ := open_int Try.underlying3 hval h
  refine ⟨x, rfl, ?_⟩
  simp [Lit.wf, IntKind.min, IntKind.max, IntKind.signed, IntKind.bits] at hw
  unfold Fit
  omega
end Go.Proofs.Ytokbdjhmldjapaa

/- The value from both sides. Plain. -/
namespace Go.Proofs.Ytokbdjhmldjapaa

theorem ntab_row {a : List (List Int)} (v : VT a) {j : Nat} (hj : j < (gr a 0).length) : (gr (ntab a) j).length = a.length := by
  have h := VT.len v.ntab (i := j) (by rw [ntab_len]; exact hj)
  rw [h, v.ntab_m]
/-- Turned and with the other signs twice it is the table. -/
theorem ntab_ntab {a : List (List Int)} (v : VT a) : ntab (ntab a) = a := by
  have vn := v.ntab
  have l1 : (ntab (ntab a)).length = a.length := by rw [ntab_len, v.ntab_m]
  refine gr_ext l1 fun i hi => ?_
  rw [l1] at hi
  have hi' : i < (gr (ntab a) 0).length := by rw [v.ntab_m]; exact hi
  have r1 := ntab_row vn hi'
  rw [ntab_len] at r1
  have r2 := VT.len v hi
  refine gi_ext (by omega) fun j hj => ?_
  have hj' : j < (gr a 0).length := by omega
  have e1 := vn.ntab_neg j i (by rw [ntab_len]; exact hj') hi'
  have e2 := v.ntab_neg i j hi hj'
  unfold g2 at e1 e2
  omega
theorem duo_of {a : List (List Int)} {x y : List Int} (v : VT a) (hx : VS x a.length) (hy : VS y (gr a 0).length) : Duo a (ntab a) x y a.length (gr a 0).length :=
  ⟨v.n1, v.m1, v.ntab_neg, by have := hx.1; omega, by have := hy.1; omega, fun i hi => (hx.2.1 i (by have := hx.1; omega)).1, fun j hj => (hy.2.1 j (by have := hy.1; omega)).1, hx.2.2, hy.2.2⟩
theorem wlast_n (a : List (List Int)) (x : List Int) : wlast a x = wst a x a.length (gr a 0).length ((gr a 0).length - 1) := rfl
theorem wlast_t {a : List (List Int)} (v : VT a) (y : List Int) : wlast (ntab a) y = wst (ntab a) y (gr a 0).length a.length (a.length - 1) := wlast_def _ _ _ _ (ntab_len a) v.ntab_m
/-- Less or the same, of fractions. -/
def leF (p q : Int × Int) : Prop := p.1 * q.2 ≤ q.1 * p.2
theorem weak_of {a : List (List Int)} {x y : List Int} (v : VT a) (hx : VS x a.length) (hy : VS y (gr a 0).length) : leF (wlast a x) (-(wlast (ntab a) y).1, (wlast (ntab a) y).2) := by
  rw [wlast_n, wlast_t v]; exact (duo_of v hx hy).weak
/-- No shares make more sure than the value. -/
theorem le_value {a : List (List Int)} {x : List Int} (v : VT a) (hx : VS x a.length) : leF (wlast a x) (vF a) := by
  rw [vF_yes v, (best_is v).eq]; exact weak_of v hx (by_VS v)
/-- .. and no shares of columns let less through. -/
theorem value_le {a : List (List Int)} {y : List Int} (v : VT a) (hy : VS y (gr a 0).length) : leF (vF a) (-(wlast (ntab a) y).1, (wlast (ntab a) y).2) := by
  rw [vF_yes v]; exact weak_of v (bx_VS v) hy
theorem best_same {a : List (List Int)} {x y : List Int} (v : VT a) (h : BestP a x y) : wlast a x = vF a := by
  rw [vF_yes v]
  have e1 := h.eq
  have e2 := (best_is v).eq
  rw [wlast_n, wlast_t v] at e1 e2
  exact (duo_of v h.ok.x h.ok.y).same e1 (duo_of v (bx_VS v) (by_VS v)) e2
/-- The other player's value is it with the other sign. -/
theorem vF_ntab {a : List (List Int)} (v : VT a) : vF (ntab a) = (-(vF a).1, (vF a).2) := by
  have B := best_is v.ntab
  have e := B.eq
  rw [ntab_ntab v] at e
  have hx := B.ok.x
  have hy := B.ok.y
  rw [ntab_len] at hx
  rw [v.ntab_m] at hy
  have B2 : BestP a (by_ (ntab a)) (bx (ntab a)) := ⟨⟨v, hy, hx⟩, by rw [e]; simp⟩
  rw [vF_yes v.ntab, e, best_same v B2]
theorem vF_bd {a : List (List Int)} (v : VT a) : (-81000000 ≤ (vF a).1 ∧ (vF a).1 ≤ 81000000) ∧ 1 ≤ (vF a).2 ∧ (vF a).2 ≤ 3000 := by rw [vF_yes v]; exact wlast_bd v (bx_VS v)
/-- Shares that make the value sure, against shares that let no more through, are best; and so is no other pair. -/
theorem best_iff {a : List (List Int)} {x y : List Int} (v : VT a) (hx : VS x a.length) (hy : VS y (gr a 0).length) : BestP a x y ↔ wlast a x = vF a ∧ wlast (ntab a) y = (-(vF a).1, (vF a).2) := by
  constructor
  · intro h
    have e := best_same v h
    refine ⟨e, ?_⟩
    have := h.eq
    rw [e] at this
    rw [this]; simp
  · rintro ⟨h1, h2⟩
    exact ⟨⟨v, hx, hy⟩, by rw [h1, h2]; simp⟩
end Go.Proofs.Ytokbdjhmldjapaa

/- Two words that the laws of values share. -/
namespace Go.Proofs.Ytokbdjhmldjapaa
theorem wstV_eq (p : Int × Int) {U D : Int} (h : p = (U, D)) : wstV p = .agg #[.int .i64 U, .int .i64 D] := by rw [h]; rfl
theorem small_ntab {a : List (List Int)} (v : VT a) : Small (flip a a.length (gr a 0).length) := v.small.flip v.even v.n1
end Go.Proofs.Ytokbdjhmldjapaa

/- Small functions of the laws. -/
namespace Go.Proofs.Ytokbdjhmldjapaa
open Go.RowKit

set_option maxHeartbeats 400000 in
theorem divisor_any (a b : Int) (w : World) (ha : Mid a) (hb : Mid b) :
    Calls Try.prog 29 #[.int .i64 a, .int .i64 b] w fun e w' => e = .returned (.int .i64 (gcdI a b)) ∧ Quiet w w' := by
  have HA := Lib.hid ha
  have HB := Lib.hid hb
  clear ha hb
  go_enter Try.func29, Try.ntmps29
  go_wp2
  go_loopw [0, 1] (fun s t wr => ∃ x y : Int, s = .int .i64 x ∧ t = .int .i64 y ∧ Hid (Mid x) ∧ Hid (Mid y) ∧ Hid (gcdI x y = gcdI a b) ∧ Quiet w wr) (fun _ t _ => (intOf t).natAbs)
  case atStart => exact ⟨a, b, rfl, rfl, HA, HB, Lib.hid rfl, Quiet.refl _⟩
  case round =>
    obtain ⟨x, y, rfl, rfl, HX, HY, HG, q, rfl⟩ := hrel
    obtain ⟨x1, x2⟩ := HX.out
    obtain ⟨y1, y2⟩ := HY.out
    by_cases hy : y = 0
    · subst hy
      have hg := Lib.hid (gcdI_zero x)
      go_wp2
      all_goals go_ret
      all_goals exact ⟨ret_int (by rw [← HG.out, hg.out]; omega), ⟨_, rfl⟩⟩
    · have hy' : (y != 0) = true := by simpa using hy
      have HM := Lib.hid (HX.out.tmod (y := y))
      have HS := Lib.hid (gcdI_step x y)
      have HT := Lib.hid (tmod_abs (a := x) hy)
      go_wp2
      go_roundw
      case rel => exact ⟨y, x.tmod y, rfl, rfl, HY, HM, Lib.hid (HS.out.trans HG.out), ⟨_, rfl⟩⟩
      case measure => have := HT.out; simpa [intOf] using this

set_option maxHeartbeats 400000 in
theorem lessOf_any (u d v e : Int) (w : World) (hu : -1000000000 ≤ u ∧ u ≤ 1000000000) (hv : -1000000000 ≤ v ∧ v ≤ 1000000000) (hd : 0 ≤ d ∧ d ≤ 1000000000) (he : 0 ≤ e ∧ e ≤ 1000000000) :
    Calls Try.prog 20 #[.agg #[.int .i64 u, .int .i64 d], .agg #[.int .i64 v, .int .i64 e]] w (Ret (.bool (lessB u d v e)) w) := by
  obtain ⟨p1, p2⟩ := less_bd hu he
  obtain ⟨p3, p4⟩ := less_bd hv hd
  have b0 := blk_old (blk_new w 28 #[.int .i64 u, .int .i64 d]) (.cells #[.int .i64 v, .int .i64 e] 28)
  have b1 := blk_new (w.alloc (.cells #[.int .i64 u, .int .i64 d] 28)) 28 #[.int .i64 v, .int .i64 e]
  have HB := Lib.hid (below_up (below_alloc w (.cells #[.int .i64 u, .int .i64 d] 28)) (below_alloc _ (.cells #[.int .i64 v, .int .i64 e] 28)))
  rw [World.size_alloc] at b1
  have c0 := blk_cell b0 (i := 0) rfl
  have c1 := blk_cell b0 (i := 1) rfl
  have c2 := blk_cell b1 (i := 0) rfl
  have c3 := blk_cell b1 (i := 1) rfl
  go_enter Try.func20, Try.ntmps20
  go_wp2
  go_ret
  exact ⟨rfl, HB.out⟩
set_option maxHeartbeats 400000 in
theorem total_any (A : Option Addr) (n c : Nat) (xs : List Int) (w : World) (hx : Ints w A n c xs) (hs : SumOk xs) :
    Calls Try.prog 28 #[.slice A n c] w fun e w' => e = .returned (.int .i64 (tot xs)) ∧ Quiet w w' := by
  have hl : n ≤ 1000 := by rw [← hx.len]; exact hs.n
  have HX := Lib.hid hx
  have HS := Lib.hid hs
  have HL := Lib.hid hx.len
  clear hx hs
  go_enter Try.func28, Try.ntmps28
  go_wp2
  go_loopw [3, 4] (fun s i wr => ∃ k : Nat, k ≤ n ∧ i = .int .i64 k ∧ s = .int .i64 (sm xs k) ∧ Quiet w wr) (fun _ i _ => n - (intOf i).toNat)
  case atStart => exact ⟨0, Nat.zero_le _, rfl, rfl, Quiet.refl _⟩
  case round =>
    obtain ⟨k, hk, rfl, rfl, q, rfl⟩ := hrel
    by_cases hlt : k < n
    · obtain ⟨b, o, rfl, hc⟩ := HX.out.at_ (by omega)
      have c1 := hc k hlt
      obtain ⟨b1, b2⟩ := HS.out.sm (k := k) (by rw [HL.out]; exact hk)
      obtain ⟨b3, b4⟩ := HS.out.bd k (by rw [HL.out]; exact hlt)
      clear hc
      go_wp2
      go_roundw
      case rel => exact ⟨k + 1, by omega, by go_num, rfl, ⟨_, rfl⟩⟩
      case measure => simp [intOf]; omega
    · obtain rfl : k = n := by omega
      go_wp2
      go_ret
      exact ⟨ret_int (by rw [tot, HL.out]), ⟨_, rfl⟩⟩

set_option maxHeartbeats 1000000 in
theorem fracOfL_any (u d : Int) (w : World) (hu : Mid u) (hd : Mid d) (h1 : 1 ≤ d) :
    Calls Try.prog 21 #[.int .i64 u, .int .i64 d] w (Ret (frV u d) w) := by
  have HQ := Lib.hid (fun W => divisor_any u d W hu hd)
  have hg1 := gcdI_pos (a := u) (b := d) (by omega)
  have hg2 := gcdI_le (a := u) (b := d) (by omega)
  obtain ⟨u1, u2⟩ := hu
  obtain ⟨d1, d2⟩ := hd
  have hB := Lib.hid (below_alloc w (.cells #[.int .i64 0, .int .i64 0] 28))
  go_enter Try.func21, Try.ntmps21
  go_wp2_with fail
  refine (HQ.out _).mono ?_
  rintro e w2 ⟨rfl, hq⟩
  have HFU : Hid (frU u d = u.tdiv (gcdI u d)) := Lib.hid rfl
  have HFD : Hid (frD u d = d / gcdI u d) := Lib.hid (by unfold frD; rw [Int.tdiv_eq_ediv_of_nonneg (by omega)])
  have b0 := blk_quiet (blk_new w 28 #[.int .i64 0, .int .i64 0]) hq
  have HBW := Lib.hid (below_quiet hB.out hq)
  clear hq hB HQ
  generalize gcdI u d = g at *
  have c0 := blk_cell b0 (i := 0) rfl
  have c1 := blk_cell b0 (i := 1) rfl
  have f0 := blk_frozen b0 0
  have f1 := blk_frozen b0 1
  have g0 : (g == 0) = false := by simp; omega
  go_wp2
  go_region
  all_goals clear c0 c1 f0 f1
  all_goals go_wp2
  have B1 := blk_set (blk_set b0 0 (.int .i64 (u.tdiv g))) 1 (.int .i64 (d / g))
  have r0 := blk_cell B1 (i := 0) (v := .int .i64 (u.tdiv g)) rfl
  have r1 := blk_cell B1 (i := 1) (v := .int .i64 (d / g)) rfl
  have HBX := Lib.hid ((HBW.out.setCell (p := ⟨w.heap.size, 0, none⟩) (Nat.le_refl _) (.int .i64 (u.tdiv g))).setCell (p := ⟨w.heap.size, 1, none⟩) (Nat.le_refl _) (.int .i64 (d / g))).drew
  replace r0 : ((w2.setCell ⟨w.heap.size, 0, none⟩ (.int .i64 (u.tdiv g))).setCell ⟨w.heap.size, 1, none⟩ (.int .i64 (d / g))).drew.cell? ⟨w.heap.size, 0, none⟩ = some (.int .i64 (u.tdiv g)) := r0
  replace r1 : ((w2.setCell ⟨w.heap.size, 0, none⟩ (.int .i64 (u.tdiv g))).setCell ⟨w.heap.size, 1, none⟩ (.int .i64 (d / g))).drew.cell? ⟨w.heap.size, 1, none⟩ = some (.int .i64 (d / g)) := r1
  clear B1 b0 HBW
  generalize ((w2.setCell ⟨w.heap.size, 0, none⟩ (.int .i64 (u.tdiv g))).setCell ⟨w.heap.size, 1, none⟩ (.int .i64 (d / g))).drew = W3 at *
  refine bodyPost_ret (v := .agg #[.int .i64 (u.tdiv g), .int .i64 (d / g)]) (by simp [results, Try.results21, go_sem, r0, r1]) rfl ?_
  exact ⟨by rw [frV, HFU.out, HFD.out], HBX.out⟩
set_option maxHeartbeats 1000000 in
theorem plusOf_any (u d v e : Int) (w : World) (hu : -100000000 ≤ u ∧ u ≤ 100000000) (hv : -100000000 ≤ v ∧ v ≤ 100000000) (hd : 1 ≤ d ∧ d ≤ 10000000) (he : 1 ≤ e ∧ e ≤ 10000000) (hm : Mid (u * e + v * d)) :
    Calls Try.prog 26 #[.agg #[.int .i64 u, .int .i64 d], .agg #[.int .i64 v, .int .i64 e]] w (Ret (frV (u * e + v * d) (d * e)) w) := by
  obtain ⟨p1, p2⟩ := mulbd (x := u) (y := e) (A := 100000000) (B := 10000000) hu (by omega)
  obtain ⟨p3, p4⟩ := mulbd (x := v) (y := d) (A := 100000000) (B := 10000000) hv (by omega)
  obtain ⟨p5, p6⟩ := mulbd (x := d) (y := e) (A := 10000000) (B := 10000000) (by omega) (by omega)
  obtain ⟨p7, p8⟩ := mulbd (x := u) (y := v) (A := 100000000) (B := 100000000) hu hv
  have p9 : 1 ≤ d * e := by have h : 1 * 1 ≤ d * e := Int.mul_le_mul hd.1 he.1 (by omega) (by omega); omega
  have HC := Lib.hid (fun W => fracOfL_any (u * e + v * d) (d * e) W hm (by unfold Mid; omega) p9)
  have b0 := blk_old (blk_old (blk_new w 28 #[.int .i64 u, .int .i64 d]) (.cells #[.int .i64 v, .int .i64 e] 28)) (.cells #[.int .i64 0, .int .i64 0] 28)
  have b1 := blk_old (blk_new (w.alloc (.cells #[.int .i64 u, .int .i64 d] 28)) 28 #[.int .i64 v, .int .i64 e]) (.cells #[.int .i64 0, .int .i64 0] 28)
  have b2 := blk_new ((w.alloc (.cells #[.int .i64 u, .int .i64 d] 28)).alloc (.cells #[.int .i64 v, .int .i64 e] 28)) 28 #[.int .i64 0, .int .i64 0]
  have HB := Lib.hid (below_up (below_up (below_alloc w (.cells #[.int .i64 u, .int .i64 d] 28)) (below_alloc _ (.cells #[.int .i64 v, .int .i64 e] 28))) (below_alloc _ (.cells #[.int .i64 0, .int .i64 0] 28)))
  have HFV : Hid (frV (u * e + v * d) (d * e) = .agg #[.int .i64 (frU (u * e + v * d) (d * e)), .int .i64 (frD (u * e + v * d) (d * e))]) := Lib.hid rfl
  rw [HFV.out] at HC
  simp only [World.size_alloc] at b1 b2
  have c0 := blk_cell b0 (i := 0) rfl
  have c1 := blk_cell b0 (i := 1) rfl
  have c2 := blk_cell b1 (i := 0) rfl
  have c3 := blk_cell b1 (i := 1) rfl
  have HB2 := Lib.hid b2
  clear b0 b1 b2
  go_enter Try.func26, Try.ntmps26
  go_wp2_with fail
  clear c0 c1 c2 c3
  generalize ((w.alloc (.cells #[.int .i64 u, .int .i64 d] 28)).alloc (.cells #[.int .i64 v, .int .i64 e] 28)).alloc (.cells #[.int .i64 0, .int .i64 0] 28) = w1 at *
  refine (HC.out _).mono ?_
  rintro e w2 ⟨rfl, hb⟩
  have b0 := blk_below HB2.out hb
  have HBW := Lib.hid (below_up HB.out hb)
  clear hb HC HB HB2
  generalize frU (u * e + v * d) (d * e) = U at *
  generalize frD (u * e + v * d) (d * e) = D at *
  have c0 := blk_cell b0 (i := 0) rfl
  have c1 := blk_cell b0 (i := 1) rfl
  have f0 := blk_frozen b0 0
  have f1 := blk_frozen b0 1
  go_wp2
  clear c0 c1 f0 f1
  have B1 := blk_set (blk_set b0 0 (.int .i64 U)) 1 (.int .i64 D)
  have r0 := blk_cell B1 (i := 0) (v := .int .i64 U) rfl
  have r1 := blk_cell B1 (i := 1) (v := .int .i64 D) rfl
  have hle : w.heap.size ≤ w.heap.size + 1 + 1 := by omega
  have HBX := Lib.hid ((HBW.out.setCell (p := ⟨w.heap.size + 1 + 1, 0, none⟩) hle (.int .i64 U)).setCell (p := ⟨w.heap.size + 1 + 1, 1, none⟩) hle (.int .i64 D))
  clear B1 b0 HBW
  generalize (w2.setCell ⟨w.heap.size + 1 + 1, 0, none⟩ (.int .i64 U)).setCell ⟨w.heap.size + 1 + 1, 1, none⟩ (.int .i64 D) = WE at *
  refine bodyPost_ret (v := .agg #[.int .i64 U, .int .i64 D]) (by simp [results, Try.results26, go_sem, r0, r1]) rfl ?_
  exact ⟨by rw [HFV.out], HBX.out⟩
set_option maxHeartbeats 1000000 in
theorem timesOf_any (u d v e : Int) (w : World) (hu : -1000000 ≤ u ∧ u ≤ 1000000) (hv : -1000000 ≤ v ∧ v ≤ 1000000) (hd : 1 ≤ d ∧ d ≤ 1000000) (he : 1 ≤ e ∧ e ≤ 1000000) :
    Calls Try.prog 27 #[.agg #[.int .i64 u, .int .i64 d], .agg #[.int .i64 v, .int .i64 e]] w (Ret (frV (u * v) (d * e)) w) := by
  obtain ⟨p1, p2⟩ := mulbd (x := u) (y := e) (A := 1000000) (B := 1000000) hu (by omega)
  obtain ⟨p3, p4⟩ := mulbd (x := v) (y := d) (A := 1000000) (B := 1000000) hv (by omega)
  obtain ⟨p5, p6⟩ := mulbd (x := d) (y := e) (A := 1000000) (B := 1000000) (by omega) (by omega)
  obtain ⟨p7, p8⟩ := mulbd (x := u) (y := v) (A := 1000000) (B := 1000000) hu hv
  have p9 : 1 ≤ d * e := by have h : 1 * 1 ≤ d * e := Int.mul_le_mul hd.1 he.1 (by omega) (by omega); omega
  have HC := Lib.hid (fun W => fracOfL_any (u * v) (d * e) W (by unfold Mid; omega) (by unfold Mid; omega) p9)
  have b0 := blk_old (blk_old (blk_new w 28 #[.int .i64 u, .int .i64 d]) (.cells #[.int .i64 v, .int .i64 e] 28)) (.cells #[.int .i64 0, .int .i64 0] 28)
  have b1 := blk_old (blk_new (w.alloc (.cells #[.int .i64 u, .int .i64 d] 28)) 28 #[.int .i64 v, .int .i64 e]) (.cells #[.int .i64 0, .int .i64 0] 28)
  have b2 := blk_new ((w.alloc (.cells #[.int .i64 u, .int .i64 d] 28)).alloc (.cells #[.int .i64 v, .int .i64 e] 28)) 28 #[.int .i64 0, .int .i64 0]
  have HB := Lib.hid (below_up (below_up (below_alloc w (.cells #[.int .i64 u, .int .i64 d] 28)) (below_alloc _ (.cells #[.int .i64 v, .int .i64 e] 28))) (below_alloc _ (.cells #[.int .i64 0, .int .i64 0] 28)))
  have HFV : Hid (frV (u * v) (d * e) = .agg #[.int .i64 (frU (u * v) (d * e)), .int .i64 (frD (u * v) (d * e))]) := Lib.hid rfl
  rw [HFV.out] at HC
  simp only [World.size_alloc] at b1 b2
  have c0 := blk_cell b0 (i := 0) rfl
  have c1 := blk_cell b0 (i := 1) rfl
  have c2 := blk_cell b1 (i := 0) rfl
  have c3 := blk_cell b1 (i := 1) rfl
  have HB2 := Lib.hid b2
  clear b0 b1 b2
  go_enter Try.func27, Try.ntmps27
  go_wp2_with fail
  clear c0 c1 c2 c3
  generalize ((w.alloc (.cells #[.int .i64 u, .int .i64 d] 28)).alloc (.cells #[.int .i64 v, .int .i64 e] 28)).alloc (.cells #[.int .i64 0, .int .i64 0] 28) = w1 at *
  refine (HC.out _).mono ?_
  rintro e w2 ⟨rfl, hb⟩
  have b0 := blk_below HB2.out hb
  have HBW := Lib.hid (below_up HB.out hb)
  clear hb HC HB HB2
  generalize frU (u * v) (d * e) = U at *
  generalize frD (u * v) (d * e) = D at *
  have c0 := blk_cell b0 (i := 0) rfl
  have c1 := blk_cell b0 (i := 1) rfl
  have f0 := blk_frozen b0 0
  have f1 := blk_frozen b0 1
  go_wp2
  clear c0 c1 f0 f1
  have B1 := blk_set (blk_set b0 0 (.int .i64 U)) 1 (.int .i64 D)
  have r0 := blk_cell B1 (i := 0) (v := .int .i64 U) rfl
  have r1 := blk_cell B1 (i := 1) (v := .int .i64 D) rfl
  have hle : w.heap.size ≤ w.heap.size + 1 + 1 := by omega
  have HBX := Lib.hid ((HBW.out.setCell (p := ⟨w.heap.size + 1 + 1, 0, none⟩) hle (.int .i64 U)).setCell (p := ⟨w.heap.size + 1 + 1, 1, none⟩) hle (.int .i64 D))
  clear B1 b0 HBW
  generalize (w2.setCell ⟨w.heap.size + 1 + 1, 0, none⟩ (.int .i64 U)).setCell ⟨w.heap.size + 1 + 1, 1, none⟩ (.int .i64 D) = WE at *
  refine bodyPost_ret (v := .agg #[.int .i64 U, .int .i64 D]) (by simp [results, Try.results27, go_sem, r0, r1]) rfl ?_
  exact ⟨by rw [HFV.out], HBX.out⟩
/-- Whether a list has a number. -/
def HasN (xs : List Int) (x : Int) : Prop := ∃ k, k < xs.length ∧ gi xs k = x
set_option maxHeartbeats 400000 in
theorem isIn_any (A : Option Addr) (n c : Nat) (xs : List Int) (x : Int) (w : World) (hx : Ints w A n c xs) :
    Calls Try.prog 19 #[.slice A n c, .int .i64 x] w fun e w' => e = .returned (.bool (pb (HasN xs x))) ∧ Quiet w w' := by
  have hl := hx.max
  have HX := Lib.hid hx
  have HL := Lib.hid hx.len
  clear hx
  go_enter Try.func19, Try.ntmps19
  go_wp2
  go_loopw [5] (fun i wr => ∃ k : Nat, k ≤ n ∧ i = .int .i64 k ∧ Hid (∀ j, j < k → gi xs j ≠ x) ∧ Quiet w wr) (fun i _ => n - (intOf i).toNat)
  case atStart => exact ⟨0, Nat.zero_le _, rfl, Lib.hid (fun _ h => absurd h (by omega)), Quiet.refl _⟩
  case round =>
    obtain ⟨k, hk, rfl, HN, q, rfl⟩ := hrel
    by_cases hlt : k < n
    · obtain ⟨b, o, rfl, hc⟩ := HX.out.at_ (by omega)
      have c1 := hc k hlt
      clear hc
      by_cases he : gi xs k = x
      · have HR := Lib.hid (pb_true (p := HasN xs x) ⟨k, by rw [HL.out]; exact hlt, he⟩)
        have hd : (gi xs k == x) = true := by simpa using he
        clear he
        go_wp2
        go_ret
        exact ⟨ret_bool HR.out.symm, ⟨_, rfl⟩⟩
      · have HE := Lib.hid he
        have hd : (gi xs k == x) = false := by simpa using he
        clear he
        go_wp2
        go_roundw
        case rel => exact ⟨k + 1, by omega, by go_num, Lib.hid (fun j hj => by
          by_cases hjk : j < k
          · exact HN.out j hjk
          · obtain rfl : j = k := by omega
            exact HE.out), ⟨_, rfl⟩⟩
        case measure => simp [intOf]; omega
    · obtain rfl : k = n := by omega
      have HR := Lib.hid (pb_false (p := HasN xs x) (fun ⟨j, hj, e⟩ => HN.out j (by rw [← HL.out]; exact hj) e))
      go_wp2
      go_ret
      exact ⟨ret_bool HR.out.symm, ⟨_, rfl⟩⟩
set_option maxHeartbeats 400000 in
theorem equalInts_any (A B : Option Addr) (n c m d : Nat) (xs ys : List Int) (w : World) (hx : Ints w A n c xs) (hy : Ints w B m d ys) :
    Calls Try.prog 43 #[.slice A n c, .slice B m d] w fun e w' => e = .returned (.bool (eqI xs ys)) ∧ Quiet w w' := by
  obtain ⟨lx, cx, mx, _, hx⟩ := hx
  obtain ⟨ly, cy, my, _, hy⟩ := hy
  have Lx := Lib.hid lx
  have Ly := Lib.hid ly
  clear lx ly
  by_cases hnm : n = m
  · subst hnm
    go_enter Try.func43, Try.ntmps43
    go_wp2
    go_loopw [5] (fun i wr => ∃ k : Nat, k ≤ n ∧ i = .int .i64 k ∧ (∀ j, j < k → gi xs j = gi ys j) ∧ Quiet w wr) (fun i _ => n - (intOf i).toNat)
    case atStart => exact ⟨0, Nat.zero_le _, rfl, fun _ h => absurd h (by omega), Quiet.refl _⟩
    case round =>
      obtain ⟨k, hk, rfl, hall, q, rfl⟩ := hrel
      have HALL := Lib.hid hall
      clear hall
      by_cases hlt : k < n
      · obtain ⟨b, o, rfl, hcx⟩ := hx (by omega)
        obtain ⟨b2, o2, rfl, hcy⟩ := hy (by omega)
        have c1 := hcx k hlt
        have c2 := hcy k hlt
        clear hx hy hcx hcy
        by_cases he : gi xs k = gi ys k
        · have he' : (gi xs k != gi ys k) = false := by simp [he]
          have HE := Lib.hid he
          clear he
          go_wp2
          go_quiet (fail)
          go_wp2
          go_roundw
          case rel => exact ⟨k + 1, by omega, by go_num, fun j hj => by
            by_cases hjk : j < k
            · exact HALL.out j hjk
            · obtain rfl : j = k := by omega
              exact HE.out, ⟨_, rfl⟩⟩
          case measure => simp [intOf]; omega
        · have he' : (gi xs k != gi ys k) = true := by simpa using he
          go_wp2
          go_quiet (fail)
          go_wp2
          go_ret
          exact ⟨ret_bool (eqI_no he).symm, Quiet.two _ _ _⟩
      · obtain rfl : k = n := by omega
        go_wp2
        go_ret
        exact ⟨ret_bool (eqI_yes (by rw [Lx.out, Ly.out]) fun j hj => HALL.out j (by rw [Lx.out] at hj; exact hj)).symm, ⟨_, rfl⟩⟩
  · go_enter Try.func43, Try.ntmps43
    go_wp2
    go_ret
    exact ⟨ret_bool (eqI_len (by rw [Lx.out, Ly.out]; exact hnm)).symm, Quiet.refl _⟩

end Go.Proofs.Ytokbdjhmldjapaa

/- What one row alone makes sure. Plain. -/
namespace Go.Proofs.Ytokbdjhmldjapaa

theorem fr_one (u : Int) : frU u 1 = u ∧ frD u 1 = 1 := by
  have g : gcdI u 1 = 1 := by unfold gcdI; simp
  unfold frU frD; rw [g]; simp
theorem frV_one (u : Int) : frV u 1 = .agg #[.int .i64 u, .int .i64 1] := by unfold frV; rw [(fr_one u).1, (fr_one u).2]
theorem onl_VS {n i : Nat} (hi : i < n) : VS (onl n i) n :=
  ⟨by rw [onl_len], fun j hj => by rw [onl_len] at hj; have := onl_bd (n := n) (i := i) hj; exact ⟨this.1, by omega⟩, by rw [tot_onl hi]; omega⟩
theorem dotc_onl (a : List (List Int)) {n i : Nat} (j : Nat) : ∀ {k}, k ≤ n → dotc a (onl n i) j k = if i < k then g2 a i j else 0
  | 0, _ => by simp [dotc]
  | k + 1, h => by
    rw [dotc, dotc_onl a j (k := k) (by omega), gi_onl (by omega)]
    by_cases e : k = i
    · subst e; rw [if_neg (by omega), if_pos rfl, if_pos (by omega)]; simp
    · rw [if_neg e]
      by_cases h2 : i < k
      · rw [if_pos h2, if_pos (by omega)]; simp
      · rw [if_neg h2, if_neg (by omega)]; simp
theorem wlast_onl {a : List (List Int)} (v : VT a) {i : Nat} (hi : i < a.length) : ∃ j, j < (gr a 0).length ∧ wlast a (onl a.length i) = (g2 a i j, 1) ∧ ∀ l, l < (gr a 0).length → g2 a i j ≤ g2 a i l := by
  have m1 := v.m1
  obtain ⟨j, hj, e, hl⟩ := wst_least a (onl a.length i) a.length (gr a 0).length (by rw [tot_onl hi]; omega) ((gr a 0).length - 1)
  have hc : ∀ l, l < (gr a 0).length → colU a (onl a.length i) a.length (gr a 0).length l = g2 a i l := fun l h => by
    rw [colU_dotc a _ _ _ l h, dotc_onl a l (Nat.le_refl _), if_pos hi]
  refine ⟨j, by omega, ?_, fun l h => ?_⟩
  · rw [wlast_n, e, tot_onl hi, hc j (by omega), (fr_one _).1, (fr_one _).2]
  · have := hl l (by omega); rw [hc j (by omega), hc l h] at this; exact this
theorem lst_le {r : List Int} {j : Nat} (h : j < r.length) : lst r ≤ gi r j := mn_le (by omega)
theorem lst_has {r : List Int} (h : 0 < r.length) : HasN r (lst r) := by
  obtain ⟨j, hj, e⟩ := mn_mem (xs := r) (r.length - 1)
  exact ⟨j, by omega, e.symm⟩
/-- The least of a row is no more than the value. -/
theorem row_le {a : List (List Int)} (v : VT a) {i : Nat} (hi : i < a.length) : lst (gr a i) * (vF a).2 ≤ (vF a).1 := by
  obtain ⟨j, hj, e, _⟩ := wlast_onl v hi
  have h := le_value v (onl_VS hi)
  rw [e] at h
  unfold leF at h
  have hd := (vF_bd v).2.1
  have h1 : lst (gr a i) ≤ g2 a i j := lst_le (by rw [VT.len v hi]; exact hj)
  have := Int.mul_le_mul_of_nonneg_right h1 (show (0 : Int) ≤ (vF a).2 by omega)
  simp only [Int.mul_one] at h
  omega
theorem bst_lt' {a : List (List Int)} (v : VT a) : bst a a.length < a.length := bst_lt a v.n1
theorem srAt_yes {a : List (List Int)} (v : VT a) : srAt a = (bst a a.length : Int) := by unfold srAt; rw [if_pos (pb_true v)]
theorem srNum_yes {a : List (List Int)} (v : VT a) : srNum a = lst (gr a (bst a a.length)) := by unfold srNum; rw [if_pos (pb_true v)]
theorem sr_no {a : List (List Int)} (v : ¬ VT a) : srAt a = 0 ∧ srNum a = 0 := by
  unfold srAt srNum; rw [if_neg (by rw [pb_false v]; decide), if_neg (by rw [pb_false v]; decide)]; exact ⟨rfl, rfl⟩
theorem lst_bd9 {a : List (List Int)} (v : VT a) {i : Nat} (hi : i < a.length) : -9 ≤ lst (gr a i) ∧ lst (gr a i) ≤ 9 := by
  have hl := VT.len v hi
  have m1 := v.m1
  obtain ⟨j, hj, e⟩ := lst_has (r := gr a i) (by omega)
  have := v.bd hi (j := j) (by omega)
  unfold g2 at this
  omega
end Go.Proofs.Ytokbdjhmldjapaa

/- A row under way: its numbers may be set; shares drawn. -/
namespace Go.Proofs.Ytokbdjhmldjapaa
open Go.RowKit

theorem BldI.set {lo hi w v xs} (h : BldI lo hi w v xs) {j : Nat} (hj : j < xs.length) (x : Int) :
    ∃ b c, v = .slice (some ⟨b, 0, none⟩) xs.length c ∧ lo ≤ b ∧ b < hi ∧ w.cell? ⟨b, j, none⟩ = some (.int .i64 (gi xs j)) ∧ w.frozen? ⟨b, j, none⟩ = false ∧
      BldI lo hi (w.setCell ⟨b, j, none⟩ (.int .i64 x)) v (xs.set j x) := by
  have hh := h.hi_
  rcases h.own.2 with ⟨_, h0⟩ | ⟨g, cap, cur, rfl, hb, hg, hnc, hcm, hcs, htake⟩
  · omega
  · rw [Nat.mul_one] at htake hcs
    have hB : Blk w g 3 cur := hg
    have hc : cur[j]? = some (.int .i64 (gi xs j)) := by
      rw [← getElem_iv hj, ← htake, List.getElem?_take, if_pos hj]; simp
    refine ⟨g, cap, rfl, hb, hh g rfl, blk_cell hB hc, blk_frozen hB j, ⟨⟨by simp, .inr ⟨g, cap, cur.setIfInBounds j (.int .i64 x), by rw [List.length_set], hb, blk_set hB j _, by rw [List.length_set]; exact hnc, hcm, by simp [hcs], ?_⟩⟩, hh⟩⟩
    rw [List.length_set, Nat.mul_one, Array.toList_setIfInBounds, List.take_set, htake, List.map_set]
    rfl

/-- A row by itself, begun behind the world wb. -/
def SH (w0 wb : World) (g : Nat) (A : Option Addr) (l c p : Nat) (u : Value) (ys : List Int) (w : World) : Prop := TI w0 wb g A l c p wb.heap.size (.slice none 0 0) [] [] u ys w
theorem SH.start {w0 wb g A l c p} (h : Rdr w0 wb g A l c p) : SH w0 wb g A l c p (.slice (some ⟨wb.heap.size, 0, none⟩) 0 0) [] (wb.alloc (.cells #[] 3)) :=
  ⟨h.below_ (below_alloc _ _), Bld.nil _ _ _, by rw [World.size_alloc]; exact BldI.make (Nat.le_refl _), blk_lt h.box, Nat.le_refl _, by simp, grown_of_below (below_alloc _ _)⟩
theorem SH.below {w0 wb g A l c p u ys w w'} (h : SH w0 wb g A l c p u ys w) (k : Below w.heap.size w w') : SH w0 wb g A l c p u ys w' :=
  ⟨h.rd.below_ k, Bld.nil _ _ _, (h.bi.below k).mono k.size, h.gl, h.lh, Nat.le_trans h.hs k.size, grown_below h.up k⟩
theorem SH.one {w0 wb g A l c p p' u ys w w'} (h : SH w0 wb g A l c p u ys w) (hr : Rdr w0 w' g A l c p') (ho : One g w w') : SH w0 wb g A l c p' u ys w' := TI.one h hr ho
theorem SH.set {w0 wb g A l c p u ys w} (h : SH w0 wb g A l c p u ys w) {j : Nat} (hj : j < ys.length) (x : Int) :
    ∃ b cc, u = .slice (some ⟨b, 0, none⟩) ys.length cc ∧ w.cell? ⟨b, j, none⟩ = some (.int .i64 (gi ys j)) ∧ w.frozen? ⟨b, j, none⟩ = false ∧ SH w0 wb g A l c p u (ys.set j x) (w.setCell ⟨b, j, none⟩ (.int .i64 x)) := by
  obtain ⟨b, cc, e, h1, h2, h3, h4, h5⟩ := h.bi.set hj x
  have hgl := h.gl
  have hs : (w.setCell ⟨b, j, none⟩ (.int .i64 x)).heap.size = w.heap.size := by simp [World.setCell]
  refine ⟨b, cc, e, h3, h4, ⟨⟨blk_other h.rd.box (by show g ≠ b; omega) _, h.rd.bytes, h.rd.below.setCell (by show w0.heap.size ≤ b; have := h.rd.lt; omega) _, h.rd.lt, h.rd.small⟩, Bld.nil _ _ _, by rw [hs]; exact h5, h.gl, h.lh, by rw [hs]; exact h.hs, ?_⟩⟩
  exact ⟨h.up.os, h.up.tape, h.up.output, by rw [hs]; exact h.up.size, fun k hk hne => (Below.heap_setCell _ _ _ _ (by show k ≠ b; omega)).trans (h.up.block k hk hne)⟩
def SharesOut (w0 wb : World) (g : Nat) (A : Option Addr) (l c p n : Nat) (e : Ending) (w' : World) : Prop :=
  ∃ Av cv ys p', e = .returned (.slice Av ys.length cv) ∧ ys.length ≤ n + 1 ∧ (∀ x ∈ ys, -1 ≤ x ∧ x ≤ 1001) ∧ SH w0 wb g A l c p' (.slice Av ys.length cv) ys w' ∧ p' ≤ p + 3 * n + 3

set_option maxRecDepth 100000 in
set_option maxHeartbeats 1000000 in
theorem sharesOf_any (w0 w : World) (g : Nat) (A : Option Addr) (l c p n : Nat) (h : Rdr w0 w g A l c p) (hp : p < 900000000) (hn : n ≤ 8) :
    Calls Try.prog 58 #[.pointer (some ⟨g, 0, none⟩), .int .i64 n] w (SharesOut w0 w g A l c p n) := by
  have HS := Lib.hid (SH.start h)
  clear h
  obtain ⟨i0, hi0, hz0, hz1, hz2⟩ := info_parts Try.info_int
  go_enter Try.func58, Try.ntmps58
  go_wp2
  go_loopw [5] (fun u wr => ∃ (ys : List Int) (q : Nat), ys.length ≤ n ∧ q ≤ p + 3 * ys.length ∧ Hid (∀ x ∈ ys, 0 ≤ x ∧ x ≤ 5) ∧ Hid (SH w0 w g A l c q u ys wr)) (fun u _ => n - (match u with | .slice _ k _ => k | _ => 0))
  case atStart => exact ⟨[], p, Nat.zero_le _, by simp, Lib.hid (fun r hr => by simp at hr), HS⟩
  case round =>
    clear HS
    obtain ⟨ys, q, hyn, hq, HR, HI⟩ := hrel
    obtain ⟨Au, cu, rfl⟩ := HI.out.bi.form
    by_cases hlt : ys.length < n
    · have HC := Lib.hid (pick_any w0 _ g A l c q 6 HI.out.rd (by omega))
      go_wp2_with fail
      refine HC.out.mono ?_
      rintro e w2 ⟨k, rfl, hk1, _, hr, z, hw⟩
      have hone := Rdr.one (g := g) wr (.int .i64 (q + 1 : Nat)) z
      rw [← hw] at hone
      obtain ⟨k0, k1⟩ := hk1 (by omega)
      have HI2 := Lib.hid (HI.out.one hr hone)
      clear hr hone hw hk1 HC HI
      have HC := Lib.hid (pick_any w0 _ g A l c (q + 1) 3 HI2.out.rd (by omega))
      go_wp2_with fail
      refine HC.out.mono ?_
      rintro e w3 ⟨m, rfl, hk1, _, hr, z, hw⟩
      have hone := Rdr.one (g := g) w2 (.int .i64 (q + 1 + 1 : Nat)) z
      rw [← hw] at hone
      obtain ⟨m0, m1⟩ := hk1 (by omega)
      have HI3 := Lib.hid (HI2.out.one hr hone)
      clear hr hone hw hk1 HC HI2
      have HI4 := Lib.hid (HI3.out.below (below_alloc w3 (.cells #[iv k, iv m, iv 0, iv 1] 3)))
      have HIN := Lib.hid (Ints.lit w3 [k, m, 0, 1] (by simp) (by intro x hx; simp at hx; omega))
      have hgw : g < w3.heap.size := blk_lt HI3.out.rd.box
      have HC := Lib.hid (one_any w0 (w3.alloc (.cells #[iv k, iv m, iv 0, iv 1] 3)) g A l c (q + 1 + 1) _ 4 4 [k, m, 0, 1] HI4.out.rd (by omega) HIN.out (by omega) (fun b' o' e' => by injection e' with e'; injection e' with e' _ _; omega))
      clear HI3 HIN
      go_wp2_with fail
      refine HC.out.mono ?_
      rintro e w4 ⟨x, rfl, hx, hr, ho⟩
      have hx5 : 0 ≤ x ∧ x ≤ 5 := by simp at hx; omega
      have HI5 := Lib.hid (HI4.out.one hr ho)
      clear hx hr ho HC HI4
      have hb := below_alloc w4 (.cells #[iv x] 3)
      have HB4 := Lib.hid (HI5.out.bi.below hb).own
      have HN := Lib.hid (cell_one_new w4 (iv x) 3)
      have hHs := HI5.out.hs
      clear hb
      go_wp2_with (at_builtin; refine wpList_append_own_at _ rfl _ _ 32 rfl w.heap.size 3 i0 (.int .i64 0) 1 8 Try.underlying32 hi0 hz0 hz1 hz2 rfl (by decide) _ ys.length (ys.map iv) rfl HB4.out ⟨w4.heap.size, 0, none⟩ 1 1 [iv x] rfl rfl ?c1 ?c2 ?c3 ?c4 ?c5 ?_)
      case c1 => exact HN.out
      case c2 => intro u hu; simp at hu; subst hu; rfl
      case c3 => unfold maxLen; omega
      case c4 => omega
      case c5 => simp; omega
      intro v' w5 hown' hgrow _ hat
      have HI6 := Lib.hid (show SH w0 w g A l c (q + 1 + 1 + 1) v' (ys ++ [x]) w5 from TI.push HI5.out hown' hgrow (by simpa using hat))
      clear HB4 HN hown' hgrow hat HI5
      obtain ⟨Au2, cu2, rfl⟩ := HI6.out.bi.form
      go_wp2
      go_roundw
      case rel => exact ⟨ys ++ [x], q + 1 + 1 + 1, by simp; omega, by simp; omega, Lib.hid (fun x hx => by
        rcases List.mem_append.1 hx with hx | hx
        · exact HR.out x hx
        · simp at hx; omega), HI6⟩
      case measure => simp; omega
    · have hnx : ys.length = n := by omega
      have HNX := Lib.hid hnx
      have HZB1 : Hid (∀ x ∈ ys, -1 ≤ x ∧ x ≤ 1001) := Lib.hid (fun x hx => by have := HR.out x hx; omega)
      rw [hnx] at hq
      have hyn8 : ys.length ≤ 8 := by omega
      generalize hN : ys.length = N at *
      have HYL := Lib.hid hN
      clear hN
      clear hnx
      by_cases hn0 : n = 0
      · have HZL := HYL
        have HZB := HZB1
        have HT := HI
        clear HI HZB1
        have HC := Lib.hid (pick_any w0 _ g A l c q 40 HT.out.rd (by omega))
        go_wp2_with fail
        refine HC.out.mono ?_
        rintro e w6 ⟨kk, rfl, hk1, _, hr, z, hw⟩
        have hone := Rdr.one (g := g) wr (.int .i64 (q + 1 : Nat)) z
        rw [← hw] at hone
        obtain ⟨k0, k1⟩ := hk1 (by omega)
        have HT2 := Lib.hid (SH.one HT.out hr hone)
        clear hr hone hw hk1 HC HT
        by_cases e0 : kk = 0
        · subst e0
          have hb := below_alloc w6 (.cells #[iv 1] 3)
          have HB4 := Lib.hid (HT2.out.bi.below hb).own
          have HN := Lib.hid (cell_one_new w6 (iv 1) 3)
          have hHs := HT2.out.hs
          have HZ := Lib.hid HZL.out
          rw [HZL.out] at HB4
          clear hb
          go_wp2_with (at_builtin; refine wpList_append_own_at _ rfl _ _ 32 rfl w.heap.size 3 i0 (.int .i64 0) 1 8 Try.underlying32 hi0 hz0 hz1 hz2 rfl (by decide) _ N (ys.map iv) rfl HB4.out ⟨w6.heap.size, 0, none⟩ 1 1 [iv 1] rfl rfl ?c1 ?c2 ?c3 ?c4 ?c5 ?_)
          case c1 => exact HN.out
          case c2 => intro u hu; simp at hu; subst hu; rfl
          case c3 => unfold maxLen; omega
          case c4 => omega
          case c5 => simp; omega
          intro v' w7 hown' hgrow _ hat
          rw [← HZ.out] at hown'
          have HI6 := Lib.hid (show SH w0 w g A l c (q + 1) v' (ys ++ [1]) w7 from TI.push HT2.out hown' hgrow (by simpa [Value.ownBlock] using hat))
          clear HB4 HN hown' hgrow hat HT2
          obtain ⟨Au2, cu2, rfl⟩ := HI6.out.bi.form
          go_wp2
          go_ret
          exact ⟨Au2, cu2, ys ++ [1], q + 1, rfl, by rw [List.length_append, HZ.out]; simp; omega, fun x hx => by
            rcases List.mem_append.1 hx with hx | hx
            · exact HZB.out x hx
            · simp at hx; omega, HI6.out, by omega⟩
        · by_cases e1 : kk = 1
          · subst e1
            go_wp2
            go_ret
            exact ⟨_, cu, ys, q + 1, by rw [HZL.out]; rfl, by rw [HZL.out]; omega, HZB.out, by rw [HZL.out]; exact HT2.out, by omega⟩
          · go_wp2
            go_ret
            exact ⟨_, cu, ys, q + 1, by rw [HZL.out]; rfl, by rw [HZL.out]; omega, HZB.out, by rw [HZL.out]; exact HT2.out, by omega⟩
      · have HSO := Lib.hid (show SumOk ys from ⟨by rw [HYL.out]; omega, fun j hj => by have := HR.out _ (gi_mem hj); omega⟩)
        obtain ⟨A', n', c', g', e, -, ho, -⟩ := HI.out.bi.owns (by rw [HYL.out]; omega) (fun x hx => by have := HR.out x hx; omega)
        injection e with e1 e2 e3
        subst e1
        subst e2
        subst e3
        have HC := Lib.hid (sum_any _ _ _ ys _ ho.ints HSO.out)
        clear ho
        go_wp2_with fail
        refine HC.out.mono ?_
        rintro e w3 ⟨rfl, qq, rfl⟩
        have HI2 := Lib.hid (HI.out.below (below_drewN (Below.refl _ _) qq))
        clear HC HI
        by_cases hs0 : tot ys = 0
        · have hs0' : (tot ys == 0) = true := by simpa using hs0
          have HC := Lib.hid (pick_any w0 _ g A l c q n HI2.out.rd (by omega))
          clear hs0
          go_wp2_with fail
          refine HC.out.mono ?_
          rintro e w5 ⟨k, rfl, hk1, _, hr, z, hw⟩
          have hone := Rdr.one (g := g) (wr.drewN qq) (.int .i64 (q + 1 : Nat)) z
          rw [← hw] at hone
          obtain ⟨k0, k1⟩ := hk1 (by omega)
          have HI3 := Lib.hid (HI2.out.one hr hone)
          clear hr hone hw hk1 HC HI2
          obtain ⟨k, rfl⟩ := Int.eq_ofNat_of_zero_le k0
          have hkl : k < ys.length := by rw [HYL.out, HNX.out]; omega
          obtain ⟨b0, cc0, e, hc0, hf0, hset⟩ := HI3.out.set (j := k) hkl 1
          injection e with e1 e2 e3
          subst e1
          have HT := Lib.hid hset
          have HZL := Lib.hid (show (ys.set k 1).length = N by rw [List.length_set, HYL.out])
          have HZB : Hid (∀ x ∈ ys.set k 1, -1 ≤ x ∧ x ≤ 1001) := Lib.hid (fun y hy => by
            rcases List.mem_or_eq_of_mem_set hy with hy | rfl
            · exact HZB1.out y hy
            · omega)
          clear hset HI3 e2 e3 HZB1
          generalize ys.set k 1 = zs at *
          go_wp2_with fail
          clear hc0 hf0
          generalize (some (⟨b0, 0, none⟩ : Addr)) = Au at *
          have HC := Lib.hid (pick_any w0 _ g A l c (q + 1) 40 HT.out.rd (by omega))
          go_wp2_with fail
          refine HC.out.mono ?_
          rintro e w6 ⟨kk, rfl, hk1, _, hr, z, hw⟩
          have hone := Rdr.one (g := g) (w5.setCell ⟨b0, k, none⟩ (.int .i64 1)) (.int .i64 ((q + 1) + 1 : Nat)) z
          rw [← hw] at hone
          obtain ⟨k0, k1⟩ := hk1 (by omega)
          have HT2 := Lib.hid (SH.one HT.out hr hone)
          clear hr hone hw hk1 HC HT
          by_cases e0 : kk = 0
          · subst e0
            have hb := below_alloc w6 (.cells #[iv 1] 3)
            have HB4 := Lib.hid (HT2.out.bi.below hb).own
            have HN := Lib.hid (cell_one_new w6 (iv 1) 3)
            have hHs := HT2.out.hs
            have HZ := Lib.hid HZL.out
            rw [HZL.out] at HB4
            clear hb
            go_wp2_with (at_builtin; refine wpList_append_own_at _ rfl _ _ 32 rfl w.heap.size 3 i0 (.int .i64 0) 1 8 Try.underlying32 hi0 hz0 hz1 hz2 rfl (by decide) _ N (zs.map iv) rfl HB4.out ⟨w6.heap.size, 0, none⟩ 1 1 [iv 1] rfl rfl ?c1 ?c2 ?c3 ?c4 ?c5 ?_)
            case c1 => exact HN.out
            case c2 => intro u hu; simp at hu; subst hu; rfl
            case c3 => unfold maxLen; omega
            case c4 => omega
            case c5 => simp; omega
            intro v' w7 hown' hgrow _ hat
            rw [← HZ.out] at hown'
            have HI6 := Lib.hid (show SH w0 w g A l c ((q + 1) + 1) v' (zs ++ [1]) w7 from TI.push HT2.out hown' hgrow (by simpa [Value.ownBlock] using hat))
            clear HB4 HN hown' hgrow hat HT2
            obtain ⟨Au2, cu2, rfl⟩ := HI6.out.bi.form
            go_wp2
            go_ret
            exact ⟨Au2, cu2, zs ++ [1], (q + 1) + 1, rfl, by rw [List.length_append, HZ.out]; simp; omega, fun x hx => by
              rcases List.mem_append.1 hx with hx | hx
              · exact HZB.out x hx
              · simp at hx; omega, HI6.out, by omega⟩
          · by_cases e1 : kk = 1
            · subst e1
              have HI4 := Lib.hid (HT2.out.below (below_alloc w6 (.cells #[iv 1001, iv (-1), iv 1000] 3)))
              have HIN := Lib.hid (Ints.lit w6 [1001, -1, 1000] (by simp) (by intro x hx; simp at hx; omega))
              have hgw : g < w6.heap.size := blk_lt HT2.out.rd.box
              have HC := Lib.hid (one_any w0 (w6.alloc (.cells #[iv 1001, iv (-1), iv 1000] 3)) g A l c ((q + 1) + 1) _ 3 3 [1001, -1, 1000] HI4.out.rd (by omega) HIN.out (by omega) (fun b' o' e' => by injection e' with e'; injection e' with e' _ _; omega))
              clear HIN HT2
              go_wp2_with fail
              refine HC.out.mono ?_
              rintro e w7 ⟨x, rfl, hx, hr, ho⟩
              have hx5 : -1 ≤ x ∧ x ≤ 1001 := by simp at hx; omega
              have HI5 := Lib.hid (HI4.out.one hr ho)
              clear hx hr ho HC HI4
              obtain ⟨b0, cc0, e, hc0, hf0, hset⟩ := HI5.out.set (j := 0) (by rw [HZL.out]; omega) x
              injection e with e1 e2 e3
              subst e1
              have HI6 := Lib.hid hset
              clear hset HI5 e2 e3
              go_wp2
              go_ret
              exact ⟨_, cu, zs.set 0 x, (q + 1) + 1 + 1, by rw [List.length_set, HZL.out]; rfl, by rw [List.length_set, HZL.out]; omega, fun y hy => by
                rcases List.mem_or_eq_of_mem_set hy with hy | rfl
                · exact HZB.out y hy
                · exact hx5, by rw [List.length_set, HZL.out]; exact HI6.out, by omega⟩
            · go_wp2
              go_ret
              exact ⟨_, cu, zs, (q + 1) + 1, by rw [HZL.out]; rfl, by rw [HZL.out]; omega, HZB.out, by rw [HZL.out]; exact HT2.out, by omega⟩
        · have hs0' : (tot ys == 0) = false := by simpa using hs0
          have HZL := HYL
          have HZB := HZB1
          have HT := HI2
          clear HI2 HZB1 hs0
          have HC := Lib.hid (pick_any w0 _ g A l c q 40 HT.out.rd (by omega))
          go_wp2_with fail
          refine HC.out.mono ?_
          rintro e w6 ⟨kk, rfl, hk1, _, hr, z, hw⟩
          have hone := Rdr.one (g := g) (wr.drewN qq) (.int .i64 (q + 1 : Nat)) z
          rw [← hw] at hone
          obtain ⟨k0, k1⟩ := hk1 (by omega)
          have HT2 := Lib.hid (SH.one HT.out hr hone)
          clear hr hone hw hk1 HC HT
          by_cases e0 : kk = 0
          · subst e0
            have hb := below_alloc w6 (.cells #[iv 1] 3)
            have HB4 := Lib.hid (HT2.out.bi.below hb).own
            have HN := Lib.hid (cell_one_new w6 (iv 1) 3)
            have hHs := HT2.out.hs
            have HZ := Lib.hid HZL.out
            rw [HZL.out] at HB4
            clear hb
            go_wp2_with (at_builtin; refine wpList_append_own_at _ rfl _ _ 32 rfl w.heap.size 3 i0 (.int .i64 0) 1 8 Try.underlying32 hi0 hz0 hz1 hz2 rfl (by decide) _ N (ys.map iv) rfl HB4.out ⟨w6.heap.size, 0, none⟩ 1 1 [iv 1] rfl rfl ?c1 ?c2 ?c3 ?c4 ?c5 ?_)
            case c1 => exact HN.out
            case c2 => intro u hu; simp at hu; subst hu; rfl
            case c3 => unfold maxLen; omega
            case c4 => omega
            case c5 => simp; omega
            intro v' w7 hown' hgrow _ hat
            rw [← HZ.out] at hown'
            have HI6 := Lib.hid (show SH w0 w g A l c (q + 1) v' (ys ++ [1]) w7 from TI.push HT2.out hown' hgrow (by simpa [Value.ownBlock] using hat))
            clear HB4 HN hown' hgrow hat HT2
            obtain ⟨Au2, cu2, rfl⟩ := HI6.out.bi.form
            go_wp2
            go_ret
            exact ⟨Au2, cu2, ys ++ [1], q + 1, rfl, by rw [List.length_append, HZ.out]; simp; omega, fun x hx => by
              rcases List.mem_append.1 hx with hx | hx
              · exact HZB.out x hx
              · simp at hx; omega, HI6.out, by omega⟩
          · by_cases e1 : kk = 1
            · subst e1
              have HI4 := Lib.hid (HT2.out.below (below_alloc w6 (.cells #[iv 1001, iv (-1), iv 1000] 3)))
              have HIN := Lib.hid (Ints.lit w6 [1001, -1, 1000] (by simp) (by intro x hx; simp at hx; omega))
              have hgw : g < w6.heap.size := blk_lt HT2.out.rd.box
              have HC := Lib.hid (one_any w0 (w6.alloc (.cells #[iv 1001, iv (-1), iv 1000] 3)) g A l c (q + 1) _ 3 3 [1001, -1, 1000] HI4.out.rd (by omega) HIN.out (by omega) (fun b' o' e' => by injection e' with e'; injection e' with e' _ _; omega))
              clear HIN HT2
              go_wp2_with fail
              refine HC.out.mono ?_
              rintro e w7 ⟨x, rfl, hx, hr, ho⟩
              have hx5 : -1 ≤ x ∧ x ≤ 1001 := by simp at hx; omega
              have HI5 := Lib.hid (HI4.out.one hr ho)
              clear hx hr ho HC HI4
              obtain ⟨b0, cc0, e, hc0, hf0, hset⟩ := HI5.out.set (j := 0) (by rw [HZL.out]; omega) x
              injection e with e1 e2 e3
              subst e1
              have HI6 := Lib.hid hset
              clear hset HI5 e2 e3
              go_wp2
              go_ret
              exact ⟨_, cu, ys.set 0 x, q + 1 + 1, by rw [List.length_set, HZL.out]; rfl, by rw [List.length_set, HZL.out]; omega, fun y hy => by
                rcases List.mem_or_eq_of_mem_set hy with hy | rfl
                · exact HZB.out y hy
                · exact hx5, by rw [List.length_set, HZL.out]; exact HI6.out, by omega⟩
            · go_wp2
              go_ret
              exact ⟨_, cu, ys, q + 1, by rw [HZL.out]; rfl, by rw [HZL.out]; omega, HZB.out, by rw [HZL.out]; exact HT2.out, by omega⟩
end Go.Proofs.Ytokbdjhmldjapaa

/- A table and shares, drawn from bytes. -/
namespace Go.Proofs.Ytokbdjhmldjapaa
open Go.RowKit

theorem OwnR.grown {lo hi w w' b A n c xss} {g : Nat} (h : OwnR lo hi w b A n c xss) (k : w.grownBy w' (some g)) (hg : g < lo) : OwnR lo hi w' b A n c xss :=
  h.of_blocks fun i h1 _ h3 => k.block i h3 (fun e => by injection e with e; omega)
theorem OwnI.grown {lo hi w w' b A n c xs} {g : Nat} (h : OwnI lo hi w b A n c xs) (k : w.grownBy w' (some g)) (hg : g < lo) : OwnI lo hi w' b A n c xs :=
  h.of_block fun hn => k.block _ (h.lt hn) (fun e => by obtain ⟨_, _, q, _⟩ := h.own hn; injection e with e; omega)
theorem Picked.one {w0 g A l c p n w e w'} (h : Picked w0 g A l c p n w e w') : ∃ m : Int, e = .returned (.int .i64 m) ∧ (1 ≤ n → 0 ≤ m ∧ m < n) ∧ Rdr w0 w' g A l c (p + 1) ∧ w.grownBy w' (some g) := by
  obtain ⟨m, h1, h2, _, h4, q, rfl⟩ := h
  exact ⟨m, h1, h2, h4, ⟨rfl, rfl, rfl, by simp [World.setCell], fun k _ hne => Below.heap_setCell _ _ _ _ (fun e => hne (by rw [e]))⟩⟩

/-- A table and shares. -/
def DrawnTS (w : World) (e : Ending) (w' : World) : Prop :=
  ∃ Av n c gg xss Bv m cb ys, e = .returned (.tuple #[.slice Av n c, .slice Bv m cb]) ∧ Small xss ∧ OwnR w.heap.size w'.heap.size w' gg Av n c xss ∧ Ints w' Bv m cb ys ∧ Below w.heap.size w w'
/-- A table and shares of both players. -/
def DrawnTSS (w : World) (e : Ending) (w' : World) : Prop :=
  ∃ Av n c gg xss Bv m cb xs Cv l cc ys, e = .returned (.tuple #[.slice Av n c, .slice Bv m cb, .slice Cv l cc]) ∧ Small xss ∧ OwnR w.heap.size w'.heap.size w' gg Av n c xss ∧ Ints w' Bv m cb xs ∧ Ints w' Cv l cc ys ∧ Below w.heap.size w w'

set_option maxRecDepth 100000 in
set_option maxHeartbeats 1000000 in
theorem DrawWorstOf_any (A : Option Addr) (n c : Nat) (w : World) (h : Bytes w A n c) :
    Calls Try.prog 30 #[.slice A n c] w (DrawnTS w) := by
  have H0 := Lib.hid (newReader_any A n c w h)
  clear h
  go_enter Try.func30, Try.ntmps30
  go_wp2_with fail
  refine H0.out.mono ?_
  rintro e w1 ⟨A1, l, c1, rfl, hl, hr, hs⟩
  have H1 := Lib.hid (someTable_any w w1 w.heap.size A1 l c1 0 hr (by omega))
  clear hr hl H0
  go_wp2_with fail
  refine H1.out.mono ?_
  rintro e w2 ⟨wb, v', vs', xss', p', rfl, hsm, hto, hp, hg⟩
  have hsz := hg.size
  obtain ⟨Av, nv, cv, gg, rfl, hnv, hown⟩ := hto.bo.owns (by have := hsm.n; omega)
  have HO := Lib.hid (hown.mono (show w.heap.size + 1 ≤ wb.heap.size by have := hto.gl; omega) (Nat.le_refl _))
  have HB := Lib.hid hto.rd.below
  have HS := Lib.hid hsm
  have hn8 : nv ≤ 8 := by rw [hnv]; exact hsm.n
  have HC := Lib.hid (sharesOf_any w w2 w.heap.size A1 l c1 p' nv hto.rd (by omega) hn8)
  clear hsm hto hown hg H1 hnv
  go_wp2_with fail
  refine HC.out.mono ?_
  rintro e w4 ⟨Bv, cb, ys, p2, rfl, hyl, hyb, hsh, hp'⟩
  obtain ⟨A', n', c', g', e, -, ho, -⟩ := hsh.bi.owns (by omega) (fun x hx => by have := hyb x hx; omega)
  injection e with e1 e2 e3
  subst e1
  subst e2
  subst e3
  have HI := Lib.hid ho.ints
  have HB4 := Lib.hid hsh.rd.below
  have HO4 := Lib.hid ((HO.out.grown hsh.up (by omega)).mono (Nat.le_succ _) hsh.up.size)
  clear hsh ho HC hyb HO HB
  go_wp2
  go_ret2
  exact ⟨Av, nv, cv, gg, xss', Bv, _, cb, ys, rfl, HS.out, HO4.out, HI.out, HB4.out⟩
set_option maxRecDepth 100000 in
set_option maxHeartbeats 2000000 in
theorem DrawPayOf_any (A : Option Addr) (n c : Nat) (w : World) (h : Bytes w A n c) :
    Calls Try.prog 22 #[.slice A n c] w (DrawnTSS w) := by
  have H0 := Lib.hid (newReader_any A n c w h)
  clear h
  go_enter Try.func22, Try.ntmps22
  go_wp2_with fail
  refine H0.out.mono ?_
  rintro e w1 ⟨A1, l, c1, rfl, hl, hr, hs⟩
  have H1 := Lib.hid (someTable_any w w1 w.heap.size A1 l c1 0 hr (by omega))
  clear hr hl H0
  go_wp2_with fail
  refine H1.out.mono ?_
  rintro e w2 ⟨wb, v', vs', xss', p', rfl, hsm, hto, hp, hg⟩
  have hsz := hg.size
  obtain ⟨Av, nv, cv, gg, rfl, hnv, hown⟩ := hto.bo.owns (by have := hsm.n; omega)
  have HO := Lib.hid (hown.mono (show w.heap.size + 1 ≤ wb.heap.size by have := hto.gl; omega) (Nat.le_refl _))
  have HRD := Lib.hid hto.rd
  have HS := Lib.hid hsm
  have HLV := Lib.hid hnv
  have hn8 : nv ≤ 8 := by rw [hnv]; exact hsm.n
  clear hsm hto hown hg H1 hnv
  by_cases hv : VT xss'
  · have HV := Lib.hid hv
    have hm1 := hv.m1
    have hm3 := hv.m3
    have hn1 := hv.n1
    rw [← HLV.out] at hn1
    have HC := Lib.hid (pb_true hv ▸ validTable_any _ _ _ _ w2 HO.out.rows)
    clear hv
    go_wp2_with fail
    refine HC.out.mono ?_
    rintro e w3 ⟨rfl, hq⟩
    have HO3 := Lib.hid (HO.out.quiet hq)
    have HR3 := Lib.hid (HRD.out.quiet hq)
    have hz3 : w2.heap.size ≤ w3.heap.size := (hq.below (B := 0)).size
    clear hq HC HO HRD
    have HC := Lib.hid (sharesOf_any w w3 w.heap.size A1 l c1 p' nv HR3.out (by omega) hn8)
    go_wp2_with fail
    refine HC.out.mono ?_
    rintro e w4 ⟨Bv, cb, ys, p2, rfl, hyl, hyb, hsh, hp2⟩
    obtain ⟨A', n', c', g', e, -, ho, -⟩ := hsh.bi.owns (by omega) (fun x hx => by have := hyb x hx; omega)
    injection e with e1 e2 e3
    subst e1
    subst e2
    subst e3
    have HI := Lib.hid (ho.mono (show w.heap.size + 1 ≤ w3.heap.size by have := blk_lt HR3.out.box; omega) (Nat.le_refl _))
    have HR4 := Lib.hid hsh.rd
    have hz4 := hsh.up.size
    have HO4 := Lib.hid ((HO3.out.grown hsh.up (by omega)).mono (Nat.le_refl _) (Nat.le_trans hz3 hsh.up.size))
    clear hsh ho HC hyb HO3 HR3
    obtain ⟨b, o, rb, ro, cc, rfl, tab⟩ := HO4.out.rows.tab HV.out
    have hrow := tab.row 0 (by omega)
    simp only [Nat.add_zero] at hrow
    have HC := Lib.hid (sharesOf_any w w4 w.heap.size A1 l c1 p2 (gr xss' 0).length HR4.out (by omega) (by omega))
    clear tab
    go_wp2_with fail
    refine HC.out.mono ?_
    rintro e w5 ⟨Cv, cx, zs, p3, rfl, hzl, hzb, hsh, hp3⟩
    obtain ⟨A', n', c', g', e, -, ho, -⟩ := hsh.bi.owns (by omega) (fun x hx => by have := hzb x hx; omega)
    injection e with e1 e2 e3
    subst e1
    subst e2
    subst e3
    have HJ := Lib.hid (ho.mono (show w.heap.size + 1 ≤ w4.heap.size by have := blk_lt HR4.out.box; omega) (Nat.le_refl _))
    have HI5 := Lib.hid (HI.out.grown hsh.up (by omega))
    have HR5 := Lib.hid hsh.rd
    have HO5 := Lib.hid ((HO4.out.grown hsh.up (by omega)).mono (Nat.le_refl _) hsh.up.size)
    clear hsh ho HC hzb HO4 HR4 hrow HI
    have HC := Lib.hid (pick_any w w5 w.heap.size A1 l c1 p3 3 HR5.out (by omega))
    go_wp2_with fail
    refine HC.out.mono ?_
    rintro e w6 hpk
    obtain ⟨m, rfl, hm, hrd, hgr⟩ := hpk.one
    have HR6 := Lib.hid hrd
    have HO6 := Lib.hid ((HO5.out.grown hgr (by omega)).mono (Nat.le_refl _) hgr.size)
    have HI6 := Lib.hid (HI5.out.grown hgr (by omega))
    have HJ6 := Lib.hid (HJ.out.grown hgr (by omega))
    clear hpk hrd hgr HC HR5 HO5 HI5 HJ hm
    by_cases h0 : m = 0
    · have hz : (m == 0) = true := by simpa using h0
      clear h0
      have HC := Lib.hid (value_any _ nv cv xss' w6 HO6.out.rows HV.out)
      go_wp2_with fail
      refine HC.out.mono ?_
      rintro e w7 ⟨B1, d1, B2, d2, rfl, i1, i2, hb⟩
      have K1 := Lib.hid i1
      have K2 := Lib.hid i2
      have HB7 := Lib.hid (below_up HR6.out.below hb)
      have HO7 := Lib.hid ((HO6.out.below hb).mono (Nat.le_succ _) hb.size)
      clear i1 i2 hb HC hz HO6 HI6 HJ6 HR6
      go_wp2
      go_ret3
      exact ⟨_, nv, cv, gg, xss', B1, _, d1, _, B2, _, d2, _, rfl, HS.out, HO7.out, K1.out, K2.out, HB7.out⟩
    · have hz : (m == 0) = false := by simpa using h0
      clear h0
      go_wp2
      go_ret3
      exact ⟨_, nv, cv, gg, xss', Bv, _, cb, ys, Cv, _, cx, zs, rfl, HS.out, HO6.out.mono (Nat.le_succ _) (Nat.le_refl _), HI6.out.ints, HJ6.out.ints, HR6.out.below⟩
  · have HC := Lib.hid (pb_false hv ▸ validTable_any _ _ _ _ w2 HO.out.rows)
    clear hv
    go_wp2_with fail
    refine HC.out.mono ?_
    rintro e w3 ⟨rfl, hq⟩
    have HO3 := Lib.hid (HO.out.quiet hq)
    have HB3 := Lib.hid (below_quiet HRD.out.below hq)
    have hz3 : w2.heap.size ≤ w3.heap.size := (hq.below (B := 0)).size
    clear hq HC HO HRD
    have ha := below_alloc w3 (.cells #[iv 1] 3)
    have hb := below_alloc (w3.alloc (.cells #[iv 1] 3)) (.cells #[iv 1] 3)
    have HI := Lib.hid ((Ints.lit w3 [1] (by decide) (by decide)).keep (Keep.below hb))
    have hj := Ints.lit (w3.alloc (.cells #[iv 1] 3)) [1] (by decide) (by decide)
    rw [World.size_alloc] at hj
    have HJ := Lib.hid hj
    clear hj
    have HO5 := Lib.hid ((((HO3.out.mono (Nat.le_refl _) hz3).below ha).mono (Nat.le_refl _) ha.size |>.below hb).mono (Nat.le_succ _) hb.size)
    have HB5 := Lib.hid (below_up (below_up HB3.out ha) hb)
    clear ha hb HO3 HB3
    go_wp2
    go_ret3
    exact ⟨Av, nv, cv, gg, xss', _, 1, 1, [1], _, 1, 1, [1], rfl, HS.out, HO5.out, HI.out, HJ.out, HB5.out⟩
set_option maxRecDepth 100000 in
set_option maxHeartbeats 2000000 in
theorem DrawAreBest_any (A : Option Addr) (n c : Nat) (w : World) (h : Bytes w A n c) :
    Calls Try.prog 35 #[.slice A n c] w (DrawnTSS w) := by
  have H0 := Lib.hid (newReader_any A n c w h)
  clear h
  go_enter Try.func35, Try.ntmps35
  go_wp2_with fail
  refine H0.out.mono ?_
  rintro e w1 ⟨A1, l, c1, rfl, hl, hr, hs⟩
  have H1 := Lib.hid (someTable_any w w1 w.heap.size A1 l c1 0 hr (by omega))
  clear hr hl H0
  go_wp2_with fail
  refine H1.out.mono ?_
  rintro e w2 ⟨wb, v', vs', xss', p', rfl, hsm, hto, hp, hg⟩
  have hsz := hg.size
  obtain ⟨Av, nv, cv, gg, rfl, hnv, hown⟩ := hto.bo.owns (by have := hsm.n; omega)
  have HO := Lib.hid (hown.mono (show w.heap.size + 1 ≤ wb.heap.size by have := hto.gl; omega) (Nat.le_refl _))
  have HRD := Lib.hid hto.rd
  have HS := Lib.hid hsm
  have HLV := Lib.hid hnv
  have hn8 : nv ≤ 8 := by rw [hnv]; exact hsm.n
  clear hsm hto hown hg H1 hnv
  by_cases hv : VT xss'
  · have HV := Lib.hid hv
    have hm1 := hv.m1
    have hm3 := hv.m3
    have hn1 := hv.n1
    rw [← HLV.out] at hn1
    have HC := Lib.hid (pb_true hv ▸ validTable_any _ _ _ _ w2 HO.out.rows)
    clear hv
    go_wp2_with fail
    refine HC.out.mono ?_
    rintro e w3 ⟨rfl, hq⟩
    have HO3 := Lib.hid (HO.out.quiet hq)
    have HR3 := Lib.hid (HRD.out.quiet hq)
    have hz3 : w2.heap.size ≤ w3.heap.size := (hq.below (B := 0)).size
    clear hq HC HO HRD
    have HC := Lib.hid (sharesOf_any w w3 w.heap.size A1 l c1 p' nv HR3.out (by omega) hn8)
    go_wp2_with fail
    refine HC.out.mono ?_
    rintro e w4 ⟨Bv, cb, ys, p2, rfl, hyl, hyb, hsh, hp2⟩
    obtain ⟨A', n', c', g', e, -, ho, -⟩ := hsh.bi.owns (by omega) (fun x hx => by have := hyb x hx; omega)
    injection e with e1 e2 e3
    subst e1
    subst e2
    subst e3
    have HI := Lib.hid (ho.mono (show w.heap.size + 1 ≤ w3.heap.size by have := blk_lt HR3.out.box; omega) (Nat.le_refl _))
    have HR4 := Lib.hid hsh.rd
    have hz4 := hsh.up.size
    have HO4 := Lib.hid ((HO3.out.grown hsh.up (by omega)).mono (Nat.le_refl _) (Nat.le_trans hz3 hsh.up.size))
    clear hsh ho HC hyb HO3 HR3
    obtain ⟨b, o, rb, ro, cc, rfl, tab⟩ := HO4.out.rows.tab HV.out
    have hrow := tab.row 0 (by omega)
    simp only [Nat.add_zero] at hrow
    have HC := Lib.hid (sharesOf_any w w4 w.heap.size A1 l c1 p2 (gr xss' 0).length HR4.out (by omega) (by omega))
    clear tab
    go_wp2_with fail
    refine HC.out.mono ?_
    rintro e w5 ⟨Cv, cx, zs, p3, rfl, hzl, hzb, hsh, hp3⟩
    obtain ⟨A', n', c', g', e, -, ho, -⟩ := hsh.bi.owns (by omega) (fun x hx => by have := hzb x hx; omega)
    injection e with e1 e2 e3
    subst e1
    subst e2
    subst e3
    have HJ := Lib.hid (ho.mono (show w.heap.size + 1 ≤ w4.heap.size by have := blk_lt HR4.out.box; omega) (Nat.le_refl _))
    have HI5 := Lib.hid (HI.out.grown hsh.up (by omega))
    have HR5 := Lib.hid hsh.rd
    have HO5 := Lib.hid ((HO4.out.grown hsh.up (by omega)).mono (Nat.le_refl _) hsh.up.size)
    clear hsh ho HC hzb HO4 HR4 hrow HI
    have HC := Lib.hid (pick_any w w5 w.heap.size A1 l c1 p3 3 HR5.out (by omega))
    go_wp2_with fail
    refine HC.out.mono ?_
    rintro e w6 hpk
    obtain ⟨m, rfl, hm, hrd, hgr⟩ := hpk.one
    have HR6 := Lib.hid hrd
    have HO6 := Lib.hid ((HO5.out.grown hgr (by omega)).mono (Nat.le_refl _) hgr.size)
    have HI6 := Lib.hid (HI5.out.grown hgr (by omega))
    have HJ6 := Lib.hid (HJ.out.grown hgr (by omega))
    clear hpk hrd hgr HC HR5 HO5 HI5 HJ hm
    by_cases h0 : m = 0
    · have hz : (m == 0) = true := by simpa using h0
      clear h0
      have HC := Lib.hid (value_any _ nv cv xss' w6 HO6.out.rows HV.out)
      go_wp2_with fail
      refine HC.out.mono ?_
      rintro e w7 ⟨B1, d1, B2, d2, rfl, i1, i2, hb⟩
      have K1 := Lib.hid i1
      have K2 := Lib.hid i2
      have HB7 := Lib.hid (below_up HR6.out.below hb)
      have HO7 := Lib.hid ((HO6.out.below hb).mono (Nat.le_succ _) hb.size)
      clear i1 i2 hb HC hz HO6 HI6 HJ6 HR6
      go_wp2
      go_ret3
      exact ⟨_, nv, cv, gg, xss', B1, _, d1, _, B2, _, d2, _, rfl, HS.out, HO7.out, K1.out, K2.out, HB7.out⟩
    · have hz : (m == 0) = false := by simpa using h0
      clear h0
      go_wp2
      go_ret3
      exact ⟨_, nv, cv, gg, xss', Bv, _, cb, ys, Cv, _, cx, zs, rfl, HS.out, HO6.out.mono (Nat.le_succ _) (Nat.le_refl _), HI6.out.ints, HJ6.out.ints, HR6.out.below⟩
  · have HC := Lib.hid (pb_false hv ▸ validTable_any _ _ _ _ w2 HO.out.rows)
    clear hv
    go_wp2_with fail
    refine HC.out.mono ?_
    rintro e w3 ⟨rfl, hq⟩
    have HO3 := Lib.hid (HO.out.quiet hq)
    have HB3 := Lib.hid (below_quiet HRD.out.below hq)
    have hz3 : w2.heap.size ≤ w3.heap.size := (hq.below (B := 0)).size
    clear hq HC HO HRD
    have ha := below_alloc w3 (.cells #[iv 1] 3)
    have hb := below_alloc (w3.alloc (.cells #[iv 1] 3)) (.cells #[iv 1] 3)
    have HI := Lib.hid ((Ints.lit w3 [1] (by decide) (by decide)).keep (Keep.below hb))
    have hj := Ints.lit (w3.alloc (.cells #[iv 1] 3)) [1] (by decide) (by decide)
    rw [World.size_alloc] at hj
    have HJ := Lib.hid hj
    clear hj
    have HO5 := Lib.hid ((((HO3.out.mono (Nat.le_refl _) hz3).below ha).mono (Nat.le_refl _) ha.size |>.below hb).mono (Nat.le_succ _) hb.size)
    have HB5 := Lib.hid (below_up (below_up HB3.out ha) hb)
    clear ha hb HO3 HB3
    go_wp2
    go_ret3
    exact ⟨Av, nv, cv, gg, xss', _, 1, 1, [1], _, 1, 1, [1], rfl, HS.out, HO5.out, HI.out, HJ.out, HB5.out⟩
end Go.Proofs.Ytokbdjhmldjapaa

/- Means are means of means. Plain. -/
namespace Go.Proofs.Ytokbdjhmldjapaa
open V (sumN)

theorem fr_mul {u d v e : Int} (hd : 0 < d) (he : 0 < e) : frU (frU u d * frU v e) (frD u d * frD v e) = frU (u * v) (d * e) ∧ frD (frU u d * frU v e) (frD u d * frD v e) = frD (u * v) (d * e) := by
  refine fr_eq (Int.mul_pos (frD_pos hd) (frD_pos he)) (Int.mul_pos hd he) ?_
  have h1 := fr_ratio u d
  have h2 := fr_ratio v e
  generalize frU u d = a at *
  generalize frD u d = b at *
  generalize frU v e = c at *
  generalize frD v e = f at *
  grind
theorem fr_add {u d v e : Int} (hd : 0 < d) (he : 0 < e) : frU (frU u d * frD v e + frU v e * frD u d) (frD u d * frD v e) = frU (u * e + v * d) (d * e) ∧
    frD (frU u d * frD v e + frU v e * frD u d) (frD u d * frD v e) = frD (u * e + v * d) (d * e) := by
  refine fr_eq (Int.mul_pos (frD_pos hd) (frD_pos he)) (Int.mul_pos hd he) ?_
  have h1 := fr_ratio u d
  have h2 := fr_ratio v e
  generalize frU u d = a at *
  generalize frD u d = b at *
  generalize frU v e = c at *
  generalize frD v e = f at *
  grind
/-- The sum of a row with the shares of the columns. -/
def rowY (a : List (List Int)) (y : List Int) (m i : Nat) : Int := sumN (fun j => gi y j * g2 a i j) m
theorem payR_rowY (a : List (List Int)) (x y : List Int) (i : Nat) : ∀ m, payR a x y i m = gi x i * rowY a y m i
  | 0 => by simp [payR, rowY, sumN]
  | m + 1 => by
    have ih := payR_rowY a x y i m
    unfold rowY at ih ⊢
    rw [payR, sumN, ih, Int.mul_add, Int.mul_assoc]
theorem payU_succ (a : List (List Int)) (x y : List Int) (m k : Nat) : payU a x y m (k + 1) = payU a x y m k + gi x k * rowY a y m k := by rw [payU, payR_rowY]
theorem payU_onl (a : List (List Int)) (y : List Int) (m : Nat) {n i : Nat} : ∀ {k}, k ≤ n → payU a (onl n i) y m k = if i < k then rowY a y m i else 0
  | 0, _ => by simp [payU]
  | k + 1, h => by
    rw [payU_succ, payU_onl a y m (k := k) (by omega), gi_onl (by omega)]
    by_cases e : k = i
    · subst e; rw [if_neg (by omega), if_pos rfl, if_pos (by omega)]; omega
    · rw [if_neg e]
      by_cases h2 : i < k
      · rw [if_pos h2, if_pos (by omega)]; omega
      · rw [if_neg h2, if_neg (by omega)]; omega
theorem rowY_bd {a x y n m} (h : PB a x y n m) (hm : m ≤ 3) {i : Nat} (hi : i < n) : -27000 ≤ rowY a y m i ∧ rowY a y m i ≤ 27000 := by
  have := sumN_bd (f := fun j => gi y j * g2 a i j) (B := 9000) (n := m) fun j hj => by
    have h1 := h.y j hj
    have h2 := h.a i j hi hj
    have := mulbd (x := gi y j) (y := g2 a i j) (A := 1000) (B := 9) (by omega) (by omega)
    omega
  unfold rowY
  omega
theorem frU_abs {u d B : Int} (hd : 0 < d) (h : -B ≤ u ∧ u ≤ B) : -B ≤ frU u d ∧ frU u d ≤ B := frU_bd hd h
theorem prod_bd {a b A B : Int} (ha : -A ≤ a ∧ a ≤ A) (hb : 0 ≤ b ∧ b ≤ B) : -(A * B) ≤ a * b ∧ a * b ≤ A * B := mulbd ha (by omega)
/-- One row more of the mean. -/
theorem mean_step {S R X T1 T2 : Int} (h1 : 0 < T1) (h2 : 0 < T2) :
    frU (frU S (T1 * T2) * frD (R * X) (T2 * T1) + frU (R * X) (T2 * T1) * frD S (T1 * T2)) (frD S (T1 * T2) * frD (R * X) (T2 * T1)) = frU (S + X * R) (T1 * T2) ∧
    frD (frU S (T1 * T2) * frD (R * X) (T2 * T1) + frU (R * X) (T2 * T1) * frD S (T1 * T2)) (frD S (T1 * T2) * frD (R * X) (T2 * T1)) = frD (S + X * R) (T1 * T2) := by
  have p1 := Int.mul_pos h1 h2
  have p2 := Int.mul_pos h2 h1
  obtain ⟨e1, e2⟩ := fr_add (u := S) (d := T1 * T2) (v := R * X) (e := T2 * T1) p1 p2
  rw [e1, e2]
  refine fr_eq (Int.mul_pos p1 p2) p1 ?_
  grind
theorem sum_mid {S R X T1 T2 : Int} (h1 : 1 ≤ T1 ∧ T1 ≤ 3000) (h2 : 1 ≤ T2 ∧ T2 ≤ 3000) (hS : -54000000 ≤ S ∧ S ≤ 54000000) (hR : -27000 ≤ R ∧ R ≤ 27000) (hX : 0 ≤ X ∧ X ≤ 1000) :
    Mid (frU S (T1 * T2) * frD (R * X) (T2 * T1) + frU (R * X) (T2 * T1) * frD S (T1 * T2)) ∧ (-54000000 ≤ frU S (T1 * T2) ∧ frU S (T1 * T2) ≤ 54000000) ∧ (1 ≤ frD S (T1 * T2) ∧ frD S (T1 * T2) ≤ 9000000) ∧
      (-27000000 ≤ frU (R * X) (T2 * T1) ∧ frU (R * X) (T2 * T1) ≤ 27000000) ∧ (1 ≤ frD (R * X) (T2 * T1) ∧ frD (R * X) (T2 * T1) ≤ 9000000) := by
  have t1 : 1 * 1 ≤ T1 * T2 := Int.mul_le_mul h1.1 h2.1 (by omega) (by omega)
  have t2 : T1 * T2 ≤ 3000 * 3000 := Int.mul_le_mul h1.2 h2.2 (by omega) (by omega)
  have e : T2 * T1 = T1 * T2 := Int.mul_comm _ _
  have hRX := mulbd (x := R) (y := X) (A := 27000) (B := 1000) hR (by omega)
  have a1 := frU_bd (u := S) (d := T1 * T2) (B := 54000000) (by omega) hS
  have a2 := frD_bd (u := S) (d := T1 * T2) (B := 9000000) (by omega) (by omega)
  have a3 := frU_bd (u := R * X) (d := T2 * T1) (B := 27000000) (by omega) (by omega)
  have a4 := frD_bd (u := R * X) (d := T2 * T1) (B := 9000000) (by omega) (by omega)
  have b1 := mulbd (x := frU S (T1 * T2)) (y := frD (R * X) (T2 * T1)) (A := 54000000) (B := 9000000) a1 (by omega)
  have b2 := mulbd (x := frU (R * X) (T2 * T1)) (y := frD S (T1 * T2)) (A := 27000000) (B := 9000000) a3 (by omega)
  refine ⟨?_, a1, a2, a3, a4⟩
  unfold Mid
  omega
end Go.Proofs.Ytokbdjhmldjapaa

/- The mean of best shares is the value. Plain. -/
namespace Go.Proofs.Ytokbdjhmldjapaa
open V (sumN)

theorem payU_rows (a : List (List Int)) (x y : List Int) (m : Nat) : ∀ n, payU a x y m n = sumN (fun i => gi x i * rowY a y m i) n
  | 0 => rfl
  | n + 1 => by rw [payU_succ, sumN, payU_rows a x y m n]
theorem payU_cols (a : List (List Int)) (x y : List Int) (n m : Nat) : payU a x y m n = sumN (fun j => gi y j * dotc a x j n) m := by
  rw [payU_rows]
  have e : ∀ i, i < n → gi x i * rowY a y m i = sumN (fun j => gi y j * (gi x i * g2 a i j)) m := fun i _ => by
    unfold rowY
    rw [← sumN_mul]
    exact sumN_congr fun j _ => by grind
  rw [sumN_congr e, sumN_swap]
  exact sumN_congr fun j _ => by rw [sumN_mul, dotc_sum]
theorem fr_cross {u d v e : Int} (h1 : frU u d = frU v e) (h2 : frD u d = frD v e) : u * e = v * d := by
  have k1 := frU_mul u d
  have k2 := frD_mul u d
  have k3 := frU_mul v e
  have k4 := frD_mul v e
  rw [h1] at k1
  rw [h2] at k2
  generalize frU v e = p at *
  generalize frD v e = q at *
  generalize gcdI u d = g at *
  generalize gcdI v e = k at *
  grind
theorem pay_best {a : List (List Int)} {x y : List Int} (h : BestP a x y) : payF a x y = wstV (wlast a x) := by
  have v := h.ok.v
  have hx := h.ok.x
  have hy := h.ok.y
  have n1 := v.n1
  have m1 := v.m1
  obtain ⟨j0, _, e1, hl⟩ := wst_least a x a.length (gr a 0).length hx.2.2 ((gr a 0).length - 1)
  obtain ⟨i0, _, e2, hk⟩ := wst_least (ntab a) y (gr a 0).length a.length hy.2.2 (a.length - 1)
  have lx := hx.1
  have ly := hy.1
  -- no less than what is sure
  have g1 : colU a x a.length (gr a 0).length j0 * tot y ≤ payU a x y (gr a 0).length a.length := by
    rw [payU_cols]
    unfold tot
    rw [show y.length = (gr a 0).length by omega, sm_sum, ← sumN_mul]
    refine sumN_le fun j hj => ?_
    have := hl j (by omega)
    rw [colU_dotc a x _ _ j hj] at this
    rw [Int.mul_comm (gi y j)]
    exact Int.mul_le_mul_of_nonneg_right this (hy.2.1 j (by omega)).1
  -- and no more than what is let through
  have g2_ : colU (ntab a) y (gr a 0).length a.length i0 * tot x ≤ - payU a x y (gr a 0).length a.length := by
    have e : - payU a x y (gr a 0).length a.length = sumN (fun i => gi x i * dotc (ntab a) y i (gr a 0).length) a.length := by
      rw [payU_rows]
      have : ∀ i, i < a.length → gi x i * dotc (ntab a) y i (gr a 0).length = (-1) * (gi x i * rowY a y (gr a 0).length i) := fun i hi => by
        have e3 : dotc (ntab a) y i (gr a 0).length = (-1) * rowY a y (gr a 0).length i := by
          rw [dotc_sum]; unfold rowY; rw [← sumN_mul]
          exact sumN_congr fun j hj => by rw [v.ntab_neg i j hi hj]; grind
        rw [e3]; grind
      rw [sumN_congr this, sumN_mul]; omega
    rw [e]
    unfold tot
    rw [show x.length = a.length by omega, sm_sum, ← sumN_mul]
    refine sumN_le fun i hi => ?_
    have := hk i (by omega)
    rw [colU_dotc (ntab a) y _ _ i hi] at this
    rw [Int.mul_comm (gi x i)]
    exact Int.mul_le_mul_of_nonneg_right this (hx.2.1 i (by omega)).1
  have he := h.eq
  rw [wlast_n, wlast_t v, e1, e2] at he
  obtain ⟨q1, q2⟩ := Prod.mk.inj he
  simp only at q1 q2
  rw [← frU_neg] at q1
  rw [← frD_neg (colU (ntab a) y (gr a 0).length a.length i0)] at q2
  have hc := fr_cross q1 q2
  rw [Int.neg_mul] at hc
  have hp : payU a x y (gr a 0).length a.length = colU a x a.length (gr a 0).length j0 * tot y := by omega
  have ht := Int.mul_pos hx.2.2 hy.2.2
  obtain ⟨f1, f2⟩ := fr_eq (u := payU a x y (gr a 0).length a.length) (d := tot x * tot y) (v := colU a x a.length (gr a 0).length j0) (e := tot x) ht hx.2.2 (by rw [hp]; grind)
  rw [payF_yes h.ok, wlast_n, e1]
  unfold frV wstV
  rw [f1, f2]
end Go.Proofs.Ytokbdjhmldjapaa

/- What the laws on best shares ask of what BestShares answers. -/
namespace Go.Proofs.Ytokbdjhmldjapaa
open Go.RowKit

theorem eqI_self (xs : List Int) : eqI xs xs = true := eqI_yes rfl fun _ _ => rfl
/-- What BestShares answers, told as the value's shares or as none. -/
theorem NewBS.yes {w w' : World} {a : List (List Int)} {e : Ending} (h : NewBS w a e w') (v : VT a) : ∃ A1 c1 A2 c2, e = .returned (.tuple #[.slice A1 a.length c1, .slice A2 (gr a 0).length c2]) ∧ Ints w' A1 a.length c1 (bx a) ∧ Ints w' A2 (gr a 0).length c2 (by_ a) ∧ Below w.heap.size w w' := by
  rcases h with ⟨_, A1, c1, g1, A2, c2, g2, rfl, o1, o2, _, hb⟩ | ⟨h, _⟩
  · exact ⟨A1, c1, A2, c2, rfl, o1.ints, o2.ints, hb⟩
  · exact absurd v h
theorem NewBS.no {w w' : World} {a : List (List Int)} {e : Ending} (h : NewBS w a e w') (v : ¬ VT a) : e = .returned (.tuple #[.slice none 0 0, .slice none 0 0]) ∧ Below w.heap.size w w' := by
  rcases h with ⟨h, _⟩ | ⟨_, h⟩
  · exact absurd h v
  · exact h
theorem NewBSs.yes {w w' : World} {a : List (List Int)} {e : Ending} (h : NewBSs w a e w') (v : VT a) : ∃ A1 n1 c1 A2 n2 c2, e = .returned (.tuple #[.slice A1 n1 c1, .slice A2 n2 c2]) ∧ Ints w' A1 n1 c1 (bx a) ∧ Ints w' A2 n2 c2 (by_ a) ∧ Below w.heap.size w w' := by
  obtain ⟨A1, n1, c1, A2, n2, c2, h1, h2, h3, h4⟩ := h
  rw [if_pos (pb_true v)] at h2 h3
  exact ⟨A1, n1, c1, A2, n2, c2, h1, h2, h3, h4⟩
theorem NewBSs.no {w w' : World} {a : List (List Int)} {e : Ending} (h : NewBSs w a e w') (v : ¬ VT a) : ∃ A1 n1 c1 A2 n2 c2, e = .returned (.tuple #[.slice A1 n1 c1, .slice A2 n2 c2]) ∧ Ints w' A1 n1 c1 [] ∧ Ints w' A2 n2 c2 [] ∧ Below w.heap.size w w' := by
  obtain ⟨A1, n1, c1, A2, n2, c2, h1, h2, h3, h4⟩ := h
  rw [if_neg (by rw [pb_false v]; decide)] at h2 h3
  exact ⟨A1, n1, c1, A2, n2, c2, h1, h2, h3, h4⟩
end Go.Proofs.Ytokbdjhmldjapaa

