/- Texts merged: LiftB FnTab LiftC Enter Math15 H1 Y2 Math16 FnBS Math17 D4 Ones OwnBS A6 Math18. -/
import Derived.Test.YtgnbmanlpppdoaaQ7
import Derived.ChangeSlices
/- An argument of bytes, opened. -/
namespace Go.Proofs.Ytgnbmanlpppdoaa
open Go.ChangeShapes Go.WideShapes Go.ChangeAt Go.RowKit Go.Deep

theorem Try.cells_u8 : Try.prog.cellsOf 5 = 1 := by kernel_rfl
theorem Try.bytes_u8 : Try.prog.bytesOf 5 = 1 := by kernel_rfl
set_option maxRecDepth 100000 in
theorem open_bytes {H : Type} {enc : TypeId × Value → H} {W : World} {v : Value} {d : DataW H} {p : List MemPlace} {b0 : Nat} (hval : Value.okWide Try.prog W .any b0 22 v)
    (h : DataW.Trod enc Try.prog W 0 (fun _ => true) true 22 v d p) (hw : ∀ n ∈ d.weights Try.prog 22, n ≤ reachBytes) :
    ∃ A n c, v = .slice A n c ∧ Bytes W A n c := by
  obtain ⟨a1, len, cap, rfl⟩ := okWide_slice Try.underlying22 hval
  obtain ⟨fuel, hf⟩ := h
  rcases open_ints Try.underlying22 Try.underlying5 Try.cells_u8 hf with ⟨hcs, hx⟩ | ⟨a, len', cap', zs, hcs, _, hl, hm, hz, hx, hcell, hwz⟩
  · simp [Value.cells] at hcs
    obtain ⟨rfl, rfl, rfl⟩ := hcs
    exact ⟨none, 0, 0, rfl, Nat.le_refl _, by omega, fun h => absurd h (by omega)⟩
  · simp [Value.cells] at hcs
    obtain ⟨rfl, rfl, rfl⟩ := hcs
    simp only [Prod.mk.injEq] at hx
    obtain ⟨rfl, rfl⟩ := hx
    simp only [if_true] at hz
    have h1 := hw _ (weights_slice Try.underlying22 (.inl rfl))
    simp only [lits, List.length_map, List.length_take, List.length_drop, Try.bytes_u8, reachBytes] at h1
    refine ⟨some a, len, cap, rfl, hl, by omega, fun hn => ?_⟩
    have hspot : a.spot = none := by simpa [Addr.add] using World.cell?_spot (hcell 0 (by omega))
    obtain ⟨b, o, sp⟩ := a
    simp only at hspot
    subst hspot
    refine ⟨b, o, rfl, fun k hk => ⟨zs.getD k 0, ?_, ?_, by rw [← add_plain]; exact hcell k (by omega)⟩⟩
    · rw [List.getD_eq_getElem?_getD]; have := hwz (zs.getD k 0) (by rw [List.getD_eq_getElem?_getD, List.getElem?_eq_getElem (show k < zs.length by omega)]; simp)
      simp [Lit.wf, IntKind.min, IntKind.max, IntKind.signed, IntKind.bits] at this
      omega
    · rw [List.getD_eq_getElem?_getD]; have := hwz (zs.getD k 0) (by rw [List.getD_eq_getElem?_getD, List.getElem?_eq_getElem (show k < zs.length by omega)]; simp)
      simp [Lit.wf, IntKind.min, IntKind.max, IntKind.signed, IntKind.bits] at this
      omega
end Go.Proofs.Ytgnbmanlpppdoaa

/- Two words that the laws of values share. -/
namespace Go.Proofs.Ytgnbmanlpppdoaa
theorem wstV_eq (p : Int × Int) {U D : Int} (h : p = (U, D)) : wstV p = .agg #[.int .i64 U, .int .i64 D] := by rw [h]; rfl
theorem small_ntab {a : List (List Int)} (v : VT a) : Small (flip a a.length (gr a 0).length) := v.small.flip v.even v.n1
end Go.Proofs.Ytgnbmanlpppdoaa

/- Arguments that are a slice of ints, or an int, opened. -/
namespace Go.Proofs.Ytgnbmanlpppdoaa
open Go.ChangeShapes Go.WideShapes Go.ChangeAt Go.RowKit Go.Deep

set_option maxRecDepth 100000 in
theorem open_intS {H : Type} {enc : TypeId × Value → H} {W : World} {v : Value} {d : DataW H} {p : List MemPlace} {b0 : Nat} (hval : Value.okWide Try.prog W .any b0 32 v)
    (h : DataW.Trod enc Try.prog W 0 (fun _ => true) true 32 v d p) (hw : ∀ n ∈ d.weights Try.prog 32, n ≤ reachBytes) :
    ∃ A n c xs, v = .slice A n c ∧ Ints W A n c xs := by
  obtain ⟨a1, len, cap, rfl⟩ := okWide_slice Try.underlying32 hval
  obtain ⟨fuel, hf⟩ := h
  rcases open_ints Try.underlying32 Try.underlying3 Try.cells3 hf with ⟨hcs, hx⟩ | ⟨a, len', cap', zs, hcs, _, hl, hm, hz, hx, hcell, hwz⟩
  · simp [Value.cells] at hcs
    obtain ⟨rfl, rfl, rfl⟩ := hcs
    exact ⟨none, 0, 0, [], rfl, rfl, Nat.le_refl _, by omega, fun _ h => by simp at h, fun h => absurd h (by omega)⟩
  · simp [Value.cells] at hcs
    obtain ⟨rfl, rfl, rfl⟩ := hcs
    simp only [Prod.mk.injEq] at hx
    obtain ⟨rfl, rfl⟩ := hx
    simp only [if_true] at hz
    have h1 := hw _ (weights_slice Try.underlying32 (.inl rfl))
    simp only [lits, List.length_map, List.length_take, List.length_drop, Try.bytes3, reachBytes] at h1
    have hlen : (zs.take len).length = len := by rw [List.length_take]; omega
    refine ⟨some a, len, cap, zs.take len, rfl, hlen, hl, by omega, fun x hx => ?_, fun hn => ?_⟩
    · have := hwz x (List.mem_of_mem_take hx)
      simp [Lit.wf, IntKind.min, IntKind.max, IntKind.signed, IntKind.bits] at this
      omega
    have hspot : a.spot = none := by simpa [Addr.add] using World.cell?_spot (hcell 0 (by omega))
    obtain ⟨b, o, sp⟩ := a
    simp only at hspot
    subst hspot
    refine ⟨b, o, rfl, fun k hk => ?_⟩
    rw [← add_plain, hcell k (by omega)]
    congr 2
    rw [gi_get (by rw [hlen]; exact hk), List.getElem_take]
    simp [List.getD, show k < zs.length by omega]

set_option maxRecDepth 100000 in
theorem open_num {H : Type} {enc : TypeId × Value → H} {W : World} {v : Value} {d : DataW H} {p : List MemPlace} {b0 : Nat} (hval : Value.okWide Try.prog W .any b0 3 v)
    (h : DataW.Trod enc Try.prog W 0 (fun _ => true) true 3 v d p) : ∃ x, v = .int .i64 x ∧ Fit x := by
  obtain ⟨x, rfl, _, _, hw⟩ := open_int Try.underlying3 hval h
  refine ⟨x, rfl, ?_⟩
  simp [Lit.wf, IntKind.min, IntKind.max, IntKind.signed, IntKind.bits] at hw
  unfold Fit
  omega
end Go.Proofs.Ytgnbmanlpppdoaa

/- The program may be entered: facts of its head, once for all laws. -/
namespace Go.Proofs.Ytgnbmanlpppdoaa

theorem prog_enters : Try.pinned.checked.prog.mayEnter = true := by kernel_rfl
theorem prog_lifts0 : (false == Try.pinned.checked.prog.liftsFinal) = true := by kernel_rfl
theorem prog_make0 : (Try.pinned.checked.prog.make == some .cut) = true := by kernel_rfl
theorem prog_lifts {b : Bool} (h : b = false) : (b == Try.pinned.checked.prog.liftsFinal) = true := by subst h; exact prog_lifts0
theorem prog_make {m : Make} (h : m = .cut) : (Try.pinned.checked.prog.make == some m) = true := by subst h; exact prog_make0
end Go.Proofs.Ytgnbmanlpppdoaa

/- Means are means of means. Plain. -/
namespace Go.Proofs.Ytgnbmanlpppdoaa
open V (sumN)

theorem fr_mul {u d v e : Int} (hd : 0 < d) (he : 0 < e) : frU (frU u d * frU v e) (frD u d * frD v e) = frU (u * v) (d * e) ∧ frD (frU u d * frU v e) (frD u d * frD v e) = frD (u * v) (d * e) := by
  refine fr_eq (Int.mul_pos (frD_pos hd) (frD_pos he)) (Int.mul_pos hd he) ?_
  have h1 := fr_ratio u d
  have h2 := fr_ratio v e
  generalize frU u d = a at *
  generalize frD u d = b at *
  generalize frU v e = c at *
  generalize frD v e = f at *
  grind
theorem fr_add {u d v e : Int} (hd : 0 < d) (he : 0 < e) : frU (frU u d * frD v e + frU v e * frD u d) (frD u d * frD v e) = frU (u * e + v * d) (d * e) ∧
    frD (frU u d * frD v e + frU v e * frD u d) (frD u d * frD v e) = frD (u * e + v * d) (d * e) := by
  refine fr_eq (Int.mul_pos (frD_pos hd) (frD_pos he)) (Int.mul_pos hd he) ?_
  have h1 := fr_ratio u d
  have h2 := fr_ratio v e
  generalize frU u d = a at *
  generalize frD u d = b at *
  generalize frU v e = c at *
  generalize frD v e = f at *
  grind
/-- The sum of a row with the shares of the columns. -/
def rowY (a : List (List Int)) (y : List Int) (m i : Nat) : Int := sumN (fun j => gi y j * g2 a i j) m
theorem payR_rowY (a : List (List Int)) (x y : List Int) (i : Nat) : ∀ m, payR a x y i m = gi x i * rowY a y m i
  | 0 => by simp [payR, rowY, sumN]
  | m + 1 => by
    have ih := payR_rowY a x y i m
    unfold rowY at ih ⊢
    rw [payR, sumN, ih, Int.mul_add, Int.mul_assoc]
theorem payU_succ (a : List (List Int)) (x y : List Int) (m k : Nat) : payU a x y m (k + 1) = payU a x y m k + gi x k * rowY a y m k := by rw [payU, payR_rowY]
theorem payU_onl (a : List (List Int)) (y : List Int) (m : Nat) {n i : Nat} : ∀ {k}, k ≤ n → payU a (onl n i) y m k = if i < k then rowY a y m i else 0
  | 0, _ => by simp [payU]
  | k + 1, h => by
    rw [payU_succ, payU_onl a y m (k := k) (by omega), gi_onl (by omega)]
    by_cases e : k = i
    · subst e; rw [if_neg (by omega), if_pos rfl, if_pos (by omega)]; omega
    · rw [if_neg e]
      by_cases h2 : i < k
      · rw [if_pos h2, if_pos (by omega)]; omega
      · rw [if_neg h2, if_neg (by omega)]; omega
theorem rowY_bd {a x y n m} (h : PB a x y n m) (hm : m ≤ 3) {i : Nat} (hi : i < n) : -27000 ≤ rowY a y m i ∧ rowY a y m i ≤ 27000 := by
  have := sumN_bd (f := fun j => gi y j * g2 a i j) (B := 9000) (n := m) fun j hj => by
    have h1 := h.y j hj
    have h2 := h.a i j hi hj
    have := mulbd (x := gi y j) (y := g2 a i j) (A := 1000) (B := 9) (by omega) (by omega)
    omega
  unfold rowY
  omega
theorem frU_abs {u d B : Int} (hd : 0 < d) (h : -B ≤ u ∧ u ≤ B) : -B ≤ frU u d ∧ frU u d ≤ B := frU_bd hd h
theorem prod_bd {a b A B : Int} (ha : -A ≤ a ∧ a ≤ A) (hb : 0 ≤ b ∧ b ≤ B) : -(A * B) ≤ a * b ∧ a * b ≤ A * B := mulbd ha (by omega)
/-- One row more of the mean. -/
theorem mean_step {S R X T1 T2 : Int} (h1 : 0 < T1) (h2 : 0 < T2) :
    frU (frU S (T1 * T2) * frD (R * X) (T2 * T1) + frU (R * X) (T2 * T1) * frD S (T1 * T2)) (frD S (T1 * T2) * frD (R * X) (T2 * T1)) = frU (S + X * R) (T1 * T2) ∧
    frD (frU S (T1 * T2) * frD (R * X) (T2 * T1) + frU (R * X) (T2 * T1) * frD S (T1 * T2)) (frD S (T1 * T2) * frD (R * X) (T2 * T1)) = frD (S + X * R) (T1 * T2) := by
  have p1 := Int.mul_pos h1 h2
  have p2 := Int.mul_pos h2 h1
  obtain ⟨e1, e2⟩ := fr_add (u := S) (d := T1 * T2) (v := R * X) (e := T2 * T1) p1 p2
  rw [e1, e2]
  refine fr_eq (Int.mul_pos p1 p2) p1 ?_
  grind
theorem sum_mid {S R X T1 T2 : Int} (h1 : 1 ≤ T1 ∧ T1 ≤ 3000) (h2 : 1 ≤ T2 ∧ T2 ≤ 3000) (hS : -54000000 ≤ S ∧ S ≤ 54000000) (hR : -27000 ≤ R ∧ R ≤ 27000) (hX : 0 ≤ X ∧ X ≤ 1000) :
    Mid (frU S (T1 * T2) * frD (R * X) (T2 * T1) + frU (R * X) (T2 * T1) * frD S (T1 * T2)) ∧ (-54000000 ≤ frU S (T1 * T2) ∧ frU S (T1 * T2) ≤ 54000000) ∧ (1 ≤ frD S (T1 * T2) ∧ frD S (T1 * T2) ≤ 9000000) ∧
      (-27000000 ≤ frU (R * X) (T2 * T1) ∧ frU (R * X) (T2 * T1) ≤ 27000000) ∧ (1 ≤ frD (R * X) (T2 * T1) ∧ frD (R * X) (T2 * T1) ≤ 9000000) := by
  have t1 : 1 * 1 ≤ T1 * T2 := Int.mul_le_mul h1.1 h2.1 (by omega) (by omega)
  have t2 : T1 * T2 ≤ 3000 * 3000 := Int.mul_le_mul h1.2 h2.2 (by omega) (by omega)
  have e : T2 * T1 = T1 * T2 := Int.mul_comm _ _
  have hRX := mulbd (x := R) (y := X) (A := 27000) (B := 1000) hR (by omega)
  have a1 := frU_bd (u := S) (d := T1 * T2) (B := 54000000) (by omega) hS
  have a2 := frD_bd (u := S) (d := T1 * T2) (B := 9000000) (by omega) (by omega)
  have a3 := frU_bd (u := R * X) (d := T2 * T1) (B := 27000000) (by omega) (by omega)
  have a4 := frD_bd (u := R * X) (d := T2 * T1) (B := 9000000) (by omega) (by omega)
  have b1 := mulbd (x := frU S (T1 * T2)) (y := frD (R * X) (T2 * T1)) (A := 54000000) (B := 9000000) a1 (by omega)
  have b2 := mulbd (x := frU (R * X) (T2 * T1)) (y := frD S (T1 * T2)) (A := 27000000) (B := 9000000) a3 (by omega)
  refine ⟨?_, a1, a2, a3, a4⟩
  unfold Mid
  omega
end Go.Proofs.Ytgnbmanlpppdoaa

/- A row under way: its numbers may be set; shares drawn. -/
namespace Go.Proofs.Ytgnbmanlpppdoaa
open Go.RowKit

theorem BldI.set {lo hi w v xs} (h : BldI lo hi w v xs) {j : Nat} (hj : j < xs.length) (x : Int) :
    ∃ b c, v = .slice (some ⟨b, 0, none⟩) xs.length c ∧ lo ≤ b ∧ b < hi ∧ w.cell? ⟨b, j, none⟩ = some (.int .i64 (gi xs j)) ∧ w.frozen? ⟨b, j, none⟩ = false ∧
      BldI lo hi (w.setCell ⟨b, j, none⟩ (.int .i64 x)) v (xs.set j x) := by
  have hh := h.hi_
  rcases h.own.2 with ⟨_, h0⟩ | ⟨g, cap, cur, rfl, hb, hg, hnc, hcm, hcs, htake⟩
  · omega
  · rw [Nat.mul_one] at htake hcs
    have hB : Blk w g 3 cur := hg
    have hc : cur[j]? = some (.int .i64 (gi xs j)) := by
      rw [← getElem_iv hj, ← htake, List.getElem?_take, if_pos hj]; simp
    refine ⟨g, cap, rfl, hb, hh g rfl, blk_cell hB hc, blk_frozen hB j, ⟨⟨by simp, .inr ⟨g, cap, cur.setIfInBounds j (.int .i64 x), by rw [List.length_set], hb, blk_set hB j _, by rw [List.length_set]; exact hnc, hcm, by simp [hcs], ?_⟩⟩, hh⟩⟩
    rw [List.length_set, Nat.mul_one, Array.toList_setIfInBounds, List.take_set, htake, List.map_set]
    rfl

/-- A row by itself, begun behind the world wb. -/
def SH (w0 wb : World) (g : Nat) (A : Option Addr) (l c p : Nat) (u : Value) (ys : List Int) (w : World) : Prop := TI w0 wb g A l c p wb.heap.size (.slice none 0 0) [] [] u ys w
theorem SH.start {w0 wb g A l c p} (h : Rdr w0 wb g A l c p) : SH w0 wb g A l c p (.slice (some ⟨wb.heap.size, 0, none⟩) 0 0) [] (wb.alloc (.cells #[] 3)) :=
  ⟨h.below_ (below_alloc _ _), Bld.nil _ _ _, by rw [World.size_alloc]; exact BldI.make (Nat.le_refl _), blk_lt h.box, Nat.le_refl _, by simp, grown_of_below (below_alloc _ _)⟩
theorem SH.below {w0 wb g A l c p u ys w w'} (h : SH w0 wb g A l c p u ys w) (k : Below w.heap.size w w') : SH w0 wb g A l c p u ys w' :=
  ⟨h.rd.below_ k, Bld.nil _ _ _, (h.bi.below k).mono k.size, h.gl, h.lh, Nat.le_trans h.hs k.size, grown_below h.up k⟩
theorem SH.one {w0 wb g A l c p p' u ys w w'} (h : SH w0 wb g A l c p u ys w) (hr : Rdr w0 w' g A l c p') (ho : One g w w') : SH w0 wb g A l c p' u ys w' := TI.one h hr ho
theorem SH.set {w0 wb g A l c p u ys w} (h : SH w0 wb g A l c p u ys w) {j : Nat} (hj : j < ys.length) (x : Int) :
    ∃ b cc, u = .slice (some ⟨b, 0, none⟩) ys.length cc ∧ w.cell? ⟨b, j, none⟩ = some (.int .i64 (gi ys j)) ∧ w.frozen? ⟨b, j, none⟩ = false ∧ SH w0 wb g A l c p u (ys.set j x) (w.setCell ⟨b, j, none⟩ (.int .i64 x)) := by
  obtain ⟨b, cc, e, h1, h2, h3, h4, h5⟩ := h.bi.set hj x
  have hgl := h.gl
  have hs : (w.setCell ⟨b, j, none⟩ (.int .i64 x)).heap.size = w.heap.size := by simp [World.setCell]
  refine ⟨b, cc, e, h3, h4, ⟨⟨blk_other h.rd.box (by show g ≠ b; omega) _, h.rd.bytes, h.rd.below.setCell (by show w0.heap.size ≤ b; have := h.rd.lt; omega) _, h.rd.lt, h.rd.small⟩, Bld.nil _ _ _, by rw [hs]; exact h5, h.gl, h.lh, by rw [hs]; exact h.hs, ?_⟩⟩
  exact ⟨h.up.os, h.up.tape, h.up.output, by rw [hs]; exact h.up.size, fun k hk hne => (Below.heap_setCell _ _ _ _ (by show k ≠ b; omega)).trans (h.up.block k hk hne)⟩
def SharesOut (w0 wb : World) (g : Nat) (A : Option Addr) (l c p n : Nat) (e : Ending) (w' : World) : Prop :=
  ∃ Av cv ys p', e = .returned (.slice Av ys.length cv) ∧ ys.length ≤ n + 1 ∧ (∀ x ∈ ys, -1 ≤ x ∧ x ≤ 1001) ∧ SH w0 wb g A l c p' (.slice Av ys.length cv) ys w' ∧ p' ≤ p + 3 * n + 3

set_option maxRecDepth 100000 in
set_option maxHeartbeats 1000000 in
theorem sharesOf_any (w0 w : World) (g : Nat) (A : Option Addr) (l c p n : Nat) (h : Rdr w0 w g A l c p) (hp : p < 900000000) (hn : n ≤ 8) :
    Calls Try.prog 58 #[.pointer (some ⟨g, 0, none⟩), .int .i64 n] w (SharesOut w0 w g A l c p n) := by
  have HS := Lib.hid (SH.start h)
  clear h
  obtain ⟨i0, hi0, hz0, hz1, hz2⟩ := info_parts Try.info_int
  go_enter Try.func58, Try.ntmps58
  go_wp2
  go_loopw [5] (fun u wr => ∃ (ys : List Int) (q : Nat), ys.length ≤ n ∧ q ≤ p + 3 * ys.length ∧ Hid (∀ x ∈ ys, 0 ≤ x ∧ x ≤ 5) ∧ Hid (SH w0 w g A l c q u ys wr)) (fun u _ => n - (match u with | .slice _ k _ => k | _ => 0))
  case atStart => exact ⟨[], p, Nat.zero_le _, by simp, Lib.hid (fun r hr => by simp at hr), HS⟩
  case round =>
    clear HS
    obtain ⟨ys, q, hyn, hq, HR, HI⟩ := hrel
    obtain ⟨Au, cu, rfl⟩ := HI.out.bi.form
    by_cases hlt : ys.length < n
    · have HC := Lib.hid (pick_any w0 _ g A l c q 6 HI.out.rd (by omega))
      go_wp2_with fail
      refine HC.out.mono ?_
      rintro e w2 ⟨k, rfl, hk1, _, hr, z, hw⟩
      have hone := Rdr.one (g := g) wr (.int .i64 (q + 1 : Nat)) z
      rw [← hw] at hone
      obtain ⟨k0, k1⟩ := hk1 (by omega)
      have HI2 := Lib.hid (HI.out.one hr hone)
      clear hr hone hw hk1 HC HI
      have HC := Lib.hid (pick_any w0 _ g A l c (q + 1) 3 HI2.out.rd (by omega))
      go_wp2_with fail
      refine HC.out.mono ?_
      rintro e w3 ⟨m, rfl, hk1, _, hr, z, hw⟩
      have hone := Rdr.one (g := g) w2 (.int .i64 (q + 1 + 1 : Nat)) z
      rw [← hw] at hone
      obtain ⟨m0, m1⟩ := hk1 (by omega)
      have HI3 := Lib.hid (HI2.out.one hr hone)
      clear hr hone hw hk1 HC HI2
      have HI4 := Lib.hid (HI3.out.below (below_alloc w3 (.cells #[iv k, iv m, iv 0, iv 1] 3)))
      have HIN := Lib.hid (Ints.lit w3 [k, m, 0, 1] (by simp) (by intro x hx; simp at hx; omega))
      have hgw : g < w3.heap.size := blk_lt HI3.out.rd.box
      have HC := Lib.hid (one_any w0 (w3.alloc (.cells #[iv k, iv m, iv 0, iv 1] 3)) g A l c (q + 1 + 1) _ 4 4 [k, m, 0, 1] HI4.out.rd (by omega) HIN.out (by omega) (fun b' o' e' => by injection e' with e'; injection e' with e' _ _; omega))
      clear HI3 HIN
      go_wp2_with fail
      refine HC.out.mono ?_
      rintro e w4 ⟨x, rfl, hx, hr, ho⟩
      have hx5 : 0 ≤ x ∧ x ≤ 5 := by simp at hx; omega
      have HI5 := Lib.hid (HI4.out.one hr ho)
      clear hx hr ho HC HI4
      have hb := below_alloc w4 (.cells #[iv x] 3)
      have HB4 := Lib.hid (HI5.out.bi.below hb).own
      have HN := Lib.hid (cell_one_new w4 (iv x) 3)
      have hHs := HI5.out.hs
      clear hb
      go_wp2_with (at_builtin; refine wpList_append_own_at _ rfl _ _ 32 rfl w.heap.size 3 i0 (.int .i64 0) 1 8 Try.underlying32 hi0 hz0 hz1 hz2 rfl (by decide) _ ys.length (ys.map iv) rfl HB4.out ⟨w4.heap.size, 0, none⟩ 1 1 [iv x] rfl rfl ?c1 ?c2 ?c3 ?c4 ?c5 ?_)
      case c1 => exact HN.out
      case c2 => intro u hu; simp at hu; subst hu; rfl
      case c3 => unfold maxLen; omega
      case c4 => omega
      case c5 => simp; omega
      intro v' w5 hown' hgrow _ hat
      have HI6 := Lib.hid (show SH w0 w g A l c (q + 1 + 1 + 1) v' (ys ++ [x]) w5 from TI.push HI5.out hown' hgrow (by simpa using hat))
      clear HB4 HN hown' hgrow hat HI5
      obtain ⟨Au2, cu2, rfl⟩ := HI6.out.bi.form
      go_wp2
      go_roundw
      case rel => exact ⟨ys ++ [x], q + 1 + 1 + 1, by simp; omega, by simp; omega, Lib.hid (fun x hx => by
        rcases List.mem_append.1 hx with hx | hx
        · exact HR.out x hx
        · simp at hx; omega), HI6⟩
      case measure => simp; omega
    · have hnx : ys.length = n := by omega
      have HNX := Lib.hid hnx
      have HZB1 : Hid (∀ x ∈ ys, -1 ≤ x ∧ x ≤ 1001) := Lib.hid (fun x hx => by have := HR.out x hx; omega)
      rw [hnx] at hq
      have hyn8 : ys.length ≤ 8 := by omega
      generalize hN : ys.length = N at *
      have HYL := Lib.hid hN
      clear hN
      clear hnx
      by_cases hn0 : n = 0
      · have HZL := HYL
        have HZB := HZB1
        have HT := HI
        clear HI HZB1
        have HC := Lib.hid (pick_any w0 _ g A l c q 40 HT.out.rd (by omega))
        go_wp2_with fail
        refine HC.out.mono ?_
        rintro e w6 ⟨kk, rfl, hk1, _, hr, z, hw⟩
        have hone := Rdr.one (g := g) wr (.int .i64 (q + 1 : Nat)) z
        rw [← hw] at hone
        obtain ⟨k0, k1⟩ := hk1 (by omega)
        have HT2 := Lib.hid (SH.one HT.out hr hone)
        clear hr hone hw hk1 HC HT
        by_cases e0 : kk = 0
        · subst e0
          have hb := below_alloc w6 (.cells #[iv 1] 3)
          have HB4 := Lib.hid (HT2.out.bi.below hb).own
          have HN := Lib.hid (cell_one_new w6 (iv 1) 3)
          have hHs := HT2.out.hs
          have HZ := Lib.hid HZL.out
          rw [HZL.out] at HB4
          clear hb
          go_wp2_with (at_builtin; refine wpList_append_own_at _ rfl _ _ 32 rfl w.heap.size 3 i0 (.int .i64 0) 1 8 Try.underlying32 hi0 hz0 hz1 hz2 rfl (by decide) _ N (ys.map iv) rfl HB4.out ⟨w6.heap.size, 0, none⟩ 1 1 [iv 1] rfl rfl ?c1 ?c2 ?c3 ?c4 ?c5 ?_)
          case c1 => exact HN.out
          case c2 => intro u hu; simp at hu; subst hu; rfl
          case c3 => unfold maxLen; omega
          case c4 => omega
          case c5 => simp; omega
          intro v' w7 hown' hgrow _ hat
          rw [← HZ.out] at hown'
          have HI6 := Lib.hid (show SH w0 w g A l c (q + 1) v' (ys ++ [1]) w7 from TI.push HT2.out hown' hgrow (by simpa [Value.ownBlock] using hat))
          clear HB4 HN hown' hgrow hat HT2
          obtain ⟨Au2, cu2, rfl⟩ := HI6.out.bi.form
          go_wp2
          go_ret
          exact ⟨Au2, cu2, ys ++ [1], q + 1, rfl, by rw [List.length_append, HZ.out]; simp; omega, fun x hx => by
            rcases List.mem_append.1 hx with hx | hx
            · exact HZB.out x hx
            · simp at hx; omega, HI6.out, by omega⟩
        · by_cases e1 : kk = 1
          · subst e1
            go_wp2
            go_ret
            exact ⟨_, cu, ys, q + 1, by rw [HZL.out]; rfl, by rw [HZL.out]; omega, HZB.out, by rw [HZL.out]; exact HT2.out, by omega⟩
          · go_wp2
            go_ret
            exact ⟨_, cu, ys, q + 1, by rw [HZL.out]; rfl, by rw [HZL.out]; omega, HZB.out, by rw [HZL.out]; exact HT2.out, by omega⟩
      · have HSO := Lib.hid (show SumOk ys from ⟨by rw [HYL.out]; omega, fun j hj => by have := HR.out _ (gi_mem hj); omega⟩)
        obtain ⟨A', n', c', g', e, -, ho, -⟩ := HI.out.bi.owns (by rw [HYL.out]; omega) (fun x hx => by have := HR.out x hx; omega)
        injection e with e1 e2 e3
        subst e1
        subst e2
        subst e3
        have HC := Lib.hid (sum_any _ _ _ ys _ ho.ints HSO.out)
        clear ho
        go_wp2_with fail
        refine HC.out.mono ?_
        rintro e w3 ⟨rfl, qq, rfl⟩
        have HI2 := Lib.hid (HI.out.below (below_drewN (Below.refl _ _) qq))
        clear HC HI
        by_cases hs0 : tot ys = 0
        · have hs0' : (tot ys == 0) = true := by simpa using hs0
          have HC := Lib.hid (pick_any w0 _ g A l c q n HI2.out.rd (by omega))
          clear hs0
          go_wp2_with fail
          refine HC.out.mono ?_
          rintro e w5 ⟨k, rfl, hk1, _, hr, z, hw⟩
          have hone := Rdr.one (g := g) (wr.drewN qq) (.int .i64 (q + 1 : Nat)) z
          rw [← hw] at hone
          obtain ⟨k0, k1⟩ := hk1 (by omega)
          have HI3 := Lib.hid (HI2.out.one hr hone)
          clear hr hone hw hk1 HC HI2
          obtain ⟨k, rfl⟩ := Int.eq_ofNat_of_zero_le k0
          have hkl : k < ys.length := by rw [HYL.out, HNX.out]; omega
          obtain ⟨b0, cc0, e, hc0, hf0, hset⟩ := HI3.out.set (j := k) hkl 1
          injection e with e1 e2 e3
          subst e1
          have HT := Lib.hid hset
          have HZL := Lib.hid (show (ys.set k 1).length = N by rw [List.length_set, HYL.out])
          have HZB : Hid (∀ x ∈ ys.set k 1, -1 ≤ x ∧ x ≤ 1001) := Lib.hid (fun y hy => by
            rcases List.mem_or_eq_of_mem_set hy with hy | rfl
            · exact HZB1.out y hy
            · omega)
          clear hset HI3 e2 e3 HZB1
          generalize ys.set k 1 = zs at *
          go_wp2_with fail
          clear hc0 hf0
          generalize (some (⟨b0, 0, none⟩ : Addr)) = Au at *
          have HC := Lib.hid (pick_any w0 _ g A l c (q + 1) 40 HT.out.rd (by omega))
          go_wp2_with fail
          refine HC.out.mono ?_
          rintro e w6 ⟨kk, rfl, hk1, _, hr, z, hw⟩
          have hone := Rdr.one (g := g) (w5.setCell ⟨b0, k, none⟩ (.int .i64 1)) (.int .i64 ((q + 1) + 1 : Nat)) z
          rw [← hw] at hone
          obtain ⟨k0, k1⟩ := hk1 (by omega)
          have HT2 := Lib.hid (SH.one HT.out hr hone)
          clear hr hone hw hk1 HC HT
          by_cases e0 : kk = 0
          · subst e0
            have hb := below_alloc w6 (.cells #[iv 1] 3)
            have HB4 := Lib.hid (HT2.out.bi.below hb).own
            have HN := Lib.hid (cell_one_new w6 (iv 1) 3)
            have hHs := HT2.out.hs
            have HZ := Lib.hid HZL.out
            rw [HZL.out] at HB4
            clear hb
            go_wp2_with (at_builtin; refine wpList_append_own_at _ rfl _ _ 32 rfl w.heap.size 3 i0 (.int .i64 0) 1 8 Try.underlying32 hi0 hz0 hz1 hz2 rfl (by decide) _ N (zs.map iv) rfl HB4.out ⟨w6.heap.size, 0, none⟩ 1 1 [iv 1] rfl rfl ?c1 ?c2 ?c3 ?c4 ?c5 ?_)
            case c1 => exact HN.out
            case c2 => intro u hu; simp at hu; subst hu; rfl
            case c3 => unfold maxLen; omega
            case c4 => omega
            case c5 => simp; omega
            intro v' w7 hown' hgrow _ hat
            rw [← HZ.out] at hown'
            have HI6 := Lib.hid (show SH w0 w g A l c ((q + 1) + 1) v' (zs ++ [1]) w7 from TI.push HT2.out hown' hgrow (by simpa [Value.ownBlock] using hat))
            clear HB4 HN hown' hgrow hat HT2
            obtain ⟨Au2, cu2, rfl⟩ := HI6.out.bi.form
            go_wp2
            go_ret
            exact ⟨Au2, cu2, zs ++ [1], (q + 1) + 1, rfl, by rw [List.length_append, HZ.out]; simp; omega, fun x hx => by
              rcases List.mem_append.1 hx with hx | hx
              · exact HZB.out x hx
              · simp at hx; omega, HI6.out, by omega⟩
          · by_cases e1 : kk = 1
            · subst e1
              have HI4 := Lib.hid (HT2.out.below (below_alloc w6 (.cells #[iv 1001, iv (-1), iv 1000] 3)))
              have HIN := Lib.hid (Ints.lit w6 [1001, -1, 1000] (by simp) (by intro x hx; simp at hx; omega))
              have hgw : g < w6.heap.size := blk_lt HT2.out.rd.box
              have HC := Lib.hid (one_any w0 (w6.alloc (.cells #[iv 1001, iv (-1), iv 1000] 3)) g A l c ((q + 1) + 1) _ 3 3 [1001, -1, 1000] HI4.out.rd (by omega) HIN.out (by omega) (fun b' o' e' => by injection e' with e'; injection e' with e' _ _; omega))
              clear HIN HT2
              go_wp2_with fail
              refine HC.out.mono ?_
              rintro e w7 ⟨x, rfl, hx, hr, ho⟩
              have hx5 : -1 ≤ x ∧ x ≤ 1001 := by simp at hx; omega
              have HI5 := Lib.hid (HI4.out.one hr ho)
              clear hx hr ho HC HI4
              obtain ⟨b0, cc0, e, hc0, hf0, hset⟩ := HI5.out.set (j := 0) (by rw [HZL.out]; omega) x
              injection e with e1 e2 e3
              subst e1
              have HI6 := Lib.hid hset
              clear hset HI5 e2 e3
              go_wp2
              go_ret
              exact ⟨_, cu, zs.set 0 x, (q + 1) + 1 + 1, by rw [List.length_set, HZL.out]; rfl, by rw [List.length_set, HZL.out]; omega, fun y hy => by
                rcases List.mem_or_eq_of_mem_set hy with hy | rfl
                · exact HZB.out y hy
                · exact hx5, by rw [List.length_set, HZL.out]; exact HI6.out, by omega⟩
            · go_wp2
              go_ret
              exact ⟨_, cu, zs, (q + 1) + 1, by rw [HZL.out]; rfl, by rw [HZL.out]; omega, HZB.out, by rw [HZL.out]; exact HT2.out, by omega⟩
        · have hs0' : (tot ys == 0) = false := by simpa using hs0
          have HZL := HYL
          have HZB := HZB1
          have HT := HI2
          clear HI2 HZB1 hs0
          have HC := Lib.hid (pick_any w0 _ g A l c q 40 HT.out.rd (by omega))
          go_wp2_with fail
          refine HC.out.mono ?_
          rintro e w6 ⟨kk, rfl, hk1, _, hr, z, hw⟩
          have hone := Rdr.one (g := g) (wr.drewN qq) (.int .i64 (q + 1 : Nat)) z
          rw [← hw] at hone
          obtain ⟨k0, k1⟩ := hk1 (by omega)
          have HT2 := Lib.hid (SH.one HT.out hr hone)
          clear hr hone hw hk1 HC HT
          by_cases e0 : kk = 0
          · subst e0
            have hb := below_alloc w6 (.cells #[iv 1] 3)
            have HB4 := Lib.hid (HT2.out.bi.below hb).own
            have HN := Lib.hid (cell_one_new w6 (iv 1) 3)
            have hHs := HT2.out.hs
            have HZ := Lib.hid HZL.out
            rw [HZL.out] at HB4
            clear hb
            go_wp2_with (at_builtin; refine wpList_append_own_at _ rfl _ _ 32 rfl w.heap.size 3 i0 (.int .i64 0) 1 8 Try.underlying32 hi0 hz0 hz1 hz2 rfl (by decide) _ N (ys.map iv) rfl HB4.out ⟨w6.heap.size, 0, none⟩ 1 1 [iv 1] rfl rfl ?c1 ?c2 ?c3 ?c4 ?c5 ?_)
            case c1 => exact HN.out
            case c2 => intro u hu; simp at hu; subst hu; rfl
            case c3 => unfold maxLen; omega
            case c4 => omega
            case c5 => simp; omega
            intro v' w7 hown' hgrow _ hat
            rw [← HZ.out] at hown'
            have HI6 := Lib.hid (show SH w0 w g A l c (q + 1) v' (ys ++ [1]) w7 from TI.push HT2.out hown' hgrow (by simpa [Value.ownBlock] using hat))
            clear HB4 HN hown' hgrow hat HT2
            obtain ⟨Au2, cu2, rfl⟩ := HI6.out.bi.form
            go_wp2
            go_ret
            exact ⟨Au2, cu2, ys ++ [1], q + 1, rfl, by rw [List.length_append, HZ.out]; simp; omega, fun x hx => by
              rcases List.mem_append.1 hx with hx | hx
              · exact HZB.out x hx
              · simp at hx; omega, HI6.out, by omega⟩
          · by_cases e1 : kk = 1
            · subst e1
              have HI4 := Lib.hid (HT2.out.below (below_alloc w6 (.cells #[iv 1001, iv (-1), iv 1000] 3)))
              have HIN := Lib.hid (Ints.lit w6 [1001, -1, 1000] (by simp) (by intro x hx; simp at hx; omega))
              have hgw : g < w6.heap.size := blk_lt HT2.out.rd.box
              have HC := Lib.hid (one_any w0 (w6.alloc (.cells #[iv 1001, iv (-1), iv 1000] 3)) g A l c (q + 1) _ 3 3 [1001, -1, 1000] HI4.out.rd (by omega) HIN.out (by omega) (fun b' o' e' => by injection e' with e'; injection e' with e' _ _; omega))
              clear HIN HT2
              go_wp2_with fail
              refine HC.out.mono ?_
              rintro e w7 ⟨x, rfl, hx, hr, ho⟩
              have hx5 : -1 ≤ x ∧ x ≤ 1001 := by simp at hx; omega
              have HI5 := Lib.hid (HI4.out.one hr ho)
              clear hx hr ho HC HI4
              obtain ⟨b0, cc0, e, hc0, hf0, hset⟩ := HI5.out.set (j := 0) (by rw [HZL.out]; omega) x
              injection e with e1 e2 e3
              subst e1
              have HI6 := Lib.hid hset
              clear hset HI5 e2 e3
              go_wp2
              go_ret
              exact ⟨_, cu, ys.set 0 x, q + 1 + 1, by rw [List.length_set, HZL.out]; rfl, by rw [List.length_set, HZL.out]; omega, fun y hy => by
                rcases List.mem_or_eq_of_mem_set hy with hy | rfl
                · exact HZB.out y hy
                · exact hx5, by rw [List.length_set, HZL.out]; exact HI6.out, by omega⟩
            · go_wp2
              go_ret
              exact ⟨_, cu, ys, q + 1, by rw [HZL.out]; rfl, by rw [HZL.out]; omega, HZB.out, by rw [HZL.out]; exact HT2.out, by omega⟩
end Go.Proofs.Ytgnbmanlpppdoaa

/- A table and shares, drawn from bytes. -/
namespace Go.Proofs.Ytgnbmanlpppdoaa
open Go.RowKit

theorem OwnR.grown {lo hi w w' b A n c xss} {g : Nat} (h : OwnR lo hi w b A n c xss) (k : w.grownBy w' (some g)) (hg : g < lo) : OwnR lo hi w' b A n c xss :=
  h.of_blocks fun i h1 _ h3 => k.block i h3 (fun e => by injection e with e; omega)
theorem OwnI.grown {lo hi w w' b A n c xs} {g : Nat} (h : OwnI lo hi w b A n c xs) (k : w.grownBy w' (some g)) (hg : g < lo) : OwnI lo hi w' b A n c xs :=
  h.of_block fun hn => k.block _ (h.lt hn) (fun e => by obtain ⟨_, _, q, _⟩ := h.own hn; injection e with e; omega)
theorem Picked.one {w0 g A l c p n w e w'} (h : Picked w0 g A l c p n w e w') : ∃ m : Int, e = .returned (.int .i64 m) ∧ (1 ≤ n → 0 ≤ m ∧ m < n) ∧ Rdr w0 w' g A l c (p + 1) ∧ w.grownBy w' (some g) := by
  obtain ⟨m, h1, h2, _, h4, q, rfl⟩ := h
  exact ⟨m, h1, h2, h4, ⟨rfl, rfl, rfl, by simp [World.setCell], fun k _ hne => Below.heap_setCell _ _ _ _ (fun e => hne (by rw [e]))⟩⟩

/-- A table and shares. -/
def DrawnTS (w : World) (e : Ending) (w' : World) : Prop :=
  ∃ Av n c gg xss Bv m cb ys, e = .returned (.tuple #[.slice Av n c, .slice Bv m cb]) ∧ Small xss ∧ OwnR w.heap.size w'.heap.size w' gg Av n c xss ∧ Ints w' Bv m cb ys ∧ Below w.heap.size w w'
/-- A table and shares of both players. -/
def DrawnTSS (w : World) (e : Ending) (w' : World) : Prop :=
  ∃ Av n c gg xss Bv m cb xs Cv l cc ys, e = .returned (.tuple #[.slice Av n c, .slice Bv m cb, .slice Cv l cc]) ∧ Small xss ∧ OwnR w.heap.size w'.heap.size w' gg Av n c xss ∧ Ints w' Bv m cb xs ∧ Ints w' Cv l cc ys ∧ Below w.heap.size w w'

set_option maxRecDepth 100000 in
set_option maxHeartbeats 1000000 in
theorem DrawWorstOf_any (A : Option Addr) (n c : Nat) (w : World) (h : Bytes w A n c) :
    Calls Try.prog 30 #[.slice A n c] w (DrawnTS w) := by
  have H0 := Lib.hid (newReader_any A n c w h)
  clear h
  go_enter Try.func30, Try.ntmps30
  go_wp2_with fail
  refine H0.out.mono ?_
  rintro e w1 ⟨A1, l, c1, rfl, hl, hr, hs⟩
  have H1 := Lib.hid (someTable_any w w1 w.heap.size A1 l c1 0 hr (by omega))
  clear hr hl H0
  go_wp2_with fail
  refine H1.out.mono ?_
  rintro e w2 ⟨wb, v', vs', xss', p', rfl, hsm, hto, hp, hg⟩
  have hsz := hg.size
  obtain ⟨Av, nv, cv, gg, rfl, hnv, hown⟩ := hto.bo.owns (by have := hsm.n; omega)
  have HO := Lib.hid (hown.mono (show w.heap.size + 1 ≤ wb.heap.size by have := hto.gl; omega) (Nat.le_refl _))
  have HB := Lib.hid hto.rd.below
  have HS := Lib.hid hsm
  have hn8 : nv ≤ 8 := by rw [hnv]; exact hsm.n
  have HC := Lib.hid (sharesOf_any w w2 w.heap.size A1 l c1 p' nv hto.rd (by omega) hn8)
  clear hsm hto hown hg H1 hnv
  go_wp2_with fail
  refine HC.out.mono ?_
  rintro e w4 ⟨Bv, cb, ys, p2, rfl, hyl, hyb, hsh, hp'⟩
  obtain ⟨A', n', c', g', e, -, ho, -⟩ := hsh.bi.owns (by omega) (fun x hx => by have := hyb x hx; omega)
  injection e with e1 e2 e3
  subst e1
  subst e2
  subst e3
  have HI := Lib.hid ho.ints
  have HB4 := Lib.hid hsh.rd.below
  have HO4 := Lib.hid ((HO.out.grown hsh.up (by omega)).mono (Nat.le_succ _) hsh.up.size)
  clear hsh ho HC hyb HO HB
  go_wp2
  go_ret2
  exact ⟨Av, nv, cv, gg, xss', Bv, _, cb, ys, rfl, HS.out, HO4.out, HI.out, HB4.out⟩
set_option maxRecDepth 100000 in
set_option maxHeartbeats 2000000 in
theorem DrawPayOf_any (A : Option Addr) (n c : Nat) (w : World) (h : Bytes w A n c) :
    Calls Try.prog 22 #[.slice A n c] w (DrawnTSS w) := by
  have H0 := Lib.hid (newReader_any A n c w h)
  clear h
  go_enter Try.func22, Try.ntmps22
  go_wp2_with fail
  refine H0.out.mono ?_
  rintro e w1 ⟨A1, l, c1, rfl, hl, hr, hs⟩
  have H1 := Lib.hid (someTable_any w w1 w.heap.size A1 l c1 0 hr (by omega))
  clear hr hl H0
  go_wp2_with fail
  refine H1.out.mono ?_
  rintro e w2 ⟨wb, v', vs', xss', p', rfl, hsm, hto, hp, hg⟩
  have hsz := hg.size
  obtain ⟨Av, nv, cv, gg, rfl, hnv, hown⟩ := hto.bo.owns (by have := hsm.n; omega)
  have HO := Lib.hid (hown.mono (show w.heap.size + 1 ≤ wb.heap.size by have := hto.gl; omega) (Nat.le_refl _))
  have HRD := Lib.hid hto.rd
  have HS := Lib.hid hsm
  have HLV := Lib.hid hnv
  have hn8 : nv ≤ 8 := by rw [hnv]; exact hsm.n
  clear hsm hto hown hg H1 hnv
  by_cases hv : VT xss'
  · have HV := Lib.hid hv
    have hm1 := hv.m1
    have hm3 := hv.m3
    have hn1 := hv.n1
    rw [← HLV.out] at hn1
    have HC := Lib.hid (pb_true hv ▸ validTable_any _ _ _ _ w2 HO.out.rows)
    clear hv
    go_wp2_with fail
    refine HC.out.mono ?_
    rintro e w3 ⟨rfl, hq⟩
    have HO3 := Lib.hid (HO.out.quiet hq)
    have HR3 := Lib.hid (HRD.out.quiet hq)
    have hz3 : w2.heap.size ≤ w3.heap.size := (hq.below (B := 0)).size
    clear hq HC HO HRD
    have HC := Lib.hid (sharesOf_any w w3 w.heap.size A1 l c1 p' nv HR3.out (by omega) hn8)
    go_wp2_with fail
    refine HC.out.mono ?_
    rintro e w4 ⟨Bv, cb, ys, p2, rfl, hyl, hyb, hsh, hp2⟩
    obtain ⟨A', n', c', g', e, -, ho, -⟩ := hsh.bi.owns (by omega) (fun x hx => by have := hyb x hx; omega)
    injection e with e1 e2 e3
    subst e1
    subst e2
    subst e3
    have HI := Lib.hid (ho.mono (show w.heap.size + 1 ≤ w3.heap.size by have := blk_lt HR3.out.box; omega) (Nat.le_refl _))
    have HR4 := Lib.hid hsh.rd
    have hz4 := hsh.up.size
    have HO4 := Lib.hid ((HO3.out.grown hsh.up (by omega)).mono (Nat.le_refl _) (Nat.le_trans hz3 hsh.up.size))
    clear hsh ho HC hyb HO3 HR3
    obtain ⟨b, o, rb, ro, cc, rfl, tab⟩ := HO4.out.rows.tab HV.out
    have hrow := tab.row 0 (by omega)
    simp only [Nat.add_zero] at hrow
    have HC := Lib.hid (sharesOf_any w w4 w.heap.size A1 l c1 p2 (gr xss' 0).length HR4.out (by omega) (by omega))
    clear tab
    go_wp2_with fail
    refine HC.out.mono ?_
    rintro e w5 ⟨Cv, cx, zs, p3, rfl, hzl, hzb, hsh, hp3⟩
    obtain ⟨A', n', c', g', e, -, ho, -⟩ := hsh.bi.owns (by omega) (fun x hx => by have := hzb x hx; omega)
    injection e with e1 e2 e3
    subst e1
    subst e2
    subst e3
    have HJ := Lib.hid (ho.mono (show w.heap.size + 1 ≤ w4.heap.size by have := blk_lt HR4.out.box; omega) (Nat.le_refl _))
    have HI5 := Lib.hid (HI.out.grown hsh.up (by omega))
    have HR5 := Lib.hid hsh.rd
    have HO5 := Lib.hid ((HO4.out.grown hsh.up (by omega)).mono (Nat.le_refl _) hsh.up.size)
    clear hsh ho HC hzb HO4 HR4 hrow HI
    have HC := Lib.hid (pick_any w w5 w.heap.size A1 l c1 p3 3 HR5.out (by omega))
    go_wp2_with fail
    refine HC.out.mono ?_
    rintro e w6 hpk
    obtain ⟨m, rfl, hm, hrd, hgr⟩ := hpk.one
    have HR6 := Lib.hid hrd
    have HO6 := Lib.hid ((HO5.out.grown hgr (by omega)).mono (Nat.le_refl _) hgr.size)
    have HI6 := Lib.hid (HI5.out.grown hgr (by omega))
    have HJ6 := Lib.hid (HJ.out.grown hgr (by omega))
    clear hpk hrd hgr HC HR5 HO5 HI5 HJ hm
    by_cases h0 : m = 0
    · have hz : (m == 0) = true := by simpa using h0
      clear h0
      have HC := Lib.hid (value_any _ nv cv xss' w6 HO6.out.rows HV.out)
      go_wp2_with fail
      refine HC.out.mono ?_
      rintro e w7 ⟨B1, d1, B2, d2, rfl, i1, i2, hb⟩
      have K1 := Lib.hid i1
      have K2 := Lib.hid i2
      have HB7 := Lib.hid (below_up HR6.out.below hb)
      have HO7 := Lib.hid ((HO6.out.below hb).mono (Nat.le_succ _) hb.size)
      clear i1 i2 hb HC hz HO6 HI6 HJ6 HR6
      go_wp2
      go_ret3
      exact ⟨_, nv, cv, gg, xss', B1, _, d1, _, B2, _, d2, _, rfl, HS.out, HO7.out, K1.out, K2.out, HB7.out⟩
    · have hz : (m == 0) = false := by simpa using h0
      clear h0
      go_wp2
      go_ret3
      exact ⟨_, nv, cv, gg, xss', Bv, _, cb, ys, Cv, _, cx, zs, rfl, HS.out, HO6.out.mono (Nat.le_succ _) (Nat.le_refl _), HI6.out.ints, HJ6.out.ints, HR6.out.below⟩
  · have HC := Lib.hid (pb_false hv ▸ validTable_any _ _ _ _ w2 HO.out.rows)
    clear hv
    go_wp2_with fail
    refine HC.out.mono ?_
    rintro e w3 ⟨rfl, hq⟩
    have HO3 := Lib.hid (HO.out.quiet hq)
    have HB3 := Lib.hid (below_quiet HRD.out.below hq)
    have hz3 : w2.heap.size ≤ w3.heap.size := (hq.below (B := 0)).size
    clear hq HC HO HRD
    have ha := below_alloc w3 (.cells #[iv 1] 3)
    have hb := below_alloc (w3.alloc (.cells #[iv 1] 3)) (.cells #[iv 1] 3)
    have HI := Lib.hid ((Ints.lit w3 [1] (by decide) (by decide)).keep (Keep.below hb))
    have hj := Ints.lit (w3.alloc (.cells #[iv 1] 3)) [1] (by decide) (by decide)
    rw [World.size_alloc] at hj
    have HJ := Lib.hid hj
    clear hj
    have HO5 := Lib.hid ((((HO3.out.mono (Nat.le_refl _) hz3).below ha).mono (Nat.le_refl _) ha.size |>.below hb).mono (Nat.le_succ _) hb.size)
    have HB5 := Lib.hid (below_up (below_up HB3.out ha) hb)
    clear ha hb HO3 HB3
    go_wp2
    go_ret3
    exact ⟨Av, nv, cv, gg, xss', _, 1, 1, [1], _, 1, 1, [1], rfl, HS.out, HO5.out, HI.out, HJ.out, HB5.out⟩
set_option maxRecDepth 100000 in
set_option maxHeartbeats 2000000 in
theorem DrawAreBest_any (A : Option Addr) (n c : Nat) (w : World) (h : Bytes w A n c) :
    Calls Try.prog 35 #[.slice A n c] w (DrawnTSS w) := by
  have H0 := Lib.hid (newReader_any A n c w h)
  clear h
  go_enter Try.func35, Try.ntmps35
  go_wp2_with fail
  refine H0.out.mono ?_
  rintro e w1 ⟨A1, l, c1, rfl, hl, hr, hs⟩
  have H1 := Lib.hid (someTable_any w w1 w.heap.size A1 l c1 0 hr (by omega))
  clear hr hl H0
  go_wp2_with fail
  refine H1.out.mono ?_
  rintro e w2 ⟨wb, v', vs', xss', p', rfl, hsm, hto, hp, hg⟩
  have hsz := hg.size
  obtain ⟨Av, nv, cv, gg, rfl, hnv, hown⟩ := hto.bo.owns (by have := hsm.n; omega)
  have HO := Lib.hid (hown.mono (show w.heap.size + 1 ≤ wb.heap.size by have := hto.gl; omega) (Nat.le_refl _))
  have HRD := Lib.hid hto.rd
  have HS := Lib.hid hsm
  have HLV := Lib.hid hnv
  have hn8 : nv ≤ 8 := by rw [hnv]; exact hsm.n
  clear hsm hto hown hg H1 hnv
  by_cases hv : VT xss'
  · have HV := Lib.hid hv
    have hm1 := hv.m1
    have hm3 := hv.m3
    have hn1 := hv.n1
    rw [← HLV.out] at hn1
    have HC := Lib.hid (pb_true hv ▸ validTable_any _ _ _ _ w2 HO.out.rows)
    clear hv
    go_wp2_with fail
    refine HC.out.mono ?_
    rintro e w3 ⟨rfl, hq⟩
    have HO3 := Lib.hid (HO.out.quiet hq)
    have HR3 := Lib.hid (HRD.out.quiet hq)
    have hz3 : w2.heap.size ≤ w3.heap.size := (hq.below (B := 0)).size
    clear hq HC HO HRD
    have HC := Lib.hid (sharesOf_any w w3 w.heap.size A1 l c1 p' nv HR3.out (by omega) hn8)
    go_wp2_with fail
    refine HC.out.mono ?_
    rintro e w4 ⟨Bv, cb, ys, p2, rfl, hyl, hyb, hsh, hp2⟩
    obtain ⟨A', n', c', g', e, -, ho, -⟩ := hsh.bi.owns (by omega) (fun x hx => by have := hyb x hx; omega)
    injection e with e1 e2 e3
    subst e1
    subst e2
    subst e3
    have HI := Lib.hid (ho.mono (show w.heap.size + 1 ≤ w3.heap.size by have := blk_lt HR3.out.box; omega) (Nat.le_refl _))
    have HR4 := Lib.hid hsh.rd
    have hz4 := hsh.up.size
    have HO4 := Lib.hid ((HO3.out.grown hsh.up (by omega)).mono (Nat.le_refl _) (Nat.le_trans hz3 hsh.up.size))
    clear hsh ho HC hyb HO3 HR3
    obtain ⟨b, o, rb, ro, cc, rfl, tab⟩ := HO4.out.rows.tab HV.out
    have hrow := tab.row 0 (by omega)
    simp only [Nat.add_zero] at hrow
    have HC := Lib.hid (sharesOf_any w w4 w.heap.size A1 l c1 p2 (gr xss' 0).length HR4.out (by omega) (by omega))
    clear tab
    go_wp2_with fail
    refine HC.out.mono ?_
    rintro e w5 ⟨Cv, cx, zs, p3, rfl, hzl, hzb, hsh, hp3⟩
    obtain ⟨A', n', c', g', e, -, ho, -⟩ := hsh.bi.owns (by omega) (fun x hx => by have := hzb x hx; omega)
    injection e with e1 e2 e3
    subst e1
    subst e2
    subst e3
    have HJ := Lib.hid (ho.mono (show w.heap.size + 1 ≤ w4.heap.size by have := blk_lt HR4.out.box; omega) (Nat.le_refl _))
    have HI5 := Lib.hid (HI.out.grown hsh.up (by omega))
    have HR5 := Lib.hid hsh.rd
    have HO5 := Lib.hid ((HO4.out.grown hsh.up (by omega)).mono (Nat.le_refl _) hsh.up.size)
    clear hsh ho HC hzb HO4 HR4 hrow HI
    have HC := Lib.hid (pick_any w w5 w.heap.size A1 l c1 p3 3 HR5.out (by omega))
    go_wp2_with fail
    refine HC.out.mono ?_
    rintro e w6 hpk
    obtain ⟨m, rfl, hm, hrd, hgr⟩ := hpk.one
    have HR6 := Lib.hid hrd
    have HO6 := Lib.hid ((HO5.out.grown hgr (by omega)).mono (Nat.le_refl _) hgr.size)
    have HI6 := Lib.hid (HI5.out.grown hgr (by omega))
    have HJ6 := Lib.hid (HJ.out.grown hgr (by omega))
    clear hpk hrd hgr HC HR5 HO5 HI5 HJ hm
    by_cases h0 : m = 0
    · have hz : (m == 0) = true := by simpa using h0
      clear h0
      have HC := Lib.hid (value_any _ nv cv xss' w6 HO6.out.rows HV.out)
      go_wp2_with fail
      refine HC.out.mono ?_
      rintro e w7 ⟨B1, d1, B2, d2, rfl, i1, i2, hb⟩
      have K1 := Lib.hid i1
      have K2 := Lib.hid i2
      have HB7 := Lib.hid (below_up HR6.out.below hb)
      have HO7 := Lib.hid ((HO6.out.below hb).mono (Nat.le_succ _) hb.size)
      clear i1 i2 hb HC hz HO6 HI6 HJ6 HR6
      go_wp2
      go_ret3
      exact ⟨_, nv, cv, gg, xss', B1, _, d1, _, B2, _, d2, _, rfl, HS.out, HO7.out, K1.out, K2.out, HB7.out⟩
    · have hz : (m == 0) = false := by simpa using h0
      clear h0
      go_wp2
      go_ret3
      exact ⟨_, nv, cv, gg, xss', Bv, _, cb, ys, Cv, _, cx, zs, rfl, HS.out, HO6.out.mono (Nat.le_succ _) (Nat.le_refl _), HI6.out.ints, HJ6.out.ints, HR6.out.below⟩
  · have HC := Lib.hid (pb_false hv ▸ validTable_any _ _ _ _ w2 HO.out.rows)
    clear hv
    go_wp2_with fail
    refine HC.out.mono ?_
    rintro e w3 ⟨rfl, hq⟩
    have HO3 := Lib.hid (HO.out.quiet hq)
    have HB3 := Lib.hid (below_quiet HRD.out.below hq)
    have hz3 : w2.heap.size ≤ w3.heap.size := (hq.below (B := 0)).size
    clear hq HC HO HRD
    have ha := below_alloc w3 (.cells #[iv 1] 3)
    have hb := below_alloc (w3.alloc (.cells #[iv 1] 3)) (.cells #[iv 1] 3)
    have HI := Lib.hid ((Ints.lit w3 [1] (by decide) (by decide)).keep (Keep.below hb))
    have hj := Ints.lit (w3.alloc (.cells #[iv 1] 3)) [1] (by decide) (by decide)
    rw [World.size_alloc] at hj
    have HJ := Lib.hid hj
    clear hj
    have HO5 := Lib.hid ((((HO3.out.mono (Nat.le_refl _) hz3).below ha).mono (Nat.le_refl _) ha.size |>.below hb).mono (Nat.le_succ _) hb.size)
    have HB5 := Lib.hid (below_up (below_up HB3.out ha) hb)
    clear ha hb HO3 HB3
    go_wp2
    go_ret3
    exact ⟨Av, nv, cv, gg, xss', _, 1, 1, [1], _, 1, 1, [1], rfl, HS.out, HO5.out, HI.out, HJ.out, HB5.out⟩
end Go.Proofs.Ytgnbmanlpppdoaa

/- The mean of best shares is the value. Plain. -/
namespace Go.Proofs.Ytgnbmanlpppdoaa
open V (sumN)

theorem payU_rows (a : List (List Int)) (x y : List Int) (m : Nat) : ∀ n, payU a x y m n = sumN (fun i => gi x i * rowY a y m i) n
  | 0 => rfl
  | n + 1 => by rw [payU_succ, sumN, payU_rows a x y m n]
theorem payU_cols (a : List (List Int)) (x y : List Int) (n m : Nat) : payU a x y m n = sumN (fun j => gi y j * dotc a x j n) m := by
  rw [payU_rows]
  have e : ∀ i, i < n → gi x i * rowY a y m i = sumN (fun j => gi y j * (gi x i * g2 a i j)) m := fun i _ => by
    unfold rowY
    rw [← sumN_mul]
    exact sumN_congr fun j _ => by grind
  rw [sumN_congr e, sumN_swap]
  exact sumN_congr fun j _ => by rw [sumN_mul, dotc_sum]
theorem fr_cross {u d v e : Int} (h1 : frU u d = frU v e) (h2 : frD u d = frD v e) : u * e = v * d := by
  have k1 := frU_mul u d
  have k2 := frD_mul u d
  have k3 := frU_mul v e
  have k4 := frD_mul v e
  rw [h1] at k1
  rw [h2] at k2
  generalize frU v e = p at *
  generalize frD v e = q at *
  generalize gcdI u d = g at *
  generalize gcdI v e = k at *
  grind
theorem pay_best {a : List (List Int)} {x y : List Int} (h : BestP a x y) : payF a x y = wstV (wlast a x) := by
  have v := h.ok.v
  have hx := h.ok.x
  have hy := h.ok.y
  have n1 := v.n1
  have m1 := v.m1
  obtain ⟨j0, _, e1, hl⟩ := wst_least a x a.length (gr a 0).length hx.2.2 ((gr a 0).length - 1)
  obtain ⟨i0, _, e2, hk⟩ := wst_least (ntab a) y (gr a 0).length a.length hy.2.2 (a.length - 1)
  have lx := hx.1
  have ly := hy.1
  -- no less than what is sure
  have g1 : colU a x a.length (gr a 0).length j0 * tot y ≤ payU a x y (gr a 0).length a.length := by
    rw [payU_cols]
    unfold tot
    rw [show y.length = (gr a 0).length by omega, sm_sum, ← sumN_mul]
    refine sumN_le fun j hj => ?_
    have := hl j (by omega)
    rw [colU_dotc a x _ _ j hj] at this
    rw [Int.mul_comm (gi y j)]
    exact Int.mul_le_mul_of_nonneg_right this (hy.2.1 j (by omega)).1
  -- and no more than what is let through
  have g2_ : colU (ntab a) y (gr a 0).length a.length i0 * tot x ≤ - payU a x y (gr a 0).length a.length := by
    have e : - payU a x y (gr a 0).length a.length = sumN (fun i => gi x i * dotc (ntab a) y i (gr a 0).length) a.length := by
      rw [payU_rows]
      have : ∀ i, i < a.length → gi x i * dotc (ntab a) y i (gr a 0).length = (-1) * (gi x i * rowY a y (gr a 0).length i) := fun i hi => by
        have e3 : dotc (ntab a) y i (gr a 0).length = (-1) * rowY a y (gr a 0).length i := by
          rw [dotc_sum]; unfold rowY; rw [← sumN_mul]
          exact sumN_congr fun j hj => by rw [v.ntab_neg i j hi hj]; grind
        rw [e3]; grind
      rw [sumN_congr this, sumN_mul]; omega
    rw [e]
    unfold tot
    rw [show x.length = a.length by omega, sm_sum, ← sumN_mul]
    refine sumN_le fun i hi => ?_
    have := hk i (by omega)
    rw [colU_dotc (ntab a) y _ _ i hi] at this
    rw [Int.mul_comm (gi x i)]
    exact Int.mul_le_mul_of_nonneg_right this (hx.2.1 i (by omega)).1
  have he := h.eq
  rw [wlast_n, wlast_t v, e1, e2] at he
  obtain ⟨q1, q2⟩ := Prod.mk.inj he
  simp only at q1 q2
  rw [← frU_neg] at q1
  rw [← frD_neg (colU (ntab a) y (gr a 0).length a.length i0)] at q2
  have hc := fr_cross q1 q2
  rw [Int.neg_mul] at hc
  have hp : payU a x y (gr a 0).length a.length = colU a x a.length (gr a 0).length j0 * tot y := by omega
  have ht := Int.mul_pos hx.2.2 hy.2.2
  obtain ⟨f1, f2⟩ := fr_eq (u := payU a x y (gr a 0).length a.length) (d := tot x * tot y) (v := colU a x a.length (gr a 0).length j0) (e := tot x) ht hx.2.2 (by rw [hp]; grind)
  rw [payF_yes h.ok, wlast_n, e1]
  unfold frV wstV
  rw [f1, f2]
end Go.Proofs.Ytgnbmanlpppdoaa

/- What the laws on best shares ask of what BestShares answers. -/
namespace Go.Proofs.Ytgnbmanlpppdoaa
open Go.RowKit

theorem eqI_self (xs : List Int) : eqI xs xs = true := eqI_yes rfl fun _ _ => rfl
/-- What BestShares answers, told as the value's shares or as none. -/
theorem NewBS.yes {w w' : World} {a : List (List Int)} {e : Ending} (h : NewBS w a e w') (v : VT a) : ∃ A1 c1 A2 c2, e = .returned (.tuple #[.slice A1 a.length c1, .slice A2 (gr a 0).length c2]) ∧ Ints w' A1 a.length c1 (bx a) ∧ Ints w' A2 (gr a 0).length c2 (by_ a) ∧ Below w.heap.size w w' := by
  rcases h with ⟨_, A1, c1, g1, A2, c2, g2, rfl, o1, o2, _, hb⟩ | ⟨h, _⟩
  · exact ⟨A1, c1, A2, c2, rfl, o1.ints, o2.ints, hb⟩
  · exact absurd v h
theorem NewBS.no {w w' : World} {a : List (List Int)} {e : Ending} (h : NewBS w a e w') (v : ¬ VT a) : e = .returned (.tuple #[.slice none 0 0, .slice none 0 0]) ∧ Below w.heap.size w w' := by
  rcases h with ⟨h, _⟩ | ⟨_, h⟩
  · exact absurd h v
  · exact h
theorem NewBSs.yes {w w' : World} {a : List (List Int)} {e : Ending} (h : NewBSs w a e w') (v : VT a) : ∃ A1 n1 c1 A2 n2 c2, e = .returned (.tuple #[.slice A1 n1 c1, .slice A2 n2 c2]) ∧ Ints w' A1 n1 c1 (bx a) ∧ Ints w' A2 n2 c2 (by_ a) ∧ Below w.heap.size w w' := by
  obtain ⟨A1, n1, c1, A2, n2, c2, h1, h2, h3, h4⟩ := h
  rw [if_pos (pb_true v)] at h2 h3
  exact ⟨A1, n1, c1, A2, n2, c2, h1, h2, h3, h4⟩
theorem NewBSs.no {w w' : World} {a : List (List Int)} {e : Ending} (h : NewBSs w a e w') (v : ¬ VT a) : ∃ A1 n1 c1 A2 n2 c2, e = .returned (.tuple #[.slice A1 n1 c1, .slice A2 n2 c2]) ∧ Ints w' A1 n1 c1 [] ∧ Ints w' A2 n2 c2 [] ∧ Below w.heap.size w w' := by
  obtain ⟨A1, n1, c1, A2, n2, c2, h1, h2, h3, h4⟩ := h
  rw [if_neg (by rw [pb_false v]; decide)] at h2 h3
  exact ⟨A1, n1, c1, A2, n2, c2, h1, h2, h3, h4⟩
end Go.Proofs.Ytgnbmanlpppdoaa

/- A pure rest of the table and it with the other signs is a saddle: its number is the value; there is one exactly if both make it sure. -/
namespace Go.Proofs.Ytgnbmanlpppdoaa
open Go.RowKit

/-- The table with the other signs. -/
def oth (a : List (List Int)) : List (List Int) := mtab a a.length
theorem oth_len (a : List (List Int)) : (oth a).length = a.length := mtab_len _ _
theorem oth_row {a : List (List Int)} {i : Nat} (hi : i < a.length) : gr (oth a) i = mrow (gr a i) (gr a i).length := by
  unfold oth
  rw [gr_get (by rw [mtab_len]; exact hi)]; simp [mtab]
theorem oth_g2 {a : List (List Int)} {i j : Nat} (hi : i < a.length) (hj : j < (gr a i).length) : g2 (oth a) i j = - g2 a i j := by
  unfold g2
  rw [oth_row hi, gi_get (by rw [mrow_len]; exact hj)]
  simp [mrow]
theorem VT.oth_game {a : List (List Int)} (v : VT a) : VG a (oth a) :=
  ⟨v, v.minus, (oth_len a).symm, by rw [oth_row v.n1, mrow_len]⟩
/-- The least of its row and the greatest of its column. -/
def Sad (a : List (List Int)) (i j : Nat) : Prop := (∀ k, k < a.length → g2 a k j ≤ g2 a i j) ∧ ∀ k, k < (gr a 0).length → g2 a i j ≤ g2 a i k
theorem rest_sad {a : List (List Int)} (v : VT a) {i j : Nat} (hi : i < a.length) (hj : j < (gr a 0).length) : RestAt a (oth a) a.length (gr a 0).length i j ↔ Sad a i j := by
  have e : ∀ k, k < (gr a 0).length → g2 (oth a) i k = - g2 a i k := fun k hk => oth_g2 hi (by rw [VT.len v hi]; exact hk)
  constructor
  · intro h
    refine ⟨h.1, fun k hk => ?_⟩
    have := h.2 k hk
    rw [e k hk, e j hj] at this
    omega
  · intro h
    refine ⟨h.1, fun k hk => ?_⟩
    have := h.2 k hk
    rw [e k hk, e j hj]
    omega
theorem pureR_oth {a : List (List Int)} (v : VT a) {r : List Int} : r ∈ pureR a (oth a) ↔ ∃ i j, i < a.length ∧ j < (gr a 0).length ∧ r = [(i : Int), (j : Int)] ∧ Sad a i j := by
  unfold pureR
  rw [if_pos (pb_true v.oth_game), allRests_mem]
  constructor
  · rintro ⟨i, j, h1, h2, h3, h4⟩; exact ⟨i, j, h1, h2, h3, (rest_sad v h1 h2).1 h4⟩
  · rintro ⟨i, j, h1, h2, h3, h4⟩; exact ⟨i, j, h1, h2, h3, (rest_sad v h1 h2).2 h4⟩
theorem lst_ge {r : List Int} {z : Int} (h0 : 0 < r.length) (h : ∀ j, j < r.length → z ≤ gi r j) : z ≤ lst r := by
  obtain ⟨j, hj, e⟩ := lst_has h0
  rw [← e]; exact h j hj
theorem bst_max (a : List (List Int)) : ∀ {k i : Nat}, i < k → lst (gr a i) ≤ lst (gr a (bst a k))
  | 0, _, h => absurd h (by omega)
  | k + 1, i, h => by
    by_cases hc : lst (gr a (bst a k)) < lst (gr a k)
    · rw [bst_up hc]
      by_cases e : i = k
      · subst e; exact Int.le_refl _
      · have := bst_max a (k := k) (i := i) (by omega); omega
    · rw [bst_same hc]
      by_cases e : i = k
      · subst e; omega
      · exact bst_max a (by omega)
theorem sad_rows {a : List (List Int)} (v : VT a) {i j : Nat} (hi : i < a.length) (hj : j < (gr a 0).length) (h : Sad a i j) :
    lst (gr a i) = g2 a i j ∧ lst (gr (ntab a) j) = - g2 a i j := by
  have hl := VT.len v hi
  have hn := ntab_row v hj
  have n1 := v.n1
  have m1 := v.m1
  constructor
  · refine Int.le_antisymm (lst_le (by rw [hl]; exact hj)) (lst_ge (by omega) fun k hk => ?_)
    exact h.2 k (by omega)
  · have e : ∀ k, k < a.length → gi (gr (ntab a) j) k = - g2 a k j := fun k hk => v.ntab_neg k j hk hj
    refine Int.le_antisymm ?_ (lst_ge (by omega) fun k hk => ?_)
    · have := lst_le (r := gr (ntab a) j) (j := i) (by omega)
      rw [e i hi] at this; exact this
    · rw [e k (by omega)]
      have := h.1 k (by omega)
      omega
/-- The number at a saddle is the value. -/
theorem sad_value {a : List (List Int)} (v : VT a) {i j : Nat} (hi : i < a.length) (hj : j < (gr a 0).length) (h : Sad a i j) : vF a = (g2 a i j, 1) := by
  obtain ⟨h1, h2⟩ := sad_rows v hi hj h
  have hx := onl_VS hi
  have hy := onl_VS hj
  have hy' : VS (onl (gr a 0).length j) (ntab a).length := by rw [ntab_len]; exact hy
  obtain ⟨j', hj', e1, l1⟩ := wlast_onl v hi
  obtain ⟨i', hi', e2, l2⟩ := wlast_onl v.ntab (i := j) (by rw [ntab_len]; exact hj)
  rw [ntab_len] at e2
  rw [v.ntab_m] at hi' l2
  have a1 := l1 j hj
  have a2 := h.2 j' hj'
  have b1 := l2 i hi
  rw [v.ntab_neg i' j hi' hj, v.ntab_neg i j hi hj] at b1
  have b2 := h.1 i' hi'
  have eq1 : g2 a i j' = g2 a i j := by omega
  have eq2 : g2 a i' j = g2 a i j := by omega
  rw [eq1] at e1
  rw [v.ntab_neg i' j hi' hj, eq2] at e2
  have hb : BestP a (onl a.length i) (onl (gr a 0).length j) := ⟨⟨v, hx, hy⟩, by rw [e1, e2]; simp⟩
  rw [← best_same v hb, e1]
/-- There is a saddle exactly if what both make sure is the same. -/
theorem sad_iff {a : List (List Int)} (v : VT a) : (∃ i j, i < a.length ∧ j < (gr a 0).length ∧ Sad a i j) ↔ srNum a = - srNum (ntab a) := by
  rw [srNum_yes v, srNum_yes v.ntab]
  have hi := bst_lt' v
  have hj := bst_lt' v.ntab
  have hj2 : bst (ntab a) (ntab a).length < (gr a 0).length := by have := ntab_len a; omega
  have r1 := row_le v hi
  have r2 := row_le v.ntab hj
  rw [vF_ntab v] at r2
  simp only at r2
  have hd := (vF_bd v).2.1
  have hle : lst (gr a (bst a a.length)) ≤ - lst (gr (ntab a) (bst (ntab a) (ntab a).length)) := by
    apply Classical.byContradiction; intro hc
    have h1 : 1 ≤ lst (gr a (bst a a.length)) + lst (gr (ntab a) (bst (ntab a) (ntab a).length)) := by omega
    have h2 := Int.mul_le_mul_of_nonneg_right h1 (show (0 : Int) ≤ (vF a).2 by omega)
    rw [Int.add_mul] at h2
    omega
  have hl := VT.len v hi
  have hn := ntab_row v hj2
  constructor
  · rintro ⟨i, j, h1, h2, h3⟩
    obtain ⟨s1, s2⟩ := sad_rows v h1 h2 h3
    have m1 := bst_max a h1
    have m2 := bst_max (ntab a) (k := (ntab a).length) (i := j) (by rw [ntab_len]; exact h2)
    omega
  · intro e
    have c1 : ∀ k, k < (gr a 0).length → lst (gr a (bst a a.length)) ≤ g2 a (bst a a.length) k := fun k hk => lst_le (by rw [hl]; exact hk)
    have c2 : ∀ k, k < a.length → lst (gr (ntab a) (bst (ntab a) (ntab a).length)) ≤ - g2 a k (bst (ntab a) (ntab a).length) := fun k hk => by
      rw [← v.ntab_neg k _ hk hj2]; exact lst_le (by rw [hn]; exact hk)
    refine ⟨_, _, hi, hj2, fun k hk => ?_, fun k hk => ?_⟩
    · have := c1 _ hj2; have := c2 _ hi; have := c2 k hk; omega
    · have := c1 k hk; have := c1 _ hj2; have := c2 _ hi; omega
theorem saddles {a : List (List Int)} (v : VT a) : decide (0 < ((pureR a (oth a)).length : Int)) = (srNum a == - srNum (ntab a)) := by
  rw [Bool.eq_iff_iff]
  simp only [decide_eq_true_eq, beq_iff_eq]
  rw [← sad_iff v]
  constructor
  · intro h
    have h0 : 0 < (pureR a (oth a)).length := by omega
    obtain ⟨i, j, h1, h2, _, h3⟩ := (pureR_oth v).1 (List.getElem_mem h0)
    exact ⟨i, j, h1, h2, h3⟩
  · rintro ⟨i, j, h1, h2, h3⟩
    have := List.length_pos_of_mem ((pureR_oth v).2 ⟨i, j, h1, h2, rfl, h3⟩)
    omega
end Go.Proofs.Ytgnbmanlpppdoaa

/- Pure rests, by the program. -/
namespace Go.Proofs.Ytgnbmanlpppdoaa
open Go.RowKit

theorem Try.info32b : (Try.prog.info? 32).map (fun i => (i.zero, i.size, i.bytes)) = some (some (.slice none 0 0), 1, 24) := by kernel_rfl

/-- What the loops know: the game, the turned table, the rests so far. -/
structure PS (p : GP) (w : World) (N L : Nat) (wr : World) (v : Value) (vs : List Value) (xs ys rs : List (List Int)) : Prop where
  gt : GT p w wr w.heap.size xs ys
  tn : OwnR N L wr N (some ⟨N, 0, none⟩) p.m p.m (flip xs p.n p.m)
  bd : Bld L wr.heap.size wr v vs rs
  h1 : w.heap.size < N
  h2 : N < L
  h3 : L ≤ wr.heap.size
theorem PS.qu {p w N L wr wr' v vs xs ys rs} (h : PS p w N L wr v vs xs ys rs) (k : Quiet wr wr') : PS p w N L wr' v vs xs ys rs := by
  have kb : Below wr.heap.size wr wr' := k.below
  exact ⟨h.gt.up kb, h.tn.below kb, (h.bd.below kb).mono kb.size, h.h1, h.h2, Nat.le_trans h.h3 kb.size⟩

set_option maxHeartbeats 1000000 in
theorem PureRests_impl (A B : Option Addr) (n c m d : Nat) (xs ys : List (List Int)) (w : World) (hx : IntRows w A n c xs) (hy : IntRows w B m d ys) :
    Calls Try.prog 44 #[.agg #[.slice A n c, .slice B m d]] w (RetR (pureR xs ys) w) := by
  have hb0 := below_alloc w (.cells #[.slice A n c, .slice B m d] 54)
  have b0 := blk_new w 54 #[.slice A n c, .slice B m d]
  have HB := Lib.hid hb0
  have HK := Lib.hid b0
  have HX := Lib.hid (hx.keep (Keep.below hb0))
  have HY := Lib.hid (hy.keep (Keep.below hb0))
  have HX0 := Lib.hid hx
  have HY0 := Lib.hid hy
  clear hx hy hb0 b0
  go_enter Try.func44, Try.ntmps44
  go_wp2_with fail
  generalize w.alloc (.cells #[.slice A n c, .slice B m d] 54) = W1 at *
  have HC := Lib.hid (ValidGame_impl _ _ _ _ _ _ _ _ _ HX.out HY.out)
  by_cases hv : VG xs ys
  · refine ((pb_true hv) ▸ HC.out).mono ?_
    rintro e w1 ⟨rfl, hb⟩
    have hb2 := below_up HB.out hb
    have hk2 := blk_below HK.out hb
    obtain ⟨p, rfl, rfl, rfl, rfl, rfl, rfl, hg⟩ := GV.of HX0.out HY0.out hv
    have HT := Lib.hid (show GT p w w1 w.heap.size xs ys from ⟨hb2, hk2, hg⟩)
    have hn3 := hg.tx.n3
    have hm3 := hg.tx.m3
    have hn1 := hg.tx.n1
    have hm1 := hg.tx.m1
    have HP := Lib.hid (show pureR xs ys = allRests xs ys p.n p.m p.n by rw [pureR, if_pos (pb_true hv), hg.lx, hg.mx])
    have HLY := Lib.hid (show ∀ i, i < p.n → (gr ys i).length = p.m from fun i hi => (hg.ty.ints i hi).len)
    clear hb hv hb2 hk2 hg HX HY HX0 HY0 HB HK HC
    have k0 := HT.out.c0
    go_wp2_with fail
    refine (turned_any _ _ _ _ _ _ _ _ _ _ HT.out.gv.tx).mono ?_
    rintro e w2 ⟨rfl, ho, hb, hlt⟩
    have HS := Lib.hid (show PS p w w1.heap.size w2.heap.size w2 (.slice none 0 0) [] xs ys [] from ⟨HT.out.up hb, ho, Bld.nil _ _ _, blk_lt HT.out.box, hlt, Nat.le_refl _⟩)
    clear ho hb hlt HT k0
    generalize w1.heap.size = N at *
    generalize w2.heap.size = L at *
    have k1 := HS.out.gt.c1
    go_wp2
    clear k1
    go_loopw [4, 18] (fun v s wr => ∃ (i : Nat) (vs : List Value), i ≤ p.n ∧ s = .int .i64 i ∧ Hid (PS p w N L wr v vs xs ys (allRests xs ys p.n p.m i))) (fun _ s _ => p.n - (intOf s).toNat)
    case atStart => exact ⟨0, [], Nat.zero_le _, rfl, HS⟩
    case round =>
      clear HS
      obtain ⟨i, vs, hi, rfl, HS⟩ := hrel
      by_cases hin : i < p.n
      · have s1 := HS.out.gt.gv.ty.row i hin
        go_wp2
        clear s1
        go_loopw [4, 25] (fun v s wj => ∃ (j : Nat) (vs : List Value), j ≤ p.m ∧ s = .int .i64 j ∧ Hid (PS p w N L wj v vs xs ys (allRests xs ys p.n p.m i ++ rowRests xs ys p.n p.m i j))) (fun _ s _ => p.m - (intOf s).toNat)
        case atStart => exact ⟨0, vs, Nat.zero_le _, rfl, Lib.hid (by rw [rowRests, List.append_nil]; exact HS.out)⟩
        case round =>
          clear HS vs
          obtain ⟨j, vs, hj, rfl, HS⟩ := hrel
          by_cases hjm : j < p.m
          · have k0 := HS.out.gt.c0
            have r1 := HS.out.gt.gv.tx.row i hin
            have e1 := HS.out.gt.gv.tx.cell i j hin hjm
            have f1 := HS.out.gt.gv.ty.cell i j hin hjm
            obtain ⟨R, cc, t1, tI⟩ := HS.out.tn.row0 hjm
            have hfl : (gr (flip xs p.n p.m) j).length = p.n := by rw [gr_flip hjm]; simp
            have HQX := Lib.hid tI
            have HQY := Lib.hid (HS.out.gt.gv.ty.ints i hin)
            clear tI
            generalize hcol : gr (flip xs p.n p.m) j = col at *
            have HCOL := Lib.hid hcol
            clear hcol
            have QX := Lib.hid (fun W (hW : Quiet wr W) => Max_any _ _ _ _ W (HQX.out.keep (Keep.quiet hW)) (by omega))
            have QY := Lib.hid (fun W (hW : Quiet wr W) => Max_any _ _ _ _ W (HQY.out.keep (Keep.quiet hW)) (by omega))
            clear HQX HQY hfl
            by_cases h1 : g2 xs i j = mxl col
            · have h1' : (g2 xs i j == mxl col) = true := by simp [h1]
              by_cases h2 : g2 ys i j = mxl (gr ys i)
              · have h2' : (g2 ys i j == mxl (gr ys i)) = true := by simp [h2]
                have HR := Lib.hid (rowRests_yes ((RestAt_iff hin hjm (HLY.out i hin)).2 ⟨by rw [HCOL.out]; exact h1, h2⟩))
                clear h1 h2
                go_wp2
                go_quiet ((go_at_call 79; (first | (with_reducible refine quiet_fit (QX.out _ ?_) (fun m => ?_)) | (with_reducible refine quiet_fit (QY.out _ ?_) (fun m => ?_))); (first | exact ⟨_, rfl⟩ | exact Quiet.two _ _ _); (first | exact drewN_to1 _ _ _ | exact drewN_to2 _ _ _ _)))
                have HS2 := Lib.hid (HS.out.qu ⟨nq, rfl⟩)
                have hlen : (allRests xs ys p.n p.m i ++ rowRests xs ys p.n p.m i j).length ≤ 12 := by
                  have h1 := allRests_len xs ys p.n p.m hm3 i
                  have h2 := rowRests_len xs ys p.n p.m i j
                  rw [List.length_append]; omega
                clear QX QY h1' h2' HS k0 r1 e1 f1 t1
                generalize wr.drewN nq = w2 at *
                have hb3 := below_alloc w2 (.cells #[.int .i64 i, .int .i64 j] 3)
                have hb4 := below_alloc (w2.alloc (.cells #[.int .i64 i, .int .i64 j] 3)) (.cells #[.slice (some ⟨w2.heap.size, 0, none⟩) 2 2] 32)
                have HB4 := Lib.hid ((HS2.out.bd.below hb3).below hb4).own
                have HN := Lib.hid (cell_one_new (w2.alloc (.cells #[.int .i64 i, .int .i64 j] 3)) (.slice (some ⟨w2.heap.size, 0, none⟩) 2 2) 32)
                have hL := HS2.out.h3
                clear hb3 hb4
                generalize hrs : allRests xs ys p.n p.m i ++ rowRests xs ys p.n p.m i j = rs at *
                have HRS := Lib.hid hrs
                clear hrs
                obtain ⟨i0, hi0, hz0, hz1, hz2⟩ := info_parts Try.info32b
                go_wp2_with (at_builtin; refine wpList_append_own_at _ rfl _ _ 23 rfl L 32 i0 (.slice none 0 0) 1 24 Try.underlying23 hi0 hz0 hz1 hz2 rfl (by decide) _ rs.length vs rfl HB4.out ⟨w2.heap.size + 1, 0, none⟩ 1 1 [.slice (some ⟨w2.heap.size, 0, none⟩) 2 2] rfl rfl ?c1 ?c2 ?c3 ?c4 ?c5 ?_)
                case c1 => have h := HN.out; rw [World.size_alloc] at h; exact h
                case c2 => intro u hu; simp at hu; subst hu; rfl
                case c3 => unfold maxLen; omega
                case c4 => omega
                case c5 => simp; omega
                intro v' w5 hown' hgrow _ hat
                obtain ⟨hP, hK⟩ := push_pair HS2.out.bd (by omega) (by omega) hown' hgrow hat hL
                have HS5 := Lib.hid (show PS p w N L w5 v' _ xs ys _ from ⟨HS2.out.gt.up2 hK (by have := HS2.out.h1; have := HS2.out.h2; omega) (by have := HS2.out.h1; have := HS2.out.h2; omega), HS2.out.tn.of_blocks (fun g _ hg _ => hK.block g hg), hP, HS2.out.h1, HS2.out.h2, Nat.le_trans hL hK.size⟩)
                clear HB4 HN hown' hgrow hat hP hK HS2
                go_wp2
                go_roundw
                case rel => exact ⟨j + 1, _, by omega, by go_num, Lib.hid (by rw [HR.out, ← List.append_assoc, HRS.out]; exact HS5.out)⟩
                case measure => simp [intOf]; omega
              · have h2' : (g2 ys i j == mxl (gr ys i)) = false := by simp [h2]
                have HR := Lib.hid (rowRests_no (a := xs) (fun v => h2 ((RestAt_iff hin hjm (HLY.out i hin)).1 v).2))
                clear h1 h2
                go_wp2
                go_quiet ((go_at_call 79; (first | (with_reducible refine quiet_fit (QX.out _ ?_) (fun m => ?_)) | (with_reducible refine quiet_fit (QY.out _ ?_) (fun m => ?_))); (first | exact ⟨_, rfl⟩ | exact Quiet.two _ _ _); (first | exact drewN_to1 _ _ _ | exact drewN_to2 _ _ _ _)))
                have HS2 := Lib.hid (HS.out.qu ⟨nq, rfl⟩)
                go_wp2
                go_roundw
                case rel => exact ⟨j + 1, vs, by omega, by go_num, Lib.hid (by rw [HR.out]; exact HS2.out)⟩
                case measure => simp [intOf]; omega
            · have h1' : (g2 xs i j == mxl col) = false := by simp [h1]
              have HR := Lib.hid (rowRests_no (fun v => h1 (by have := ((RestAt_iff hin hjm (HLY.out i hin)).1 v).1; rw [HCOL.out] at this; exact this)))
              clear h1
              go_wp2
              go_quiet ((go_at_call 79; (first | (with_reducible refine quiet_fit (QX.out _ ?_) (fun m => ?_)) | (with_reducible refine quiet_fit (QY.out _ ?_) (fun m => ?_))); (first | exact ⟨_, rfl⟩ | exact Quiet.two _ _ _); (first | exact drewN_to1 _ _ _ | exact drewN_to2 _ _ _ _)))
              have HS2 := Lib.hid (HS.out.qu ⟨nq, rfl⟩)
              go_wp2
              go_roundw
              case rel => exact ⟨j + 1, vs, by omega, by go_num, Lib.hid (by rw [HR.out]; exact HS2.out)⟩
              case measure => simp [intOf]; omega
          · go_wp2
            go_roundw
            case rel => exact ⟨i + 1, vs, by omega, by go_num, Lib.hid (by have h := HS.out; rw [show j = p.m by omega] at h; rw [allRests]; exact h)⟩
            case measure => simp [intOf]; omega
      · go_wp2
        go_ret
        obtain ⟨A, n, c, g, rfl, hn, ho⟩ := HS.out.bd.owns (by have := allRests_len xs ys p.n p.m hm3 i; omega)
        have e : pureR xs ys = allRests xs ys p.n p.m i := by rw [HP.out, show i = p.n by omega]
        exact ⟨A, n, c, g, rfl, by rw [e]; exact hn, by rw [e]; exact ho.mono (by have := HS.out.h1; have := HS.out.h2; omega) (Nat.le_refl _), HS.out.gt.below⟩
  · have HZ := Lib.hid (show pureR xs ys = [] by rw [pureR, if_neg (by rw [pb_false hv]; decide)])
    refine ((pb_false hv) ▸ HC.out).mono ?_
    rintro e w1 ⟨rfl, hb⟩
    have HB2 := Lib.hid (below_up HB.out hb)
    clear hb hv HC
    go_wp2
    go_ret
    exact ⟨none, 0, 0, 0, rfl, by rw [HZ.out]; rfl, by rw [HZ.out]; exact OwnR.nil _ _ _ _, HB2.out⟩
end Go.Proofs.Ytgnbmanlpppdoaa

/- One block alone has turned: what is elsewhere stays; new lists whose block is known. -/
namespace Go.Proofs.Ytgnbmanlpppdoaa
open Go.RowKit
theorem eqI_same (xs : List Int) : eqI xs xs = true := eqI_yes rfl fun _ _ => rfl
theorem OwnI.one {lo hi g w w' b A n c xs} (h : OwnI lo hi w b A n c xs) (k : One g w w') (hne : b ≠ g) : OwnI lo hi w' b A n c xs := h.of_block fun _ => k.block b hne
theorem One.below {S g : Nat} {a w w' : World} (h : Below S a w) (k : One g w w') (hg : S ≤ g) : Below S a w' := Touch.below h (k.touch (Nat.le_refl g) (Nat.lt_succ_self g)) hg
theorem NewI.ge {w w' : World} {ys : List Int} {e : Ending} (h : NewI w ys e w') :
    ∃ Av c gg, e = .returned (.slice Av ys.length c) ∧ OwnI w.heap.size w'.heap.size w' gg Av ys.length c ys ∧ w.heap.size ≤ gg ∧ Below w.heap.size w w' := by
  obtain ⟨Av, n, c, gg, rfl, rfl, ho, hb⟩ := h
  by_cases h0 : 0 < ys.length
  · obtain ⟨o, e, h1, h2, hf⟩ := ho.own h0
    exact ⟨Av, c, gg, rfl, ho, h1, hb⟩
  · exact ⟨Av, c, w.heap.size, rfl, ⟨ho.ints, fun hn => absurd hn h0⟩, Nat.le_refl _, hb⟩
end Go.Proofs.Ytgnbmanlpppdoaa

/- Best shares as two lists that the call owns. -/
namespace Go.Proofs.Ytgnbmanlpppdoaa
open Go.RowKit
noncomputable def bX (a : List (List Int)) : List Int := if pb (VT a) = true then bx a else []
noncomputable def bY (a : List (List Int)) : List Int := if pb (VT a) = true then by_ a else []
/-- The shares, each in memory of its own. -/
def TwoI (w : World) (a : List (List Int)) (e : Ending) (w' : World) : Prop :=
  ∃ A1 c1 g1 A2 c2 g2, e = .returned (.tuple #[.slice A1 (bX a).length c1, .slice A2 (bY a).length c2]) ∧ OwnI w.heap.size w'.heap.size w' g1 A1 (bX a).length c1 (bX a) ∧
    OwnI w.heap.size w'.heap.size w' g2 A2 (bY a).length c2 (bY a) ∧ g1 ≠ g2 ∧ w.heap.size ≤ g1 ∧ w.heap.size ≤ g2 ∧ Below w.heap.size w w'
theorem NewBS.two {w w' : World} {a : List (List Int)} {e : Ending} (h : NewBS w a e w') : TwoI w a e w' := by
  rcases h with ⟨v, A1, c1, g1, A2, c2, g2, rfl, o1, o2, hne, hb⟩ | ⟨v, rfl, hb⟩
  · have e1 : bX a = bx a := by unfold bX; rw [if_pos (pb_true v)]
    have e2 : bY a = by_ a := by unfold bY; rw [if_pos (pb_true v)]
    have l1 : (bx a).length = a.length := Int.ofNat.inj (bx_VS v).1
    have l2 : (by_ a).length = (gr a 0).length := Int.ofNat.inj (by_VS v).1
    have n1 := v.n1
    have m1 := v.m1
    refine ⟨A1, c1, g1, A2, c2, g2, by rw [e1, e2, l1, l2], by rw [e1, l1]; exact o1, by rw [e2, l2]; exact o2, hne, ?_, ?_, hb⟩
    · obtain ⟨_, _, h1, _⟩ := o1.own (by omega); exact h1
    · obtain ⟨_, _, h1, _⟩ := o2.own (by omega); exact h1
  · have e1 : bX a = [] := by unfold bX; rw [if_neg (by rw [pb_false v]; decide)]
    have e2 : bY a = [] := by unfold bY; rw [if_neg (by rw [pb_false v]; decide)]
    refine ⟨none, 0, w.heap.size, none, 0, w.heap.size + 1, by rw [e1, e2]; rfl, by rw [e1]; exact OwnI.nil _ _ _ _, by rw [e2]; exact OwnI.nil _ _ _ _, by omega, by omega, by omega, hb⟩
theorem bX_le (a : List (List Int)) : (bX a).length ≤ 3 ∧ (bY a).length ≤ 3 := by
  by_cases v : VT a
  · have e1 : bX a = bx a := by unfold bX; rw [if_pos (pb_true v)]
    have e2 : bY a = by_ a := by unfold bY; rw [if_pos (pb_true v)]
    have l1 := (bx_VS v).1
    have l2 := (by_VS v).1
    have := v.n3
    have := v.m3
    rw [e1, e2]
    omega
  · have e1 : bX a = [] := by unfold bX; rw [if_neg (by rw [pb_false v]; decide)]
    have e2 : bY a = [] := by unfold bY; rw [if_neg (by rw [pb_false v]; decide)]
    rw [e1, e2]; simp
end Go.Proofs.Ytgnbmanlpppdoaa

/- The harness of the exact laws: a copy of a game marked; how many numbers it has. -/
namespace Go.Proofs.Ytgnbmanlpppdoaa
open Go.RowKit

theorem szR_offs (left : Int) (xs : List (List Int)) (h : 0 ≤ szR left xs) : szR left xs = left - offs xs xs.length := by
  have key : ∀ (xs : List (List Int)) (left : Int), 0 ≤ szR left xs → szR left xs = left - ((xs.map List.length).sum : Nat) := by
    intro xs
    induction xs with
    | nil => intro left _; simp [szR]
    | cons x xs ih =>
      intro left h
      by_cases hn : szI left x.length < 0
      · rw [szR_neg hn] at h; omega
      · rw [szR_pos hn] at h ⊢
        rw [ih _ h]
        have : szI left x.length = left - x.length := by unfold szI at hn ⊢; split <;> simp_all
        rw [this]
        simp
        omega
  have key2 : ∀ k, k ≤ xs.length → offs xs k = (((xs.take k).map List.length).sum : Nat) := by
    intro k
    induction k with
    | zero => intro _; simp [offs]
    | succ k ih =>
      intro hk
      rw [offs, ih (by omega), List.take_succ_eq_append_getElem (by omega), List.map_append, List.sum_append, gr_get (by omega)]
      simp
  rw [key xs left h, key2 _ (Nat.le_refl _), List.take_length]
theorem szRR_offs {left : Int} {xs : List (List Int)} (h : ¬ szRR left xs < 0) : offs xs xs.length ≤ left := by
  unfold szRR at h
  split at h
  · omega
  · rename_i hn
    have := szR_offs _ _ (by omega : 0 ≤ szR (szI left xs.length) xs)
    have h2 : szI left xs.length ≤ left := by unfold szI at hn ⊢; split <;> simp_all; omega
    omega
theorem szG_offs {left : Int} {xs ys : List (List Int)} (h : ¬ szG left xs ys < 0) (h0 : 0 ≤ left) (h1 : left ≤ 1048576) : offs xs xs.length ≤ 1048576 ∧ offs ys ys.length ≤ 1048576 := by
  unfold szG at h
  split at h
  · omega
  · rename_i hn
    split at h
    · omega
    · rename_i hn2
      have := szRR_offs hn
      have := szRR_offs hn2
      have := szRR_le left xs h0 h1
      omega

/-- A game marked: only its own rows have turned, and new blocks are there. -/
def MarkedG (lo hi : Nat) (w : World) (xs ys : List (List Int)) (k : Int) (e : Ending) (w' : World) : Prop :=
  e = .returned (.int .i64 (k + offs xs xs.length + offs ys ys.length)) ∧ ∃ w1, Below w.heap.size w w1 ∧ Touch lo hi w1 w'

def MarkedP (lo hi : Nat) (w : World) (xs ys : List (List Int)) (k : Int) (n m : Nat) (e : Ending) (w' : World) : Prop :=
  e = .returned (.int .i64 (k + offs xs n + offs ys m)) ∧ ∃ w1, Below w.heap.size w w1 ∧ Touch lo hi w1 w'

theorem offs_le {xss : List (List Int)} (h : ∀ r ∈ xss, r.length ≤ 3) : ∀ k, k ≤ xss.length → offs xss k ≤ 3 * k
  | 0, _ => by simp [offs]
  | k + 1, hk => by
    have h1 := offs_le h k (by omega)
    have h2 := h _ (gr_mem (xs := xss) (k := k) (by omega))
    simp only [offs]
    omega

end Go.Proofs.Ytgnbmanlpppdoaa

/- Values go with all numbers: with all numbers 1 more the value is 1 more, and without the last row it is no more. Plain. -/
namespace Go.Proofs.Ytgnbmanlpppdoaa
open Go.RowKit

/-- A row, all its numbers 1 more; a table. -/
def irow (r : List Int) (j : Nat) : List Int := (List.range j).map fun k => gi r k + 1
def itab (xss : List (List Int)) (i : Nat) : List (List Int) := (List.range i).map fun k => irow (gr xss k) (gr xss k).length
theorem irow_succ (r : List Int) (j : Nat) : irow r (j + 1) = irow r j ++ [gi r j + 1] := by simp [irow, List.range_succ]
theorem itab_succ (xss : List (List Int)) (i : Nat) : itab xss (i + 1) = itab xss i ++ [irow (gr xss i) (gr xss i).length] := by simp [itab, List.range_succ]
theorem irow_len (r : List Int) (j : Nat) : (irow r j).length = j := by simp [irow]
theorem itab_len (xss : List (List Int)) (j : Nat) : (itab xss j).length = j := by simp [itab]
theorem gr_itab {a : List (List Int)} {i : Nat} (hi : i < a.length) : gr (itab a a.length) i = irow (gr a i) (gr a i).length := by
  rw [gr_get (by rw [itab_len]; exact hi)]; simp [itab]
theorem g2_itab {a : List (List Int)} {i j : Nat} (hi : i < a.length) (hj : j < (gr a i).length) : g2 (itab a a.length) i j = g2 a i j + 1 := by
  unfold g2
  rw [gr_itab hi, gi_get (by rw [irow_len]; exact hj)]
  simp [irow]
/-- The least sum of a column. -/
theorem wst_min (a : List (List Int)) (x : List Int) (n m : Nat) (hm : 1 ≤ m) (tx : 0 < tot x) :
    ∃ C, wst a x n m (m - 1) = (frU C (tot x), frD C (tot x)) ∧ (∀ j, j < m → C ≤ dotc a x j n) ∧ ∃ j, j < m ∧ C = dotc a x j n := by
  obtain ⟨j, hj, e, hl⟩ := wst_least a x n m tx (m - 1)
  refine ⟨dotc a x j n, by rw [e, colU_dotc a x n m j (by omega)], fun i hi => ?_, j, by omega, rfl⟩
  have := hl i (by omega)
  rw [colU_dotc a x n m j (by omega), colU_dotc a x n m i hi] at this
  exact this
theorem wst_shift (a b : List (List Int)) (x y : List Int) (n k m : Nat) (d : Int) (hm : 1 ≤ m) (tx : 0 < tot x) (ht : tot y = tot x)
    (h : ∀ j, j < m → dotc b y j k = dotc a x j n + d) :
    ∃ C, wst a x n m (m - 1) = (frU C (tot x), frD C (tot x)) ∧ wst b y k m (m - 1) = (frU (C + d) (tot x), frD (C + d) (tot x)) := by
  obtain ⟨C, e, h1, j, hj, h2⟩ := wst_min a x n m hm tx
  obtain ⟨E, e', h1', j', hj', h2'⟩ := wst_min b y k m hm (by omega)
  have a1 := h1 j' hj'
  have a2 := h1' j hj
  rw [h j hj] at a2
  rw [h j' hj'] at h2'
  obtain rfl : E = C + d := by omega
  exact ⟨C, e, by rw [e', ht]⟩
theorem dotc_plus (a b : List (List Int)) (x : List Int) (j : Nat) (d : Int) : ∀ k, (∀ i, i < k → g2 b i j = g2 a i j + d) → dotc b x j k = dotc a x j k + d * sm x k
  | 0, _ => by simp [dotc, sm]
  | k + 1, h => by
    rw [dotc, dotc, dotc_plus a b x j d k fun i hi => h i (by omega), h k (by omega), sm, Int.mul_add, Int.mul_add, Int.mul_comm (gi x k) d]
    omega
/-- With all numbers 1 more the value is 1 more. -/
theorem vF_inc {a : List (List Int)} (v : VT a) (u : VT (itab a a.length)) {U D : Int} (h : vF a = (U, D)) :
    frV (U * 1 + 1 * D) (D * 1) = wstV (vF (itab a a.length)) := by
  have hb := best_is v
  have hx := bx_VS v
  have hy := by_VS v
  have n1 := v.n1
  have m1 := v.m1
  have hbl : (itab a a.length).length = a.length := itab_len _ _
  have hbm : (gr (itab a a.length) 0).length = (gr a 0).length := by rw [gr_itab n1, irow_len]
  have tx : 0 < tot (bx a) := hx.2.2
  have ty : 0 < tot (by_ a) := hy.2.2
  have lx : (bx a).length = a.length := by have := hx.1; omega
  have ly : (by_ a).length = (gr a 0).length := by have := hy.1; omega
  obtain ⟨C, e1, e2⟩ := wst_shift a (itab a a.length) (bx a) (bx a) a.length a.length (gr a 0).length (tot (bx a)) m1 tx rfl (fun j hj => by
    rw [dotc_plus a (itab a a.length) (bx a) j 1 a.length fun i hi => g2_itab hi (by rw [VT.len v hi]; exact hj), Int.one_mul]
    unfold tot; rw [lx])
  obtain ⟨E, f1, f2⟩ := wst_shift (ntab a) (ntab (itab a a.length)) (by_ a) (by_ a) (gr a 0).length (gr a 0).length a.length (-tot (by_ a)) n1 ty rfl (fun j hj => by
    rw [dotc_plus (ntab a) (ntab (itab a a.length)) (by_ a) j (-1) (gr a 0).length fun i hi => by
      rw [u.ntab_neg j i (by rw [hbl]; exact hj) (by rw [hbm]; exact hi), v.ntab_neg j i hj hi, g2_itab hj (by rw [VT.len v hj]; exact hi)]; omega]
    unfold tot; rw [ly, Int.neg_mul, Int.one_mul])
  have g1 : wlast a (bx a) = (frU C (tot (bx a)), frD C (tot (bx a))) := e1
  have g2' : wlast (ntab a) (by_ a) = (frU E (tot (by_ a)), frD E (tot (by_ a))) := by rw [wlast_t v]; exact f1
  have g3 : wlast (itab a a.length) (bx a) = (frU (C + tot (bx a)) (tot (bx a)), frD (C + tot (bx a)) (tot (bx a))) := by rw [wlast_def _ _ _ _ hbl hbm]; exact e2
  have g4 : wlast (ntab (itab a a.length)) (by_ a) = (frU (E + -tot (by_ a)) (tot (by_ a)), frD (E + -tot (by_ a)) (tot (by_ a))) := by
    rw [wlast_def _ _ _ _ (by rw [ntab_len, hbm]) (by rw [u.ntab_m, hbl])]; exact f2
  have heq := hb.eq
  rw [g1, g2'] at heq
  simp only [Prod.mk.injEq] at heq
  have hc : C * tot (by_ a) = -E * tot (bx a) := fr_cross (by rw [heq.1, frU_neg]) (by rw [heq.2, frD_neg])
  have hB : BestP (itab a a.length) (bx a) (by_ a) := ⟨⟨u, by rw [hbl]; exact hx, by rw [hbm]; exact hy⟩, by
    rw [g3, g4]
    have := fr_eq (u := C + tot (bx a)) (v := -(E + -tot (by_ a))) tx ty (by rw [Int.add_mul, hc, Int.neg_mul, Int.neg_mul, Int.add_mul, Int.neg_mul, Int.mul_comm (tot (by_ a)) (tot (bx a))]; omega)
    rw [this.1, this.2, frU_neg, frD_neg]⟩
  have hv : (frU C (tot (bx a)), frD C (tot (bx a))) = (U, D) := by rw [← g1, ← vF_yes v, h]
  obtain ⟨rfl, rfl⟩ := Prod.mk.inj hv
  rw [← best_same u hB, g3]
  have := fr_add (u := C) (d := tot (bx a)) (v := 1) (e := 1) tx (by omega)
  rw [(fr_one 1).1, (fr_one 1).2, Int.mul_one C, Int.one_mul (tot (bx a)), Int.mul_one (tot (bx a))] at this
  unfold frV wstV
  rw [this.1, this.2]
theorem dotc_take (a b : List (List Int)) (x y : List Int) (j : Nat) : ∀ k, (∀ i, i < k → g2 b i j = g2 a i j ∧ gi y i = gi x i) → dotc b y j k = dotc a x j k
  | 0, _ => rfl
  | k + 1, h => by rw [dotc, dotc, dotc_take a b x y j k fun i hi => h i (by omega), (h k (by omega)).1, (h k (by omega)).2]
/-- Without the last row the value is no more. -/
theorem vF_less {a : List (List Int)} (v : VT a) (u : VT (a.take (a.length - 1))) : leF (vF (a.take (a.length - 1))) (vF a) := by
  have hl : (a.take (a.length - 1)).length = a.length - 1 := by rw [List.length_take]; omega
  have n1 := v.n1
  have u1 := u.n1
  rw [hl] at u1
  have hg : ∀ i, i < a.length - 1 → gr (a.take (a.length - 1)) i = gr a i := fun i hi => by
    rw [gr_get (by rw [hl]; exact hi), gr_get (by omega), List.getElem_take]
  have hm : (gr (a.take (a.length - 1)) 0).length = (gr a 0).length := by rw [hg 0 (by omega)]
  have hx := bx_VS u
  generalize hX : bx (a.take (a.length - 1)) = x at *
  have lx : x.length = a.length - 1 := by have := hx.1; omega
  have gx : ∀ i, i < x.length → gi (x ++ [0]) i = gi x i := fun i hi => by rw [gi_get (by rw [List.length_append]; omega), gi_get hi, List.getElem_append_left hi]
  have sx : ∀ k, k ≤ x.length → sm (x ++ [0]) k = sm x k := fun k hk => by
    induction k with
    | zero => rfl
    | succ k ih => rw [sm, sm, ih (by omega)]; rw [gx k (by omega)]
  have gl : gi (x ++ [0]) x.length = 0 := by unfold gi; simp
  have tx : tot (x ++ [0]) = tot x := by
    unfold tot
    rw [List.length_append, List.length_singleton, sm, sx _ (Nat.le_refl _), gl]; omega
  have hV : VS (x ++ [0]) a.length := ⟨by rw [List.length_append, List.length_singleton]; omega, fun j hj => by
      rw [List.length_append, List.length_singleton] at hj
      by_cases e : j = x.length
      · subst e; rw [gl]; unfold InR; omega
      · rw [gx j (by omega)]; exact hx.2.1 j (by omega), by rw [tx]; exact hx.2.2⟩
  have h := le_value v hV
  obtain ⟨C, e1, e2⟩ := wst_shift (a.take (a.length - 1)) a x (x ++ [0]) (a.length - 1) a.length (gr a 0).length 0 v.m1 hx.2.2 tx (fun j _ => by
    have e : a.length = (a.length - 1) + 1 := by omega
    rw [show dotc a (x ++ [0]) j a.length = dotc a (x ++ [0]) j ((a.length - 1) + 1) by rw [← e], dotc, ← lx, gl, Int.zero_mul, Int.add_zero, Int.add_zero, lx]
    exact dotc_take _ _ _ _ j _ fun i hi => ⟨by unfold g2; rw [hg i hi], gx i (by omega)⟩)
  have g1 : wlast (a.take (a.length - 1)) x = (frU C (tot x), frD C (tot x)) := by rw [wlast_def _ _ _ _ hl hm]; exact e1
  have g2' : wlast a (x ++ [0]) = (frU C (tot x), frD C (tot x)) := by rw [wlast_n, e2, Int.add_zero]
  rw [vF_yes u, hX, g1, ← g2']
  exact h
end Go.Proofs.Ytgnbmanlpppdoaa

