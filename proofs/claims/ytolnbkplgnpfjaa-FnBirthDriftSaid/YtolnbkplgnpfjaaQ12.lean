/- Texts merged: LiftB LiftC Enter N18 N19 Math55 N8 N10. -/
import Derived.Test.YtolnbkplgnpfjaaQ11
import Derived.ChangeSlices
/- An argument of bytes, opened. -/
namespace Go.Proofs.Ytolnbkplgnpfjaa
open Go.ChangeShapes Go.WideShapes Go.ChangeAt Go.RowKit Go.Deep

theorem Try.cells_u8 : Try.prog.cellsOf 5 = 1 := by kernel_rfl
theorem Try.bytes_u8 : Try.prog.bytesOf 5 = 1 := by kernel_rfl
set_option maxRecDepth 100000 in
theorem open_bytes {H : Type} {enc : TypeId × Value → H} {W : World} {v : Value} {d : DataW H} {p : List MemPlace} {b0 : Nat} (hval : Value.okWide Try.prog W .any b0 22 v)
    (h : DataW.Trod enc Try.prog W 0 (fun _ => true) true 22 v d p) (hw : ∀ n ∈ d.weights Try.prog 22, n ≤ reachBytes) :
    ∃ A n c, v = .slice A n c ∧ Bytes W A n c := by
  obtain ⟨a1, len, cap, rfl⟩ := okWide_slice Try.underlying22 hval
  obtain ⟨fuel, hf⟩ := h
  rcases open_ints Try.underlying22 Try.underlying5 Try.cells_u8 hf with ⟨hcs, hx⟩ | ⟨a, len', cap', zs, hcs, _, hl, hm, hz, hx, hcell, hwz⟩
  · simp [Value.cells] at hcs
    obtain ⟨rfl, rfl, rfl⟩ := hcs
    exact ⟨none, 0, 0, rfl, Nat.le_refl _, by omega, fun h => absurd h (by omega)⟩
  · simp [Value.cells] at hcs
    obtain ⟨rfl, rfl, rfl⟩ := hcs
    simp only [Prod.mk.injEq] at hx
    obtain ⟨rfl, rfl⟩ := hx
    simp only [if_true] at hz
    have h1 := hw _ (weights_slice Try.underlying22 (.inl rfl))
    simp only [lits, List.length_map, List.length_take, List.length_drop, Try.bytes_u8, reachBytes] at h1
    refine ⟨some a, len, cap, rfl, hl, by omega, fun hn => ?_⟩
    have hspot : a.spot = none := by simpa [Addr.add] using World.cell?_spot (hcell 0 (by omega))
    obtain ⟨b, o, sp⟩ := a
    simp only at hspot
    subst hspot
    refine ⟨b, o, rfl, fun k hk => ⟨zs.getD k 0, ?_, ?_, by rw [← add_plain]; exact hcell k (by omega)⟩⟩
    · rw [List.getD_eq_getElem?_getD]; have := hwz (zs.getD k 0) (by rw [List.getD_eq_getElem?_getD, List.getElem?_eq_getElem (show k < zs.length by omega)]; simp)
      simp [Lit.wf, IntKind.min, IntKind.max, IntKind.signed, IntKind.bits] at this
      omega
    · rw [List.getD_eq_getElem?_getD]; have := hwz (zs.getD k 0) (by rw [List.getD_eq_getElem?_getD, List.getElem?_eq_getElem (show k < zs.length by omega)]; simp)
      simp [Lit.wf, IntKind.min, IntKind.max, IntKind.signed, IntKind.bits] at this
      omega
end Go.Proofs.Ytolnbkplgnpfjaa

/- Arguments that are a slice of ints, or an int, opened. -/
namespace Go.Proofs.Ytolnbkplgnpfjaa
open Go.ChangeShapes Go.WideShapes Go.ChangeAt Go.RowKit Go.Deep

set_option maxRecDepth 100000 in
theorem open_intS {H : Type} {enc : TypeId × Value → H} {W : World} {v : Value} {d : DataW H} {p : List MemPlace} {b0 : Nat} (hval : Value.okWide Try.prog W .any b0 27 v)
    (h : DataW.Trod enc Try.prog W 0 (fun _ => true) true 27 v d p) (hw : ∀ n ∈ d.weights Try.prog 27, n ≤ reachBytes) :
    ∃ A n c xs, v = .slice A n c ∧ Ints W A n c xs := by
  obtain ⟨a1, len, cap, rfl⟩ := okWide_slice Try.underlying27 hval
  obtain ⟨fuel, hf⟩ := h
  rcases open_ints Try.underlying27 Try.underlying3 Try.cells3 hf with ⟨hcs, hx⟩ | ⟨a, len', cap', zs, hcs, _, hl, hm, hz, hx, hcell, hwz⟩
  · simp [Value.cells] at hcs
    obtain ⟨rfl, rfl, rfl⟩ := hcs
    exact ⟨none, 0, 0, [], rfl, rfl, Nat.le_refl _, by omega, fun _ h => by simp at h, fun h => absurd h (by omega)⟩
  · simp [Value.cells] at hcs
    obtain ⟨rfl, rfl, rfl⟩ := hcs
    simp only [Prod.mk.injEq] at hx
    obtain ⟨rfl, rfl⟩ := hx
    simp only [if_true] at hz
    have h1 := hw _ (weights_slice Try.underlying27 (.inl rfl))
    simp only [lits, List.length_map, List.length_take, List.length_drop, Try.bytes3, reachBytes] at h1
    have hlen : (zs.take len).length = len := by rw [List.length_take]; omega
    refine ⟨some a, len, cap, zs.take len, rfl, hlen, hl, by omega, fun x hx => ?_, fun hn => ?_⟩
    · have := hwz x (List.mem_of_mem_take hx)
      simp [Lit.wf, IntKind.min, IntKind.max, IntKind.signed, IntKind.bits] at this
      omega
    have hspot : a.spot = none := by simpa [Addr.add] using World.cell?_spot (hcell 0 (by omega))
    obtain ⟨b, o, sp⟩ := a
    simp only at hspot
    subst hspot
    refine ⟨b, o, rfl, fun k hk => ?_⟩
    rw [← add_plain, hcell k (by omega)]
    congr 2
    rw [gi_get (by rw [hlen]; exact hk), List.getElem_take]
    simp [List.getD, show k < zs.length by omega]

set_option maxRecDepth 100000 in
theorem open_num {H : Type} {enc : TypeId × Value → H} {W : World} {v : Value} {d : DataW H} {p : List MemPlace} {b0 : Nat} (hval : Value.okWide Try.prog W .any b0 3 v)
    (h : DataW.Trod enc Try.prog W 0 (fun _ => true) true 3 v d p) : ∃ x, v = .int .i64 x ∧ Fit x := by
  obtain ⟨x, rfl, _, _, hw⟩ := open_int Try.underlying3 hval h
  refine ⟨x, rfl, ?_⟩
  simp [Lit.wf, IntKind.min, IntKind.max, IntKind.signed, IntKind.bits] at hw
  unfold Fit
  omega
end Go.Proofs.Ytolnbkplgnpfjaa

/- The program may be entered: facts of its head, once for all laws. -/
namespace Go.Proofs.Ytolnbkplgnpfjaa

theorem prog_enters : Try.pinned.checked.prog.mayEnter = true := by kernel_rfl
theorem prog_lifts0 : (false == Try.pinned.checked.prog.liftsFinal) = true := by kernel_rfl
theorem prog_make0 : (Try.pinned.checked.prog.make == some .cut) = true := by kernel_rfl
theorem prog_lifts {b : Bool} (h : b = false) : (b == Try.pinned.checked.prog.liftsFinal) = true := by subst h; exact prog_lifts0
theorem prog_make {m : Make} (h : m = .cut) : (Try.pinned.checked.prog.make == some m) = true := by subst h; exact prog_make0
end Go.Proofs.Ytolnbkplgnpfjaa

/- The laws' bit; chances are ordered as neighbours. -/
namespace Go.Proofs.Ytolnbkplgnpfjaa
open Go.RowKit

theorem quo_pw (j : Nat) (hj : j < 6) (x : Nat) : Int.tmod (Int.tdiv (x : Int) (pwF j)) 2 = ((x / 2 ^ j % 2 : Nat) : Int) := by
  rw [show pwF j = ((2 ^ j : Nat) : Int) by
    have t : ((List.range 6).all fun j => pwF j == ((2 ^ j : Nat) : Int)) = true := by decide +kernel
    simp only [List.all_eq_true, List.mem_range, beq_iff_eq] at t
    exact t j hj]
  rfl
set_option maxHeartbeats 400000 in
theorem lbit_any (x j : Nat) (w : World) (hx : x < 32) (hj : j < 6) : Calls Try.prog 28 #[.int .i64 x, .int .i64 j] w fun e w' => e = .returned (.int .i64 ((x / 2 ^ j % 2 : Nat) : Int)) ∧ w = w' := by
  have HP := Lib.hid (lpower_any j w (by omega))
  have HQ := Lib.hid (quo_pw j hj x)
  have hb : 1 ≤ pwF j ∧ pwF j ≤ 32 := by
    have t : ((List.range 6).all fun j => decide (1 ≤ pwF j) && decide (pwF j ≤ 32)) = true := by decide +kernel
    simp only [List.all_eq_true, List.mem_range, Bool.and_eq_true, decide_eq_true_eq] at t
    exact t j hj
  obtain ⟨hb1, hb2⟩ := hb
  generalize x / 2 ^ j % 2 = r at *
  generalize pwF j = p at *
  have hp0 : (p == 0) = false := by rw [beq_eq_false_iff_ne]; omega
  have hp1 : ¬ p = 0 := by omega
  have hx0 : (0 : Int) ≤ (x : Int) := by omega
  have q0 : 0 ≤ Int.tdiv (x : Int) p := Int.tdiv_nonneg hx0 (by omega)
  have q1 : Int.tdiv (x : Int) p ≤ (x : Int) := Int.tdiv_le_self _ hx0
  have he : Int.tdiv (x : Int) p = (x : Int) / p := Int.tdiv_eq_ediv_of_nonneg hx0
  rw [he] at q0 q1
  have hw : wrap64 ((x : Int) / p) = (x : Int) / p := by generalize (x : Int) / p = z at *; unfold wrap64; omega
  go_enter Try.func28, Try.ntmps28
  go_wp2_with fail
  refine HP.out.mono ?_
  rintro e w' ⟨rfl, rfl⟩
  clear HP
  go_wp2
  go_ret
  exact ⟨ret_int (by rw [← HQ.out, he]; exact (Int.tmod_eq_emod_of_nonneg q0).symm), rfl⟩
/-- How many neighbours a place has. -/
def dgI (g : List Int) (v : Nat) : Int := (dg g v : Int)
theorem memL_step (s m : Nat) : (memL s (m + 1)).length = (memL s m).length + s / 2 ^ m % 2 := by
  rcases (show s / 2 ^ m % 2 = 1 ∨ ¬ s / 2 ^ m % 2 = 1 by omega) with h | h
  · rw [memL_yes h]; simp [h]
  · rw [memL_no h]; omega
theorem less_birth {g : List Int} (h : GR g) {u v : Nat} (hu : u < g.length) (hv : v < g.length) :
    lessB (frU (wI g true u) (tW g true)) (frD (wI g true u) (tW g true)) (frU (wI g true v) (tW g true)) (frD (wI g true v) (tW g true)) = decide (dgI g v < dgI g u) := by
  have hT := tW_bd h true
  obtain ⟨a1, a2, _⟩ := h.deg hu
  obtain ⟨b1, b2, _⟩ := h.deg hv
  unfold lessB dgI
  rw [decide_eq_decide, fr_lt (by omega) (by omega)]
  have hm : wI g true u * tW g true < wI g true v * tW g true ↔ wI g true u < wI g true v := ⟨fun q => Int.lt_of_mul_lt_mul_right q (by omega), fun q => Int.mul_lt_mul_of_pos_right q (by omega)⟩
  rw [hm]
  unfold wI
  generalize dg g u = x at *
  generalize dg g v = y at *
  rcases (show x = 1 ∨ x = 2 ∨ x = 3 ∨ x = 4 by omega) with rfl | rfl | rfl | rfl <;> rcases (show y = 1 ∨ y = 2 ∨ y = 3 ∨ y = 4 by omega) with rfl | rfl | rfl | rfl <;> decide
theorem less_death {g : List Int} (h : GR g) (u v : Nat) :
    lessB (frU (wI g false v) (tW g false)) (frD (wI g false v) (tW g false)) (frU (wI g false u) (tW g false)) (frD (wI g false u) (tW g false)) = decide (dgI g v < dgI g u) := by
  have hT := tW_bd h false
  unfold lessB dgI
  rw [decide_eq_decide, fr_lt (by omega) (by omega)]
  exact ⟨fun q => Int.lt_of_mul_lt_mul_right q (by omega), fun q => Int.mul_lt_mul_of_pos_right q (by omega)⟩

end Go.Proofs.Ytolnbkplgnpfjaa

/- Draws of a graph, weights and a set. -/
namespace Go.Proofs.Ytolnbkplgnpfjaa
open Go.RowKit

theorem SH.grown {w0 wb g A l c p p' u ys w w'} (h : SH w0 wb g A l c p u ys w) (hr : Rdr w0 w' g A l c p') (hg : w.grownBy w' (some g)) : SH w0 wb g A l c p' u ys w' := by
  have hgl := h.gl
  exact ⟨hr, Bld.nil _ _ _, (h.bi.of_blocks fun k h1 _ h3 => hg.block k h3 (fun e => by injection e with e; omega)).mono hg.size, h.gl, h.lh, Nat.le_trans h.hs hg.size, grown_trans h.up hg⟩
theorem SH.ints {w0 wb g A l c p u ys w} (h : SH w0 wb g A l c p u ys w) (hl : ys.length ≤ 100) (hb : ∀ x ∈ ys, -1000000 ≤ x ∧ x ≤ 1000000) : ∃ Av cv, u = .slice Av ys.length cv ∧ Ints w Av ys.length cv ys := by
  obtain ⟨Av, n, cv, b, rfl, rfl, ho, _⟩ := h.bi.owns (by omega) (fun x hx => by have := hb x hx; omega)
  exact ⟨Av, cv, rfl, ho.ints⟩
/-- A graph, weights and a set, or what is none of these, that were drawn. -/
def DrawnBD (w : World) (e : Ending) (w' : World) : Prop := ∃ Av n cv ys Bv m cb cs s, e = .returned (.tuple #[.slice Av n cv, .slice Bv m cb, .int .i64 s]) ∧ n ≤ 5 ∧ B32 ys ∧ m ≤ 6 ∧ (∀ x ∈ cs, 0 ≤ x ∧ x ≤ 5) ∧ -1 ≤ s ∧ s ≤ 32 ∧ Ints w' Av n cv ys ∧ Ints w' Bv m cb cs ∧ Below w.heap.size w w'
theorem DrawnBD.mk {w w1 w2 w3 g A l c p p' q v u ys cs s} (hd : DG w w1 g A l c p v ys w2) (h : SH w w2 g A l c q u cs w3) (hr : Rdr w w3 g A l c p') (hy : ys.length ≤ 5) (hb : B32 ys) (hl : cs.length ≤ 6) (hc : ∀ x ∈ cs, 0 ≤ x ∧ x ≤ 5) (hs : -1 ≤ s ∧ s ≤ 32) :
    DrawnBD w (.returned (.tuple #[v, u, .int .i64 s])) w3 := by
  obtain ⟨Av, cv, b, rfl, hw⟩ := hd.ow
  obtain ⟨Bv, cb, rfl, hi⟩ := h.ints (by omega) (fun x hx => by have := hc x hx; omega)
  have hg := hd.gl
  exact ⟨_, _, _, ys, _, _, _, cs, s, rfl, hy, hb, hl, hc, hs.1, hs.2, (hw.of_block fun hn => h.up.block _ (by obtain ⟨_, _, _, a, _⟩ := hw.own hn; omega) (fun e => by injection e with e; obtain ⟨_, _, a, _, _⟩ := hw.own hn; omega)).ints, hi, hr.below⟩
set_option maxRecDepth 100000 in
set_option maxHeartbeats 1600000 in
theorem DrawBirthDrift_any (A : Option Addr) (n c : Nat) (w : World) (h : Bytes w A n c) : Calls Try.prog 25 #[.slice A n c] w (DrawnBD w) := by
  have H0 := Lib.hid (newReader_any A n c w h)
  obtain ⟨i0, hi0, hz0, hz1, hz2⟩ := info_parts Try.info_int
  clear h
  go_enter Try.func25, Try.ntmps25
  go_wp2_with fail
  refine H0.out.mono ?_
  rintro e w1 ⟨A1, l, c1, rfl, hl, hr, hs⟩
  have H1 := Lib.hid (someGraph_any w w1 w.heap.size A1 l c1 0 hr (by omega))
  clear hr hl H0 hs
  go_wp2_with fail
  refine H1.out.mono ?_
  rintro e w2 ⟨v, ys, p', rfl, hy5, hb32, hd, hp⟩
  have HD := Lib.hid hd
  have HB32 := Lib.hid hb32
  have HS0 := Lib.hid (SH.start hd.rd)
  obtain ⟨Av, cv, b, rfl, ho⟩ := hd.ow
  generalize hn : ys.length = n at *
  have hn5 : ys.length ≤ 5 := by omega
  have HPW := Lib.hid (fun W => power_any n W (by omega))
  obtain ⟨hp1, hp2⟩ : 1 ≤ pwF n ∧ pwF n ≤ 32 := by rw [pw5 n (by omega)]; exact pow_bd5 n (by omega)
  clear hb32 hd ho H1
  go_wp2
  go_loopw [7, 8] (fun u i wr => ∃ (j q : Nat) (cs : List Int), j ≤ n ∧ i = .int .i64 j ∧ q ≤ p' + 2 * j ∧ Hid (cs.length = j) ∧ Hid (∀ x ∈ cs, 0 ≤ x ∧ x ≤ 5) ∧ Hid (SH w w2 w.heap.size A1 l c1 q u cs wr)) (fun _ i _ => n - (intOf i).toNat)
  case atStart => exact ⟨0, p', [], Nat.zero_le _, rfl, by omega, Lib.hid rfl, Lib.hid (by simp), HS0⟩
  case round =>
    clear HS0
    obtain ⟨j, q, cs, hj, rfl, hq, HCL, HCB, HS⟩ := hrel
    obtain ⟨Au, cu, rfl⟩ := HS.out.bi.form
    by_cases hlt : j < n
    · have HC := Lib.hid (pick_any w _ w.heap.size A1 l c1 q 5 HS.out.rd (by omega))
      go_wp2_with fail
      refine HC.out.mono ?_
      rintro e w3 ⟨k, rfl, hk1, _, hr, z, hw⟩
      have hone := Rdr.one (g := w.heap.size) wr (.int .i64 (q + 1 : Nat)) z
      rw [← hw] at hone
      obtain ⟨k0, k1⟩ := hk1 (by omega)
      have HS3 := Lib.hid (HS.out.one hr hone)
      clear hr hone hw hk1 HC HS
      have H1 := Lib.hid (one_lit w w3 _ w.heap.size A1 l c1 (q + 1) w3.heap.size 3 [1, k, 0] HS3.out.rd (by omega) (below_alloc w3 (.cells #[iv 1, iv k, iv 0] 3)) (Nat.le_refl _) (Ints.lit w3 [1, k, 0] (by simp) (by intro x hx; simp at hx; omega)) (by omega))
      go_wp2_with fail
      refine H1.out.mono ?_
      rintro e w4 ⟨x, rfl, hx, hr, hgr⟩
      have hx5 : 0 ≤ x ∧ x ≤ 5 := by simp at hx; omega
      have HS4 := Lib.hid (SH.grown HS3.out hr hgr)
      clear hr hgr hx H1 HS3
      have hb := below_alloc w4 (.cells #[iv (x)] 3)
      have HB4 := Lib.hid (HS4.out.bi.below hb).own
      have HN := Lib.hid (cell_one_new w4 (iv (x)) 3)
      have hwz := HS4.out.hs
      clear hb
      go_wp2_with (first
        | (at_builtin; refine wpList_append_own_at _ rfl _ _ 27 rfl w2.heap.size 3 i0 (.int .i64 0) 1 8 Try.underlying27 hi0 hz0 hz1 hz2 rfl (by decide) _ cs.length (cs.map iv) rfl HB4.out ⟨w4.heap.size, 0, none⟩ 1 1 [iv (x)] rfl rfl ?c1 ?c2 ?c3 ?c4 ?c5 ?_))
      case c1 => exact HN.out
      case c2 => intro u hu; simp at hu; subst hu; rfl
      case c3 => have := HCL.out; unfold maxLen; omega
      case c4 => have := HCL.out; omega
      case c5 => simp; omega
      intro v' w5 hown' hgrow _ hat
      have HS5 := Lib.hid (TI.push HS4.out hown' hgrow (by simpa using hat))
      clear HB4 HN hwz hown' hgrow hat HS4
      go_wp2
      go_roundw
      case rel => exact ⟨j + 1, q + 1 + 1, cs ++ [x], by omega, by go_num, by omega, Lib.hid (by simp [HCL.out]), Lib.hid (by intro y hy; rcases List.mem_append.1 hy with h | h; exact HCB.out y h; simp at h; omega), HS5⟩
      case measure => simp [intOf]; omega
    · obtain rfl : n = j := by omega
      have HC := Lib.hid (pick_any w _ w.heap.size A1 l c1 q 30 HS.out.rd (by omega))
      go_wp2_with fail
      refine HC.out.mono ?_
      rintro e w3 ⟨k, rfl, hk1, _, hr, z, hw⟩
      have hone := Rdr.one (g := w.heap.size) wr (.int .i64 (q + 1 : Nat)) z
      rw [← hw] at hone
      obtain ⟨k0, k1⟩ := hk1 (by omega)
      have HS4 := Lib.hid (HS.out.one hr hone)
      clear hr hone hw hk1 HC HS
      obtain ⟨qq, hqq⟩ : ∃ qq, qq = q + 1 := ⟨_, rfl⟩
      rw [← hqq] at HS4
      by_cases hk : k = 0
      · subst hk
        have hb := below_alloc w3 (.cells #[iv (1)] 3)
        have HB4 := Lib.hid (HS4.out.bi.below hb).own
        have HN := Lib.hid (cell_one_new w3 (iv (1)) 3)
        have hwz := HS4.out.hs
        clear hb
        go_wp2_with (first
          | (at_builtin; refine wpList_append_own_at _ rfl _ _ 27 rfl w2.heap.size 3 i0 (.int .i64 0) 1 8 Try.underlying27 hi0 hz0 hz1 hz2 rfl (by decide) _ cs.length (cs.map iv) rfl HB4.out ⟨w3.heap.size, 0, none⟩ 1 1 [iv (1)] rfl rfl ?c1 ?c2 ?c3 ?c4 ?c5 ?_))
        case c1 => exact HN.out
        case c2 => intro u hu; simp at hu; subst hu; rfl
        case c3 => have := HCL.out; unfold maxLen; omega
        case c4 => have := HCL.out; omega
        case c5 => simp; omega
        intro v' w5 hown' hgrow _ hat
        have HS5 := Lib.hid (TI.push HS4.out hown' hgrow (by simpa using hat))
        clear HB4 HN hwz hown' hgrow hat HS4
        have HC := Lib.hid (pick_any w _ w.heap.size A1 l c1 qq (pwF n) HS5.out.rd (by omega))
        go_wp2_with (go_at_call 81; (with_reducible refine (HPW.out _).mono ?_); rintro e w' ⟨rfl, rfl⟩)
        refine HC.out.mono ?_
        rintro e w6 ⟨t, rfl, ht, _, hr, z2, hw⟩
        have hone := Rdr.one (g := w.heap.size) w5 (.int .i64 (qq + 1 : Nat)) z2
        rw [← hw] at hone
        obtain ⟨t0, t1⟩ := ht (by omega)
        have HS6 := Lib.hid (HS5.out.one hr hone)
        clear hr hone hw ht HC HS5
        have H1 := Lib.hid (one_lit w w6 _ w.heap.size A1 l c1 (qq + 1) w6.heap.size 6 [t, t, t, t, pwF n, -1] HS6.out.rd (by omega) (below_alloc w6 (.cells #[iv t, iv t, iv t, iv t, iv (pwF n), iv (-1)] 3)) (Nat.le_refl _) (Ints.lit w6 [t, t, t, t, pwF n, -1] (by simp) (by intro x hx; simp at hx; omega)) (by omega))
        go_wp2_with (go_at_call 81; (with_reducible refine (HPW.out _).mono ?_); rintro e w' ⟨rfl, rfl⟩)
        refine H1.out.mono ?_
        rintro e w7 ⟨x, rfl, hx, hr, hgr⟩
        have HOUT := Lib.hid (DrawnBD.mk (s := x) HD.out (SH.grown HS6.out hr hgr) hr hn5 HB32.out (by have := HCL.out; simp; omega) (by intro y hy; rcases List.mem_append.1 hy with h | h; exact HCB.out y h; simp at h; omega) (by simp at hx; omega))
        clear hx hr hgr H1 HS6
        go_wp2
        refine bodyPost_ret (v := .tuple #[.slice Av n cv, v', .int .i64 x]) (by simp [results, Try.results25, go_sem]) rfl ?_
        exact HOUT.out
      · have hk0 : (k == 0) = false := by rw [beq_eq_false_iff_ne]; exact hk
        have HC := Lib.hid (pick_any w _ w.heap.size A1 l c1 qq (pwF n) HS4.out.rd (by omega))
        go_wp2_with (go_at_call 81; (with_reducible refine (HPW.out _).mono ?_); rintro e w' ⟨rfl, rfl⟩)
        refine HC.out.mono ?_
        rintro e w6 ⟨t, rfl, ht, _, hr, z2, hw⟩
        have hone := Rdr.one (g := w.heap.size) w3 (.int .i64 (qq + 1 : Nat)) z2
        rw [← hw] at hone
        obtain ⟨t0, t1⟩ := ht (by omega)
        have HS6 := Lib.hid (HS4.out.one hr hone)
        clear hr hone hw ht HC HS4
        have H1 := Lib.hid (one_lit w w6 _ w.heap.size A1 l c1 (qq + 1) w6.heap.size 6 [t, t, t, t, pwF n, -1] HS6.out.rd (by omega) (below_alloc w6 (.cells #[iv t, iv t, iv t, iv t, iv (pwF n), iv (-1)] 3)) (Nat.le_refl _) (Ints.lit w6 [t, t, t, t, pwF n, -1] (by simp) (by intro x hx; simp at hx; omega)) (by omega))
        go_wp2_with (go_at_call 81; (with_reducible refine (HPW.out _).mono ?_); rintro e w' ⟨rfl, rfl⟩)
        refine H1.out.mono ?_
        rintro e w7 ⟨x, rfl, hx, hr, hgr⟩
        have HOUT := Lib.hid (DrawnBD.mk (s := x) HD.out (SH.grown HS6.out hr hgr) hr hn5 HB32.out (by have := HCL.out; omega) HCB.out (by simp at hx; omega))
        clear hx hr hgr H1 HS6
        go_wp2
        refine bodyPost_ret (v := .tuple #[.slice Av n cv, .slice Au cs.length cu, .int .i64 x]) (by simp [results, Try.results25, go_sem]) rfl ?_
        exact HOUT.out
set_option maxRecDepth 100000 in
set_option maxHeartbeats 1600000 in
theorem DrawDeathDrift_any (A : Option Addr) (n c : Nat) (w : World) (h : Bytes w A n c) : Calls Try.prog 32 #[.slice A n c] w (DrawnBD w) := by
  have H0 := Lib.hid (newReader_any A n c w h)
  obtain ⟨i0, hi0, hz0, hz1, hz2⟩ := info_parts Try.info_int
  clear h
  go_enter Try.func32, Try.ntmps32
  go_wp2_with fail
  refine H0.out.mono ?_
  rintro e w1 ⟨A1, l, c1, rfl, hl, hr, hs⟩
  have H1 := Lib.hid (someGraph_any w w1 w.heap.size A1 l c1 0 hr (by omega))
  clear hr hl H0 hs
  go_wp2_with fail
  refine H1.out.mono ?_
  rintro e w2 ⟨v, ys, p', rfl, hy5, hb32, hd, hp⟩
  have HD := Lib.hid hd
  have HB32 := Lib.hid hb32
  have HS0 := Lib.hid (SH.start hd.rd)
  obtain ⟨Av, cv, b, rfl, ho⟩ := hd.ow
  generalize hn : ys.length = n at *
  have hn5 : ys.length ≤ 5 := by omega
  have HPW := Lib.hid (fun W => power_any n W (by omega))
  obtain ⟨hp1, hp2⟩ : 1 ≤ pwF n ∧ pwF n ≤ 32 := by rw [pw5 n (by omega)]; exact pow_bd5 n (by omega)
  clear hb32 hd ho H1
  go_wp2
  go_loopw [7, 8] (fun u i wr => ∃ (j q : Nat) (cs : List Int), j ≤ n ∧ i = .int .i64 j ∧ q ≤ p' + 2 * j ∧ Hid (cs.length = j) ∧ Hid (∀ x ∈ cs, 0 ≤ x ∧ x ≤ 5) ∧ Hid (SH w w2 w.heap.size A1 l c1 q u cs wr)) (fun _ i _ => n - (intOf i).toNat)
  case atStart => exact ⟨0, p', [], Nat.zero_le _, rfl, by omega, Lib.hid rfl, Lib.hid (by simp), HS0⟩
  case round =>
    clear HS0
    obtain ⟨j, q, cs, hj, rfl, hq, HCL, HCB, HS⟩ := hrel
    obtain ⟨Au, cu, rfl⟩ := HS.out.bi.form
    by_cases hlt : j < n
    · have HC := Lib.hid (pick_any w _ w.heap.size A1 l c1 q 5 HS.out.rd (by omega))
      go_wp2_with fail
      refine HC.out.mono ?_
      rintro e w3 ⟨k, rfl, hk1, _, hr, z, hw⟩
      have hone := Rdr.one (g := w.heap.size) wr (.int .i64 (q + 1 : Nat)) z
      rw [← hw] at hone
      obtain ⟨k0, k1⟩ := hk1 (by omega)
      have HS3 := Lib.hid (HS.out.one hr hone)
      clear hr hone hw hk1 HC HS
      have H1 := Lib.hid (one_lit w w3 _ w.heap.size A1 l c1 (q + 1) w3.heap.size 3 [1, k, 0] HS3.out.rd (by omega) (below_alloc w3 (.cells #[iv 1, iv k, iv 0] 3)) (Nat.le_refl _) (Ints.lit w3 [1, k, 0] (by simp) (by intro x hx; simp at hx; omega)) (by omega))
      go_wp2_with fail
      refine H1.out.mono ?_
      rintro e w4 ⟨x, rfl, hx, hr, hgr⟩
      have hx5 : 0 ≤ x ∧ x ≤ 5 := by simp at hx; omega
      have HS4 := Lib.hid (SH.grown HS3.out hr hgr)
      clear hr hgr hx H1 HS3
      have hb := below_alloc w4 (.cells #[iv (x)] 3)
      have HB4 := Lib.hid (HS4.out.bi.below hb).own
      have HN := Lib.hid (cell_one_new w4 (iv (x)) 3)
      have hwz := HS4.out.hs
      clear hb
      go_wp2_with (first
        | (at_builtin; refine wpList_append_own_at _ rfl _ _ 27 rfl w2.heap.size 3 i0 (.int .i64 0) 1 8 Try.underlying27 hi0 hz0 hz1 hz2 rfl (by decide) _ cs.length (cs.map iv) rfl HB4.out ⟨w4.heap.size, 0, none⟩ 1 1 [iv (x)] rfl rfl ?c1 ?c2 ?c3 ?c4 ?c5 ?_))
      case c1 => exact HN.out
      case c2 => intro u hu; simp at hu; subst hu; rfl
      case c3 => have := HCL.out; unfold maxLen; omega
      case c4 => have := HCL.out; omega
      case c5 => simp; omega
      intro v' w5 hown' hgrow _ hat
      have HS5 := Lib.hid (TI.push HS4.out hown' hgrow (by simpa using hat))
      clear HB4 HN hwz hown' hgrow hat HS4
      go_wp2
      go_roundw
      case rel => exact ⟨j + 1, q + 1 + 1, cs ++ [x], by omega, by go_num, by omega, Lib.hid (by simp [HCL.out]), Lib.hid (by intro y hy; rcases List.mem_append.1 hy with h | h; exact HCB.out y h; simp at h; omega), HS5⟩
      case measure => simp [intOf]; omega
    · obtain rfl : n = j := by omega
      have HC := Lib.hid (pick_any w _ w.heap.size A1 l c1 q 30 HS.out.rd (by omega))
      go_wp2_with fail
      refine HC.out.mono ?_
      rintro e w3 ⟨k, rfl, hk1, _, hr, z, hw⟩
      have hone := Rdr.one (g := w.heap.size) wr (.int .i64 (q + 1 : Nat)) z
      rw [← hw] at hone
      obtain ⟨k0, k1⟩ := hk1 (by omega)
      have HS4 := Lib.hid (HS.out.one hr hone)
      clear hr hone hw hk1 HC HS
      obtain ⟨qq, hqq⟩ : ∃ qq, qq = q + 1 := ⟨_, rfl⟩
      rw [← hqq] at HS4
      by_cases hk : k = 0
      · subst hk
        have hb := below_alloc w3 (.cells #[iv (1)] 3)
        have HB4 := Lib.hid (HS4.out.bi.below hb).own
        have HN := Lib.hid (cell_one_new w3 (iv (1)) 3)
        have hwz := HS4.out.hs
        clear hb
        go_wp2_with (first
          | (at_builtin; refine wpList_append_own_at _ rfl _ _ 27 rfl w2.heap.size 3 i0 (.int .i64 0) 1 8 Try.underlying27 hi0 hz0 hz1 hz2 rfl (by decide) _ cs.length (cs.map iv) rfl HB4.out ⟨w3.heap.size, 0, none⟩ 1 1 [iv (1)] rfl rfl ?c1 ?c2 ?c3 ?c4 ?c5 ?_))
        case c1 => exact HN.out
        case c2 => intro u hu; simp at hu; subst hu; rfl
        case c3 => have := HCL.out; unfold maxLen; omega
        case c4 => have := HCL.out; omega
        case c5 => simp; omega
        intro v' w5 hown' hgrow _ hat
        have HS5 := Lib.hid (TI.push HS4.out hown' hgrow (by simpa using hat))
        clear HB4 HN hwz hown' hgrow hat HS4
        have HC := Lib.hid (pick_any w _ w.heap.size A1 l c1 qq (pwF n) HS5.out.rd (by omega))
        go_wp2_with (go_at_call 81; (with_reducible refine (HPW.out _).mono ?_); rintro e w' ⟨rfl, rfl⟩)
        refine HC.out.mono ?_
        rintro e w6 ⟨t, rfl, ht, _, hr, z2, hw⟩
        have hone := Rdr.one (g := w.heap.size) w5 (.int .i64 (qq + 1 : Nat)) z2
        rw [← hw] at hone
        obtain ⟨t0, t1⟩ := ht (by omega)
        have HS6 := Lib.hid (HS5.out.one hr hone)
        clear hr hone hw ht HC HS5
        have H1 := Lib.hid (one_lit w w6 _ w.heap.size A1 l c1 (qq + 1) w6.heap.size 6 [t, t, t, t, pwF n, -1] HS6.out.rd (by omega) (below_alloc w6 (.cells #[iv t, iv t, iv t, iv t, iv (pwF n), iv (-1)] 3)) (Nat.le_refl _) (Ints.lit w6 [t, t, t, t, pwF n, -1] (by simp) (by intro x hx; simp at hx; omega)) (by omega))
        go_wp2_with (go_at_call 81; (with_reducible refine (HPW.out _).mono ?_); rintro e w' ⟨rfl, rfl⟩)
        refine H1.out.mono ?_
        rintro e w7 ⟨x, rfl, hx, hr, hgr⟩
        have HOUT := Lib.hid (DrawnBD.mk (s := x) HD.out (SH.grown HS6.out hr hgr) hr hn5 HB32.out (by have := HCL.out; simp; omega) (by intro y hy; rcases List.mem_append.1 hy with h | h; exact HCB.out y h; simp at h; omega) (by simp at hx; omega))
        clear hx hr hgr H1 HS6
        go_wp2
        refine bodyPost_ret (v := .tuple #[.slice Av n cv, v', .int .i64 x]) (by simp [results, Try.results32, go_sem]) rfl ?_
        exact HOUT.out
      · have hk0 : (k == 0) = false := by rw [beq_eq_false_iff_ne]; exact hk
        have HC := Lib.hid (pick_any w _ w.heap.size A1 l c1 qq (pwF n) HS4.out.rd (by omega))
        go_wp2_with (go_at_call 81; (with_reducible refine (HPW.out _).mono ?_); rintro e w' ⟨rfl, rfl⟩)
        refine HC.out.mono ?_
        rintro e w6 ⟨t, rfl, ht, _, hr, z2, hw⟩
        have hone := Rdr.one (g := w.heap.size) w3 (.int .i64 (qq + 1 : Nat)) z2
        rw [← hw] at hone
        obtain ⟨t0, t1⟩ := ht (by omega)
        have HS6 := Lib.hid (HS4.out.one hr hone)
        clear hr hone hw ht HC HS4
        have H1 := Lib.hid (one_lit w w6 _ w.heap.size A1 l c1 (qq + 1) w6.heap.size 6 [t, t, t, t, pwF n, -1] HS6.out.rd (by omega) (below_alloc w6 (.cells #[iv t, iv t, iv t, iv t, iv (pwF n), iv (-1)] 3)) (Nat.le_refl _) (Ints.lit w6 [t, t, t, t, pwF n, -1] (by simp) (by intro x hx; simp at hx; omega)) (by omega))
        go_wp2_with (go_at_call 81; (with_reducible refine (HPW.out _).mono ?_); rintro e w' ⟨rfl, rfl⟩)
        refine H1.out.mono ?_
        rintro e w7 ⟨x, rfl, hx, hr, hgr⟩
        have HOUT := Lib.hid (DrawnBD.mk (s := x) HD.out (SH.grown HS6.out hr hgr) hr hn5 HB32.out (by have := HCL.out; omega) HCB.out (by simp at hx; omega))
        clear hx hr hgr H1 HS6
        go_wp2
        refine bodyPost_ret (v := .tuple #[.slice Av n cv, .slice Au cs.length cu, .int .i64 x]) (by simp [results, Try.results32, go_sem]) rfl ?_
        exact HOUT.out

end Go.Proofs.Ytolnbkplgnpfjaa

/- Fair weights give no drift; the set of all others has it with the other sign. -/
namespace Go.Proofs.Ytolnbkplgnpfjaa

theorem sU_neg {f : Nat → Int} : ∀ {m : Nat}, sU (fun k => -f k) m = -sU f m
  | 0 => rfl
  | m + 1 => by rw [sU, sU, sU_neg (m := m)]; omega
theorem dAll_eq (g c : List Int) (s : Int) (b : Bool) : dAll g c s b = sU (fun v => sU (dT g c s b v) g.length) g.length := rfl
theorem dAll_anti {g c : List Int} {s : Int} {b : Bool} (h : ∀ v u, v < g.length → u < g.length → dT g c s b v u = -dT g c s b u v) : dAll g c s b = 0 := by
  have e : dAll g c s b = -dAll g c s b := by
    conv => lhs; rw [dAll_eq, sU_swap]
    rw [dAll_eq, ← sU_neg]
    refine sU_congr fun v hv => ?_
    rw [← sU_neg]
    exact sU_congr fun u hu => h u v hu hv
  omega
theorem dAll_neg {g c : List Int} {s t : Int} {b : Bool} (h : ∀ v u, v < g.length → u < g.length → dT g c t b v u = -dT g c s b v u) : dAll g c t b = -dAll g c s b := by
  rw [dAll_eq, dAll_eq, ← sU_neg]
  refine sU_congr fun v hv => ?_
  rw [← sU_neg]
  exact sU_congr fun u hu => h v u hv hu
theorem bt_sym {g : List Int} (h : SyG g) {v u : Nat} (hv : v < g.length) (hu : u < g.length) : bt g v u = bt g u v := by
  rcases Nat.lt_trichotomy u v with q | rfl | q
  · exact (h v hv).2 u q
  · rfl
  · exact ((h u hu).2 v q).symm
def wIL (g : List Int) (b : Bool) (n : Nat) : List Int := (List.range n).map (wI g b)
theorem wIL_len (g : List Int) (b : Bool) (n : Nat) : (wIL g b n).length = n := by simp [wIL]
theorem gi_wIL (g : List Int) (b : Bool) {n v : Nat} (hv : v < n) : gi (wIL g b n) v = wI g b v := gi_range (f := wI g b) hv
theorem dAll_fair {g : List Int} (h : GR g) (s : Int) (b : Bool) : dAll g (wIL g b g.length) s b = 0 := by
  refine dAll_anti fun v u hv hu => ?_
  obtain ⟨a1, a2, _⟩ := h.deg hv
  obtain ⟨b1, b2, _⟩ := h.deg hu
  unfold dT
  rw [bt_sym h.b.sym hv hu, gi_wIL g b hv, gi_wIL g b hu]
  by_cases e : bt g u v = 1
  · rw [if_pos e, if_pos e]
    cases b
    · unfold byN wI
      simp only [Bool.false_eq_true, if_false]
      generalize dg g u = x at *
      generalize dg g v = y at *
      generalize sb s v = p
      generalize sb s u = q
      rcases (show x = 1 ∨ x = 2 ∨ x = 3 ∨ x = 4 by omega) with rfl | rfl | rfl | rfl <;> rcases (show y = 1 ∨ y = 2 ∨ y = 3 ∨ y = 4 by omega) with rfl | rfl | rfl | rfl <;> simp <;> omega
    · unfold byN wI
      simp only [if_true]
      generalize dg g u = x at *
      generalize dg g v = y at *
      generalize sb s v = p
      generalize sb s u = q
      rcases (show x = 1 ∨ x = 2 ∨ x = 3 ∨ x = 4 by omega) with rfl | rfl | rfl | rfl <;> rcases (show y = 1 ∨ y = 2 ∨ y = 3 ∨ y = 4 by omega) with rfl | rfl | rfl | rfl <;> simp <;> omega
  · rw [if_neg e, if_neg e]; rfl
theorem sb_table : ((List.range 6).all fun n => (List.range (2 ^ n)).all fun s => (List.range n).all fun v => (2 ^ n - 1 - s) / 2 ^ v % 2 + s / 2 ^ v % 2 == 1) = true := by decide +kernel
theorem sb_compl {n : Nat} (hn : n < 6) {s : Int} (h0 : 0 ≤ s) (h1 : s ≤ 2 ^ n - 1) {v : Nat} (hv : v < n) : sb (2 ^ n - 1 - s) v = 1 - sb s v := by
  have t := sb_table
  simp only [List.all_eq_true, List.mem_range, beq_iff_eq] at t
  have h2 : ((2 ^ n : Nat) : Int) = (2 : Int) ^ n := by simp
  have q := t n hn s.toNat (by omega) v hv
  have e : ((2 : Int) ^ n - 1 - s).toNat = 2 ^ n - 1 - s.toNat := by omega
  unfold sb
  rw [e]
  omega
theorem WQ.compl {g c : List Int} {s : Int} (h : WQ g c s) : WQ g c (2 ^ g.length - 1 - s) := by
  have q := h.set
  unfold InR at q
  exact ⟨h.gr, h.len, h.wt, by unfold InR; omega⟩
theorem dAll_compl {g c : List Int} {s : Int} {b : Bool} (h : WQ g c s) : dAll g c (2 ^ g.length - 1 - s) b = -dAll g c s b := by
  have q := h.set
  have h5 := h.gr.b.n5
  unfold InR at q
  refine dAll_neg fun v u hv hu => ?_
  unfold dT
  rw [sb_compl (by omega) q.1 q.2 hv, sb_compl (by omega) q.1 q.2 hu]
  split
  · rw [show (1 - sb s v - (1 - sb s u) : Int) = -(sb s v - sb s u) by omega, Int.mul_neg, Int.mul_neg]
  · rfl
theorem WQ.fair {g c : List Int} {s : Int} (h : WQ g c s) (b : Bool) : WQ g (wIL g b g.length) s :=
  ⟨h.gr, wIL_len _ _ _, fun i hi => by
    rw [wIL_len] at hi
    have := wI_bd h.gr b hi
    rw [gi_wIL g b hi]; unfold InR; omega, h.set⟩
theorem df_fair {g c : List Int} {s : Int} (h : WQ g c s) (b : Bool) : dfV g (wIL g b g.length) s b = .agg #[.int .i64 0, .int .i64 1] := by
  have hn := h.gr.b.n2
  have e := fr_zero (D := 12 * (g.length : Int)) (by omega)
  rw [df_yes (h.fair b), dAll_fair h.gr, frV, e.1, e.2]
theorem df_sum {u d : Int} (hd : 0 < d) : frU (frU u d * frD (-u) d + frU (-u) d * frD u d) (frD u d * frD (-u) d) = 0 ∧ frD (frU u d * frD (-u) d + frU (-u) d * frD u d) (frD u d * frD (-u) d) = 1 := by
  have a := fr_add (u := u) (d := d) (v := -u) (e := d) hd hd
  rw [show u * d + -u * d = 0 by rw [Int.neg_mul]; omega] at a
  have z := fr_zero (D := d * d) (Int.mul_pos hd hd)
  exact ⟨a.1.trans z.1, a.2.trans z.2⟩

end Go.Proofs.Ytolnbkplgnpfjaa

/- BirthDrift and DeathDrift, by the model. -/
namespace Go.Proofs.Ytolnbkplgnpfjaa
open Go.RowKit

theorem WQ_no {g c : List Int} {s : Int} {v : Nat} (hv : v < c.length) (h : ¬ InR (gi c v) 0 1000) : pb (WQ g c s) = false := pb_false fun k => h (k.wt v hv)
set_option maxRecDepth 100000 in
set_option maxHeartbeats 1600000 in
theorem validWeigh_any (A C : Option Addr) (n k m kc : Nat) (g c : List Int) (s : Int) (w : World) (hx : Ints w A n k g) (hc : Ints w C m kc c) :
    Calls Try.prog 86 #[.slice A n k, .slice C m kc, .int .i64 s] w fun e w' => e = .returned (.bool (pb (WQ g c s))) ∧ Quiet w w' := by
  have HC := Lib.hid hc
  have HLC := Lib.hid hc.len
  have HLG := Lib.hid hx.len
  have hmn := hx.max
  have hmc := hc.max
  have HVG := Lib.hid (fun q => validGraph_any A n k g (w.drewN q) (hx.keep (Keep.drewN _ _)))
  clear hx hc
  go_enter Try.func86, Try.ntmps86
  go_wp2
  go_loopw [7] (fun i wr => ∃ v : Nat, v ≤ m ∧ i = .int .i64 v ∧ Hid (∀ j, j < v → InR (gi c j) 0 1000) ∧ Quiet w wr) (fun i _ => m - (intOf i).toNat)
  case atStart => exact ⟨0, Nat.zero_le _, rfl, Lib.hid (fun _ h => absurd h (by omega)), Quiet.refl _⟩
  case round =>
    obtain ⟨v, hv, rfl, HI, q, rfl⟩ := hrel
    by_cases hlt : v < m
    · obtain ⟨b, o, rfl, hcc⟩ := HC.out.at_ (by omega)
      have c1 := hcc v hlt
      clear hcc
      by_cases hin : InR (gi c v) 0 1000
      · have HIN := Lib.hid (fun W => pb_true hin ▸ inRange_any (gi c v) 0 1000 W)
        have HN := Lib.hid (show ∀ j, j < v + 1 → InR (gi c j) 0 1000 from fun j hj => by
          by_cases hjv : j < v
          · exact HI.out j hjv
          · obtain rfl : j = v := by omega
            exact hin)
        clear hin
        go_wp2_with (go_at_call 74; refine (HIN.out _).mono ?_; rintro e w' ⟨rfl, rfl⟩)
        go_roundw
        case rel => exact ⟨v + 1, by omega, by go_num, HN, ⟨_, rfl⟩⟩
        case measure => simp [intOf]; omega
      · have HIN := Lib.hid (fun W => pb_false hin ▸ inRange_any (gi c v) 0 1000 W)
        have HE := Lib.hid (WQ_no (g := g) (s := s) (by rw [HLC.out]; exact hlt) hin)
        clear hin
        go_wp2_with (go_at_call 74; refine (HIN.out _).mono ?_; rintro e w' ⟨rfl, rfl⟩)
        go_ret
        exact ⟨ret_bool HE.out.symm, ⟨_, rfl⟩⟩
    · obtain rfl : v = m := by omega
      have HWT := Lib.hid (show ∀ i, i < c.length → InR (gi c i) 0 1000 from fun i hi => HI.out i (by rw [← HLC.out]; exact hi))
      clear HI
      by_cases hg : GR g
      · have HV := Lib.hid (pb_true hg ▸ HVG.out q)
        have HG := Lib.hid hg
        have hn5 : n ≤ 5 := by rw [← HLG.out]; exact hg.b.n5
        clear hg HVG
        by_cases hl : v = n
        · subst hl
          have hle : ((v : Int) == (v : Int)) = true := by simp
          have HPW := Lib.hid (fun W => power_any v W hmn)
          have HPB : Hid (wrap64 (pwF v - 1) = 2 ^ v - 1) := Lib.hid (pwB5 v (by omega))
          obtain ⟨hp1, hp2⟩ := pw_bd v
          have HE : Hid (pb (WQ g c s) = pb (InR s 0 (2 ^ v - 1))) := Lib.hid (pb_congr ⟨fun h => by have := h.set; rwa [HLG.out] at this, fun h => ⟨HG.out, by rw [HLC.out, HLG.out], HWT.out, by rw [HLG.out]; exact h⟩⟩)
          have HIN := Lib.hid (fun W => HPB.out ▸ inRange_any s 0 (wrap64 (pwF v - 1)) W)
          have HEQ : Hid (pb (InR s 0 (wrap64 (pwF v - 1))) = pb (WQ g c s)) := Lib.hid (by rw [HE.out, HPB.out])
          have HIN := Lib.hid (fun W => HEQ.out ▸ inRange_any s 0 (wrap64 (pwF v - 1)) W)
          clear HE HPB HEQ
          generalize hr : pb (WQ g c s) = r at *
          have HR := Lib.hid hr
          clear hr
          generalize pwF v = p at *
          go_wp2_with (first
            | (go_at_call 93; refine HV.out.mono ?_; rintro e w' ⟨rfl, q2, rfl⟩)
            | (go_at_call 81; refine (HPW.out _).mono ?_; rintro e w' ⟨rfl, rfl⟩)
            | (go_at_call 74; refine (HIN.out _).mono ?_; rintro e w' ⟨rfl, rfl⟩))
          go_ret
          exact ⟨ret_bool HR.out.symm, ⟨_, rfl⟩⟩
        · have hle : ((v : Int) == (n : Int)) = false := by simp; omega
          have HE := Lib.hid (show pb (WQ g c s) = false from pb_false fun k => hl (by have := k.len; rw [HLC.out, HLG.out] at this; exact this))
          clear hl
          go_wp2_with (go_at_call 93; refine HV.out.mono ?_; rintro e w' ⟨rfl, q2, rfl⟩)
          go_ret
          exact ⟨ret_bool HE.out.symm, ⟨_, rfl⟩⟩
      · have HV := Lib.hid (pb_false hg ▸ HVG.out q)
        have HE := Lib.hid (show pb (WQ g c s) = false from pb_false fun k => hg k.gr)
        clear hg HVG
        go_wp2_with (go_at_call 93; refine HV.out.mono ?_; rintro e w' ⟨rfl, q2, rfl⟩)
        go_ret
        exact ⟨ret_bool HE.out.symm, ⟨_, rfl⟩⟩
set_option maxRecDepth 100000 in
set_option maxHeartbeats 1600000 in
theorem BirthDrift_spec (A : Option Addr) (n k : Nat) (g : List Int) (C : Option Addr) (m kc : Nat) (c : List Int) (s : Int) (w : World) (hx : Ints w A n k g) (hc : Ints w C m kc c) (_ : Fit s) :
    Calls Try.prog 27 #[.slice A n k, .slice C m kc, .int .i64 s] w (Ret (.tuple #[dfV g c s true, .bool (pb (WQ g c s))]) w) := by
  have HPF := Lib.hid (PF.start w)
  have HX := Lib.hid (hx.keep HPF.out.keep)
  have HC := Lib.hid (hc.keep HPF.out.keep)
  have HLG := Lib.hid hx.len
  clear hx hc
  by_cases hw : WQ g c s
  · have HV := Lib.hid (pb_true hw ▸ validWeigh_any A C n k m kc g c s _ HX.out HC.out)
    have HFV : Hid (dfV g c s true = .agg #[.int .i64 (frU (dAll g c s true) (12 * (n : Int))), .int .i64 (frD (dAll g c s true) (12 * (n : Int)))]) := Lib.hid (by rw [df_yes hw, HLG.out]; rfl)
    have HFR : Hid (frV (dAll g c s true) (12 * (n : Int)) = .agg #[.int .i64 (frU (dAll g c s true) (12 * (n : Int))), .int .i64 (frD (dAll g c s true) (12 * (n : Int)))]) := Lib.hid rfl
    have HD := Lib.hid (fun W a b => HFR.out ▸ drift_any A C n k m kc g c s true W a b hw)
    have HP := Lib.hid (pb_true hw)
    clear hw HFR
    generalize frU (dAll g c s true) (12 * (n : Int)) = U at *
    generalize frD (dAll g c s true) (12 * (n : Int)) = D at *
    go_enter Try.func27, Try.ntmps27
    go_wp2_with fail
    refine HV.out.mono ?_
    rintro e w1 ⟨rfl, hq⟩
    have HP1 := Lib.hid (HPF.out.up hq.below)
    have HD1 := Lib.hid (HD.out w1 (HX.out.keep (Keep.quiet hq)) (HC.out.keep (Keep.quiet hq)))
    clear hq HV HPF HD
    go_wp2_with fail
    refine HD1.out.mono ?_
    rintro e w2 ⟨rfl, hb⟩
    have HPF := Lib.hid (HP1.out.up hb)
    clear hb HD1 HP1
    have c0 := blk_cell HPF.out.box (i := 0) rfl
    have c1 := blk_cell HPF.out.box (i := 1) rfl
    have f0 := blk_frozen HPF.out.box 0
    have f1 := blk_frozen HPF.out.box 1
    go_wp2
    clear c0 c1 f0 f1
    have B1 := blk_set (blk_set HPF.out.box 0 (.int .i64 U)) 1 (.int .i64 D)
    have r0 := blk_cell B1 (i := 0) (v := .int .i64 U) rfl
    have r1 := blk_cell B1 (i := 1) (v := .int .i64 D) rfl
    have HBX := Lib.hid ((HPF.out.below.setCell (p := ⟨w.heap.size, 0, none⟩) (Nat.le_refl _) (.int .i64 U)).setCell (p := ⟨w.heap.size, 1, none⟩) (Nat.le_refl _) (.int .i64 D))
    clear B1 HPF
    generalize (w2.setCell ⟨w.heap.size, 0, none⟩ (.int .i64 U)).setCell ⟨w.heap.size, 1, none⟩ (.int .i64 D) = WE at *
    refine bodyPost_ret (v := .tuple #[.agg #[.int .i64 U, .int .i64 D], .bool true]) (by simp [results, Try.results27, go_sem, r0, r1]) rfl ?_
    exact ⟨by rw [HFV.out, HP.out], HBX.out⟩
  · have HV := Lib.hid (pb_false hw ▸ validWeigh_any A C n k m kc g c s _ HX.out HC.out)
    have HFV := Lib.hid (df_no (b := true) hw)
    have HP := Lib.hid (pb_false hw)
    clear hw
    go_enter Try.func27, Try.ntmps27
    go_wp2_with fail
    refine HV.out.mono ?_
    rintro e w1 ⟨rfl, hq⟩
    have HP1 := Lib.hid (HPF.out.up hq.below)
    clear hq HV HPF
    have HPF := HP1
    clear HP1
    have c0 := blk_cell HPF.out.box (i := 0) rfl
    have c1 := blk_cell HPF.out.box (i := 1) rfl
    have f0 := blk_frozen HPF.out.box 0
    have f1 := blk_frozen HPF.out.box 1
    go_wp2
    clear c0 c1 f0 f1
    have B1 := blk_set (blk_set HPF.out.box 0 (.int .i64 0)) 1 (.int .i64 0)
    have r0 := blk_cell B1 (i := 0) (v := .int .i64 0) rfl
    have r1 := blk_cell B1 (i := 1) (v := .int .i64 0) rfl
    have HBX := Lib.hid ((HPF.out.below.setCell (p := ⟨w.heap.size, 0, none⟩) (Nat.le_refl _) (.int .i64 0)).setCell (p := ⟨w.heap.size, 1, none⟩) (Nat.le_refl _) (.int .i64 0))
    clear B1 HPF
    generalize (w1.setCell ⟨w.heap.size, 0, none⟩ (.int .i64 0)).setCell ⟨w.heap.size, 1, none⟩ (.int .i64 0) = WE at *
    refine bodyPost_ret (v := .tuple #[.agg #[.int .i64 0, .int .i64 0], .bool false]) (by simp [results, Try.results27, go_sem, r0, r1]) rfl ?_
    exact ⟨by rw [HFV.out, HP.out], HBX.out⟩
set_option maxRecDepth 100000 in
set_option maxHeartbeats 1600000 in
theorem DeathDrift_spec (A : Option Addr) (n k : Nat) (g : List Int) (C : Option Addr) (m kc : Nat) (c : List Int) (s : Int) (w : World) (hx : Ints w A n k g) (hc : Ints w C m kc c) (_ : Fit s) :
    Calls Try.prog 34 #[.slice A n k, .slice C m kc, .int .i64 s] w (Ret (.tuple #[dfV g c s false, .bool (pb (WQ g c s))]) w) := by
  have HPF := Lib.hid (PF.start w)
  have HX := Lib.hid (hx.keep HPF.out.keep)
  have HC := Lib.hid (hc.keep HPF.out.keep)
  have HLG := Lib.hid hx.len
  clear hx hc
  by_cases hw : WQ g c s
  · have HV := Lib.hid (pb_true hw ▸ validWeigh_any A C n k m kc g c s _ HX.out HC.out)
    have HFV : Hid (dfV g c s false = .agg #[.int .i64 (frU (dAll g c s false) (12 * (n : Int))), .int .i64 (frD (dAll g c s false) (12 * (n : Int)))]) := Lib.hid (by rw [df_yes hw, HLG.out]; rfl)
    have HFR : Hid (frV (dAll g c s false) (12 * (n : Int)) = .agg #[.int .i64 (frU (dAll g c s false) (12 * (n : Int))), .int .i64 (frD (dAll g c s false) (12 * (n : Int)))]) := Lib.hid rfl
    have HD := Lib.hid (fun W a b => HFR.out ▸ drift_any A C n k m kc g c s false W a b hw)
    have HP := Lib.hid (pb_true hw)
    clear hw HFR
    generalize frU (dAll g c s false) (12 * (n : Int)) = U at *
    generalize frD (dAll g c s false) (12 * (n : Int)) = D at *
    go_enter Try.func34, Try.ntmps34
    go_wp2_with fail
    refine HV.out.mono ?_
    rintro e w1 ⟨rfl, hq⟩
    have HP1 := Lib.hid (HPF.out.up hq.below)
    have HD1 := Lib.hid (HD.out w1 (HX.out.keep (Keep.quiet hq)) (HC.out.keep (Keep.quiet hq)))
    clear hq HV HPF HD
    go_wp2_with fail
    refine HD1.out.mono ?_
    rintro e w2 ⟨rfl, hb⟩
    have HPF := Lib.hid (HP1.out.up hb)
    clear hb HD1 HP1
    have c0 := blk_cell HPF.out.box (i := 0) rfl
    have c1 := blk_cell HPF.out.box (i := 1) rfl
    have f0 := blk_frozen HPF.out.box 0
    have f1 := blk_frozen HPF.out.box 1
    go_wp2
    clear c0 c1 f0 f1
    have B1 := blk_set (blk_set HPF.out.box 0 (.int .i64 U)) 1 (.int .i64 D)
    have r0 := blk_cell B1 (i := 0) (v := .int .i64 U) rfl
    have r1 := blk_cell B1 (i := 1) (v := .int .i64 D) rfl
    have HBX := Lib.hid ((HPF.out.below.setCell (p := ⟨w.heap.size, 0, none⟩) (Nat.le_refl _) (.int .i64 U)).setCell (p := ⟨w.heap.size, 1, none⟩) (Nat.le_refl _) (.int .i64 D))
    clear B1 HPF
    generalize (w2.setCell ⟨w.heap.size, 0, none⟩ (.int .i64 U)).setCell ⟨w.heap.size, 1, none⟩ (.int .i64 D) = WE at *
    refine bodyPost_ret (v := .tuple #[.agg #[.int .i64 U, .int .i64 D], .bool true]) (by simp [results, Try.results34, go_sem, r0, r1]) rfl ?_
    exact ⟨by rw [HFV.out, HP.out], HBX.out⟩
  · have HV := Lib.hid (pb_false hw ▸ validWeigh_any A C n k m kc g c s _ HX.out HC.out)
    have HFV := Lib.hid (df_no (b := false) hw)
    have HP := Lib.hid (pb_false hw)
    clear hw
    go_enter Try.func34, Try.ntmps34
    go_wp2_with fail
    refine HV.out.mono ?_
    rintro e w1 ⟨rfl, hq⟩
    have HP1 := Lib.hid (HPF.out.up hq.below)
    clear hq HV HPF
    have HPF := HP1
    clear HP1
    have c0 := blk_cell HPF.out.box (i := 0) rfl
    have c1 := blk_cell HPF.out.box (i := 1) rfl
    have f0 := blk_frozen HPF.out.box 0
    have f1 := blk_frozen HPF.out.box 1
    go_wp2
    clear c0 c1 f0 f1
    have B1 := blk_set (blk_set HPF.out.box 0 (.int .i64 0)) 1 (.int .i64 0)
    have r0 := blk_cell B1 (i := 0) (v := .int .i64 0) rfl
    have r1 := blk_cell B1 (i := 1) (v := .int .i64 0) rfl
    have HBX := Lib.hid ((HPF.out.below.setCell (p := ⟨w.heap.size, 0, none⟩) (Nat.le_refl _) (.int .i64 0)).setCell (p := ⟨w.heap.size, 1, none⟩) (Nat.le_refl _) (.int .i64 0))
    clear B1 HPF
    generalize (w1.setCell ⟨w.heap.size, 0, none⟩ (.int .i64 0)).setCell ⟨w.heap.size, 1, none⟩ (.int .i64 0) = WE at *
    refine bodyPost_ret (v := .tuple #[.agg #[.int .i64 0, .int .i64 0], .bool false]) (by simp [results, Try.results34, go_sem, r0, r1]) rfl ?_
    exact ⟨by rw [HFV.out, HP.out], HBX.out⟩

end Go.Proofs.Ytolnbkplgnpfjaa

/- BirthDrift and DeathDrift, by the program. -/
namespace Go.Proofs.Ytolnbkplgnpfjaa
open Go.RowKit

theorem nb_all9 : ((List.range 6).all fun n => (List.range (2 ^ n)).all fun s => memL s n == memL s 5) = true := by decide +kernel
theorem nb_n9 {g : List Int} (hi : InG g) (h5 : g.length ≤ 5) {v : Nat} (hv : v < g.length) : memL (gi g v).toNat g.length = nb g v := by
  have t := nb_all9
  simp only [List.all_eq_true, List.mem_range, beq_iff_eq] at t
  have h1 := hi v hv
  unfold InR at h1
  have h6 : ((2 ^ g.length : Nat) : Int) = (2 : Int) ^ g.length := by simp
  exact t g.length (by omega) (gi g v).toNat (by omega)
/-- One neighbour's part, by the program. -/
def iT (g c : List Int) (s : Int) (b : Bool) (v u : Nat) : Int := ((12 / dg g v : Nat) : Int) * (if b then gi c u * (sb s v - sb s u) else gi c v * (sb s u - sb s v))
def iR (g c : List Int) (s : Int) (b : Bool) (v : Nat) : Nat → Int := lS (iT g c s b v) (nn g v)
def iA (g c : List Int) (s : Int) (b : Bool) : Nat → Int := sU (fun v => iR g c s b v (dg g v))
theorem iR_all {g c : List Int} {s : Int} {b : Bool} (h : WQ g c s) {v : Nat} (hv : v < g.length) : iR g c s b v (dg g v) = sU (fun u => if bt g v u = 1 then iT g c s b v u else 0) g.length := by
  have e := lS_mem (iT g c s b v) (gi g v).toNat g.length
  rw [nb_n9 h.gr.b.inn h.gr.b.n5 hv] at e
  exact e
theorem iA_all {g c : List Int} {s : Int} {b : Bool} (h : WQ g c s) : iA g c s b g.length = dAll g c s b := by
  have e : iA g c s b g.length = sU (fun v => sU (fun u => if bt g v u = 1 then iT g c s b v u else 0) g.length) g.length := sU_congr fun v hv => iR_all h hv
  cases b
  · rw [e, sU_swap]
    refine sU_congr fun u hu => sU_congr fun v hv => ?_
    have hs : bt g v u = bt g u v := by
      rcases Nat.lt_trichotomy u v with h1 | h1 | h1
      · exact (h.gr.b.sym v hv).2 u h1
      · rw [h1]
      · exact ((h.gr.b.sym u hu).2 v h1).symm
    unfold dT iT byN
    rw [hs]
    simp
  · rw [e]
    refine sU_congr fun v hv => sU_congr fun u hu => ?_
    unfold dT iT byN
    simp
theorem iT_bd {g c : List Int} {s : Int} {b : Bool} (h : WQ g c s) {v u : Nat} (hv : v < g.length) (hu : u < g.length) : -12000 ≤ iT g c s b v u ∧ iT g c s b v u ≤ 12000 := by
  have h1 : 12 / dg g v ≤ 12 := Nat.div_le_self _ _
  have h2 := h.wt u (by rw [h.len]; exact hu)
  have h2' := h.wt v (by rw [h.len]; exact hv)
  unfold InR at h2 h2'
  have h3 : -1000 ≤ (if b then gi c u * (sb s v - sb s u) else gi c v * (sb s u - sb s v)) ∧ (if b then gi c u * (sb s v - sb s u) else gi c v * (sb s u - sb s v)) ≤ 1000 := by
    cases b <;> rcases sb_01 s v with e | e <;> rcases sb_01 s u with e2 | e2 <;> rw [e, e2] <;> simp <;> omega
  unfold iT
  generalize 12 / dg g v = k at *
  have h4 := mulbd (x := (k : Int)) (y := if b then gi c u * (sb s v - sb s u) else gi c v * (sb s u - sb s v)) (A := 12) (B := 1000) (by omega) h3
  omega
theorem lS_bd {f : Nat → Int} {l : List Nat} {B : Int} : ∀ {j : Nat}, j ≤ l.length → (∀ u, u ∈ l → -B ≤ f u ∧ f u ≤ B) → -((j : Int) * B) ≤ lS f l j ∧ lS f l j ≤ (j : Int) * B
  | 0, _, _ => by simp [lS]
  | j + 1, hj, h => by
    have h1 := lS_bd (j := j) (by omega) h
    have h2 := h _ (getD_mem (l := l) (j := j) (by omega))
    have e : ((j + 1 : Nat) : Int) * B = (j : Int) * B + B := by rw [Int.natCast_add, Int.add_mul]; simp
    rw [e, lS]; omega
theorem iR_bd {g c : List Int} {s : Int} {b : Bool} (h : WQ g c s) {v j : Nat} (hv : v < g.length) (hj : j ≤ dg g v) : -60000 ≤ iR g c s b v j ∧ iR g c s b v j ≤ 60000 := by
  have hd := h.gr.deg hv
  have := lS_bd (f := iT g c s b v) (l := nn g v) (B := 12000) (j := j) (by rw [nn_len]; exact hj) fun u hu => iT_bd h hv (bt_in h.gr.b.inn hv (mem_nn.1 hu).2)
  unfold iR; omega
theorem iA_bd {g c : List Int} {s : Int} {b : Bool} (h : WQ g c s) {v : Nat} (hv : v ≤ g.length) : -300000 ≤ iA g c s b v ∧ iA g c s b v ≤ 300000 := by
  have h5 := h.gr.b.n5
  have := sU_bd (f := fun v => iR g c s b v (dg g v)) (B := 60000) (m := v) fun k hk => iR_bd h (by omega) (Nat.le_refl _)
  unfold iA; omega
set_option maxRecDepth 100000 in
set_option maxHeartbeats 1600000 in
theorem BirthDrift_impl (A : Option Addr) (n k : Nat) (g : List Int) (C : Option Addr) (m kc : Nat) (c : List Int) (s : Int) (w : World) (hx : Ints w A n k g) (hc : Ints w C m kc c) (_ : Fit s) :
    Calls Try.prog 26 #[.slice A n k, .slice C m kc, .int .i64 s] w (Ret (.tuple #[dfV g c s true, .bool (pb (WQ g c s))]) w) := by
  have HPF := Lib.hid (PF.start w)
  have HX := Lib.hid (hx.keep HPF.out.keep)
  have HC := Lib.hid (hc.keep HPF.out.keep)
  have HLG := Lib.hid hx.len
  clear hx hc
  by_cases hw : WQ g c s
  · have HV := Lib.hid (pb_true hw ▸ isWeighed_any A C n k m kc g c s _ HX.out HC.out)
    have HFV : Hid (dfV g c s true = .agg #[.int .i64 (frU (dAll g c s true) (12 * (n : Int))), .int .i64 (frD (dAll g c s true) (12 * (n : Int)))]) := Lib.hid (by rw [df_yes hw, HLG.out]; rfl)
    have HFR : Hid (frV (dAll g c s true) (12 * (n : Int)) = .agg #[.int .i64 (frU (dAll g c s true) (12 * (n : Int))), .int .i64 (frD (dAll g c s true) (12 * (n : Int)))]) := Lib.hid rfl
    have HDB := Lib.hid (show -300000 ≤ dAll g c s true ∧ dAll g c s true ≤ 300000 from dA_bd hw (Nat.le_refl _))
    have hn2 : 2 ≤ n := by rw [← HLG.out]; exact hw.gr.b.n2
    have hn5 : n ≤ 5 := by rw [← HLG.out]; exact hw.gr.b.n5
    have HD := Lib.hid (fun W => HFR.out ▸ fracOf_any (dAll g c s true) (12 * (n : Int)) W (by have := HDB.out; unfold Mid; omega) (by unfold Mid; omega) (by omega))
    have HWP := Lib.hid (fun W a b => weighedPlaces_any A C n k m kc g c s W a b hw)
    have HP := Lib.hid (pb_true hw)
    have HEND := Lib.hid (show iA g c s true n = dAll g c s true by rw [← HLG.out]; exact iA_all hw)
    have HAB := Lib.hid (fun v (hv : v ≤ n) => iA_bd (b := true) hw (v := v) (by rw [HLG.out]; exact hv))
    have HRB := Lib.hid (fun v j (hv : v < n) (hj : j ≤ dg g v) => iR_bd (b := true) hw (v := v) (j := j) (by rw [HLG.out]; exact hv) hj)
    have HAS := Lib.hid (fun v => show iA g c s true (v + 1) = iA g c s true v + iR g c s true v (dg g v) from rfl)
    have HRS := Lib.hid (fun v j => show iR g c s true v (j + 1) = iR g c s true v j + iT g c s true v ((nn g v).getD j 0) from rfl)
    have HRZ : Hid (∀ v, iR g c s true v 0 = 0) := Lib.hid (fun _ => rfl)
    have HTT := Lib.hid (fun v u => show iT g c s true v u = ((12 / dg g v : Nat) : Int) * (gi c u * (sb s v - sb s u)) from rfl)
    have HTB := Lib.hid (fun v u (hv : v < n) (hu : u < n) => iT_bd (b := true) hw (v := v) (u := u) (by rw [HLG.out]; exact hv) (by rw [HLG.out]; exact hu))
    have HDG := Lib.hid (fun v (hv : v < n) => show 1 ≤ dg g v ∧ dg g v ≤ 4 from have q := hw.gr.deg (v := v) (by rw [HLG.out]; exact hv); ⟨q.1, q.2.1⟩)
    have HNL := Lib.hid (fun v => show (nn g v).length = dg g v from nn_len g v)
    have HNM := Lib.hid (fun v (hv : v < n) u (hu : u ∈ nn g v) => show u < n by rw [← HLG.out]; exact bt_in hw.gr.b.inn (by rw [HLG.out]; exact hv) (mem_nn.1 hu).2)
    have HS1 := Lib.hid (fun x (_ : x < n) => show 0 ≤ sb s x ∧ sb s x ≤ 1 by rcases sb_01 s x with e | e <;> rw [e] <;> omega)
    have HC1 := Lib.hid (fun x (hx : x < n) => show 0 ≤ gi c x ∧ gi c x ≤ 1000 from hw.wt x (by rw [hw.len, HLG.out]; exact hx))
    have HA0 : Hid (iA g c s true 0 = 0) := Lib.hid rfl
    clear hw HFR HDB
    generalize frU (dAll g c s true) (12 * (n : Int)) = U at *
    generalize frD (dAll g c s true) (12 * (n : Int)) = D at *
    generalize dAll g c s true = dall at *
    go_enter Try.func26, Try.ntmps26
    go_wp2_with fail
    refine HV.out.mono ?_
    rintro e w1 ⟨rfl, hb⟩
    have HP1 := Lib.hid (HPF.out.up hb)
    have HWC := Lib.hid (HWP.out w1 (HX.out.keep (Keep.below hb)) (HC.out.keep (Keep.below hb)))
    clear hb HV HPF HWP
    go_wp2_with fail
    refine HWC.out.mono ?_
    rintro e w2 ⟨rfl, hpw⟩
    have HP2 := Lib.hid (HP1.out.up hpw.up)
    obtain ⟨R, hpl⟩ := hpw.ex
    have HPL := Lib.hid hpl
    clear hpw hpl HWC HP1
    generalize w1.heap.size = BB at *
    go_wp2
    go_loopw [8, 24] (fun x i wr => ∃ v : Nat, v ≤ n ∧ i = .int .i64 v ∧ x = .int .i64 (iA g c s true v) ∧ Quiet w2 wr) (fun _ i _ => n - (intOf i).toNat)
    case atStart => exact ⟨0, Nat.zero_le _, rfl, by rw [HA0.out], Quiet.refl _⟩
    case round =>
      obtain ⟨v, hv, rfl, rfl, q, rfl⟩ := hrel
      by_cases hlt : v < n
      · have c1 : w2.cell? ⟨BB, v, none⟩ = some (.pointer (some ⟨BB + 1 + v, 0, none⟩)) := HPL.out.row.cell hlt
        obtain ⟨An, kn, hR, hN⟩ := HPL.out.near hlt
        have HN := Lib.hid hN
        have c2 := blk_cell (HPL.out.bl v hlt) (i := 0) rfl
        rw [hR, HNL.out] at c2
        obtain ⟨d1, d2⟩ := HDG.out v hlt
        have HR0 : Hid (iA g c s true v = iA g c s true v + iR g c s true v 0) := Lib.hid (by rw [HRZ.out, Int.add_zero])
        have hab := HAB.out v hv
        rw [HR0.out]
        clear hR hN HR0
        generalize hd : dg g v = dd at *
        have HDD := Lib.hid hd
        clear hd
        go_wp2
        go_loopw [8, 33] (fun x i wi => ∃ j : Nat, j ≤ dd ∧ i = .int .i64 j ∧ x = .int .i64 (iA g c s true v + iR g c s true v j) ∧ Quiet w2 wi) (fun _ i _ => dd - (intOf i).toNat)
        case atStart => exact ⟨0, Nat.zero_le _, rfl, rfl, ⟨_, rfl⟩⟩
        case round =>
          clear c1 c2
          obtain ⟨j, hj, rfl, rfl, q2, rfl⟩ := hrel
          by_cases hjl : j < dd
          · obtain ⟨bn, rfl, hcn⟩ := HN.out.at_ (by rw [HNL.out, HDD.out]; omega)
            have c3 := hcn j (by rw [HNL.out, HDD.out]; exact hjl)
            have hun := HNM.out v hlt _ (getD_mem (l := nn g v) (j := j) (by rw [HNL.out, HDD.out]; exact hjl))
            have hrs := HRS.out v j
            have hrb := HRB.out v j hlt (by rw [HDD.out]; exact hj)
            have hrb1 := HRB.out v (j + 1) hlt (by rw [HDD.out]; exact hjl)
            clear hcn
            generalize (nn g v).getD j 0 = u at *
            have htt := HTT.out v u
            rw [HDD.out] at htt
            have htb := HTB.out v u hlt hun
            have HCH := Lib.hid (HDD.out ▸ HNL.out v ▸ chanceOfEach_any BB n (nn g) (sb s) (gi c) R (w2.drewN q2) (HPL.out.quiet ⟨_, rfl⟩) v hlt (by rw [HNL.out, HDD.out]; exact ⟨d1, d2⟩))
            have HGF := Lib.hid (gainFrom_any BB n (nn g) (sb s) (gi c) R (w2.drewN q2) (HPL.out.quiet ⟨_, rfl⟩) u v hun hlt HS1.out HC1.out)
            rw [htt] at hrs htb
            clear htt
            have hg3 : -1000 ≤ gi c u * (sb s v - sb s u) ∧ gi c u * (sb s v - sb s u) ≤ 1000 := by
              obtain ⟨a1, a2⟩ := HS1.out v hlt
              obtain ⟨a3, a4⟩ := HS1.out u hun
              obtain ⟨a5, a6⟩ := HC1.out u hun
              have := mulbd (x := gi c u) (y := sb s v - sb s u) (A := 1000) (B := 1) (by omega) (by omega)
              omega
            generalize gi c u * (sb s v - sb s u) = gn at *
            have hk12 : 12 / dd ≤ 12 := Nat.div_le_self _ _
            generalize 12 / dd = ch at *
            generalize hN1 : iR g c s true v (j + 1) = r1 at *
            have HN1 := Lib.hid hN1
            clear hN1
            generalize iA g c s true v = a0 at *
            generalize iR g c s true v j = r0 at *
            obtain ⟨g1, g2⟩ := hg3
            go_wp2_with fail
            refine HCH.out.mono ?_
            rintro e w3 ⟨rfl, rfl⟩
            clear HCH
            go_wp2_with fail
            refine HGF.out.mono ?_
            rintro e w4 ⟨rfl, q3, rfl⟩
            clear HGF
            have hsum : a0 + r1 = a0 + r0 + (ch : Int) * gn := by rw [hrs, Int.add_assoc]
            have HSUM := Lib.hid hsum
            clear hrs hsum
            generalize hmul : (ch : Int) * gn = pr at *
            have HMUL := Lib.hid hmul
            have hws : IntKind.i64.wrap ((ch : Int) * gn) = pr := by rw [hmul, wrapIn (by omega)]
            clear hmul
            go_wp2
            go_roundw
            case rel => exact ⟨j + 1, by omega, by go_num, by rw [HN1.out, HSUM.out], ⟨_, rfl⟩⟩
            case measure => simp [intOf]; omega
          · obtain rfl : j = dd := by omega
            have HE := Lib.hid (show iA g c s true (v + 1) = iA g c s true v + iR g c s true v j by rw [HAS.out, HDD.out])
            go_wp2
            go_roundw
            case rel => exact ⟨v + 1, by omega, by go_num, by rw [HE.out], ⟨_, rfl⟩⟩
            case measure => simp [intOf]; omega
      · obtain rfl : v = n := by omega
        rw [HEND.out]
        have HP3 := Lib.hid (HP2.out.up (Quiet.below ⟨q, rfl⟩))
        have hn12 : IntKind.i64.wrap (12 * (v : Int)) = 12 * (v : Int) := wrapIn (by omega)
        go_wp2_with fail
        refine (HD.out _).mono ?_
        rintro e w5 ⟨rfl, hb⟩
        have HPF := Lib.hid (HP3.out.up hb)
        clear hb HD HP2 HP3 HPL
        have c0 := blk_cell HPF.out.box (i := 0) rfl
        have c1 := blk_cell HPF.out.box (i := 1) rfl
        have f0 := blk_frozen HPF.out.box 0
        have f1 := blk_frozen HPF.out.box 1
        go_wp2
        clear c0 c1 f0 f1
        have B1 := blk_set (blk_set HPF.out.box 0 (.int .i64 U)) 1 (.int .i64 D)
        have r0 := blk_cell B1 (i := 0) (v := .int .i64 U) rfl
        have r1 := blk_cell B1 (i := 1) (v := .int .i64 D) rfl
        have HBX := Lib.hid ((HPF.out.below.setCell (p := ⟨w.heap.size, 0, none⟩) (Nat.le_refl _) (.int .i64 U)).setCell (p := ⟨w.heap.size, 1, none⟩) (Nat.le_refl _) (.int .i64 D))
        clear B1 HPF
        generalize (w5.setCell ⟨w.heap.size, 0, none⟩ (.int .i64 U)).setCell ⟨w.heap.size, 1, none⟩ (.int .i64 D) = WE at *
        refine bodyPost_ret (v := .tuple #[.agg #[.int .i64 U, .int .i64 D], .bool true]) (by simp [results, Try.results26, go_sem, r0, r1]) rfl ?_
        exact ⟨by rw [HFV.out, HP.out], HBX.out⟩
  · have HV := Lib.hid (pb_false hw ▸ isWeighed_any A C n k m kc g c s _ HX.out HC.out)
    have HFV := Lib.hid (df_no (b := true) hw)
    have HP := Lib.hid (pb_false hw)
    clear hw
    go_enter Try.func26, Try.ntmps26
    go_wp2_with fail
    refine HV.out.mono ?_
    rintro e w1 ⟨rfl, hb⟩
    have HP1 := Lib.hid (HPF.out.up hb)
    clear hb HV HPF
    have HPF := HP1
    clear HP1
    have c0 := blk_cell HPF.out.box (i := 0) rfl
    have c1 := blk_cell HPF.out.box (i := 1) rfl
    have f0 := blk_frozen HPF.out.box 0
    have f1 := blk_frozen HPF.out.box 1
    go_wp2
    clear c0 c1 f0 f1
    have B1 := blk_set (blk_set HPF.out.box 0 (.int .i64 0)) 1 (.int .i64 0)
    have r0 := blk_cell B1 (i := 0) (v := .int .i64 0) rfl
    have r1 := blk_cell B1 (i := 1) (v := .int .i64 0) rfl
    have HBX := Lib.hid ((HPF.out.below.setCell (p := ⟨w.heap.size, 0, none⟩) (Nat.le_refl _) (.int .i64 0)).setCell (p := ⟨w.heap.size, 1, none⟩) (Nat.le_refl _) (.int .i64 0))
    clear B1 HPF
    generalize (w1.setCell ⟨w.heap.size, 0, none⟩ (.int .i64 0)).setCell ⟨w.heap.size, 1, none⟩ (.int .i64 0) = WE at *
    refine bodyPost_ret (v := .tuple #[.agg #[.int .i64 0, .int .i64 0], .bool false]) (by simp [results, Try.results26, go_sem, r0, r1]) rfl ?_
    exact ⟨by rw [HFV.out, HP.out], HBX.out⟩
set_option maxRecDepth 100000 in
set_option maxHeartbeats 1600000 in
theorem DeathDrift_impl (A : Option Addr) (n k : Nat) (g : List Int) (C : Option Addr) (m kc : Nat) (c : List Int) (s : Int) (w : World) (hx : Ints w A n k g) (hc : Ints w C m kc c) (_ : Fit s) :
    Calls Try.prog 33 #[.slice A n k, .slice C m kc, .int .i64 s] w (Ret (.tuple #[dfV g c s false, .bool (pb (WQ g c s))]) w) := by
  have HPF := Lib.hid (PF.start w)
  have HX := Lib.hid (hx.keep HPF.out.keep)
  have HC := Lib.hid (hc.keep HPF.out.keep)
  have HLG := Lib.hid hx.len
  clear hx hc
  by_cases hw : WQ g c s
  · have HV := Lib.hid (pb_true hw ▸ isWeighed_any A C n k m kc g c s _ HX.out HC.out)
    have HFV : Hid (dfV g c s false = .agg #[.int .i64 (frU (dAll g c s false) (12 * (n : Int))), .int .i64 (frD (dAll g c s false) (12 * (n : Int)))]) := Lib.hid (by rw [df_yes hw, HLG.out]; rfl)
    have HFR : Hid (frV (dAll g c s false) (12 * (n : Int)) = .agg #[.int .i64 (frU (dAll g c s false) (12 * (n : Int))), .int .i64 (frD (dAll g c s false) (12 * (n : Int)))]) := Lib.hid rfl
    have HDB := Lib.hid (show -300000 ≤ dAll g c s false ∧ dAll g c s false ≤ 300000 from dA_bd hw (Nat.le_refl _))
    have hn2 : 2 ≤ n := by rw [← HLG.out]; exact hw.gr.b.n2
    have hn5 : n ≤ 5 := by rw [← HLG.out]; exact hw.gr.b.n5
    have HD := Lib.hid (fun W => HFR.out ▸ fracOf_any (dAll g c s false) (12 * (n : Int)) W (by have := HDB.out; unfold Mid; omega) (by unfold Mid; omega) (by omega))
    have HWP := Lib.hid (fun W a b => weighedPlaces_any A C n k m kc g c s W a b hw)
    have HP := Lib.hid (pb_true hw)
    have HEND := Lib.hid (show iA g c s false n = dAll g c s false by rw [← HLG.out]; exact iA_all hw)
    have HAB := Lib.hid (fun v (hv : v ≤ n) => iA_bd (b := false) hw (v := v) (by rw [HLG.out]; exact hv))
    have HRB := Lib.hid (fun v j (hv : v < n) (hj : j ≤ dg g v) => iR_bd (b := false) hw (v := v) (j := j) (by rw [HLG.out]; exact hv) hj)
    have HAS := Lib.hid (fun v => show iA g c s false (v + 1) = iA g c s false v + iR g c s false v (dg g v) from rfl)
    have HRS := Lib.hid (fun v j => show iR g c s false v (j + 1) = iR g c s false v j + iT g c s false v ((nn g v).getD j 0) from rfl)
    have HRZ : Hid (∀ v, iR g c s false v 0 = 0) := Lib.hid (fun _ => rfl)
    have HTT := Lib.hid (fun v u => show iT g c s false v u = ((12 / dg g v : Nat) : Int) * (gi c v * (sb s u - sb s v)) from rfl)
    have HTB := Lib.hid (fun v u (hv : v < n) (hu : u < n) => iT_bd (b := false) hw (v := v) (u := u) (by rw [HLG.out]; exact hv) (by rw [HLG.out]; exact hu))
    have HDG := Lib.hid (fun v (hv : v < n) => show 1 ≤ dg g v ∧ dg g v ≤ 4 from have q := hw.gr.deg (v := v) (by rw [HLG.out]; exact hv); ⟨q.1, q.2.1⟩)
    have HNL := Lib.hid (fun v => show (nn g v).length = dg g v from nn_len g v)
    have HNM := Lib.hid (fun v (hv : v < n) u (hu : u ∈ nn g v) => show u < n by rw [← HLG.out]; exact bt_in hw.gr.b.inn (by rw [HLG.out]; exact hv) (mem_nn.1 hu).2)
    have HS1 := Lib.hid (fun x (_ : x < n) => show 0 ≤ sb s x ∧ sb s x ≤ 1 by rcases sb_01 s x with e | e <;> rw [e] <;> omega)
    have HC1 := Lib.hid (fun x (hx : x < n) => show 0 ≤ gi c x ∧ gi c x ≤ 1000 from hw.wt x (by rw [hw.len, HLG.out]; exact hx))
    have HA0 : Hid (iA g c s false 0 = 0) := Lib.hid rfl
    clear hw HFR HDB
    generalize frU (dAll g c s false) (12 * (n : Int)) = U at *
    generalize frD (dAll g c s false) (12 * (n : Int)) = D at *
    generalize dAll g c s false = dall at *
    go_enter Try.func33, Try.ntmps33
    go_wp2_with fail
    refine HV.out.mono ?_
    rintro e w1 ⟨rfl, hb⟩
    have HP1 := Lib.hid (HPF.out.up hb)
    have HWC := Lib.hid (HWP.out w1 (HX.out.keep (Keep.below hb)) (HC.out.keep (Keep.below hb)))
    clear hb HV HPF HWP
    go_wp2_with fail
    refine HWC.out.mono ?_
    rintro e w2 ⟨rfl, hpw⟩
    have HP2 := Lib.hid (HP1.out.up hpw.up)
    obtain ⟨R, hpl⟩ := hpw.ex
    have HPL := Lib.hid hpl
    clear hpw hpl HWC HP1
    generalize w1.heap.size = BB at *
    go_wp2
    go_loopw [8, 24] (fun x i wr => ∃ v : Nat, v ≤ n ∧ i = .int .i64 v ∧ x = .int .i64 (iA g c s false v) ∧ Quiet w2 wr) (fun _ i _ => n - (intOf i).toNat)
    case atStart => exact ⟨0, Nat.zero_le _, rfl, by rw [HA0.out], Quiet.refl _⟩
    case round =>
      obtain ⟨v, hv, rfl, rfl, q, rfl⟩ := hrel
      by_cases hlt : v < n
      · have c1 : w2.cell? ⟨BB, v, none⟩ = some (.pointer (some ⟨BB + 1 + v, 0, none⟩)) := HPL.out.row.cell hlt
        obtain ⟨An, kn, hR, hN⟩ := HPL.out.near hlt
        have HN := Lib.hid hN
        have c2 := blk_cell (HPL.out.bl v hlt) (i := 0) rfl
        rw [hR, HNL.out] at c2
        obtain ⟨d1, d2⟩ := HDG.out v hlt
        have HR0 : Hid (iA g c s false v = iA g c s false v + iR g c s false v 0) := Lib.hid (by rw [HRZ.out, Int.add_zero])
        have hab := HAB.out v hv
        rw [HR0.out]
        clear hR hN HR0
        generalize hd : dg g v = dd at *
        have HDD := Lib.hid hd
        clear hd
        go_wp2
        go_loopw [8, 33] (fun x i wi => ∃ j : Nat, j ≤ dd ∧ i = .int .i64 j ∧ x = .int .i64 (iA g c s false v + iR g c s false v j) ∧ Quiet w2 wi) (fun _ i _ => dd - (intOf i).toNat)
        case atStart => exact ⟨0, Nat.zero_le _, rfl, rfl, ⟨_, rfl⟩⟩
        case round =>
          clear c1 c2
          obtain ⟨j, hj, rfl, rfl, q2, rfl⟩ := hrel
          by_cases hjl : j < dd
          · obtain ⟨bn, rfl, hcn⟩ := HN.out.at_ (by rw [HNL.out, HDD.out]; omega)
            have c3 := hcn j (by rw [HNL.out, HDD.out]; exact hjl)
            have hun := HNM.out v hlt _ (getD_mem (l := nn g v) (j := j) (by rw [HNL.out, HDD.out]; exact hjl))
            have hrs := HRS.out v j
            have hrb := HRB.out v j hlt (by rw [HDD.out]; exact hj)
            have hrb1 := HRB.out v (j + 1) hlt (by rw [HDD.out]; exact hjl)
            clear hcn
            generalize (nn g v).getD j 0 = u at *
            have htt := HTT.out v u
            rw [HDD.out] at htt
            have htb := HTB.out v u hlt hun
            have HCH := Lib.hid (HDD.out ▸ HNL.out v ▸ chanceOfEach_any BB n (nn g) (sb s) (gi c) R (w2.drewN q2) (HPL.out.quiet ⟨_, rfl⟩) v hlt (by rw [HNL.out, HDD.out]; exact ⟨d1, d2⟩))
            have HGF := Lib.hid (gainFrom_any BB n (nn g) (sb s) (gi c) R (w2.drewN q2) (HPL.out.quiet ⟨_, rfl⟩) v u hlt hun HS1.out HC1.out)
            rw [htt] at hrs htb
            clear htt
            have hg3 : -1000 ≤ gi c v * (sb s u - sb s v) ∧ gi c v * (sb s u - sb s v) ≤ 1000 := by
              obtain ⟨a1, a2⟩ := HS1.out v hlt
              obtain ⟨a3, a4⟩ := HS1.out u hun
              obtain ⟨a5, a6⟩ := HC1.out v hlt
              have := mulbd (x := gi c v) (y := sb s u - sb s v) (A := 1000) (B := 1) (by omega) (by omega)
              omega
            generalize gi c v * (sb s u - sb s v) = gn at *
            have hk12 : 12 / dd ≤ 12 := Nat.div_le_self _ _
            generalize 12 / dd = ch at *
            generalize hN1 : iR g c s false v (j + 1) = r1 at *
            have HN1 := Lib.hid hN1
            clear hN1
            generalize iA g c s false v = a0 at *
            generalize iR g c s false v j = r0 at *
            obtain ⟨g1, g2⟩ := hg3
            go_wp2_with fail
            refine HCH.out.mono ?_
            rintro e w3 ⟨rfl, rfl⟩
            clear HCH
            go_wp2_with fail
            refine HGF.out.mono ?_
            rintro e w4 ⟨rfl, q3, rfl⟩
            clear HGF
            have hsum : a0 + r1 = a0 + r0 + (ch : Int) * gn := by rw [hrs, Int.add_assoc]
            have HSUM := Lib.hid hsum
            clear hrs hsum
            generalize hmul : (ch : Int) * gn = pr at *
            have HMUL := Lib.hid hmul
            have hws : IntKind.i64.wrap ((ch : Int) * gn) = pr := by rw [hmul, wrapIn (by omega)]
            clear hmul
            go_wp2
            go_roundw
            case rel => exact ⟨j + 1, by omega, by go_num, by rw [HN1.out, HSUM.out], ⟨_, rfl⟩⟩
            case measure => simp [intOf]; omega
          · obtain rfl : j = dd := by omega
            have HE := Lib.hid (show iA g c s false (v + 1) = iA g c s false v + iR g c s false v j by rw [HAS.out, HDD.out])
            go_wp2
            go_roundw
            case rel => exact ⟨v + 1, by omega, by go_num, by rw [HE.out], ⟨_, rfl⟩⟩
            case measure => simp [intOf]; omega
      · obtain rfl : v = n := by omega
        rw [HEND.out]
        have HP3 := Lib.hid (HP2.out.up (Quiet.below ⟨q, rfl⟩))
        have hn12 : IntKind.i64.wrap (12 * (v : Int)) = 12 * (v : Int) := wrapIn (by omega)
        go_wp2_with fail
        refine (HD.out _).mono ?_
        rintro e w5 ⟨rfl, hb⟩
        have HPF := Lib.hid (HP3.out.up hb)
        clear hb HD HP2 HP3 HPL
        have c0 := blk_cell HPF.out.box (i := 0) rfl
        have c1 := blk_cell HPF.out.box (i := 1) rfl
        have f0 := blk_frozen HPF.out.box 0
        have f1 := blk_frozen HPF.out.box 1
        go_wp2
        clear c0 c1 f0 f1
        have B1 := blk_set (blk_set HPF.out.box 0 (.int .i64 U)) 1 (.int .i64 D)
        have r0 := blk_cell B1 (i := 0) (v := .int .i64 U) rfl
        have r1 := blk_cell B1 (i := 1) (v := .int .i64 D) rfl
        have HBX := Lib.hid ((HPF.out.below.setCell (p := ⟨w.heap.size, 0, none⟩) (Nat.le_refl _) (.int .i64 U)).setCell (p := ⟨w.heap.size, 1, none⟩) (Nat.le_refl _) (.int .i64 D))
        clear B1 HPF
        generalize (w5.setCell ⟨w.heap.size, 0, none⟩ (.int .i64 U)).setCell ⟨w.heap.size, 1, none⟩ (.int .i64 D) = WE at *
        refine bodyPost_ret (v := .tuple #[.agg #[.int .i64 U, .int .i64 D], .bool true]) (by simp [results, Try.results33, go_sem, r0, r1]) rfl ?_
        exact ⟨by rw [HFV.out, HP.out], HBX.out⟩
  · have HV := Lib.hid (pb_false hw ▸ isWeighed_any A C n k m kc g c s _ HX.out HC.out)
    have HFV := Lib.hid (df_no (b := false) hw)
    have HP := Lib.hid (pb_false hw)
    clear hw
    go_enter Try.func33, Try.ntmps33
    go_wp2_with fail
    refine HV.out.mono ?_
    rintro e w1 ⟨rfl, hb⟩
    have HP1 := Lib.hid (HPF.out.up hb)
    clear hb HV HPF
    have HPF := HP1
    clear HP1
    have c0 := blk_cell HPF.out.box (i := 0) rfl
    have c1 := blk_cell HPF.out.box (i := 1) rfl
    have f0 := blk_frozen HPF.out.box 0
    have f1 := blk_frozen HPF.out.box 1
    go_wp2
    clear c0 c1 f0 f1
    have B1 := blk_set (blk_set HPF.out.box 0 (.int .i64 0)) 1 (.int .i64 0)
    have r0 := blk_cell B1 (i := 0) (v := .int .i64 0) rfl
    have r1 := blk_cell B1 (i := 1) (v := .int .i64 0) rfl
    have HBX := Lib.hid ((HPF.out.below.setCell (p := ⟨w.heap.size, 0, none⟩) (Nat.le_refl _) (.int .i64 0)).setCell (p := ⟨w.heap.size, 1, none⟩) (Nat.le_refl _) (.int .i64 0))
    clear B1 HPF
    generalize (w1.setCell ⟨w.heap.size, 0, none⟩ (.int .i64 0)).setCell ⟨w.heap.size, 1, none⟩ (.int .i64 0) = WE at *
    refine bodyPost_ret (v := .tuple #[.agg #[.int .i64 0, .int .i64 0], .bool false]) (by simp [results, Try.results33, go_sem, r0, r1]) rfl ?_
    exact ⟨by rw [HFV.out, HP.out], HBX.out⟩

end Go.Proofs.Ytolnbkplgnpfjaa

