/- Texts merged: LiftB LiftC Enter N18. -/
import Derived.Test.YtolnbkplgnpfjaaQ11
import Derived.ChangeSlices
/- An argument of bytes, opened. -/
namespace Go.Proofs.Ytolnbkplgnpfjaa
open Go.ChangeShapes Go.WideShapes Go.ChangeAt Go.RowKit Go.Deep

theorem Try.cells_u8 : Try.prog.cellsOf 5 = 1 := by kernel_rfl
theorem Try.bytes_u8 : Try.prog.bytesOf 5 = 1 := by kernel_rfl
set_option maxRecDepth 100000 in
theorem open_bytes {H : Type} {enc : TypeId × Value → H} {W : World} {v : Value} {d : DataW H} {p : List MemPlace} {b0 : Nat} (hval : Value.okWide Try.prog W .any b0 22 v)
    (h : DataW.Trod enc Try.prog W 0 (fun _ => true) true 22 v d p) (hw : ∀ n ∈ d.weights Try.prog 22, n ≤ reachBytes) :
    ∃ A n c, v = .slice A n c ∧ Bytes W A n c := by
  obtain ⟨a1, len, cap, rfl⟩ := okWide_slice Try.underlying22 hval
  obtain ⟨fuel, hf⟩ := h
  rcases open_ints Try.underlying22 Try.underlying5 Try.cells_u8 hf with ⟨hcs, hx⟩ | ⟨a, len', cap', zs, hcs, _, hl, hm, hz, hx, hcell, hwz⟩
  · simp [Value.cells] at hcs
    obtain ⟨rfl, rfl, rfl⟩ := hcs
    exact ⟨none, 0, 0, rfl, Nat.le_refl _, by omega, fun h => absurd h (by omega)⟩
  · simp [Value.cells] at hcs
    obtain ⟨rfl, rfl, rfl⟩ := hcs
    simp only [Prod.mk.injEq] at hx
    obtain ⟨rfl, rfl⟩ := hx
    simp only [if_true] at hz
    have h1 := hw _ (weights_slice Try.underlying22 (.inl rfl))
    simp only [lits, List.length_map, List.length_take, List.length_drop, Try.bytes_u8, reachBytes] at h1
    refine ⟨some a, len, cap, rfl, hl, by omega, fun hn => ?_⟩
    have hspot : a.spot = none := by simpa [Addr.add] using World.cell?_spot (hcell 0 (by omega))
    obtain ⟨b, o, sp⟩ := a
    simp only at hspot
    subst hspot
    refine ⟨b, o, rfl, fun k hk => ⟨zs.getD k 0, ?_, ?_, by rw [← add_plain]; exact hcell k (by omega)⟩⟩
    · rw [List.getD_eq_getElem?_getD]; have := hwz (zs.getD k 0) (by rw [List.getD_eq_getElem?_getD, List.getElem?_eq_getElem (show k < zs.length by omega)]; simp)
      simp [Lit.wf, IntKind.min, IntKind.max, IntKind.signed, IntKind.bits] at this
      omega
    · rw [List.getD_eq_getElem?_getD]; have := hwz (zs.getD k 0) (by rw [List.getD_eq_getElem?_getD, List.getElem?_eq_getElem (show k < zs.length by omega)]; simp)
      simp [Lit.wf, IntKind.min, IntKind.max, IntKind.signed, IntKind.bits] at this
      omega
end Go.Proofs.Ytolnbkplgnpfjaa

/- Arguments that are a slice of ints, or an int, opened. -/
namespace Go.Proofs.Ytolnbkplgnpfjaa
open Go.ChangeShapes Go.WideShapes Go.ChangeAt Go.RowKit Go.Deep

set_option maxRecDepth 100000 in
theorem open_intS {H : Type} {enc : TypeId × Value → H} {W : World} {v : Value} {d : DataW H} {p : List MemPlace} {b0 : Nat} (hval : Value.okWide Try.prog W .any b0 27 v)
    (h : DataW.Trod enc Try.prog W 0 (fun _ => true) true 27 v d p) (hw : ∀ n ∈ d.weights Try.prog 27, n ≤ reachBytes) :
    ∃ A n c xs, v = .slice A n c ∧ Ints W A n c xs := by
  obtain ⟨a1, len, cap, rfl⟩ := okWide_slice Try.underlying27 hval
  obtain ⟨fuel, hf⟩ := h
  rcases open_ints Try.underlying27 Try.underlying3 Try.cells3 hf with ⟨hcs, hx⟩ | ⟨a, len', cap', zs, hcs, _, hl, hm, hz, hx, hcell, hwz⟩
  · simp [Value.cells] at hcs
    obtain ⟨rfl, rfl, rfl⟩ := hcs
    exact ⟨none, 0, 0, [], rfl, rfl, Nat.le_refl _, by omega, fun _ h => by simp at h, fun h => absurd h (by omega)⟩
  · simp [Value.cells] at hcs
    obtain ⟨rfl, rfl, rfl⟩ := hcs
    simp only [Prod.mk.injEq] at hx
    obtain ⟨rfl, rfl⟩ := hx
    simp only [if_true] at hz
    have h1 := hw _ (weights_slice Try.underlying27 (.inl rfl))
    simp only [lits, List.length_map, List.length_take, List.length_drop, Try.bytes3, reachBytes] at h1
    have hlen : (zs.take len).length = len := by rw [List.length_take]; omega
    refine ⟨some a, len, cap, zs.take len, rfl, hlen, hl, by omega, fun x hx => ?_, fun hn => ?_⟩
    · have := hwz x (List.mem_of_mem_take hx)
      simp [Lit.wf, IntKind.min, IntKind.max, IntKind.signed, IntKind.bits] at this
      omega
    have hspot : a.spot = none := by simpa [Addr.add] using World.cell?_spot (hcell 0 (by omega))
    obtain ⟨b, o, sp⟩ := a
    simp only at hspot
    subst hspot
    refine ⟨b, o, rfl, fun k hk => ?_⟩
    rw [← add_plain, hcell k (by omega)]
    congr 2
    rw [gi_get (by rw [hlen]; exact hk), List.getElem_take]
    simp [List.getD, show k < zs.length by omega]

set_option maxRecDepth 100000 in
theorem open_num {H : Type} {enc : TypeId × Value → H} {W : World} {v : Value} {d : DataW H} {p : List MemPlace} {b0 : Nat} (hval : Value.okWide Try.prog W .any b0 3 v)
    (h : DataW.Trod enc Try.prog W 0 (fun _ => true) true 3 v d p) : ∃ x, v = .int .i64 x ∧ Fit x := by
  obtain ⟨x, rfl, _, _, hw⟩ := open_int Try.underlying3 hval h
  refine ⟨x, rfl, ?_⟩
  simp [Lit.wf, IntKind.min, IntKind.max, IntKind.signed, IntKind.bits] at hw
  unfold Fit
  omega
end Go.Proofs.Ytolnbkplgnpfjaa

/- The program may be entered: facts of its head, once for all laws. -/
namespace Go.Proofs.Ytolnbkplgnpfjaa

theorem prog_enters : Try.pinned.checked.prog.mayEnter = true := by kernel_rfl
theorem prog_lifts0 : (false == Try.pinned.checked.prog.liftsFinal) = true := by kernel_rfl
theorem prog_make0 : (Try.pinned.checked.prog.make == some .cut) = true := by kernel_rfl
theorem prog_lifts {b : Bool} (h : b = false) : (b == Try.pinned.checked.prog.liftsFinal) = true := by subst h; exact prog_lifts0
theorem prog_make {m : Make} (h : m = .cut) : (Try.pinned.checked.prog.make == some m) = true := by subst h; exact prog_make0
end Go.Proofs.Ytolnbkplgnpfjaa

/- The laws' bit; chances are ordered as neighbours. -/
namespace Go.Proofs.Ytolnbkplgnpfjaa
open Go.RowKit

theorem quo_pw (j : Nat) (hj : j < 6) (x : Nat) : Int.tmod (Int.tdiv (x : Int) (pwF j)) 2 = ((x / 2 ^ j % 2 : Nat) : Int) := by
  rw [show pwF j = ((2 ^ j : Nat) : Int) by
    have t : ((List.range 6).all fun j => pwF j == ((2 ^ j : Nat) : Int)) = true := by decide +kernel
    simp only [List.all_eq_true, List.mem_range, beq_iff_eq] at t
    exact t j hj]
  rfl
set_option maxHeartbeats 400000 in
theorem lbit_any (x j : Nat) (w : World) (hx : x < 32) (hj : j < 6) : Calls Try.prog 28 #[.int .i64 x, .int .i64 j] w fun e w' => e = .returned (.int .i64 ((x / 2 ^ j % 2 : Nat) : Int)) ∧ w = w' := by
  have HP := Lib.hid (lpower_any j w (by omega))
  have HQ := Lib.hid (quo_pw j hj x)
  have hb : 1 ≤ pwF j ∧ pwF j ≤ 32 := by
    have t : ((List.range 6).all fun j => decide (1 ≤ pwF j) && decide (pwF j ≤ 32)) = true := by decide +kernel
    simp only [List.all_eq_true, List.mem_range, Bool.and_eq_true, decide_eq_true_eq] at t
    exact t j hj
  obtain ⟨hb1, hb2⟩ := hb
  generalize x / 2 ^ j % 2 = r at *
  generalize pwF j = p at *
  have hp0 : (p == 0) = false := by rw [beq_eq_false_iff_ne]; omega
  have hp1 : ¬ p = 0 := by omega
  have hx0 : (0 : Int) ≤ (x : Int) := by omega
  have q0 : 0 ≤ Int.tdiv (x : Int) p := Int.tdiv_nonneg hx0 (by omega)
  have q1 : Int.tdiv (x : Int) p ≤ (x : Int) := Int.tdiv_le_self _ hx0
  have he : Int.tdiv (x : Int) p = (x : Int) / p := Int.tdiv_eq_ediv_of_nonneg hx0
  rw [he] at q0 q1
  have hw : wrap64 ((x : Int) / p) = (x : Int) / p := by generalize (x : Int) / p = z at *; unfold wrap64; omega
  go_enter Try.func28, Try.ntmps28
  go_wp2_with fail
  refine HP.out.mono ?_
  rintro e w' ⟨rfl, rfl⟩
  clear HP
  go_wp2
  go_ret
  exact ⟨ret_int (by rw [← HQ.out, he]; exact (Int.tmod_eq_emod_of_nonneg q0).symm), rfl⟩
/-- How many neighbours a place has. -/
def dgI (g : List Int) (v : Nat) : Int := (dg g v : Int)
theorem memL_step (s m : Nat) : (memL s (m + 1)).length = (memL s m).length + s / 2 ^ m % 2 := by
  rcases (show s / 2 ^ m % 2 = 1 ∨ ¬ s / 2 ^ m % 2 = 1 by omega) with h | h
  · rw [memL_yes h]; simp [h]
  · rw [memL_no h]; omega
theorem less_birth {g : List Int} (h : GR g) {u v : Nat} (hu : u < g.length) (hv : v < g.length) :
    lessB (frU (wI g true u) (tW g true)) (frD (wI g true u) (tW g true)) (frU (wI g true v) (tW g true)) (frD (wI g true v) (tW g true)) = decide (dgI g v < dgI g u) := by
  have hT := tW_bd h true
  obtain ⟨a1, a2, _⟩ := h.deg hu
  obtain ⟨b1, b2, _⟩ := h.deg hv
  unfold lessB dgI
  rw [decide_eq_decide, fr_lt (by omega) (by omega)]
  have hm : wI g true u * tW g true < wI g true v * tW g true ↔ wI g true u < wI g true v := ⟨fun q => Int.lt_of_mul_lt_mul_right q (by omega), fun q => Int.mul_lt_mul_of_pos_right q (by omega)⟩
  rw [hm]
  unfold wI
  generalize dg g u = x at *
  generalize dg g v = y at *
  rcases (show x = 1 ∨ x = 2 ∨ x = 3 ∨ x = 4 by omega) with rfl | rfl | rfl | rfl <;> rcases (show y = 1 ∨ y = 2 ∨ y = 3 ∨ y = 4 by omega) with rfl | rfl | rfl | rfl <;> decide
theorem less_death {g : List Int} (h : GR g) (u v : Nat) :
    lessB (frU (wI g false v) (tW g false)) (frD (wI g false v) (tW g false)) (frU (wI g false u) (tW g false)) (frD (wI g false u) (tW g false)) = decide (dgI g v < dgI g u) := by
  have hT := tW_bd h false
  unfold lessB dgI
  rw [decide_eq_decide, fr_lt (by omega) (by omega)]
  exact ⟨fun q => Int.lt_of_mul_lt_mul_right q (by omega), fun q => Int.mul_lt_mul_of_pos_right q (by omega)⟩

end Go.Proofs.Ytolnbkplgnpfjaa

