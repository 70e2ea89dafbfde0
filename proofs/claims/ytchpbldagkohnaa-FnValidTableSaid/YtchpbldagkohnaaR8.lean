/- Some table. -/
import Derived.Test.YtchpbldagkohnaaR7
namespace Go.Proofs.Ytchpbldagkohnaa
open Go.RowKit

theorem Ints.lit (w : World) (xs : List Int) (hl : xs.length ≤ 1000) (hw : ∀ x ∈ xs, -9223372036854775808 ≤ x ∧ x ≤ 9223372036854775807) :
    Ints (w.alloc (.cells (xs.map iv).toArray 3)) (some ⟨w.heap.size, 0, none⟩) xs.length xs.length xs :=
  ⟨rfl, Nat.le_refl _, by omega, hw, fun _ => ⟨_, _, rfl, fun k hk => by
    simp only [World.cell?, Nat.zero_add, heap_alloc_new]
    rw [← getElem_iv hk]
    simp⟩⟩
theorem grown_trans {g : Nat} {a b w : World} (h : a.grownBy b (some g)) (k : b.grownBy w (some g)) : a.grownBy w (some g) :=
  ⟨k.os.trans h.os, k.tape.trans h.tape, k.output.trans h.output, Nat.le_trans h.size k.size, fun i hi hne => (k.block i (Nat.lt_of_lt_of_le hi h.size) hne).trans (h.block i hi hne)⟩
theorem grown_of_below {g : Nat} {w w' : World} (k : Below w.heap.size w w') : w.grownBy w' (some g) := ⟨k.os, k.tape, k.output, k.size, fun i hi _ => k.block i hi⟩

/-- A number of a list that is written out. -/
def OneLit (w0 : World) (g : Nat) (A : Option Addr) (l c p : Nat) (xs : List Int) (w : World) (e : Ending) (w' : World) : Prop :=
  ∃ x, e = .returned (.int .i64 x) ∧ x ∈ xs ∧ Rdr w0 w' g A l c (p + 1) ∧ w.grownBy w' (some g)
theorem one_lit (w0 w W : World) (g : Nat) (A : Option Addr) (l c p b n : Nat) (xs : List Int) (h : Rdr w0 w g A l c p) (hp : p < 1000000000) (k : Below w.heap.size w W)
    (hb : w.heap.size ≤ b) (hi : Ints W (some ⟨b, 0, none⟩) n n xs) (h0 : 0 < n) :
    Calls Try.prog 74 #[.pointer (some ⟨g, 0, none⟩), .slice (some ⟨b, 0, none⟩) n n] W (OneLit w0 g A l c p xs w) := by
  have hg := blk_lt h.box
  refine (one_any w0 W g A l c p _ n n xs (h.below_ k) hp hi h0 (fun b' o' e' => by injection e' with e'; injection e' with e' _ _; omega)).mono ?_
  rintro e w4 ⟨x, rfl, hx, hr, ho⟩
  exact ⟨x, rfl, hx, hr, grown_trans (grown_of_below k) ho.grown⟩

/-- A table that the reader drew: its memory is from w on. -/
def SomeT (w0 : World) (g : Nat) (A : Option Addr) (l c p : Nat) (w : World) (e : Ending) (w' : World) : Prop :=
  ∃ wb v' vs' xss' p', e = .returned v' ∧ Small xss' ∧ TO w0 wb g A l c p' v' vs' xss' w' ∧ p' ≤ p + 21 ∧ w.grownBy wb (some g)

set_option maxHeartbeats 1000000 in
theorem someTable_any (w0 w : World) (g : Nat) (A : Option Addr) (l c p : Nat) (h : Rdr w0 w g A l c p) (hp : p < 800000000) :
    Calls Try.prog 49 #[.pointer (some ⟨g, 0, none⟩)] w (SomeT w0 g A l c p w) := by
  have HR := Lib.hid h
  have H1 := Lib.hid (one_lit w0 w _ g A l c p w.heap.size 3 [3, 9, 1] h (by omega) (below_alloc w (.cells #[iv 3, iv 9, iv 1] 3)) (Nat.le_refl _) (Ints.lit w [3, 9, 1] (by decide) (by decide)) (by omega))
  clear h
  go_enter Try.func49, Try.ntmps49
  go_wp2_with fail
  refine H1.out.mono ?_
  rintro e w1 ⟨x, rfl, hx, hr, hgr⟩
  have hx1 : 1 ≤ x ∧ x ≤ 9 := by simp at hx; omega
  have HR1 := Lib.hid hr
  have HG1 := Lib.hid hgr
  have H2 := Lib.hid (one_lit w0 w1 _ g A l c (p + 1) w1.heap.size 4 [2, 3, 2, 1] hr (by omega) (below_alloc w1 (.cells #[iv 2, iv 3, iv 2, iv 1] 3)) (Nat.le_refl _) (Ints.lit w1 [2, 3, 2, 1] (by decide) (by decide)) (by omega))
  clear hx hr hgr H1 HR HR1
  go_wp2_with fail
  refine H2.out.mono ?_
  rintro e w2 ⟨n, rfl, hx, hr, hgr⟩
  have hn1 : 1 ≤ n ∧ n ≤ 3 := by simp at hx; omega
  have HG2 := Lib.hid (grown_trans HG1.out hgr)
  have H3 := Lib.hid (one_lit w0 w2 _ g A l c (p + 2) w2.heap.size 4 [2, 3, 2, 1] hr (by omega) (below_alloc w2 (.cells #[iv 2, iv 3, iv 2, iv 1] 3)) (Nat.le_refl _) (Ints.lit w2 [2, 3, 2, 1] (by decide) (by decide)) (by omega))
  clear hx hr hgr H2 HG1
  go_wp2_with fail
  refine H3.out.mono ?_
  rintro e w3 ⟨m, rfl, hx, hr, hgr⟩
  have hm1 : 1 ≤ m ∧ m ≤ 3 := by simp at hx; omega
  have HG3 := Lib.hid (grown_trans HG2.out hgr)
  obtain ⟨n, rfl⟩ := Int.eq_ofNat_of_zero_le (show 0 ≤ n by omega)
  obtain ⟨m, rfl⟩ := Int.eq_ofNat_of_zero_le (show 0 ≤ m by omega)
  have H4 := Lib.hid (tableOf_any w0 w3 g A l c (p + 3) n m (-x) x hr (by omega) (by omega) (by omega) (by omega) (by omega) (by omega))
  clear hx hr hgr H3 HG2
  go_wp2_with fail
  refine H4.out.mono ?_
  rintro e w4 ⟨Av, cv, vs, xss, p4, rfl, hl, hxs, hto, hp4⟩
  subst hl
  have HSM := Lib.hid (show Small xss from ⟨by omega, fun r hr => ⟨by have := (hxs r hr).1; omega, fun y hy => by have := (hxs r hr).2 y hy; omega⟩⟩)
  have H5 := Lib.hid (spoil_any w0 w3 w4 g A l c p4 Av cv vs xss hto (by omega) HSM.out (by omega))
  clear hxs hto H4
  go_wp2_with fail
  refine H5.out.mono ?_
  rintro e w5 ⟨v', vs', xss', p', rfl, hs, hto, hp5⟩
  have HTO := Lib.hid hto
  have HSM2 := Lib.hid hs
  clear hs hto H5
  go_wp2
  go_ret
  exact ⟨_, _, _, _, _, rfl, HSM2.out, HTO.out, by omega, HG3.out⟩
end Go.Proofs.Ytchpbldagkohnaa
