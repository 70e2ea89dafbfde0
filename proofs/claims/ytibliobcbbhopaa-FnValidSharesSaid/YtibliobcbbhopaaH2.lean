/- Shares and a number of things, drawn from bytes. -/
import Derived.Test.YtibliobcbbhopaaH1
namespace Go.Proofs.Ytibliobcbbhopaa
open Go.RowKit

/-- Shares, and how many things: in memory of its own. -/
def DrawnS (w : World) (e : Ending) (w' : World) : Prop :=
  ∃ Av cv ys n, e = .returned (.tuple #[.slice Av ys.length cv, .int .i64 (n : Nat)]) ∧ ys.length ≤ 5 ∧ n ≤ 4 ∧ Ints w' Av ys.length cv ys ∧ Below w.heap.size w w'

set_option maxRecDepth 100000 in
set_option maxHeartbeats 1000000 in
theorem DrawValidShares_any (A : Option Addr) (n c : Nat) (w : World) (h : Bytes w A n c) :
    Calls Try.prog 27 #[.slice A n c] w (DrawnS w) := by
  have H0 := Lib.hid (newReader_any A n c w h)
  clear h
  go_enter Try.func27, Try.ntmps27
  go_wp2_with fail
  refine H0.out.mono ?_
  rintro e w1 ⟨A1, l, c1, rfl, hl, hr, hs⟩
  have HC := Lib.hid (one_lit w w1 _ w.heap.size A1 l c1 0 w1.heap.size 5 [2, 3, 1, 0, 4] hr (by omega) (below_alloc w1 (.cells #[iv 2, iv 3, iv 1, iv 0, iv 4] 3)) (Nat.le_refl _) (Ints.lit w1 [2, 3, 1, 0, 4] (by decide) (by decide)) (by omega))
  clear hr hl hs H0
  go_wp2_with fail
  refine HC.out.mono ?_
  rintro e w2 ⟨k, rfl, hx, hr, hg⟩
  have hk : 0 ≤ k ∧ k ≤ 4 := by simp at hx; omega
  obtain ⟨k0, k4⟩ := hk
  obtain ⟨k, rfl⟩ := Int.eq_ofNat_of_zero_le k0
  have HC2 := Lib.hid (one_lit w w2 _ w.heap.size A1 l c1 1 w2.heap.size 4 [(k : Int), (k : Int), (k : Int), 2] hr (by omega) (below_alloc w2 (.cells #[iv k, iv k, iv k, iv 2] 3)) (Nat.le_refl _) (Ints.lit w2 [(k : Int), (k : Int), (k : Int), 2] (by simp) (by intro x hx; simp at hx; omega)) (by omega))
  clear hx hr hg HC
  go_wp2_with fail
  refine HC2.out.mono ?_
  rintro e w3 ⟨m, rfl, hx, hr, hg⟩
  have hm : 0 ≤ m ∧ m ≤ 4 := by simp at hx; omega
  obtain ⟨m0, m4⟩ := hm
  obtain ⟨m, rfl⟩ := Int.eq_ofNat_of_zero_le m0
  have HC3 := Lib.hid (sharesOf_any w w3 w.heap.size A1 l c1 2 m hr (by omega) (by omega))
  clear hx hr hg HC2
  go_wp2_with fail
  refine HC3.out.mono ?_
  rintro e w4 ⟨Av, cv, ys, p', rfl, hyl, hyb, hsh, hp'⟩
  obtain ⟨A', n', c', g', e, -, ho, -⟩ := hsh.bi.owns (by omega) (fun x hx => by have := hyb x hx; omega)
  injection e with e1 e2 e3
  subst e1
  subst e2
  subst e3
  have HI := Lib.hid ho.ints
  have HB := Lib.hid hsh.rd.below
  have hy5 : ys.length ≤ 5 := by omega
  clear hsh ho HC3 hyb
  go_wp2
  go_ret2
  exact ⟨Av, cv, ys, k, rfl, hy5, by omega, HI.out, HB.out⟩

end Go.Proofs.Ytibliobcbbhopaa
