/- Squares, by both programs. -/
import Derived.Test.YtfilbknikbfjhaaB1
import Derived.Test.YtfilbknikbfjhaaB2
namespace Go.Proofs.Ytfilbknikbfjhaa
open Go.RowKit

/-- A valid table with as many rows as columns. -/
def VQ (a : List (List Int)) : Prop := VT a ∧ a.length = (gr a 0).length

set_option maxHeartbeats 400000 in
theorem validSquare_any (A : Option Addr) (n c : Nat) (a : List (List Int)) (w : World) (hx : IntRows w A n c a) :
    Calls Try.prog 84 #[.slice A n c] w fun e w' => e = .returned (.bool (pb (VQ a))) ∧ Quiet w w' := by
  have hl := hx.len
  by_cases hv : VT a
  · have h1 := hv.n1
    obtain ⟨b, o, rfl, hc⟩ := hx.at_ (by omega)
    obtain ⟨R, cc, h0, -⟩ := hc 0 (by omega)
    simp only [Nat.add_zero] at h0
    have H0 := Lib.hid h0
    have HC := Lib.hid (pb_true hv ▸ validTable_any _ n c a w hx)
    have hn : 0 < n := by omega
    by_cases hs : a.length = (gr a 0).length
    · rw [pb_true (p := VQ a) ⟨hv, hs⟩]
      have hm : (gr a 0).length = n := by omega
      rw [hm] at H0
      clear hm hs hc h0 hv hx h1 hl
      go_enter Try.func84, Try.ntmps84
      go_wp2_with fail
      refine HC.out.mono ?_
      rintro e w1 ⟨rfl, hq⟩
      have h0 := Keep.quiet hq _ _ H0.out
      go_wp2
      go_ret
      exact ⟨rfl, hq⟩
    · rw [pb_false (p := VQ a) (fun h => hs h.2)]
      have hm : ¬ n = (gr a 0).length := by omega
      clear hs hc h0 hv hx h1 hl
      generalize (gr a 0).length = m at *
      have hz : ((n : Int) == (m : Int)) = false := by rw [beq_eq_false_iff_ne]; omega
      go_enter Try.func84, Try.ntmps84
      go_wp2_with fail
      refine HC.out.mono ?_
      rintro e w1 ⟨rfl, hq⟩
      have h0 := Keep.quiet hq _ _ H0.out
      go_wp2
      go_ret
      exact ⟨rfl, hq⟩
  · rw [pb_false (p := VQ a) (fun h => hv h.1)]
    have HC := Lib.hid (pb_false hv ▸ validTable_any A n c a w hx)
    clear hv hx hl
    go_enter Try.func84, Try.ntmps84
    go_wp2_with fail
    refine HC.out.mono ?_
    rintro e w1 ⟨rfl, hq⟩
    go_wp2
    go_ret
    exact ⟨rfl, hq⟩

theorem ValidSquare_spec (A : Option Addr) (n c : Nat) (a : List (List Int)) (w : World) (hx : IntRows w A n c a) :
    Calls Try.prog 51 #[.slice A n c] w fun e w' => e = .returned (.bool (pb (VQ a))) ∧ Quiet w w' := by
  go_enter Try.func51, Try.ntmps51
  go_wp2_with fail
  refine (validSquare_any A n c a w hx).mono ?_
  rintro e w1 ⟨rfl, hq⟩
  go_wp2
  go_ret
  exact ⟨rfl, hq⟩

set_option maxHeartbeats 400000 in
theorem ValidSquare_impl (A : Option Addr) (n c : Nat) (a : List (List Int)) (w : World) (hx : IntRows w A n c a) :
    Calls Try.prog 53 #[.slice A n c] w fun e w' => e = .returned (.bool (pb (VQ a))) ∧ Quiet w w' := by
  have hl := hx.len
  by_cases hv : VT a
  · have h1 := hv.n1
    obtain ⟨b, o, rfl, hc⟩ := hx.at_ (by omega)
    obtain ⟨R, cc, h0, -⟩ := hc 0 (by omega)
    simp only [Nat.add_zero] at h0
    have H0 := Lib.hid h0
    have HC := Lib.hid (pb_true hv ▸ ValidTable_impl _ n c a w hx)
    have hn : 0 < n := by omega
    by_cases hs : a.length = (gr a 0).length
    · rw [pb_true (p := VQ a) ⟨hv, hs⟩]
      have hm : (gr a 0).length = n := by omega
      rw [hm] at H0
      clear hm hs hc h0 hv hx h1 hl
      go_enter Try.func53, Try.ntmps53
      go_wp2_with fail
      refine HC.out.mono ?_
      rintro e w1 ⟨rfl, hq⟩
      have h0 := Keep.quiet hq _ _ H0.out
      go_wp2
      go_ret
      exact ⟨rfl, hq⟩
    · rw [pb_false (p := VQ a) (fun h => hs h.2)]
      have hm : ¬ n = (gr a 0).length := by omega
      clear hs hc h0 hv hx h1 hl
      generalize (gr a 0).length = m at *
      have hz : ((n : Int) == (m : Int)) = false := by rw [beq_eq_false_iff_ne]; omega
      go_enter Try.func53, Try.ntmps53
      go_wp2_with fail
      refine HC.out.mono ?_
      rintro e w1 ⟨rfl, hq⟩
      have h0 := Keep.quiet hq _ _ H0.out
      go_wp2
      go_ret
      exact ⟨rfl, hq⟩
  · rw [pb_false (p := VQ a) (fun h => hv h.1)]
    have HC := Lib.hid (pb_false hv ▸ ValidTable_impl A n c a w hx)
    clear hv hx hl
    go_enter Try.func53, Try.ntmps53
    go_wp2_with fail
    refine HC.out.mono ?_
    rintro e w1 ⟨rfl, hq⟩
    go_wp2
    go_ret
    exact ⟨rfl, hq⟩
end Go.Proofs.Ytfilbknikbfjhaa
