/- Pure rests, by the program. -/
import Derived.Test.YtchpbldagkohnaaB3
import Derived.Test.YtchpbldagkohnaaTurn
import Derived.Test.YtchpbldagkohnaaMath2
import Derived.Test.YtchpbldagkohnaaD1
namespace Go.Proofs.Ytchpbldagkohnaa
open Go.RowKit

set_option maxHeartbeats 400000 in
theorem Max_any (A : Option Addr) (n c : Nat) (r : List Int) (w : World) (hx : Ints w A n c r) (h0 : 0 < n) :
    Calls Try.prog 63 #[.slice A n c] w fun e w' => e = .returned (.int .i64 (mxl r)) ∧ Quiet w w' := by
  obtain ⟨lx, cx, mx_, _, hx⟩ := hx
  have Lx := Lib.hid lx
  clear lx
  obtain ⟨b, o, rfl, hc⟩ := hx h0
  have c0 := hc 0 h0
  simp only [Nat.add_zero] at c0
  go_enter Try.func63, Try.ntmps63
  go_wp2
  go_loopw [3, 4] (fun m i wr => ∃ k : Nat, k < n ∧ i = .int .i64 (k + 1 : Nat) ∧ m = .int .i64 (mx r k) ∧ Quiet w wr) (fun _ i _ => n - (intOf i).toNat)
  case atStart => exact ⟨0, h0, rfl, rfl, Quiet.refl _⟩
  case round =>
    obtain ⟨k, hk, rfl, rfl, q, rfl⟩ := hrel
    by_cases hlt : k + 1 < n
    · have c1 := hc (k + 1) hlt
      clear c0 hc
      go_wp2
      go_roundw
      case rel => exact ⟨k + 1, hlt, by go_num, congrArg (Value.int .i64) (by simp only [mx]; split <;> omega), ⟨_, rfl⟩⟩
      case measure => simp [intOf]; omega
    · obtain rfl : n = k + 1 := by omega
      go_wp2
      go_ret
      exact ⟨ret_int (by rw [mxl, Lx.out]; rfl), ⟨_, rfl⟩⟩

theorem RestAt_iff {xs ys : List (List Int)} {n m i j : Nat} (hi : i < n) (hj : j < m) (hl : (gr ys i).length = m) :
    RestAt xs ys n m i j ↔ g2 xs i j = mxl (gr (flip xs n m) j) ∧ g2 ys i j = mxl (gr ys i) := by
  have hc : gi (gr (flip xs n m) j) i = g2 xs i j := by rw [gr_flip hj, gi_col hi]
  have hcl : (gr (flip xs n m) j).length = n := by rw [gr_flip hj]; simp
  rw [← hc, mxl_iff (by rw [hcl]; exact hi), show g2 ys i j = gi (gr ys i) j from rfl, mxl_iff (by rw [hl]; exact hj), hcl, hl]
  constructor
  · rintro ⟨h1, h2⟩
    exact ⟨fun k hk => by rw [hc, gr_flip hj, gi_col hk]; exact h1 k hk, h2⟩
  · rintro ⟨h1, h2⟩
    exact ⟨fun k hk => by have := h1 k hk; rw [hc, gr_flip hj, gi_col hk] at this; exact this, h2⟩

theorem OwnR.row0 {lo hi w b n c xss} (h : OwnR lo hi w b (some ⟨b, 0, none⟩) n c xss) {k : Nat} (hk : k < n) : ∃ R cc, w.cell? ⟨b, k, none⟩ = some (.slice R (gr xss k).length cc) ∧ Ints w R (gr xss k).length cc (gr xss k) := by
  obtain ⟨o, G, R, C, e, _, _, hr, _⟩ := h.at_ (by omega)
  injection e with e
  injection e with _ e _
  subst e
  have := (hr k hk).2.1
  rw [Nat.zero_add] at this
  exact ⟨R k, C k, this, (hr k hk).2.2.1.ints⟩
end Go.Proofs.Ytchpbldagkohnaa
