/- Pure rests, by the model. -/
import Derived.Test.YtchpbldagkohnaaB5
import Derived.Test.YtchpbldagkohnaaOwn
namespace Go.Proofs.Ytchpbldagkohnaa
open Go.RowKit

/-- It returns rows of its own. -/
def RetR (xss : List (List Int)) (w : World) (e : Ending) (w' : World) : Prop :=
  ∃ A n c g, e = .returned (.slice A n c) ∧ n = xss.length ∧ OwnR w.heap.size w'.heap.size w' g A n c xss ∧ Below w.heap.size w w'

set_option maxHeartbeats 1000000 in
theorem isRest_any (p : GP) (i j : Nat) (xs ys : List (List Int)) (w : World) (h : GV p w xs ys) (hi : i < p.n) (hj : j < p.m) :
    Calls Try.prog 67 #[.agg #[.slice (some ⟨p.ba, p.oa, none⟩) p.n p.c, .slice (some ⟨p.bb, p.ob, none⟩) p.n p.d], .int .i64 i, .int .i64 j] w (Ret (.bool (pb (RestAt xs ys p.n p.m i j))) w) := by
  have HT := Lib.hid (GT.start h)
  have hn3 := h.tx.n3
  have hm3 := h.tx.m3
  have hn1 := h.tx.n1
  clear h
  have k0 := HT.out.c0
  have k1 := HT.out.c1
  have r1 := HT.out.gv.tx.row i hi
  have s1 := HT.out.gv.ty.row i hi
  have s0 := HT.out.gv.ty.row 0 (by omega)
  have e1 := HT.out.gv.tx.cell i j hi hj
  have f1 := HT.out.gv.ty.cell i j hi hj
  simp only [Nat.add_zero] at s0
  go_enter Try.func67, Try.ntmps67
  go_wp2
  generalize w.alloc (.cells #[.slice (some ⟨p.ba, p.oa, none⟩) p.n p.c, .slice (some ⟨p.bb, p.ob, none⟩) p.n p.d] 29) = W1 at *
  go_loopw [7] (fun s wr => ∃ k : Nat, k ≤ p.n ∧ s = .int .i64 k ∧ Hid (∀ k', k' < k → g2 xs k' j ≤ g2 xs i j) ∧ Quiet W1 wr) (fun s _ => p.n - (intOf s).toNat)
  case atStart => exact ⟨0, Nat.zero_le _, rfl, Lib.hid (fun _ h => absurd h (by omega)), Quiet.refl _⟩
  case round =>
    obtain ⟨k, hk, rfl, HALL, q, rfl⟩ := hrel
    by_cases hlt : k < p.n
    · have r2 := HT.out.gv.tx.row k hlt
      have e2 := HT.out.gv.tx.cell k j hlt hj
      by_cases hg : g2 xs i j < g2 xs k j
      · have hg' : decide (g2 xs i j < g2 xs k j) = true := by simpa using hg
        have HZ := Lib.hid (pb_false (p := RestAt xs ys p.n p.m i j) fun v => by have := v.1 k hlt; omega)
        clear hg
        go_wp2
        go_quiet (fail)
        go_wp2
        go_ret
        exact ⟨ret_bool HZ.out.symm, below_drewN (below_drewN HT.out.below _) _⟩
      · have hg' : decide (g2 xs i j < g2 xs k j) = false := by simpa using hg
        have HZ := Lib.hid (show g2 xs k j ≤ g2 xs i j by omega)
        clear hg
        go_wp2
        go_quiet (fail)
        go_wp2
        go_roundw
        case rel => exact ⟨k + 1, by omega, by go_num, Lib.hid (upTo_ HALL.out HZ.out), by first | exact ⟨_, rfl⟩ | exact Quiet.two _ _ _⟩
        case measure => simp [intOf]; omega
    · go_wp2
      go_loopw [8] (fun s wr => ∃ k : Nat, k ≤ p.m ∧ s = .int .i64 k ∧ Hid (∀ k', k' < k → g2 ys i k' ≤ g2 ys i j) ∧ Quiet W1 wr) (fun s _ => p.m - (intOf s).toNat)
      case atStart => exact ⟨0, Nat.zero_le _, rfl, Lib.hid (fun _ h => absurd h (by omega)), ⟨_, rfl⟩⟩
      case round =>
        obtain ⟨l, hl, rfl, HIN, q2, rfl⟩ := hrel
        by_cases hlt2 : l < p.m
        · have f2 := HT.out.gv.ty.cell i l hi hlt2
          by_cases hg : g2 ys i j < g2 ys i l
          · have hg' : decide (g2 ys i j < g2 ys i l) = true := by simpa using hg
            have HZ := Lib.hid (pb_false (p := RestAt xs ys p.n p.m i j) fun v => by have := v.2 l hlt2; omega)
            clear hg
            go_wp2
            go_quiet (fail)
            go_wp2
            go_ret
            exact ⟨ret_bool HZ.out.symm, below_drewN (below_drewN HT.out.below _) _⟩
          · have hg' : decide (g2 ys i j < g2 ys i l) = false := by simpa using hg
            have HZ := Lib.hid (show g2 ys i l ≤ g2 ys i j by omega)
            clear hg
            go_wp2
            go_quiet (fail)
            go_wp2
            go_roundw
            case rel => exact ⟨l + 1, by omega, by go_num, Lib.hid (upTo_ HIN.out HZ.out), by first | exact ⟨_, rfl⟩ | exact Quiet.two _ _ _⟩
            case measure => simp [intOf]; omega
        · have HZ := Lib.hid (pb_true (p := RestAt xs ys p.n p.m i j) ⟨fun k' hk' => HALL.out k' (by omega), fun k' hk' => HIN.out k' (by omega)⟩)
          go_wp2
          go_ret
          exact ⟨ret_bool HZ.out.symm, below_drewN HT.out.below _⟩
end Go.Proofs.Ytchpbldagkohnaa
