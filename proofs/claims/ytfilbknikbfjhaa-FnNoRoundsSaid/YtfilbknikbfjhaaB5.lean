/- No rounds, by the model. -/
import Derived.Test.YtfilbknikbfjhaaB3
import Derived.Test.YtfilbknikbfjhaaTab
namespace Go.Proofs.Ytfilbknikbfjhaa
open Go.RowKit

theorem upTo_ {P : Nat → Prop} {a : Nat} (h : ∀ l, l < a → P l) (z : P a) : ∀ l, l < a + 1 → P l := fun l hl => by
  by_cases hla : l < a
  · exact h l hla
  · obtain rfl : l = a := by omega
    exact z

set_option maxRecDepth 100000 in
set_option maxHeartbeats 2000000 in
theorem NoRounds_spec (A B : Option Addr) (n c m d : Nat) (xs ys : List (List Int)) (w : World) (hx : IntRows w A n c xs) (hy : IntRows w B m d ys) :
    Calls Try.prog 24 #[.agg #[.slice A n c, .slice B m d]] w (Ret (.bool (pb (NR xs ys))) w) := by
  have hb0 := below_alloc w (.cells #[.slice A n c, .slice B m d] 25)
  have b0 := blk_new w 25 #[.slice A n c, .slice B m d]
  have HB := Lib.hid hb0
  have HK := Lib.hid b0
  have HX := Lib.hid (hx.keep (Keep.below hb0))
  have HY := Lib.hid (hy.keep (Keep.below hb0))
  have HX0 := Lib.hid hx
  have HY0 := Lib.hid hy
  clear hx hy hb0 b0
  go_enter Try.func24, Try.ntmps24
  go_wp2_with fail
  generalize w.alloc (.cells #[.slice A n c, .slice B m d] 25) = W1 at *
  have HC := Lib.hid (validGame_any _ _ _ _ _ _ _ _ _ HX.out HY.out)
  by_cases hv : VG xs ys
  · refine ((pb_true hv) ▸ HC.out).mono ?_
    rintro e w1 ⟨rfl, hb⟩
    have HV := Lib.hid hv
    have hb2 := below_up HB.out hb
    have hk2 := blk_below HK.out hb
    obtain ⟨p, rfl, rfl, rfl, rfl, rfl, rfl, hg⟩ := GV.of HX0.out HY0.out hv
    have HT := Lib.hid (show GT p w w1 w.heap.size xs ys from ⟨hb2, hk2, hg⟩)
    have hn3 := hg.tx.n3
    have hm3 := hg.tx.m3
    have hn1 := hg.tx.n1
    have hlx := Lib.hid hg.lx
    have hmx := Lib.hid hg.mx
    have k0 := HT.out.c0
    have k1 := HT.out.c1
    have r0 := HT.out.gv.tx.row 0 (by omega)
    simp only [Nat.add_zero] at r0
    clear hb hv hb2 hk2 hg HX HY HX0 HY0 HB HK HC
    go_wp2
    go_loopw [3] (fun s wr => ∃ i : Nat, i ≤ p.n ∧ s = .int .i64 i ∧ Hid (∀ i', i' < i → ∀ k, k < i' → ∀ j, j < p.m → ∀ l, l < j → rnd xs ys i' k j l = 0) ∧ Quiet w1 wr) (fun s _ => p.n - (intOf s).toNat)
    case atStart => exact ⟨0, Nat.zero_le _, rfl, Lib.hid (fun _ h => absurd h (by omega)), by first | exact Quiet.refl _ | exact ⟨_, rfl⟩⟩
    case round =>
      obtain ⟨i, hi, rfl, H1, q1, rfl⟩ := hrel
      by_cases hin : i < p.n
      · have r1 := HT.out.gv.tx.row i hin
        have r3 := HT.out.gv.ty.row i hin
        go_wp2
        go_loopw [4] (fun s wr => ∃ k : Nat, k ≤ i ∧ s = .int .i64 k ∧ Hid (∀ k', k' < k → ∀ j, j < p.m → ∀ l, l < j → rnd xs ys i k' j l = 0) ∧ Quiet w1 wr) (fun s _ => i - (intOf s).toNat)
        case atStart => exact ⟨0, Nat.zero_le _, rfl, Lib.hid (fun _ h => absurd h (by omega)), by first | exact Quiet.refl _ | exact ⟨_, rfl⟩⟩
        case round =>
          obtain ⟨k, hk, rfl, H2, q2, rfl⟩ := hrel
          by_cases hki : k < i
          · have r2 := HT.out.gv.tx.row k (by omega)
            have r4 := HT.out.gv.ty.row k (by omega)
            go_wp2
            go_loopw [5] (fun s wr => ∃ j : Nat, j ≤ p.m ∧ s = .int .i64 j ∧ Hid (∀ j', j' < j → ∀ l, l < j' → rnd xs ys i k j' l = 0) ∧ Quiet w1 wr) (fun s _ => p.m - (intOf s).toNat)
            case atStart => exact ⟨0, Nat.zero_le _, rfl, Lib.hid (fun _ h => absurd h (by omega)), by first | exact Quiet.refl _ | exact ⟨_, rfl⟩⟩
            case round =>
              obtain ⟨j, hj, rfl, H3, q3, rfl⟩ := hrel
              by_cases hjm : j < p.m
              · have e1 := HT.out.gv.tx.cell k j (by omega) hjm
                have e2 := HT.out.gv.tx.cell i j hin hjm
                have e4 := HT.out.gv.ty.cell k j (by omega) hjm
                have e7 := HT.out.gv.ty.cell i j hin hjm
                have d1 := HT.out.gv.tx.bd k j (by omega) hjm
                have d2 := HT.out.gv.tx.bd i j hin hjm
                have d4 := HT.out.gv.ty.bd k j (by omega) hjm
                have d7 := HT.out.gv.ty.bd i j hin hjm
                go_wp2
                go_loopw [6] (fun s wr => ∃ l : Nat, l ≤ j ∧ s = .int .i64 l ∧ Hid (∀ l', l' < l → rnd xs ys i k j l' = 0) ∧ Quiet w1 wr) (fun s _ => j - (intOf s).toNat)
                case atStart => exact ⟨0, Nat.zero_le _, rfl, Lib.hid (fun _ h => absurd h (by omega)), by first | exact Quiet.refl _ | exact ⟨_, rfl⟩⟩
                case round =>
                  obtain ⟨l, hl, rfl, H4, q4, rfl⟩ := hrel
                  by_cases hlj : l < j
                  · have hkn : k < p.n := by omega
                    have hlm : l < p.m := by omega
                    have e3 := HT.out.gv.ty.cell k l (by omega) (by omega)
                    have e5 := HT.out.gv.tx.cell i l hin (by omega)
                    have e6 := HT.out.gv.tx.cell k l (by omega) (by omega)
                    have e8 := HT.out.gv.ty.cell i l hin (by omega)
                    have d3 := HT.out.gv.ty.bd k l (by omega) (by omega)
                    have d5 := HT.out.gv.tx.bd i l hin (by omega)
                    have d6 := HT.out.gv.tx.bd k l (by omega) (by omega)
                    have d8 := HT.out.gv.ty.bd i l hin (by omega)
                    by_cases hz : g2 xs k j - g2 xs i j + g2 ys k l - g2 ys k j + g2 xs i l - g2 xs k l + g2 ys i j - g2 ys i l = 0
                    · have hz' : (g2 xs k j - g2 xs i j + g2 ys k l - g2 ys k j + g2 xs i l - g2 xs k l + g2 ys i j - g2 ys i l != 0) = false := by simp [hz]
                      have HZ := Lib.hid (show rnd xs ys i k j l = 0 by unfold rnd; omega)
                      clear hz
                      go_wp2
                      go_quiet (fail)
                      go_wp2
                      go_roundw
                      case rel => exact ⟨l + 1, by omega, by go_num, Lib.hid (upTo_ H4.out HZ.out), by first | exact ⟨_, rfl⟩ | exact Quiet.two _ _ _⟩
                      case measure => simp [intOf]; omega
                    · have hz' : (g2 xs k j - g2 xs i j + g2 ys k l - g2 ys k j + g2 xs i l - g2 xs k l + g2 ys i j - g2 ys i l != 0) = true := by simp [hz]
                      have HZ := Lib.hid (pb_false (p := NR xs ys) fun v => hz (by
                        have := v.no i k j l (by rw [hlx.out]; exact hin) (by rw [hlx.out]; omega) (by rw [hmx.out]; exact hjm) (by rw [hmx.out]; omega)
                        unfold rnd at this
                        omega))
                      clear hz
                      go_wp2
                      go_quiet (fail)
                      go_wp2
                      go_ret
                      exact ⟨ret_bool HZ.out.symm, by first | exact below_drewN HT.out.below _ | exact below_drewN (below_drewN HT.out.below _) _⟩
                  · have hjl : j ≤ l := by omega
                    go_wp2
                    go_roundw
                    case rel => exact ⟨j + 1, by omega, by go_num, Lib.hid (upTo_ H3.out fun l' hl' => H4.out l' (by omega)), by first | exact ⟨_, rfl⟩ | exact Quiet.two _ _ _⟩
                    case measure => simp [intOf]; omega
              · have hmj : p.m ≤ j := by omega
                go_wp2
                go_roundw
                case rel => exact ⟨k + 1, by omega, by go_num, Lib.hid (upTo_ H2.out fun j' hj' => H3.out j' (by omega)), by first | exact ⟨_, rfl⟩ | exact Quiet.two _ _ _⟩
                case measure => simp [intOf]; omega
          · have hik : i ≤ k := by omega
            go_wp2
            go_roundw
            case rel => exact ⟨i + 1, by omega, by go_num, Lib.hid (upTo_ H1.out fun k' hk' => H2.out k' (by omega)), by first | exact ⟨_, rfl⟩ | exact Quiet.two _ _ _⟩
            case measure => simp [intOf]; omega
      · go_wp2
        go_ret
        exact ⟨ret_bool (pb_true (NR_half HV.out fun i k j l hi hk hj hl => H1.out i (by rw [hlx.out] at hi; omega) k hk j (by rw [hmx.out] at hj; exact hj) l hl)).symm, below_drewN HT.out.below _⟩
  · have HZ := Lib.hid (pb_false (p := NR xs ys) fun v => hv v.vg)
    refine ((pb_false hv) ▸ HC.out).mono ?_
    rintro e w1 ⟨rfl, hb⟩
    have HB2 := Lib.hid (below_up HB.out hb)
    clear hb hv HC
    go_wp2
    go_ret
    exact ⟨ret_bool HZ.out.symm, HB2.out⟩

end Go.Proofs.Ytfilbknikbfjhaa
