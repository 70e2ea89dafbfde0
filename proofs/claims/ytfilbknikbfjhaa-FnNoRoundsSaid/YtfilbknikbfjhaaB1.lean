/- Valid tables, by both programs. -/
import Derived.Test.YtfilbknikbfjhaaA1
import Derived.Test.YtfilbknikbfjhaaMath1
namespace Go.Proofs.Ytfilbknikbfjhaa
open Go.RowKit

set_option maxHeartbeats 400000 in
theorem inRange_any (n lo hi : Int) (w : World) : Calls Try.prog 85 #[.int .i64 n, .int .i64 lo, .int .i64 hi] w fun e w' => e = .returned (.bool (pb (InR n lo hi))) ∧ w = w' := by
  by_cases h1 : lo ≤ n
  · by_cases h2 : n ≤ hi
    · have h := Lib.hid (pb_true (p := InR n lo hi) ⟨h1, h2⟩)
      go_enter Try.func85, Try.ntmps85
      go_wp2
      go_ret
      exact ⟨ret_bool (by rw [h.out]), rfl⟩
    · have h := Lib.hid (pb_false (p := InR n lo hi) (fun h => h2 h.2))
      have h2' : decide (n ≤ hi) = false := by simpa using h2
      go_enter Try.func85, Try.ntmps85
      go_wp2
      go_ret
      exact ⟨ret_bool (by rw [h.out]), rfl⟩
  · have h := Lib.hid (pb_false (p := InR n lo hi) (fun h => h1 h.1))
    have h1' : decide (lo ≤ n) = false := by simpa using h1
    go_enter Try.func85, Try.ntmps85
    go_wp2
    go_ret
    exact ⟨ret_bool (by rw [h.out]), rfl⟩

theorem VT_no_row {a : List (List Int)} {i : Nat} (hi : i < a.length) (h : ¬ RowOk a i) : pb (VT a) = false := pb_false fun v => h (v.rows i hi)

set_option maxHeartbeats 1000000 in
theorem validTable_any (A : Option Addr) (n c : Nat) (a : List (List Int)) (w : World) (hx : IntRows w A n c a) :
    Calls Try.prog 104 #[.slice A n c] w fun e w' => e = .returned (.bool (pb (VT a))) ∧ Quiet w w' := by
  obtain ⟨lx, cx, mx, hx⟩ := hx
  have Lx := Lib.hid lx
  clear lx
  go_enter Try.func104, Try.ntmps104
  go_wp2
  go_loopw [3] (fun i wr => ∃ k : Nat, k ≤ n ∧ i = .int .i64 k ∧ Hid (∀ i, i < k → RowOk a i) ∧ Quiet w wr) (fun i _ => n - (intOf i).toNat)
  case atStart => exact ⟨0, Nat.zero_le _, rfl, Lib.hid (fun _ h => absurd h (by omega)), Quiet.refl _⟩
  case round =>
    obtain ⟨k, hk, rfl, HALL, q, rfl⟩ := hrel
    by_cases hlt : k < n
    · obtain ⟨b, o, rfl, hc⟩ := hx (by omega)
      obtain ⟨R, cc, c1, hR⟩ := hc k hlt
      obtain ⟨R0, cc0, c0, hR0⟩ := hc 0 (by omega)
      have hL1 : (gr a k).length ≤ 17592186044416 := hR.max
      have hL0 : (gr a 0).length ≤ 17592186044416 := hR0.max
      have hn0 : 0 < n := by omega
      have HKA := Lib.hid (show k < a.length by rw [Lx.out]; exact hlt)
      clear hx hc
      simp only [Nat.add_zero] at c0
      by_cases hlen : (gr a k).length = (gr a 0).length
      · have hlen' : (((gr a k).length : Int) != ((gr a 0).length : Int)) = false := by simp [hlen]
        have HLEN := Lib.hid hlen
        clear hlen
        go_wp2
        go_quiet (fail)
        go_wp2
        go_loopw [4] (fun j wi => ∃ m : Nat, m ≤ (gr a k).length ∧ j = .int .i64 m ∧ Hid (∀ j, j < m → InR (gi (gr a k) j) (-9) 9) ∧ Quiet w wi) (fun j _ => (gr a k).length - (intOf j).toNat)
        case atStart => exact ⟨0, Nat.zero_le _, rfl, Lib.hid (fun _ h => absurd h (by omega)), Quiet.two _ _ _⟩
        case round =>
          obtain ⟨m, hm, rfl, HIN, q2, rfl⟩ := hrel
          by_cases hml : m < (gr a k).length
          · obtain ⟨b2, o2, rfl, hc2⟩ := hR.at_ (by omega)
            have c2 := hc2 m hml
            clear hc2
            by_cases hin : InR (gi (gr a k) m) (-9) 9
            · have HI := Lib.hid hin
              have hq := fun W => (pb_true hin ▸ inRange_any (gi (gr a k) m) (-9) 9 W)
              clear hin
              go_wp2_with (go_at_call 85; refine (hq _).mono ?_; rintro e w' ⟨rfl, rfl⟩)
              go_roundw
              case rel => exact ⟨m + 1, by omega, by go_num, Lib.hid (fun j hj => by
                by_cases hjk : j < m
                · exact HIN.out j hjk
                · obtain rfl : j = m := by omega
                  exact HI.out), ⟨_, rfl⟩⟩
              case measure => simp [intOf]; omega
            · have HV := Lib.hid (VT_no_row HKA.out (fun h => hin (h.2 m hml)))
              have hq := fun W => (pb_false hin ▸ inRange_any (gi (gr a k) m) (-9) 9 W)
              clear hin
              go_wp2_with (go_at_call 85; refine (hq _).mono ?_; rintro e w' ⟨rfl, rfl⟩)
              go_ret
              exact ⟨ret_bool HV.out.symm, ⟨_, rfl⟩⟩
          · have HK := Lib.hid (show RowOk a k from ⟨HLEN.out, fun j hj => HIN.out j (by omega)⟩)
            go_wp2
            go_roundw
            case rel => exact ⟨k + 1, by omega, by go_num, Lib.hid (fun j hj => by
                by_cases hjk : j < k
                · exact HALL.out j hjk
                · obtain rfl : j = k := by omega
                  exact HK.out), ⟨_, rfl⟩⟩
            case measure => simp [intOf]; omega
      · have HV := Lib.hid (VT_no_row HKA.out (fun h => hlen h.1))
        have hlen' : (((gr a k).length : Int) != ((gr a 0).length : Int)) = true := by simp; omega
        clear hlen
        go_wp2
        go_quiet (fail)
        go_wp2
        go_ret
        exact ⟨ret_bool HV.out.symm, Quiet.two _ _ _⟩
    · obtain rfl : k = n := by omega
      by_cases hk1 : InR k 1 3
      · obtain ⟨b, o, rfl, hc⟩ := hx (by unfold InR at hk1; omega)
        obtain ⟨R0, cc0, c0, hR0⟩ := hc 0 (by unfold InR at hk1; omega)
        have hL0 : (gr a 0).length ≤ 17592186044416 := hR0.max
        have hn0 : 0 < k := by unfold InR at hk1; omega
        simp only [Nat.add_zero] at c0
        have hq := fun W => (pb_true hk1 ▸ inRange_any k 1 3 W)
        have HV : Hid (pb (VT a) = pb (InR (gr a 0).length 1 3)) := Lib.hid (pb_congr ⟨fun v => ⟨by have := v.m1; omega, by have := v.m3; omega⟩, fun v => by
          unfold InR at hk1 v
          exact ⟨fun i hi => HALL.out i (by rw [Lx.out] at hi; exact hi), by rw [Lx.out]; omega, by rw [Lx.out]; omega, by omega, by omega⟩⟩)
        clear hk1 hx hc
        go_wp2_with fail
        refine (hq _).mono ?_
        rintro e w' ⟨rfl, rfl⟩
        go_wp2_with fail
        refine (inRange_any _ _ _ _).mono ?_
        rintro e w' ⟨rfl, rfl⟩
        go_wp2
        go_ret
        exact ⟨ret_bool HV.out.symm, ⟨_, rfl⟩⟩
      · have hq := fun W => (pb_false hk1 ▸ inRange_any k 1 3 W)
        have HV := Lib.hid (pb_false (p := VT a) fun v => hk1 (by have h1 := v.n1; have h3 := v.n3; rw [Lx.out] at h1 h3; exact ⟨by omega, by omega⟩))
        clear hk1
        go_wp2_with (go_at_call 85; refine (hq _).mono ?_; rintro e w' ⟨rfl, rfl⟩)
        go_ret
        exact ⟨ret_bool HV.out.symm, ⟨_, rfl⟩⟩

end Go.Proofs.Ytfilbknikbfjhaa
