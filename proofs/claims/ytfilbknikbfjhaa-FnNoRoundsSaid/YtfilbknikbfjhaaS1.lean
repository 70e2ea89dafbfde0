/- Sums of numbers; shares: by both programs and the laws. -/
import Derived.Test.YtfilbknikbfjhaaB1
import Derived.Test.YtfilbknikbfjhaaMath3
namespace Go.Proofs.Ytfilbknikbfjhaa
open Go.RowKit

def Fit (x : Int) : Prop := -9223372036854775808 ≤ x ∧ x ≤ 9223372036854775807
/-- Numbers whose sums fit. -/
structure SumOk (xs : List Int) : Prop where
  n : xs.length ≤ 1000
  bd : ∀ j, j < xs.length → -1000000000000 ≤ gi xs j ∧ gi xs j ≤ 1000000000000
theorem SumOk.sm {xs : List Int} (h : SumOk xs) {k : Nat} (hk : k ≤ xs.length) : -1000000000000000 ≤ sm xs k ∧ sm xs k ≤ 1000000000000000 := by
  have h1 := sm_bd (xs := xs) (k := k) (lo := -1000000000000) (hi := 1000000000000) fun j hj => h.bd j (by omega)
  have h2 := h.n
  omega
theorem SumOk.of_small {xs : List Int} {B : Int} (hn : xs.length ≤ 1000) (h : ∀ j, j < xs.length → -B ≤ gi xs j ∧ gi xs j ≤ B) (hB : B ≤ 1000000000000) : SumOk xs :=
  ⟨hn, fun j hj => by have := h j hj; omega⟩
theorem VS.sumOk {xs : List Int} {n : Int} (h : VS xs n) (hn : n ≤ 3) : SumOk xs :=
  ⟨by have := h.1; omega, fun j hj => by have := h.2.1 j hj; unfold InR at this; omega⟩

set_option maxHeartbeats 400000 in
theorem sum_any (A : Option Addr) (n c : Nat) (xs : List Int) (w : World) (hx : Ints w A n c xs) (hs : SumOk xs) :
    Calls Try.prog 117 #[.slice A n c] w fun e w' => e = .returned (.int .i64 (tot xs)) ∧ Quiet w w' := by
  have hl : n ≤ 1000 := by rw [← hx.len]; exact hs.n
  have HX := Lib.hid hx
  have HS := Lib.hid hs
  have HL := Lib.hid hx.len
  clear hx hs
  go_enter Try.func117, Try.ntmps117
  go_wp2
  go_loopw [3, 4] (fun s i wr => ∃ k : Nat, k ≤ n ∧ i = .int .i64 k ∧ s = .int .i64 (sm xs k) ∧ Quiet w wr) (fun _ i _ => n - (intOf i).toNat)
  case atStart => exact ⟨0, Nat.zero_le _, rfl, rfl, Quiet.refl _⟩
  case round =>
    obtain ⟨k, hk, rfl, rfl, q, rfl⟩ := hrel
    by_cases hlt : k < n
    · obtain ⟨b, o, rfl, hc⟩ := HX.out.at_ (by omega)
      have c1 := hc k hlt
      obtain ⟨b1, b2⟩ := HS.out.sm (k := k) (by rw [HL.out]; exact hk)
      obtain ⟨b3, b4⟩ := HS.out.bd k (by rw [HL.out]; exact hlt)
      clear hc
      go_wp2
      go_roundw
      case rel => exact ⟨k + 1, by omega, by go_num, rfl, ⟨_, rfl⟩⟩
      case measure => simp [intOf]; omega
    · obtain rfl : k = n := by omega
      go_wp2
      go_ret
      exact ⟨ret_int (by rw [tot, HL.out]), ⟨_, rfl⟩⟩

set_option maxHeartbeats 400000 in
theorem sumOf_any (A : Option Addr) (n c : Nat) (xs : List Int) (w : World) (hx : Ints w A n c xs) (hs : SumOk xs) :
    Calls Try.prog 111 #[.slice A n c] w fun e w' => e = .returned (.int .i64 (tot xs)) ∧ Quiet w w' := by
  have hl : n ≤ 1000 := by rw [← hx.len]; exact hs.n
  have HX := Lib.hid hx
  have HS := Lib.hid hs
  have HL := Lib.hid hx.len
  clear hx hs
  go_enter Try.func111, Try.ntmps111
  go_wp2
  go_loopw [3, 8] (fun s i wr => ∃ k : Nat, k ≤ n ∧ i = .int .i64 k ∧ s = .int .i64 (sm xs k) ∧ Quiet w wr) (fun _ i _ => n - (intOf i).toNat)
  case atStart => exact ⟨0, Nat.zero_le _, rfl, rfl, Quiet.refl _⟩
  case round =>
    obtain ⟨k, hk, rfl, rfl, q, rfl⟩ := hrel
    by_cases hlt : k < n
    · obtain ⟨b, o, rfl, hc⟩ := HX.out.at_ (by omega)
      have c1 := hc k hlt
      obtain ⟨b1, b2⟩ := HS.out.sm (k := k) (by rw [HL.out]; exact hk)
      obtain ⟨b3, b4⟩ := HS.out.bd k (by rw [HL.out]; exact hlt)
      clear hc
      go_wp2
      go_roundw
      case rel => exact ⟨k + 1, by omega, by go_num, rfl, ⟨_, rfl⟩⟩
      case measure => simp [intOf]; omega
    · obtain rfl : k = n := by omega
      go_wp2
      go_ret
      exact ⟨ret_int (by rw [tot, HL.out]), ⟨_, rfl⟩⟩

theorem VS_no {xs : List Int} {n : Int} {k : Nat} (hk : k < xs.length) (h : ¬ InR (gi xs k) 0 1000) : pb (VS xs n) = false := pb_false fun v => h (v.2.1 k hk)

set_option maxHeartbeats 1000000 in
theorem validShares_any (A : Option Addr) (n c : Nat) (xs : List Int) (m : Int) (w : World) (hx : Ints w A n c xs) (hm : m ≤ 3) :
    Calls Try.prog 94 #[.slice A n c, .int .i64 m] w fun e w' => e = .returned (.bool (pb (VS xs m))) ∧ Quiet w w' := by
  have hl := hx.max
  have HX := Lib.hid hx
  have HL := Lib.hid hx.len
  clear hx
  go_enter Try.func94, Try.ntmps94
  go_wp2
  go_loopw [5] (fun i wr => ∃ k : Nat, k ≤ n ∧ i = .int .i64 k ∧ Hid (∀ j, j < k → InR (gi xs j) 0 1000) ∧ Quiet w wr) (fun i _ => n - (intOf i).toNat)
  case atStart => exact ⟨0, Nat.zero_le _, rfl, Lib.hid (fun _ h => absurd h (by omega)), Quiet.refl _⟩
  case round =>
    obtain ⟨k, hk, rfl, HIN, q, rfl⟩ := hrel
    by_cases hlt : k < n
    · obtain ⟨b, o, rfl, hc⟩ := HX.out.at_ (by omega)
      have c1 := hc k hlt
      clear hc
      by_cases hin : InR (gi xs k) 0 1000
      · have HI := Lib.hid hin
        have hq := fun W => (pb_true hin ▸ inRange_any (gi xs k) 0 1000 W)
        clear hin
        go_wp2_with (go_at_call 85; refine (hq _).mono ?_; rintro e w' ⟨rfl, rfl⟩)
        go_roundw
        case rel => exact ⟨k + 1, by omega, by go_num, Lib.hid (fun j hj => by
          by_cases hjk : j < k
          · exact HIN.out j hjk
          · obtain rfl : j = k := by omega
            exact HI.out), ⟨_, rfl⟩⟩
        case measure => simp [intOf]; omega
      · have HV := Lib.hid (VS_no (n := m) (by rw [HL.out]; exact hlt) hin)
        have hq := fun W => (pb_false hin ▸ inRange_any (gi xs k) 0 1000 W)
        clear hin
        go_wp2_with (go_at_call 85; refine (hq _).mono ?_; rintro e w' ⟨rfl, rfl⟩)
        go_ret
        exact ⟨ret_bool HV.out.symm, ⟨_, rfl⟩⟩
    · obtain rfl : k = n := by omega
      by_cases hm2 : (k : Int) = m
      · have HS := Lib.hid (show SumOk xs from ⟨by rw [HL.out]; omega, fun j hj => by have := HIN.out j (by rw [← HL.out]; exact hj); unfold InR at this; omega⟩)
        have hq := sum_any _ _ _ _ (w.drewN q) (HX.out.keep (Keep.drewN _ _)) HS.out
        have HV : Hid (pb (VS xs m) = decide (0 < tot xs)) := Lib.hid (by
          by_cases h0 : 0 < tot xs
          · rw [pb_true ⟨by rw [HL.out]; exact hm2, fun j hj => HIN.out j (by rw [← HL.out]; exact hj), h0⟩]; simp [h0]
          · rw [pb_false (fun v => h0 v.2.2)]; simp [h0])
        have hm2' : ((k : Int) == m) = true := by simpa using hm2
        clear hm2
        go_wp2_with fail
        refine hq.mono ?_
        rintro e w2 ⟨rfl, q2, rfl⟩
        go_wp2
        go_ret
        exact ⟨ret_bool (by rw [HV.out]), by first | exact ⟨_, rfl⟩ | exact Quiet.two _ _ _⟩
      · have HV := Lib.hid (pb_false (p := VS xs m) (fun v => hm2 (by have := v.1; rw [HL.out] at this; exact this)))
        have hm2' : ((k : Int) == m) = false := by simpa using hm2
        clear hm2
        go_wp2
        go_ret
        exact ⟨ret_bool HV.out.symm, ⟨_, rfl⟩⟩

set_option maxHeartbeats 1000000 in
theorem ValidShares_impl (A : Option Addr) (n c : Nat) (xs : List Int) (m : Int) (w : World) (hx : Ints w A n c xs) :
    Calls Try.prog 87 #[.slice A n c, .int .i64 m] w fun e w' => e = .returned (.bool (pb (VSn xs m))) ∧ Quiet w w' := by
  have hl := hx.max
  have HX := Lib.hid hx
  have HL := Lib.hid hx.len
  clear hx
  by_cases h1 : m < 1
  · have HV := Lib.hid (pb_false (p := VSn xs m) (fun v => by have := v.1; omega))
    go_enter Try.func87, Try.ntmps87
    go_wp2
    go_ret
    exact ⟨ret_bool HV.out.symm, Quiet.refl _⟩
  by_cases h3 : 3 < m
  · have HV := Lib.hid (pb_false (p := VSn xs m) (fun v => by have := v.2.1; omega))
    go_enter Try.func87, Try.ntmps87
    go_wp2
    go_ret
    exact ⟨ret_bool HV.out.symm, Quiet.refl _⟩
  by_cases hm2 : (n : Int) = m
  · have HM := Lib.hid hm2
    have hm2' : ((n : Int) != m) = false := by simpa using hm2
    have hn3 : n ≤ 3 := by omega
    clear hm2
    go_enter Try.func87, Try.ntmps87
    go_wp2
    go_loopw [21] (fun i wr => ∃ k : Nat, k ≤ n ∧ i = .int .i64 k ∧ Hid (∀ j, j < k → InR (gi xs j) 0 1000) ∧ Quiet w wr) (fun i _ => n - (intOf i).toNat)
    case atStart => exact ⟨0, Nat.zero_le _, rfl, Lib.hid (fun _ h => absurd h (by omega)), Quiet.refl _⟩
    case round =>
      obtain ⟨k, hk, rfl, HIN, q, rfl⟩ := hrel
      by_cases hlt : k < n
      · obtain ⟨b, o, rfl, hc⟩ := HX.out.at_ (by omega)
        have c1 := hc k hlt
        clear hc
        by_cases e1 : gi xs k < 0
        · have HV := Lib.hid (pb_false (p := VSn xs m) (fun v => by have := v.2.2.2.1 k (by rw [HL.out]; exact hlt); unfold InR at this; omega))
          go_wp2
          go_ret
          exact ⟨ret_bool HV.out.symm, ⟨_, rfl⟩⟩
        by_cases e2 : 1000 < gi xs k
        · have HV := Lib.hid (pb_false (p := VSn xs m) (fun v => by have := v.2.2.2.1 k (by rw [HL.out]; exact hlt); unfold InR at this; omega))
          go_wp2
          go_ret
          exact ⟨ret_bool HV.out.symm, ⟨_, rfl⟩⟩
        have HI := Lib.hid (show InR (gi xs k) 0 1000 from ⟨by omega, by omega⟩)
        go_wp2
        go_roundw
        case rel => exact ⟨k + 1, by omega, by go_num, Lib.hid (fun j hj => by
          by_cases hjk : j < k
          · exact HIN.out j hjk
          · obtain rfl : j = k := by omega
            exact HI.out), ⟨_, rfl⟩⟩
        case measure => simp [intOf]; omega
      · obtain rfl : k = n := by omega
        have HS := Lib.hid (show SumOk xs from ⟨by rw [HL.out]; omega, fun j hj => by have := HIN.out j (by rw [← HL.out]; exact hj); unfold InR at this; omega⟩)
        have hq := Lib.hid (sumOf_any _ _ _ _ (w.drewN q) (HX.out.keep (Keep.drewN _ _)) HS.out)
        have HV : Hid (pb (VSn xs m) = decide (0 < tot xs)) := Lib.hid (by
          have := HM.out
          by_cases h0 : 0 < tot xs
          · rw [pb_true ⟨by omega, by omega, by rw [HL.out]; exact this, fun j hj => HIN.out j (by rw [← HL.out]; exact hj), h0⟩]; simp [h0]
          · rw [pb_false (fun v => h0 v.2.2.2.2)]; simp [h0])
        go_wp2_with fail
        refine hq.out.mono ?_
        rintro e w2 ⟨rfl, q2, rfl⟩
        go_wp2
        go_ret
        exact ⟨ret_bool (by rw [HV.out]), by first | exact ⟨_, rfl⟩ | exact Quiet.two _ _ _⟩
  · have HV := Lib.hid (pb_false (p := VSn xs m) (fun v => hm2 (by have := v.2.2.1; rw [HL.out] at this; exact this)))
    have hm2' : ((n : Int) != m) = true := by simpa using hm2
    clear hm2
    go_enter Try.func87, Try.ntmps87
    go_wp2
    go_ret
    exact ⟨ret_bool HV.out.symm, Quiet.refl _⟩
theorem ValidShares_impl2 (A : Option Addr) (n c : Nat) (xs : List Int) (m : Int) (w : World) (hx : Ints w A n c xs) (_ : Fit m) :
    Calls Try.prog 87 #[.slice A n c, .int .i64 m] w fun e w' => e = .returned (.bool (pb (VSn xs m))) ∧ Quiet w w' := ValidShares_impl A n c xs m w hx
end Go.Proofs.Ytfilbknikbfjhaa
