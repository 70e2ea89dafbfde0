/- The least of a row; the safe row. -/
import Derived.Test.YtchpbldagkohnaaB2
import Derived.Test.YtchpbldagkohnaaTab
namespace Go.Proofs.Ytchpbldagkohnaa
open Go.RowKit

set_option maxHeartbeats 400000 in
theorem least_any (A : Option Addr) (n c : Nat) (r : List Int) (w : World) (hx : Ints w A n c r) (h0 : 0 < n) :
    Calls Try.prog 68 #[.slice A n c] w fun e w' => e = .returned (.int .i64 (lst r)) ∧ Quiet w w' := by
  obtain ⟨lx, cx, mx, _, hx⟩ := hx
  have Lx := Lib.hid lx
  clear lx
  obtain ⟨b, o, rfl, hc⟩ := hx h0
  have c0 := hc 0 h0
  simp only [Nat.add_zero] at c0
  go_enter Try.func68, Try.ntmps68
  go_wp2
  go_loopw [3, 4] (fun m i wr => ∃ k : Nat, k < n ∧ i = .int .i64 (k + 1 : Nat) ∧ m = .int .i64 (mn r k) ∧ Quiet w wr) (fun _ i _ => n - (intOf i).toNat)
  case atStart => exact ⟨0, h0, rfl, rfl, Quiet.refl _⟩
  case round =>
    obtain ⟨k, hk, rfl, rfl, q, rfl⟩ := hrel
    by_cases hlt : k + 1 < n
    · have c1 := hc (k + 1) hlt
      clear c0 hc
      go_wp2
      go_roundw
      case rel => exact ⟨k + 1, hlt, by go_num, congrArg (Value.int .i64) (by simp only [mn]; split <;> omega), ⟨_, rfl⟩⟩
      case measure => simp [intOf]; omega
    · obtain rfl : n = k + 1 := by omega
      go_wp2
      go_ret
      exact ⟨ret_int (by rw [lst, Lx.out]; rfl), ⟨_, rfl⟩⟩

set_option maxHeartbeats 400000 in
theorem Min_any (A : Option Addr) (n c : Nat) (r : List Int) (w : World) (hx : Ints w A n c r) (h0 : 0 < n) :
    Calls Try.prog 69 #[.slice A n c] w fun e w' => e = .returned (.int .i64 (lst r)) ∧ Quiet w w' := by
  obtain ⟨lx, cx, mx, _, hx⟩ := hx
  have Lx := Lib.hid lx
  clear lx
  obtain ⟨b, o, rfl, hc⟩ := hx h0
  have c0 := hc 0 h0
  simp only [Nat.add_zero] at c0
  go_enter Try.func69, Try.ntmps69
  go_wp2
  go_loopw [3, 4] (fun m i wr => ∃ k : Nat, k < n ∧ i = .int .i64 (k + 1 : Nat) ∧ m = .int .i64 (mn r k) ∧ Quiet w wr) (fun _ i _ => n - (intOf i).toNat)
  case atStart => exact ⟨0, h0, rfl, rfl, Quiet.refl _⟩
  case round =>
    obtain ⟨k, hk, rfl, rfl, q, rfl⟩ := hrel
    by_cases hlt : k + 1 < n
    · have c1 := hc (k + 1) hlt
      clear c0 hc
      go_wp2
      go_roundw
      case rel => exact ⟨k + 1, hlt, by go_num, congrArg (Value.int .i64) (by simp only [mn]; split <;> omega), ⟨_, rfl⟩⟩
      case measure => simp [intOf]; omega
    · obtain rfl : n = k + 1 := by omega
      go_wp2
      go_ret
      exact ⟨ret_int (by rw [lst, Lx.out]; rfl), ⟨_, rfl⟩⟩

/-- What a valid table's rows are, each with its length. -/
theorem VT.len {a : List (List Int)} (v : VT a) {i : Nat} (hi : i < a.length) : (gr a i).length = (gr a 0).length := (v.rows i hi).1

set_option maxHeartbeats 1000000 in
theorem SafeRow_spec (A : Option Addr) (n c : Nat) (a : List (List Int)) (w : World) (hx : IntRows w A n c a) :
    Calls Try.prog 45 #[.slice A n c] w fun e w' => e = .returned (.tuple #[.int .i64 (if pb (VT a) = true then (bst a n : Int) else 0), .int .i64 (if pb (VT a) = true then lst (gr a (bst a n)) else 0), .bool (pb (VT a))]) ∧ Quiet w w' := by
  have HX := Lib.hid hx
  clear hx
  by_cases hv : VT a
  · have hn1 := hv.n1
    have hn3 := hv.n3
    have m1 := hv.m1
    have m3 := hv.m3
    rw [HX.out.len] at hn1 hn3
    have HV := Lib.hid hv
    have HC := Lib.hid (pb_true hv ▸ validTable_any _ _ _ _ _ HX.out)
    rw [pb_true hv, if_pos rfl, if_pos rfl]
    clear hv
    obtain ⟨b, o, rfl, hc⟩ := HX.out.at_ (by omega)
    have HR := Lib.hid hc
    clear hc
    go_enter Try.func45, Try.ntmps45
    go_wp2_with fail
    refine HC.out.mono ?_
    rintro e w1 ⟨rfl, q, rfl⟩
    clear HC
    go_wp2
    go_loopw [5, 6] (fun s i wr => ∃ k : Nat, 1 ≤ k ∧ k ≤ n ∧ i = .int .i64 k ∧ s = .int .i64 (bst a k : Nat) ∧ Quiet w wr) (fun _ i _ => n - (intOf i).toNat)
    case atStart => exact ⟨1, Nat.le_refl _, hn1, rfl, by rw [bst_one]; rfl, ⟨_, rfl⟩⟩
    case round =>
      obtain ⟨k, hk1, hk, rfl, rfl, q, rfl⟩ := hrel
      have hbl := bst_lt a (k := k) (by omega)
      have hbn : bst a k < n := by omega
      obtain ⟨R2, cc2, c2, hR2⟩ := HR.out (bst a k) hbn
      have hl2 := HV.out.len (i := bst a k) (by rw [HX.out.len]; exact hbn)
      by_cases hlt : k < n
      · obtain ⟨R1, cc1, c1, hR1⟩ := HR.out k hlt
        have hl1 := HV.out.len (i := k) (by rw [HX.out.len]; exact hlt)
        have QX := Lib.hid (fun W (hW : Quiet w W) => least_any _ _ _ _ W (hR1.keep (Keep.quiet hW)) (by omega))
        have QY := Lib.hid (fun W (hW : Quiet w W) => least_any _ _ _ _ W (hR2.keep (Keep.quiet hW)) (by omega))
        clear hl1 hl2 hR1 hR2
        by_cases hup : lst (gr a (bst a k)) < lst (gr a k)
        · have HU := Lib.hid (bst_up hup)
          have hup' : decide (lst (gr a (bst a k)) < lst (gr a k)) = true := by simpa using hup
          go_wp2
          go_quiet ((go_at_call 68; (first | (with_reducible refine quiet_fit (QX.out _ ?_) (fun m => ?_)) | (with_reducible refine quiet_fit (QY.out _ ?_) (fun m => ?_))); (first | exact ⟨_, rfl⟩ | exact Quiet.two _ _ _); (first | exact drewN_to1 _ _ _ | exact drewN_to2 _ _ _ _)))
          go_wp2
          go_roundw
          case rel => exact ⟨k + 1, by omega, by omega, by go_num, by rw [HU.out], by first | exact ⟨_, rfl⟩ | exact Quiet.two _ _ _⟩
          case measure => simp [intOf]; omega
        · have HU := Lib.hid (bst_same hup)
          have hup' : decide (lst (gr a (bst a k)) < lst (gr a k)) = false := by simpa using hup
          go_wp2
          go_quiet ((go_at_call 68; (first | (with_reducible refine quiet_fit (QX.out _ ?_) (fun m => ?_)) | (with_reducible refine quiet_fit (QY.out _ ?_) (fun m => ?_))); (first | exact ⟨_, rfl⟩ | exact Quiet.two _ _ _); (first | exact drewN_to1 _ _ _ | exact drewN_to2 _ _ _ _)))
          go_wp2
          go_roundw
          case rel => exact ⟨k + 1, by omega, by omega, by go_num, by rw [HU.out], by first | exact ⟨_, rfl⟩ | exact Quiet.two _ _ _⟩
          case measure => simp [intOf]; omega
      · have HK := Lib.hid (show n = k by omega)
        have hq := least_any _ _ _ _ (w.drewN q) (hR2.keep (Keep.quiet ⟨_, rfl⟩)) (by omega)
        have HQ := Lib.hid hq
        clear hq hl2 hR2
        go_wp2_with fail
        refine HQ.out.mono ?_
        rintro e w2 ⟨rfl, q2, rfl⟩
        go_wp2
        go_ret3
        exact ⟨by rw [HK.out]; rfl, by first | exact ⟨_, rfl⟩ | exact Quiet.two _ _ _⟩
  · have HC := Lib.hid (pb_false hv ▸ validTable_any _ _ _ _ _ HX.out)
    rw [pb_false hv, if_neg (by decide), if_neg (by decide)]
    clear hv
    go_enter Try.func45, Try.ntmps45
    go_wp2_with fail
    refine HC.out.mono ?_
    rintro e w1 ⟨rfl, q, rfl⟩
    clear HC
    go_wp2
    go_ret3
    exact ⟨rfl, ⟨_, rfl⟩⟩

set_option maxHeartbeats 1000000 in
theorem SafeRow_impl (A : Option Addr) (n c : Nat) (a : List (List Int)) (w : World) (hx : IntRows w A n c a) :
    Calls Try.prog 46 #[.slice A n c] w fun e w' => e = .returned (.tuple #[.int .i64 (if pb (VT a) = true then (bst a n : Int) else 0), .int .i64 (if pb (VT a) = true then lst (gr a (bst a n)) else 0), .bool (pb (VT a))]) ∧ Quiet w w' := by
  have HX := Lib.hid hx
  clear hx
  by_cases hv : VT a
  · have hn1 := hv.n1
    have hn3 := hv.n3
    have m1 := hv.m1
    have m3 := hv.m3
    rw [HX.out.len] at hn1 hn3
    have HV := Lib.hid hv
    have HC := Lib.hid (pb_true hv ▸ ValidTable_impl _ _ _ _ _ HX.out)
    rw [pb_true hv, if_pos rfl, if_pos rfl]
    clear hv
    obtain ⟨b, o, rfl, hc⟩ := HX.out.at_ (by omega)
    have HR := Lib.hid hc
    clear hc
    obtain ⟨R0, cc0, c0, hR0⟩ := HR.out 0 (by omega)
    simp only [Nat.add_zero] at c0
    have H0 := Lib.hid hR0
    clear hR0
    go_enter Try.func46, Try.ntmps46
    go_wp2_with fail
    refine HC.out.mono ?_
    rintro e w1 ⟨rfl, q, rfl⟩
    clear HC
    go_wp2_with fail
    refine (Min_any _ _ _ _ _ (H0.out.keep (Keep.quiet ⟨_, rfl⟩)) (by omega)).mono ?_
    rintro e w2 ⟨rfl, q2, rfl⟩
    clear H0
    go_wp2
    clear c0
    go_loopw [5, 6, 19] (fun s t i wr => ∃ k : Nat, k ≤ n ∧ i = .int .i64 k ∧ s = .int .i64 (bst a k : Nat) ∧ t = .int .i64 (lst (gr a (bst a k))) ∧ Quiet w wr) (fun _ _ i _ => n - (intOf i).toNat)
    case atStart => exact ⟨0, Nat.zero_le _, rfl, rfl, rfl, by first | exact ⟨_, rfl⟩ | exact Quiet.two _ _ _⟩
    case round =>
      obtain ⟨k, hk, rfl, rfl, rfl, q, rfl⟩ := hrel
      by_cases hlt : k < n
      · obtain ⟨R1, cc1, c1, hR1⟩ := HR.out k hlt
        have hl1 := HV.out.len (i := k) (by rw [HX.out.len]; exact hlt)
        have H1 := Lib.hid (Min_any _ _ _ _ (w.drewN q) (hR1.keep (Keep.quiet ⟨_, rfl⟩)) (by omega))
        clear hl1 hR1
        by_cases hup : lst (gr a (bst a k)) < lst (gr a k)
        · have HU := Lib.hid (bst_up hup)
          go_wp2_with fail
          refine H1.out.mono ?_
          rintro e w2 ⟨rfl, q2, rfl⟩
          go_wp2
          go_roundw
          case rel => exact ⟨k + 1, by omega, by go_num, by rw [HU.out], by rw [HU.out], by first | exact ⟨_, rfl⟩ | exact Quiet.two _ _ _⟩
          case measure => simp [intOf]; omega
        · have HU := Lib.hid (bst_same hup)
          go_wp2_with fail
          refine H1.out.mono ?_
          rintro e w2 ⟨rfl, q2, rfl⟩
          go_wp2
          go_roundw
          case rel => exact ⟨k + 1, by omega, by go_num, by rw [HU.out], by rw [HU.out], by first | exact ⟨_, rfl⟩ | exact Quiet.two _ _ _⟩
          case measure => simp [intOf]; omega
      · have HK := Lib.hid (show n = k by omega)
        go_wp2
        go_ret3
        exact ⟨by rw [HK.out]; rfl, by first | exact ⟨_, rfl⟩ | exact Quiet.two _ _ _⟩
  · have HC := Lib.hid (pb_false hv ▸ ValidTable_impl _ _ _ _ _ HX.out)
    rw [pb_false hv, if_neg (by decide), if_neg (by decide)]
    clear hv
    go_enter Try.func46, Try.ntmps46
    go_wp2_with fail
    refine HC.out.mono ?_
    rintro e w1 ⟨rfl, q, rfl⟩
    clear HC
    go_wp2
    go_ret3
    exact ⟨rfl, ⟨_, rfl⟩⟩

noncomputable def srAt (a : List (List Int)) : Int := if pb (VT a) = true then (bst a a.length : Int) else 0
noncomputable def srNum (a : List (List Int)) : Int := if pb (VT a) = true then lst (gr a (bst a a.length)) else 0
theorem SafeRow_spec' (A : Option Addr) (n c : Nat) (a : List (List Int)) (w : World) (hx : IntRows w A n c a) :
    Calls Try.prog 45 #[.slice A n c] w fun e w' => e = .returned (.tuple #[.int .i64 (srAt a), .int .i64 (srNum a), .bool (pb (VT a))]) ∧ Quiet w w' := by
  unfold srAt srNum; rw [hx.len]; exact SafeRow_spec A n c a w hx
theorem SafeRow_impl' (A : Option Addr) (n c : Nat) (a : List (List Int)) (w : World) (hx : IntRows w A n c a) :
    Calls Try.prog 46 #[.slice A n c] w fun e w' => e = .returned (.tuple #[.int .i64 (srAt a), .int .i64 (srNum a), .bool (pb (VT a))]) ∧ Quiet w w' := by
  unfold srAt srNum; rw [hx.len]; exact SafeRow_impl A n c a w hx

end Go.Proofs.Ytchpbldagkohnaa
