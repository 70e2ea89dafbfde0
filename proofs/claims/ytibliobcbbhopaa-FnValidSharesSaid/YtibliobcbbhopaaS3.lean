/- Means of tables, by both programs. -/
import Derived.Test.YtibliobcbbhopaaS2
import Derived.Test.YtibliobcbbhopaaTab
namespace Go.Proofs.Ytibliobcbbhopaa
open Go.RowKit

set_option maxHeartbeats 1000000 in
theorem payUp_any (b o : Nat) (rb ro cc : Nat → Nat) (n m c cx cy : Nat) (X Y : Option Addr) (a : List (List Int)) (x y : List Int) (w : World) (h : Tab w b o rb ro cc n m a) (hx : Ints w X n cx x) (hy : Ints w Y m cy y) (hp : PB a x y n m) :
    Calls Try.prog 79 #[.slice (some ⟨b, o, none⟩) n c, .slice X n cx, .slice Y m cy] w fun e w' => e = .returned (.int .i64 (payU a x y m n)) ∧ Quiet w w' := by
  have HT := Lib.hid h
  have hn1 := h.n1
  have hn3 := h.n3
  have hm1 := h.m1
  have hm3 := h.m3
  obtain ⟨bx, ox, rfl, hcx⟩ := hx.at_ (by omega)
  obtain ⟨by_, oy, rfl, hcy⟩ := hy.at_ (by omega)
  have HX := Lib.hid hcx
  have HY := Lib.hid hcy
  have HP := Lib.hid hp
  clear h hx hy hcx hcy hp
  go_enter Try.func79, Try.ntmps79
  go_wp2
  go_loopw [7, 8] (fun s i wr => ∃ k : Nat, k ≤ n ∧ i = .int .i64 k ∧ s = .int .i64 (payU a x y m k) ∧ Quiet w wr) (fun _ i _ => n - (intOf i).toNat)
  case atStart => exact ⟨0, Nat.zero_le _, rfl, rfl, Quiet.refl _⟩
  case round =>
    obtain ⟨k, hk, rfl, rfl, q, rfl⟩ := hrel
    by_cases hlt : k < n
    · go_wp2
      go_loopw [7, 9] (fun s j wi => ∃ l : Nat, l ≤ m ∧ j = .int .i64 l ∧ s = .int .i64 (payU a x y m k + payR a x y k l) ∧ Quiet w wi) (fun _ j _ => m - (intOf j).toNat)
      case atStart => exact ⟨0, Nat.zero_le _, rfl, by rw [payR]; exact congrArg (Value.int .i64) (by omega), ⟨_, rfl⟩⟩
      case round =>
        obtain ⟨l, hl, rfl, rfl, q2, rfl⟩ := hrel
        by_cases hll : l < m
        · have c1 := HX.out k hlt
          have c2 := HY.out l hll
          have c3 := HT.out.row k hlt
          have c4 := HT.out.cell k l hlt hll
          obtain ⟨x1, x2⟩ := HP.out.x k hlt
          obtain ⟨y1, y2⟩ := HP.out.y l hll
          obtain ⟨z1, z2⟩ := HP.out.a k l hlt hll
          obtain ⟨p1, p2⟩ := mul_bd2 ⟨x1, x2⟩ ⟨y1, y2⟩
          obtain ⟨p3, p4⟩ := mul_bd ⟨x1, x2⟩ ⟨y1, y2⟩ ⟨z1, z2⟩
          obtain ⟨s1, s2⟩ := payP_bd HP.out hm3 hn3 hlt (j := l) hl
          have HS : Hid (payU a x y m k + payR a x y k (l + 1) = payU a x y m k + payR a x y k l + gi x k * gi y l * g2 a k l) := Lib.hid (by rw [payR]; omega)
          go_wp2
          go_quiet (fail)
          go_wp2
          go_roundw
          case rel => exact ⟨l + 1, by omega, by go_num, by rw [HS.out], by first | exact ⟨_, rfl⟩ | exact Quiet.two _ _ _⟩
          case measure => simp [intOf]; omega
        · obtain rfl : l = m := by omega
          go_wp2
          go_roundw
          case rel => exact ⟨k + 1, by omega, by go_num, by rw [payU], by first | exact ⟨_, rfl⟩ | exact Quiet.two _ _ _⟩
          case measure => simp [intOf]; omega
    · obtain rfl : k = n := by omega
      go_wp2
      go_ret
      exact ⟨rfl, ⟨_, rfl⟩⟩
end Go.Proofs.Ytibliobcbbhopaa
