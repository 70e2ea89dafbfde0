/- Fractions compared by the harness; less, by both programs. -/
import Derived.Test.YtibliobcbbhopaaS2
namespace Go.Proofs.Ytibliobcbbhopaa
open Go.RowKit

set_option maxHeartbeats 400000 in
theorem eqFrac_self (v : Value) (w : World) (hv : ∃ U D, v = .agg #[.int .i64 U, .int .i64 D]) : Calls Try.prog 48 #[v, v] w (Ret (.bool true) w) := by
  obtain ⟨U, D, rfl⟩ := hv
  have b0 := blk_old (blk_new w 53 #[.int .i64 U, .int .i64 D]) (.cells #[.int .i64 U, .int .i64 D] 53)
  have b1 := blk_new (w.alloc (.cells #[.int .i64 U, .int .i64 D] 53)) 53 #[.int .i64 U, .int .i64 D]
  have HB := Lib.hid (below_up (below_alloc w (.cells #[.int .i64 U, .int .i64 D] 53)) (below_alloc _ (.cells #[.int .i64 U, .int .i64 D] 53)))
  rw [World.size_alloc] at b1
  have c0 := blk_cell b0 (i := 0) rfl
  have c1 := blk_cell b0 (i := 1) rfl
  have c2 := blk_cell b1 (i := 0) rfl
  have c3 := blk_cell b1 (i := 1) rfl
  go_enter Try.func48, Try.ntmps48
  go_wp2
  go_ret
  exact ⟨rfl, HB.out⟩

def lessB (u d v e : Int) : Bool := decide (u * e < v * d)
theorem less_bd {u v : Int} (hu : -1000000000 ≤ u ∧ u ≤ 1000000000) (hv : 0 ≤ v ∧ v ≤ 1000000000) : -1000000000000000000 ≤ u * v ∧ u * v ≤ 1000000000000000000 := by
  have h1 : u * v ≤ 1000000000 * v := Int.mul_le_mul_of_nonneg_right hu.2 hv.1
  have h2 : -1000000000 * v ≤ u * v := Int.mul_le_mul_of_nonneg_right hu.1 hv.1
  omega

set_option maxHeartbeats 400000 in
theorem less_spec (u d v e : Int) (w : World) (hu : -1000000000 ≤ u ∧ u ≤ 1000000000) (hv : -1000000000 ≤ v ∧ v ≤ 1000000000) (hd : 0 ≤ d ∧ d ≤ 1000000000) (he : 0 ≤ e ∧ e ≤ 1000000000) :
    Calls Try.prog 98 #[.agg #[.int .i64 u, .int .i64 d], .agg #[.int .i64 v, .int .i64 e]] w (Ret (.bool (lessB u d v e)) w) := by
  obtain ⟨p1, p2⟩ := less_bd hu he
  obtain ⟨p3, p4⟩ := less_bd hv hd
  have b0 := blk_old (blk_new w 53 #[.int .i64 u, .int .i64 d]) (.cells #[.int .i64 v, .int .i64 e] 53)
  have b1 := blk_new (w.alloc (.cells #[.int .i64 u, .int .i64 d] 53)) 53 #[.int .i64 v, .int .i64 e]
  have HB := Lib.hid (below_up (below_alloc w (.cells #[.int .i64 u, .int .i64 d] 53)) (below_alloc _ (.cells #[.int .i64 v, .int .i64 e] 53)))
  rw [World.size_alloc] at b1
  have c0 := blk_cell b0 (i := 0) rfl
  have c1 := blk_cell b0 (i := 1) rfl
  have c2 := blk_cell b1 (i := 0) rfl
  have c3 := blk_cell b1 (i := 1) rfl
  go_enter Try.func98, Try.ntmps98
  go_wp2
  go_ret
  exact ⟨rfl, HB.out⟩

set_option maxHeartbeats 400000 in
theorem less_impl (u d v e : Int) (w : World) (hu : -1000000000 ≤ u ∧ u ≤ 1000000000) (hv : -1000000000 ≤ v ∧ v ≤ 1000000000) (hd : 0 ≤ d ∧ d ≤ 1000000000) (he : 0 ≤ e ∧ e ≤ 1000000000) :
    Calls Try.prog 84 #[.agg #[.int .i64 u, .int .i64 d], .agg #[.int .i64 v, .int .i64 e]] w (Ret (.bool (lessB u d v e)) w) := by
  obtain ⟨p1, p2⟩ := less_bd hu he
  obtain ⟨p3, p4⟩ := less_bd hv hd
  have b0 := blk_old (blk_new w 53 #[.int .i64 u, .int .i64 d]) (.cells #[.int .i64 v, .int .i64 e] 53)
  have b1 := blk_new (w.alloc (.cells #[.int .i64 u, .int .i64 d] 53)) 53 #[.int .i64 v, .int .i64 e]
  have HB := Lib.hid (below_up (below_alloc w (.cells #[.int .i64 u, .int .i64 d] 53)) (below_alloc _ (.cells #[.int .i64 v, .int .i64 e] 53)))
  rw [World.size_alloc] at b1
  have c0 := blk_cell b0 (i := 0) rfl
  have c1 := blk_cell b0 (i := 1) rfl
  have c2 := blk_cell b1 (i := 0) rfl
  have c3 := blk_cell b1 (i := 1) rfl
  go_enter Try.func84, Try.ntmps84
  go_wp2
  go_ret
  exact ⟨rfl, HB.out⟩
end Go.Proofs.Ytibliobcbbhopaa
