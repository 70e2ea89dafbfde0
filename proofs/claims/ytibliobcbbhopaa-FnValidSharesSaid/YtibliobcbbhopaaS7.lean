/- Shares of one alone; the worst mean: by both programs. -/
import Derived.Test.YtibliobcbbhopaaS5
import Derived.Test.YtibliobcbbhopaaS6
namespace Go.Proofs.Ytibliobcbbhopaa
open Go.RowKit

theorem alloc_set (w : World) (cs : Array Value) (t : TypeId) (i : Nat) (v : Value) : (w.alloc (.cells cs t)).setCell ⟨w.heap.size, i, none⟩ v = w.alloc (.cells (cs.setIfInBounds i v) t) := by
  unfold World.setCell World.alloc
  congr 1
  apply Array.ext
  · simp
  · intro j h1 h2
    simp only [Array.size_modify, Array.size_push] at h1
    rw [Array.getElem_modify]
    by_cases e : w.heap.size = j
    · subst e; simp
    · rw [if_neg e, Array.getElem_push_lt (by omega), Array.getElem_push_lt (by omega)]
def MadeO (w : World) (n i : Nat) (e : Ending) (w' : World) : Prop :=
  e = .returned (.slice (some ⟨w.heap.size, 0, none⟩) n n) ∧ OwnI w.heap.size w'.heap.size w' w.heap.size (some ⟨w.heap.size, 0, none⟩) n n (onl n i) ∧ Below w.heap.size w w'
theorem onl_own (w w1 : World) (n i : Nat) (hn : n ≤ 100) (hr : w1.rowIs w.heap.size 3 n (fun j => if j = i then .int .i64 1 else .int .i64 0)) :
    OwnI w.heap.size w1.heap.size w1 w.heap.size (some ⟨w.heap.size, 0, none⟩) n n (onl n i) :=
  OwnI.of_rowIs (onl_len n i) (by omega) (fun x hx => by
    obtain ⟨k, hk, rfl⟩ := List.mem_iff_getElem.1 hx
    rw [onl_len] at hk
    have := onl_bd (n := n) (i := i) hk
    rw [gi_get (by rw [onl_len]; exact hk)] at this
    omega) (Nat.le_refl _) hr.lt hr fun k hk => by
      show (if k = i then Value.int .i64 1 else Value.int .i64 0) = _
      rw [gi_onl hk]; split <;> rfl

set_option maxHeartbeats 400000 in
theorem onlyOne_any (n i : Nat) (w : World) (hn : n ≤ 100) (hi : i < n) : Calls Try.prog 30 #[.int .i64 n, .int .i64 i] w (MadeO w n i) := by
  have hmk := run_make_row' (P := Try.prog) 30 3 (.int .i64 0) 8 Try.underlying30 Try.info3 rfl .i64 .i64 n (by omega) (by omega)
  have hrow := World.rowIs_made w (.int .i64 0) n 3
  have c1 := hrow.cell hi
  have c2 := hrow.frozen i
  have hb := below_alloc w (.cells (madeCells #[.int .i64 0] n) 3)
  have HR := Lib.hid ((hrow.set i (.int .i64 1)).congr (g := fun j => if j = i then .int .i64 1 else .int .i64 0) fun j _ => rfl)
  have HB := Lib.hid (hb.setCell (p := ⟨w.heap.size, i, none⟩) (Nat.le_refl _) (.int .i64 1))
  have HE := Lib.hid (alloc_set w (madeCells #[.int .i64 0] n) 3 i (.int .i64 1))
  clear hrow hb
  go_enter Try.func30, Try.ntmps30
  go_wp2
  go_ret
  exact ⟨rfl, onl_own w _ n i hn (by rw [← HE.out]; exact HR.out), by rw [← HE.out]; exact HB.out⟩
set_option maxHeartbeats 400000 in
theorem alone_spec (n i : Nat) (w : World) (hn : n ≤ 100) (hi : i < n) : Calls Try.prog 97 #[.int .i64 n, .int .i64 i] w (MadeO w n i) := by
  have hmk := run_make_row' (P := Try.prog) 30 3 (.int .i64 0) 8 Try.underlying30 Try.info3 rfl .i64 .i64 n (by omega) (by omega)
  have hrow := World.rowIs_made w (.int .i64 0) n 3
  have c1 := hrow.cell hi
  have c2 := hrow.frozen i
  have hb := below_alloc w (.cells (madeCells #[.int .i64 0] n) 3)
  have HR := Lib.hid ((hrow.set i (.int .i64 1)).congr (g := fun j => if j = i then .int .i64 1 else .int .i64 0) fun j _ => rfl)
  have HB := Lib.hid (hb.setCell (p := ⟨w.heap.size, i, none⟩) (Nat.le_refl _) (.int .i64 1))
  have HE := Lib.hid (alloc_set w (madeCells #[.int .i64 0] n) 3 i (.int .i64 1))
  clear hrow hb
  go_enter Try.func97, Try.ntmps97
  go_wp2
  go_ret
  exact ⟨rfl, onl_own w _ n i hn (by rw [← HE.out]; exact HR.out), by rw [← HE.out]; exact HB.out⟩
set_option maxHeartbeats 400000 in
theorem alone_impl (n i : Nat) (w : World) (hn : n ≤ 100) (hi : i < n) : Calls Try.prog 83 #[.int .i64 i, .int .i64 n] w (MadeO w n i) := by
  have hmk := run_make_row' (P := Try.prog) 30 3 (.int .i64 0) 8 Try.underlying30 Try.info3 rfl .i64 .i64 n (by omega) (by omega)
  have hrow := World.rowIs_made w (.int .i64 0) n 3
  have c1 := hrow.cell hi
  have c2 := hrow.frozen i
  have hb := below_alloc w (.cells (madeCells #[.int .i64 0] n) 3)
  have HR := Lib.hid ((hrow.set i (.int .i64 1)).congr (g := fun j => if j = i then .int .i64 1 else .int .i64 0) fun j _ => rfl)
  have HB := Lib.hid (hb.setCell (p := ⟨w.heap.size, i, none⟩) (Nat.le_refl _) (.int .i64 1))
  have HE := Lib.hid (alloc_set w (madeCells #[.int .i64 0] n) 3 i (.int .i64 1))
  clear hrow hb
  go_enter Try.func83, Try.ntmps83
  go_wp2
  go_ret
  exact ⟨rfl, onl_own w _ n i hn (by rw [← HE.out]; exact HR.out), by rw [← HE.out]; exact HB.out⟩
end Go.Proofs.Ytibliobcbbhopaa
