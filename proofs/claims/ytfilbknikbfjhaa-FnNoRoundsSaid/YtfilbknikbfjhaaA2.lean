/- The harness of the exact laws: copies. -/
import Derived.Test.YtfilbknikbfjhaaA1
namespace Go.Proofs.Ytfilbknikbfjhaa
open Go.RowKit
theorem Try.info3 : (Try.prog.info? 3).map (fun i => (i.zero, i.size, i.bytes)) = some (some (.int .i64 0), 1, 8) := by kernel_rfl
theorem Try.info27 : (Try.prog.info? 27).map (fun i => (i.zero, i.size, i.bytes)) = some (some (.slice none 0 0), 1, 24) := by kernel_rfl

/-- A row that is filled up to k. -/
def filled (xs : List Int) (k : Nat) : Nat → Value := fun j => if j < k then .int .i64 (gi xs j) else .int .i64 0

theorem filled_set {w : World} {g n k : Nat} {xs : List Int} (h : w.rowIs g 3 n (filled xs k)) : (w.setCell ⟨g, k, none⟩ (.int .i64 (gi xs k))).rowIs g 3 n (filled xs (k + 1)) :=
  (h.set k _).congr fun j _ => by
    unfold filled
    by_cases e : j = k
    · subst e; simp
    · rw [if_neg e]
      by_cases hj : j < k
      · rw [if_pos hj, if_pos (by omega)]
      · rw [if_neg hj, if_neg (by omega)]

def MadeI (w : World) (n : Nat) (xs : List Int) (e : Ending) (w' : World) : Prop :=
  e = .returned (.slice (some ⟨w.heap.size, 0, none⟩) n n) ∧ OwnI w.heap.size (w.heap.size + 1) w' w.heap.size (some ⟨w.heap.size, 0, none⟩) n n xs ∧ Below w.heap.size w w' ∧ w'.heap.size = w.heap.size + 1

set_option maxHeartbeats 400000 in
theorem toIntS_any (A : Option Addr) (n c : Nat) (xs : List Int) (w : World) (hx : Ints w A n c xs) :
    Calls Try.prog 56 #[.slice A n c] w (MadeI w n xs) := by
  have HX := Lib.hid hx
  obtain ⟨_, cx, mx, _, hx⟩ := hx
  have hmk := run_make_row' (P := Try.prog) 27 3 (.int .i64 0) 8 Try.underlying27 Try.info3 rfl .i64 .i64 n (by omega) (by omega)
  go_enter Try.func56, Try.ntmps56
  go_wp2
  clear hmk
  go_loopw [4] (fun i wr => ∃ k : Nat, k ≤ n ∧ i = .int .i64 k ∧ wr.rowIs w.heap.size 3 n (filled xs k) ∧ Below w.heap.size w wr ∧ Hid (wr.heap.size = w.heap.size + 1)) (fun i _ => n - (intOf i).toNat)
  case atStart => exact ⟨0, Nat.zero_le _, rfl, (World.rowIs_made w _ n 3).congr (fun j _ => by simp [filled]), (Below.refl _ _).alloc (Nat.le_refl _) _, Lib.hid (by simp)⟩
  case round =>
    obtain ⟨k, hk, rfl, hrow, hbel, hsz⟩ := hrel
    by_cases hlt : k < n
    · obtain ⟨b, o, rfl, hc⟩ := hx (by omega)
      have c1 := hc k hlt
      have c2 := hbel.cell (p := ⟨b, o + k, none⟩) (World.block_lt_of_cell? _ _ c1)
      rw [c1] at c2
      have c3 := hrow.cell hlt
      simp only [filled, if_neg (Nat.lt_irrefl k)] at c3
      have c4 := hrow.frozen k
      clear hx hc c1
      go_wp2
      go_roundw
      case rel => exact ⟨k + 1, by omega, by go_num, filled_set hrow, hbel.setCell (Nat.le_refl _) _, Lib.hid (by simpa using hsz.out)⟩
      case measure => simp [intOf]; omega
    · obtain rfl : k = n := by omega
      go_wp2
      go_ret
      exact ⟨rfl, OwnI.of_rowIs HX.out.len mx HX.out.wf (Nat.le_refl _) (Nat.lt_succ_self _) hrow (fun j hj => by simp [filled, hj]), hbel, hsz.out⟩

/-- The outer row when k copies are made. -/
def tops (B : Nat) (xss : List (List Int)) (k : Nat) : Nat → Value := fun j => if j < k then .slice (some ⟨B + 1 + j, 0, none⟩) (gr xss j).length (gr xss j).length else .slice none 0 0
structure Copied (w wr : World) (n k : Nat) (xss : List (List Int)) : Prop where
  below : Below w.heap.size w wr
  size : wr.heap.size = w.heap.size + 1 + k
  top : wr.rowIs w.heap.size 27 n (tops w.heap.size xss k)
  done : ∀ j, j < k → OwnI w.heap.size wr.heap.size wr (w.heap.size + 1 + j) (some ⟨w.heap.size + 1 + j, 0, none⟩) (gr xss j).length (gr xss j).length (gr xss j)

theorem copied_start (w : World) (n : Nat) (xss : List (List Int)) : Copied w (w.alloc (.cells (madeCells #[.slice none 0 0] n) 27)) n 0 xss :=
  ⟨(Below.refl _ _).alloc (Nat.le_refl _) _, by simp, (World.rowIs_made w _ n 27).congr (fun j _ => by simp [tops]), fun j hj => absurd hj (Nat.not_lt_zero _)⟩

theorem copied_step {w wr w1 : World} {n k : Nat} {xss : List (List Int)} {e : Ending} (h : Copied w wr n k xss) (m : MadeI wr (gr xss k).length (gr xss k) e w1) :
    e = .returned (.slice (some ⟨w.heap.size + 1 + k, 0, none⟩) (gr xss k).length (gr xss k).length) ∧
    Copied w (w1.setCell ⟨w.heap.size, k, none⟩ (.slice (some ⟨w.heap.size + 1 + k, 0, none⟩) (gr xss k).length (gr xss k).length)) n (k + 1) xss := by
  obtain ⟨he, hown, hbel, hsz⟩ := m
  rw [h.size] at he hown hsz
  have hb : Below w.heap.size w w1 := h.below.trans (hbel.mono h.below.size)
  refine ⟨he, ⟨hb.setCell (Nat.le_refl _) _, by simp [hsz]; omega, ?_, fun j hj => ?_⟩⟩
  · refine ((h.top.of_block (hbel.block _ (by rw [h.size]; omega))).set k _).congr fun j _ => ?_
    unfold tops
    by_cases e : j = k
    · subst e; simp
    · rw [if_neg e]
      by_cases hj : j < k
      · rw [if_pos hj, if_pos (by omega)]
      · rw [if_neg hj, if_neg (by omega)]
  · by_cases e : j = k
    · subst e
      exact (hown.mono (by omega) (by simp [World.setCell, hsz])).of_block fun _ => Below.heap_setCell _ _ _ _ (by show w.heap.size + 1 + j ≠ w.heap.size; omega)
    · refine (((h.done j (by omega)).below hbel).mono (Nat.le_refl _) (by have := hbel.size; simpa [World.setCell] using this)).of_block fun _ => Below.heap_setCell _ _ _ _ (by show w.heap.size + 1 + j ≠ w.heap.size; omega)

theorem copied_own {w wr : World} {n : Nat} {xss : List (List Int)} (h : Copied w wr n n xss) (hl : xss.length = n) (hm : n ≤ 5864062014805) :
    OwnR w.heap.size wr.heap.size wr w.heap.size (some ⟨w.heap.size, 0, none⟩) n n xss :=
  ⟨hl, Nat.le_refl _, hm, fun _ => ⟨0, fun k => w.heap.size + 1 + k, fun k => some ⟨w.heap.size + 1 + k, 0, none⟩, fun k => (gr xss k).length, rfl, Nat.le_refl _, h.top.lt,
    fun k hk => ⟨by rw [Nat.zero_add]; exact h.top.frozen k, by rw [Nat.zero_add, h.top.cell hk, tops, if_pos hk], h.done k hk, fun _ => by show w.heap.size + 1 + k ≠ w.heap.size; omega⟩, fun j k hj _ _ _ => by show w.heap.size + 1 + j ≠ w.heap.size + 1 + k; omega⟩⟩

def MadeR (w : World) (n : Nat) (xss : List (List Int)) (e : Ending) (w' : World) : Prop :=
  e = .returned (.slice (some ⟨w.heap.size, 0, none⟩) n n) ∧ OwnR w.heap.size w'.heap.size w' w.heap.size (some ⟨w.heap.size, 0, none⟩) n n xss ∧ Below w.heap.size w w' ∧ w.heap.size < w'.heap.size

set_option maxHeartbeats 400000 in
theorem toIntSS_any (A : Option Addr) (n c : Nat) (xss : List (List Int)) (w : World) (hx : IntRows w A n c xss) :
    Calls Try.prog 52 #[.slice A n c] w (MadeR w n xss) := by
  have HX := Lib.hid hx
  obtain ⟨_, cx, mx, hx⟩ := hx
  have hmk := run_make_row' (P := Try.prog) 23 27 (.slice none 0 0) 24 Try.underlying23 Try.info27 rfl .i64 .i64 n (by omega) (by omega)
  go_enter Try.func52, Try.ntmps52
  go_wp2
  clear hmk
  go_loopw [4] (fun i wr => ∃ k : Nat, k ≤ n ∧ i = .int .i64 k ∧ Copied w wr n k xss) (fun i _ => n - (intOf i).toNat)
  case atStart => exact ⟨0, Nat.zero_le _, rfl, copied_start w n xss⟩
  case round =>
    obtain ⟨k, hk, rfl, HC⟩ := hrel
    by_cases hlt : k < n
    · obtain ⟨b, o, rfl, hc⟩ := hx (by omega)
      obtain ⟨R, cc, c1, hR⟩ := hc k hlt
      have hkeep := HC.below.cell (p := ⟨b, o + k, none⟩) (World.block_lt_of_cell? _ _ c1)
      rw [c1] at hkeep
      have hR2 := hR.keep (Keep.below HC.below)
      have c3 := HC.top.cell hlt
      simp only [tops, if_neg (Nat.lt_irrefl k)] at c3
      have c4 := HC.top.frozen k
      have hbl := HC.top.lt
      clear hx hc c1 hR
      go_wp2_with fail
      refine (toIntS_any _ _ _ _ _ hR2).mono ?_
      intro e w1 hm
      obtain ⟨he, hcop⟩ := copied_step HC hm
      obtain ⟨_, _, hb1, _⟩ := hm
      have c5 := hb1.cell (p := ⟨w.heap.size, k, none⟩) hbl
      rw [c3] at c5
      have c6 := hb1.frozen (p := ⟨w.heap.size, k, none⟩) hbl
      rw [c4] at c6
      subst he
      clear c3 c4 hR2 hkeep HC hb1
      go_wp2
      go_roundw
      case rel => exact ⟨k + 1, by omega, by go_num, hcop⟩
      case measure => simp [intOf]; omega
    · obtain rfl : k = n := by omega
      go_wp2
      go_ret
      exact ⟨rfl, copied_own HC HX.out.len mx, HC.below, HC.top.lt⟩
end Go.Proofs.Ytfilbknikbfjhaa
