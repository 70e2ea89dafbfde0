/- The harness of the exact laws: a copy of a game marked; how many numbers it has. -/
import Derived.Test.YtchpbldagkohnaaA5
namespace Go.Proofs.Ytchpbldagkohnaa
open Go.RowKit

theorem szR_offs (left : Int) (xs : List (List Int)) (h : 0 ≤ szR left xs) : szR left xs = left - offs xs xs.length := by
  have key : ∀ (xs : List (List Int)) (left : Int), 0 ≤ szR left xs → szR left xs = left - ((xs.map List.length).sum : Nat) := by
    intro xs
    induction xs with
    | nil => intro left _; simp [szR]
    | cons x xs ih =>
      intro left h
      by_cases hn : szI left x.length < 0
      · rw [szR_neg hn] at h; omega
      · rw [szR_pos hn] at h ⊢
        rw [ih _ h]
        have : szI left x.length = left - x.length := by unfold szI at hn ⊢; split <;> simp_all
        rw [this]
        simp
        omega
  have key2 : ∀ k, k ≤ xs.length → offs xs k = (((xs.take k).map List.length).sum : Nat) := by
    intro k
    induction k with
    | zero => intro _; simp [offs]
    | succ k ih =>
      intro hk
      rw [offs, ih (by omega), List.take_succ_eq_append_getElem (by omega), List.map_append, List.sum_append, gr_get (by omega)]
      simp
  rw [key xs left h, key2 _ (Nat.le_refl _), List.take_length]
theorem szRR_offs {left : Int} {xs : List (List Int)} (h : ¬ szRR left xs < 0) : offs xs xs.length ≤ left := by
  unfold szRR at h
  split at h
  · omega
  · rename_i hn
    have := szR_offs _ _ (by omega : 0 ≤ szR (szI left xs.length) xs)
    have h2 : szI left xs.length ≤ left := by unfold szI at hn ⊢; split <;> simp_all; omega
    omega
theorem szG_offs {left : Int} {xs ys : List (List Int)} (h : ¬ szG left xs ys < 0) (h0 : 0 ≤ left) (h1 : left ≤ 1048576) : offs xs xs.length ≤ 1048576 ∧ offs ys ys.length ≤ 1048576 := by
  unfold szG at h
  split at h
  · omega
  · rename_i hn
    split at h
    · omega
    · rename_i hn2
      have := szRR_offs hn
      have := szRR_offs hn2
      have := szRR_le left xs h0 h1
      omega

/-- A game marked: only its own rows have turned, and new blocks are there. -/
def MarkedG (lo hi : Nat) (w : World) (xs ys : List (List Int)) (k : Int) (e : Ending) (w' : World) : Prop :=
  e = .returned (.int .i64 (k + offs xs xs.length + offs ys ys.length)) ∧ ∃ w1, Below w.heap.size w w1 ∧ Touch lo hi w1 w'

def MarkedP (lo hi : Nat) (w : World) (xs ys : List (List Int)) (k : Int) (n m : Nat) (e : Ending) (w' : World) : Prop :=
  e = .returned (.int .i64 (k + offs xs n + offs ys m)) ∧ ∃ w1, Below w.heap.size w w1 ∧ Touch lo hi w1 w'

set_option maxHeartbeats 1000000 in
theorem markGame_any (lo mid hi g g1 g2 n m : Nat) (xs ys : List (List Int)) (k : Int) (w : World) (hx : XS lo mid hi w g g1 g2 n m xs ys) (h0 : 0 ≤ k) (hk : k ≤ 1048576) (h1 : offs xs xs.length ≤ 1048576) (h2 : offs ys ys.length ≤ 1048576) :
    Calls Try.prog 39 #[.agg #[.slice (some ⟨g1, 0, none⟩) n n, .slice (some ⟨g2, 0, none⟩) m m], .int .i64 k] w (MarkedG lo hi w xs ys k) := by
  have hb0 := below_alloc w (.cells #[.slice (some ⟨g1, 0, none⟩) n n, .slice (some ⟨g2, 0, none⟩) m m] 29)
  have b0 := blk_new w 29 #[.slice (some ⟨g1, 0, none⟩) n n, .slice (some ⟨g2, 0, none⟩) m m]
  have HX := Lib.hid (hx.up hb0)
  have HB := Lib.hid hb0
  have HK := Lib.hid b0
  have hle := hx.le
  have hm1 := hx.h1
  have hm2 := hx.h2
  have hlx := hx.rx.len
  have hly := hx.ry.len
  have g1' := offs_ge xs xs.length
  have g2' := offs_ge ys ys.length
  rw [hlx] at h1 g1'
  rw [hly] at h2 g2'
  unfold MarkedG
  rw [hlx, hly]
  clear hx hb0 b0 hlx hly
  have HP : Hid (∀ e w', (e = .returned (.int .i64 (k + offs xs n + offs ys m)) ∧ ∃ w1, Below w.heap.size w w1 ∧ Touch lo hi w1 w') → MarkedP lo hi w xs ys k n m e w') := Lib.hid (fun _ _ h => h)
  suffices h : Calls Try.prog 39 #[.agg #[.slice (some ⟨g1, 0, none⟩) n n, .slice (some ⟨g2, 0, none⟩) m m], .int .i64 k] w (MarkedP lo hi w xs ys k n m) from h
  go_enter Try.func39, Try.ntmps39
  go_wp2_with fail
  generalize w.alloc (.cells #[.slice (some ⟨g1, 0, none⟩) n n, .slice (some ⟨g2, 0, none⟩) m m] 29) = W1 at *
  have HC := Lib.hid (markIntSS_any lo mid g1 _ n n xs k W1 HX.out.rx h0 (by omega))
  refine HC.out.mono ?_
  rintro e w1 ⟨rfl, _, hT⟩
  have hk1 := blk_touch HK.out hT (.inr (by omega))
  have c1 := blk_cell hk1 (i := 1) (v := .slice (some ⟨g2, 0, none⟩) m m) rfl
  have HC2 := Lib.hid (markIntSS_any mid hi g2 _ m m ys (k + offs xs n) w1 (HX.out.ry.touch hT (.inr (Nat.le_refl _))) (by omega) (by omega))
  have HT := Lib.hid hT
  clear hT HC
  go_wp2_with fail
  refine HC2.out.mono ?_
  rintro e w2 ⟨rfl, _, hT2⟩
  have HT2 := Lib.hid hT2
  clear hT2 HC2 c1
  go_wp2
  go_ret
  exact HP.out _ _ ⟨rfl, _, HB.out, (HT.out.mono (Nat.le_refl _) hm2).trans (HT2.out.mono hm1 (Nat.le_refl _))⟩

theorem offs_le {xss : List (List Int)} (h : ∀ r ∈ xss, r.length ≤ 3) : ∀ k, k ≤ xss.length → offs xss k ≤ 3 * k
  | 0, _ => by simp [offs]
  | k + 1, hk => by
    have h1 := offs_le h k (by omega)
    have h2 := h _ (gr_mem (xs := xss) (k := k) (by omega))
    simp only [offs]
    omega

/-- What an exact law on a game with rows as its result knows: its argument, the program's own copy of it, the model's rows, the program's rows. -/
structure Ex (w : World) (A B : Option Addr) (n c m d : Nat) (xs ys : List (List Int)) (lo mid hi g g3 g4 S1 gs : Nat) (As : Option Addr) (cs L1 L2 gg : Nat) (Ag : Option Addr) (cg : Nat) (rs rg : List (List Int)) (W : World) : Prop where
  fg : GS w W A B n c m d xs ys
  fx : XS lo mid hi W g g3 g4 n m xs ys
  fs : OwnR S1 lo W gs As rs.length cs rs
  fr : OwnR L1 L2 W gg Ag rs.length cg rg
  h1 : w.heap.size < lo
  h2 : hi ≤ L1
  h3 : lo ≤ hi
theorem Ex.up {w A B n c m d xs ys lo mid hi g g3 g4 S1 gs As cs L1 L2 gg Ag cg rs rg W W'} (h : Ex w A B n c m d xs ys lo mid hi g g3 g4 S1 gs As cs L1 L2 gg Ag cg rs rg W) (k : Below W.heap.size W W') :
    Ex w A B n c m d xs ys lo mid hi g g3 g4 S1 gs As cs L1 L2 gg Ag cg rs rg W' :=
  ⟨h.fg.up k, h.fx.up k, h.fs.below k, h.fr.below k, h.h1, h.h2, h.h3⟩
theorem Ex.cells {w A B n c m d xs ys lo mid hi g g3 g4 S1 gs As cs L1 L2 gg Ag cg rs rg W} (h : Ex w A B n c m d xs ys lo mid hi g g3 g4 S1 gs As cs L1 L2 gg Ag cg rs rg W) :
    (W.cell? ⟨w.heap.size, 0, none⟩ = some (.slice A n c) ∧ W.cell? ⟨w.heap.size, 1, none⟩ = some (.slice B m d)) ∧ (W.cell? ⟨g, 0, none⟩ = some (.slice (some ⟨g3, 0, none⟩) n n) ∧ W.cell? ⟨g, 1, none⟩ = some (.slice (some ⟨g4, 0, none⟩) m m)) :=
  ⟨⟨h.fg.c0, h.fg.c1⟩, ⟨h.fx.c0, h.fx.c1⟩⟩
/-- .. behind the marks: the copy is no longer asked for. -/
structure Ey (w : World) (A B : Option Addr) (n c m d : Nat) (xs ys : List (List Int)) (lo S1 gs : Nat) (As : Option Addr) (cs L1 L2 gg : Nat) (Ag : Option Addr) (cg : Nat) (rs rg : List (List Int)) (W : World) : Prop where
  fg : GS w W A B n c m d xs ys
  fs : OwnR S1 lo W gs As rs.length cs rs
  fr : OwnR L1 L2 W gg Ag rs.length cg rg
  h1 : w.heap.size < lo
  h2 : lo ≤ L1
theorem Ey.up {w A B n c m d xs ys lo S1 gs As cs L1 L2 gg Ag cg rs rg W W'} (h : Ey w A B n c m d xs ys lo S1 gs As cs L1 L2 gg Ag cg rs rg W) (k : Below W.heap.size W W') : Ey w A B n c m d xs ys lo S1 gs As cs L1 L2 gg Ag cg rs rg W' :=
  ⟨h.fg.up k, h.fs.below k, h.fr.below k, h.h1, h.h2⟩
theorem Ex.mark {w A B n c m d xs ys lo mid hi g g3 g4 S1 gs As cs L1 L2 gg Ag cg rs rg W W1 W2} (h : Ex w A B n c m d xs ys lo mid hi g g3 g4 S1 gs As cs L1 L2 gg Ag cg rs rg W) (k : Below W.heap.size W W1) (t : Touch lo hi W1 W2) :
    Ey w A B n c m d xs ys lo S1 gs As cs L1 L2 gg Ag cg rs rg W2 :=
  ⟨(h.fg.up k).touch t h.h1, (h.fs.below k).touch t (.inl (Nat.le_refl _)), (h.fr.below k).touch t (.inr h.h2), h.h1, Nat.le_trans h.h3 h.h2⟩
theorem Ey.mark {w A B n c m d xs ys lo S1 gs As cs L1 L2 gg Ag cg rs rg rg' W W2} (h : Ey w A B n c m d xs ys lo S1 gs As cs L1 L2 gg Ag cg rs rg W) (t : Touch L1 L2 W W2) (hg : OwnR L1 L2 W2 gg Ag rs.length cg rg') :
    Ey w A B n c m d xs ys lo S1 gs As cs L1 L2 gg Ag cg rs rg' W2 :=
  ⟨h.fg.touch t (Nat.lt_of_lt_of_le h.h1 h.h2), h.fs.touch t (.inl h.h2), hg, h.h1, h.h2⟩
end Go.Proofs.Ytchpbldagkohnaa
