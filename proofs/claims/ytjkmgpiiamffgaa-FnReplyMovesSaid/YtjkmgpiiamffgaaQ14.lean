/- Texts merged: RN Math41 A6 J5 J18 RI LO1 LO2 C9 E9. -/
import Derived.Test.YtjkmgpiiamffgaaQ13
import Derived.Laws.OwnMore
/- A number ahead of a row: a new row; rows under way beside a list. -/
namespace Go.Proofs.Ytjkmgpiiamffgaa
open Go.RowKit

theorem run_append_empty {P : Program} (w : World) (base : Nat) (t ty e : TypeId) (i : TypeInfo) (size : Nat) (ht : P.underlying t = some (.slice e)) (hi : P.info? e = some i)
    (v : Value) (n : Nat) (xs : List Value) (hown : w.ownsRow base e size v n xs) (R : Option Addr) (c : Nat) :
    (Builtin.append_ #[t, t] ty #[v, .slice R 0 c]).run P w = .ok v w := by
  rcases hown.2 with ⟨rfl, rfl⟩ | ⟨g, cap, cur, rfl, _, _, hnc, _⟩
  · cases R <;> simp [Builtin.append_, run_underlying ht, sizeOf, typeInfo, hi, Builtin.lenOf, Builtin.firstCells, loadCells, loadCellsFrom]
  · cases R <;> simp [Builtin.append_, run_underlying ht, sizeOf, typeInfo, hi, Builtin.lenOf, Builtin.firstCells, loadCells, loadCellsFrom, hnc, storeCells]

/-- A number ahead of a row: a new row. -/
theorem row_new (w : World) (x : Int) (R : Option Addr) (m c : Nat) (r : List Int) (hr : Ints w R m c r) (hm : m ≤ 20) (hx : -9223372036854775808 ≤ x ∧ x ≤ 9223372036854775807) :
    ∃ A cc w5 g, (Builtin.append_ #[30, 30] 30 #[.slice (some ⟨w.heap.size, 0, none⟩) 1 1, .slice R m c]).run Try.prog (w.alloc (.cells #[.int .i64 x] 3)) = .ok (.slice A (x :: r).length cc) w5 ∧
      Below w.heap.size w w5 ∧ OwnI w.heap.size w5.heap.size w5 g A (x :: r).length cc (x :: r) := by
  obtain ⟨i0, hi0, hz0, hz1, hz2⟩ := info_parts Try.info_int
  have hb := below_alloc w (.cells #[.int .i64 x] 3)
  have hown : (w.alloc (.cells #[.int .i64 x] 3)).ownsRow w.heap.size 3 1 (.slice (some ⟨w.heap.size, 0, none⟩) 1 1) 1 [iv x] :=
    World.ownsRow_lit w #[.int .i64 x] 1 (Nat.le_refl _) (by unfold maxLen; omega) rfl
  have hwf : ∀ y ∈ x :: r, -9223372036854775808 ≤ y ∧ y ≤ 9223372036854775807 := by
    intro y hy
    rcases List.mem_cons.1 hy with rfl | hy
    · exact hx
    · exact hr.wf y hy
  have hl := hr.len
  have key : ∀ (v' : Value) (w5 : World), w5.ownsRow w.heap.size 3 1 v' (1 + m) ([iv x] ++ r.map iv) → (w.alloc (.cells #[.int .i64 x] 3)).grownBy w5 (some w.heap.size) →
      (v'.ownBlock = some w.heap.size ∨ v'.ownBlock = some (w.heap.size + 1)) →
      ∃ A cc g, v' = .slice A (x :: r).length cc ∧ Below w.heap.size w w5 ∧ OwnI w.heap.size w5.heap.size w5 g A (x :: r).length cc (x :: r) := by
    intro v' w5 ho hg hat
    have hz := hg.size
    simp only [World.size_alloc] at hz
    have hB : BldI w.heap.size w5.heap.size w5 v' (x :: r) := ⟨by
      have e : (x :: r).length = 1 + m := by rw [List.length_cons, hl]; omega
      rw [e]; exact ho, fun k hk => by
      rcases hat with hat | hat <;> (rw [hat] at hk; injection hk with hk; first | omega | (have := (ho.lt k (by rw [hat, hk])).2; omega))⟩
    obtain ⟨A, n, cc, g, rfl, rfl, hI, _⟩ := hB.owns (by rw [List.length_cons, hl]; omega) hwf
    exact ⟨A, cc, g, rfl, hb.grown hg (by simp) (fun k hk => by injection hk with hk; omega), hI⟩
  by_cases h0 : m = 0
  · subst h0
    have hr0 : r = [] := List.eq_nil_of_length_eq_zero hl
    subst hr0
    obtain ⟨A, cc, g, e, h1, h2⟩ := key (.slice (some ⟨w.heap.size, 0, none⟩) 1 1) (w.alloc (.cells #[.int .i64 x] 3)) (by simpa using hown) ⟨rfl, rfl, rfl, Nat.le_refl _, fun _ _ _ => rfl⟩ (.inl rfl)
    refine ⟨A, cc, _, g, ?_, h1, h2⟩
    rw [← e]
    exact run_append_empty _ w.heap.size _ _ 3 i0 1 Try.underlying30 hi0 _ 1 [iv x] hown R c
  · obtain ⟨b, o, rfl, hc⟩ := hr.at_ (by omega)
    obtain ⟨v', w5, e, ho, hg, _, hat⟩ := run_append_own_at (P := Try.prog) (w.alloc (.cells #[.int .i64 x] 3)) w.heap.size 30 30 3 i0 (.int .i64 0) 1 8 Try.underlying30 hi0 hz0 hz1 hz2 rfl (by decide) (.slice (some ⟨w.heap.size, 0, none⟩) 1 1) 1 [iv x] hown ⟨b, o, none⟩ m c (r.map iv)
      (by rw [List.length_map, hl]; omega) (by
        have h := news_take (w := w.alloc (.cells #[.int .i64 x] 3)) (j := r.length) (xs := r) (b := b) (o := o) rfl (fun k hk => Keep.below hb _ _ (hc k (by omega)))
        rw [List.take_length] at h; exact h) (ones_map _) (by unfold maxLen; omega) (by omega) (by simp)
    obtain ⟨A, cc, g, e', h1, h2⟩ := key v' w5 ho hg (by simpa [Value.ownBlock] using hat)
    exact ⟨A, cc, w5, g, by rw [← e']; exact e, h1, h2⟩

/-- Rows under way, and a list that is read beside them. -/
structure PI (w : World) (lo hi : Nat) (v : Value) (vs : List Value) (acc : List (List Int)) (gg : Nat) (A : Option Addr) (n c : Nat) (list : List (List Int)) (wr : World) : Prop where
  tm : TM w v vs acc wr
  li : OwnR lo hi wr gg A n c list
  hi_ : hi ≤ wr.heap.size
  far : ∀ k, v.ownBlock = some k → k < lo ∨ hi ≤ k
theorem PI.start {w w1 w2 : World} {v : Value} {vs : List Value} {acc : List (List Int)} {gg : Nat} {A : Option Addr} {n c : Nat} {list : List (List Int)} (h : TM w v vs acc w1) (ho : OwnR w1.heap.size w2.heap.size w2 gg A n c list) (hb : Below w1.heap.size w1 w2) :
    PI w w1.heap.size w2.heap.size v vs acc gg A n c list w2 :=
  ⟨h.next hb, ho, Nat.le_refl _, fun k hk => .inl (h.bo.hi_ k hk)⟩
theorem PI.push {w wr w5 w6 : World} {lo hi : Nat} {v v' : Value} {vs : List Value} {acc list : List (List Int)} {gg n c cr g : Nat} {A Ar : Option Addr} {r : List Int} (h : PI w lo hi v vs acc gg A n c list wr)
    (hk : Below wr.heap.size wr w5) (hr : OwnI wr.heap.size w5.heap.size w5 g Ar r.length cr r)
    (hown : w6.ownsRow w.heap.size 30 1 v' (acc.length + 1) (vs ++ [.slice Ar r.length cr])) (hgrow : (w5.alloc (.cells #[.slice Ar r.length cr] 30)).grownBy w6 v.ownBlock)
    (hat : v'.ownBlock = v.ownBlock ∨ v'.ownBlock = some (w5.heap.size + 1)) : PI w lo hi v' (vs ++ [.slice Ar r.length cr]) (acc ++ [r]) gg A n c list w6 := by
  have h1 := h.hi_
  have h2 := hk.size
  have h3 := hgrow.size
  simp only [World.size_alloc] at h3
  refine ⟨h.tm.push hk hr hown hgrow hat, h.li.of_blocks fun g h4 h5 h6 => ?_, by omega, fun k hk => ?_⟩
  · refine (hgrow.block g (by simp; omega) (fun e => ?_)).trans ((Below.heap_alloc _ _ _ (by omega)).trans (hk.block g h6))
    have := h.far g e.symm
    omega
  · rcases hat with hat | hat
    · exact h.far k (by rw [← hat]; exact hk)
    · rw [hat] at hk; injection hk with hk; omega

end Go.Proofs.Ytjkmgpiiamffgaa

/- All sizes of kinds: plain. -/
namespace Go.Proofs.Ytjkmgpiiamffgaa

/-- The rows from m down, t of them, with what comes behind each. -/
def ptsT (g : Nat → Nat → List (List Int)) (n m : Nat) : Nat → List (List Int)
  | 0 => []
  | t + 1 => ptsT g n m t ++ (g (n - (m - t)) (m - t)).map (fun r => ((m - t : Nat) : Int) :: r)
/-- All rows with the sum n, none greater than most (F: n at least). -/
def pts : Nat → Nat → Nat → List (List Int)
  | 0, _, _ => [[]]
  | F + 1, n, most => if n = 0 then [[]] else ptsT (pts F) n (min n most) (min n most)
theorem pts_all : ((List.range 8).all fun F => (List.range 8).all fun n => (List.range 8).all fun m => decide ((pts F n m).length ≤ 40) && (pts F n m).all fun r => decide (r.length ≤ 7) && r.all fun x => decide (0 ≤ x) && decide (x ≤ 7)) = true := by decide +kernel
theorem pts_bd0 (F : Nat) (hF : F < 8) (n : Nat) (hn : n < 8) (m : Nat) (hm : m < 8) : (pts F n m).length ≤ 40 ∧ (∀ r ∈ pts F n m, r.length ≤ 7 ∧ ∀ x ∈ r, 0 ≤ x ∧ x ≤ 7) := by
  have h := pts_all
  simp only [List.all_eq_true, List.mem_range, Bool.and_eq_true, decide_eq_true_eq] at h
  exact h F hF n hn m hm
theorem ptsT_bd0 : ∀ F, F < 7 → ∀ n, n < 8 → ∀ m, m < 8 → ∀ t, t ≤ m → (ptsT (pts F) n m t).length ≤ 50 := by decide +kernel
theorem pts_zero (F m : Nat) : pts F 0 m = [[]] := by cases F <;> rfl
theorem pts_pos {F n : Nat} (h : 0 < n) (m : Nat) : pts (F + 1) n m = ptsT (pts F) n (min n m) (min n m) := by
  show (if n = 0 then _ else _) = _
  rw [if_neg (by omega)]
theorem pts_row {F n m : Nat} (hF : F ≤ 7) (hn : n ≤ 7) (hm : m ≤ 7) {i : Nat} (hi : i < (pts F n m).length) : (gr (pts F n m) i).length ≤ 7 ∧ ∀ x ∈ gr (pts F n m) i, 0 ≤ x ∧ x ≤ 7 :=
  (pts_bd0 F (by omega) n (by omega) m (by omega)).2 _ (gr_mem hi)
/-- One row of what comes behind more. -/
theorem take_cons_succ (list : List (List Int)) (x : Int) {i : Nat} (h : i < list.length) :
    (list.take (i + 1)).map (fun r => x :: r) = (list.take i).map (fun r => x :: r) ++ [x :: gr list i] := by
  rw [List.take_succ_eq_append_getElem h, List.map_append, gr_get h]; rfl
end Go.Proofs.Ytjkmgpiiamffgaa

/- The harness of the exact laws: a copy of a game marked; how many numbers it has. -/
namespace Go.Proofs.Ytjkmgpiiamffgaa
open Go.RowKit

theorem szR_offs (left : Int) (xs : List (List Int)) (h : 0 ≤ szR left xs) : szR left xs = left - offs xs xs.length := by
  have key : ∀ (xs : List (List Int)) (left : Int), 0 ≤ szR left xs → szR left xs = left - ((xs.map List.length).sum : Nat) := by
    intro xs
    induction xs with
    | nil => intro left _; simp [szR]
    | cons x xs ih =>
      intro left h
      by_cases hn : szI left x.length < 0
      · rw [szR_neg hn] at h; omega
      · rw [szR_pos hn] at h ⊢
        rw [ih _ h]
        have : szI left x.length = left - x.length := by unfold szI at hn ⊢; split <;> simp_all
        rw [this]
        simp
        omega
  have key2 : ∀ k, k ≤ xs.length → offs xs k = (((xs.take k).map List.length).sum : Nat) := by
    intro k
    induction k with
    | zero => intro _; simp [offs]
    | succ k ih =>
      intro hk
      rw [offs, ih (by omega), List.take_succ_eq_append_getElem (by omega), List.map_append, List.sum_append, gr_get (by omega)]
      simp
  rw [key xs left h, key2 _ (Nat.le_refl _), List.take_length]
theorem szRR_offs {left : Int} {xs : List (List Int)} (h : ¬ szRR left xs < 0) : offs xs xs.length ≤ left := by
  unfold szRR at h
  split at h
  · omega
  · rename_i hn
    have := szR_offs _ _ (by omega : 0 ≤ szR (szI left xs.length) xs)
    have h2 : szI left xs.length ≤ left := by unfold szI at hn ⊢; split <;> simp_all; omega
    omega
theorem szG_offs {left : Int} {xs ys : List (List Int)} (h : ¬ szG left xs ys < 0) (h0 : 0 ≤ left) (h1 : left ≤ 1048576) : offs xs xs.length ≤ 1048576 ∧ offs ys ys.length ≤ 1048576 := by
  unfold szG at h
  split at h
  · omega
  · rename_i hn
    split at h
    · omega
    · rename_i hn2
      have := szRR_offs hn
      have := szRR_offs hn2
      have := szRR_le left xs h0 h1
      omega

/-- A game marked: only its own rows have turned, and new blocks are there. -/
def MarkedG (lo hi : Nat) (w : World) (xs ys : List (List Int)) (k : Int) (e : Ending) (w' : World) : Prop :=
  e = .returned (.int .i64 (k + offs xs xs.length + offs ys ys.length)) ∧ ∃ w1, Below w.heap.size w w1 ∧ Touch lo hi w1 w'

def MarkedP (lo hi : Nat) (w : World) (xs ys : List (List Int)) (k : Int) (n m : Nat) (e : Ending) (w' : World) : Prop :=
  e = .returned (.int .i64 (k + offs xs n + offs ys m)) ∧ ∃ w1, Below w.heap.size w w1 ∧ Touch lo hi w1 w'

set_option maxHeartbeats 1000000 in
theorem markGame_any (lo mid hi g g1 g2 n m : Nat) (xs ys : List (List Int)) (k : Int) (w : World) (hx : XS lo mid hi w g g1 g2 n m xs ys) (h0 : 0 ≤ k) (hk : k ≤ 1048576) (h1 : offs xs xs.length ≤ 1048576) (h2 : offs ys ys.length ≤ 1048576) :
    Calls Try.prog 50 #[.agg #[.slice (some ⟨g1, 0, none⟩) n n, .slice (some ⟨g2, 0, none⟩) m m], .int .i64 k] w (MarkedG lo hi w xs ys k) := by
  have hb0 := below_alloc w (.cells #[.slice (some ⟨g1, 0, none⟩) n n, .slice (some ⟨g2, 0, none⟩) m m] 54)
  have b0 := blk_new w 54 #[.slice (some ⟨g1, 0, none⟩) n n, .slice (some ⟨g2, 0, none⟩) m m]
  have HX := Lib.hid (hx.up hb0)
  have HB := Lib.hid hb0
  have HK := Lib.hid b0
  have hle := hx.le
  have hm1 := hx.h1
  have hm2 := hx.h2
  have hlx := hx.rx.len
  have hly := hx.ry.len
  have g1' := offs_ge xs xs.length
  have g2' := offs_ge ys ys.length
  rw [hlx] at h1 g1'
  rw [hly] at h2 g2'
  unfold MarkedG
  rw [hlx, hly]
  clear hx hb0 b0 hlx hly
  have HP : Hid (∀ e w', (e = .returned (.int .i64 (k + offs xs n + offs ys m)) ∧ ∃ w1, Below w.heap.size w w1 ∧ Touch lo hi w1 w') → MarkedP lo hi w xs ys k n m e w') := Lib.hid (fun _ _ h => h)
  suffices h : Calls Try.prog 50 #[.agg #[.slice (some ⟨g1, 0, none⟩) n n, .slice (some ⟨g2, 0, none⟩) m m], .int .i64 k] w (MarkedP lo hi w xs ys k n m) from h
  go_enter Try.func50, Try.ntmps50
  go_wp2_with fail
  generalize w.alloc (.cells #[.slice (some ⟨g1, 0, none⟩) n n, .slice (some ⟨g2, 0, none⟩) m m] 54) = W1 at *
  have HC := Lib.hid (markIntSS_any lo mid g1 _ n n xs k W1 HX.out.rx h0 (by omega))
  refine HC.out.mono ?_
  rintro e w1 ⟨rfl, _, hT⟩
  have hk1 := blk_touch HK.out hT (.inr (by omega))
  have c1 := blk_cell hk1 (i := 1) (v := .slice (some ⟨g2, 0, none⟩) m m) rfl
  have HC2 := Lib.hid (markIntSS_any mid hi g2 _ m m ys (k + offs xs n) w1 (HX.out.ry.touch hT (.inr (Nat.le_refl _))) (by omega) (by omega))
  have HT := Lib.hid hT
  clear hT HC
  go_wp2_with fail
  refine HC2.out.mono ?_
  rintro e w2 ⟨rfl, _, hT2⟩
  have HT2 := Lib.hid hT2
  clear hT2 HC2 c1
  go_wp2
  go_ret
  exact HP.out _ _ ⟨rfl, _, HB.out, (HT.out.mono (Nat.le_refl _) hm2).trans (HT2.out.mono hm1 (Nat.le_refl _))⟩

theorem offs_le {xss : List (List Int)} (h : ∀ r ∈ xss, r.length ≤ 3) : ∀ k, k ≤ xss.length → offs xss k ≤ 3 * k
  | 0, _ => by simp [offs]
  | k + 1, hk => by
    have h1 := offs_le h k (by omega)
    have h2 := h _ (gr_mem (xs := xss) (k := k) (by omega))
    simp only [offs]
    omega

/-- What an exact law on a game with rows as its result knows: its argument, the program's own copy of it, the model's rows, the program's rows. -/
structure Ex (w : World) (A B : Option Addr) (n c m d : Nat) (xs ys : List (List Int)) (lo mid hi g g3 g4 S1 gs : Nat) (As : Option Addr) (cs L1 L2 gg : Nat) (Ag : Option Addr) (cg : Nat) (rs rg : List (List Int)) (W : World) : Prop where
  fg : GS w W A B n c m d xs ys
  fx : XS lo mid hi W g g3 g4 n m xs ys
  fs : OwnR S1 lo W gs As rs.length cs rs
  fr : OwnR L1 L2 W gg Ag rs.length cg rg
  h1 : w.heap.size < lo
  h2 : hi ≤ L1
  h3 : lo ≤ hi
theorem Ex.up {w A B n c m d xs ys lo mid hi g g3 g4 S1 gs As cs L1 L2 gg Ag cg rs rg W W'} (h : Ex w A B n c m d xs ys lo mid hi g g3 g4 S1 gs As cs L1 L2 gg Ag cg rs rg W) (k : Below W.heap.size W W') :
    Ex w A B n c m d xs ys lo mid hi g g3 g4 S1 gs As cs L1 L2 gg Ag cg rs rg W' :=
  ⟨h.fg.up k, h.fx.up k, h.fs.below k, h.fr.below k, h.h1, h.h2, h.h3⟩
theorem Ex.cells {w A B n c m d xs ys lo mid hi g g3 g4 S1 gs As cs L1 L2 gg Ag cg rs rg W} (h : Ex w A B n c m d xs ys lo mid hi g g3 g4 S1 gs As cs L1 L2 gg Ag cg rs rg W) :
    (W.cell? ⟨w.heap.size, 0, none⟩ = some (.slice A n c) ∧ W.cell? ⟨w.heap.size, 1, none⟩ = some (.slice B m d)) ∧ (W.cell? ⟨g, 0, none⟩ = some (.slice (some ⟨g3, 0, none⟩) n n) ∧ W.cell? ⟨g, 1, none⟩ = some (.slice (some ⟨g4, 0, none⟩) m m)) :=
  ⟨⟨h.fg.c0, h.fg.c1⟩, ⟨h.fx.c0, h.fx.c1⟩⟩
/-- .. behind the marks: the copy is no longer asked for. -/
structure Ey (w : World) (A B : Option Addr) (n c m d : Nat) (xs ys : List (List Int)) (lo S1 gs : Nat) (As : Option Addr) (cs L1 L2 gg : Nat) (Ag : Option Addr) (cg : Nat) (rs rg : List (List Int)) (W : World) : Prop where
  fg : GS w W A B n c m d xs ys
  fs : OwnR S1 lo W gs As rs.length cs rs
  fr : OwnR L1 L2 W gg Ag rs.length cg rg
  h1 : w.heap.size < lo
  h2 : lo ≤ L1
theorem Ey.up {w A B n c m d xs ys lo S1 gs As cs L1 L2 gg Ag cg rs rg W W'} (h : Ey w A B n c m d xs ys lo S1 gs As cs L1 L2 gg Ag cg rs rg W) (k : Below W.heap.size W W') : Ey w A B n c m d xs ys lo S1 gs As cs L1 L2 gg Ag cg rs rg W' :=
  ⟨h.fg.up k, h.fs.below k, h.fr.below k, h.h1, h.h2⟩
theorem Ex.mark {w A B n c m d xs ys lo mid hi g g3 g4 S1 gs As cs L1 L2 gg Ag cg rs rg W W1 W2} (h : Ex w A B n c m d xs ys lo mid hi g g3 g4 S1 gs As cs L1 L2 gg Ag cg rs rg W) (k : Below W.heap.size W W1) (t : Touch lo hi W1 W2) :
    Ey w A B n c m d xs ys lo S1 gs As cs L1 L2 gg Ag cg rs rg W2 :=
  ⟨(h.fg.up k).touch t h.h1, (h.fs.below k).touch t (.inl (Nat.le_refl _)), (h.fr.below k).touch t (.inr h.h2), h.h1, Nat.le_trans h.h3 h.h2⟩
theorem Ey.mark {w A B n c m d xs ys lo S1 gs As cs L1 L2 gg Ag cg rs rg rg' W W2} (h : Ey w A B n c m d xs ys lo S1 gs As cs L1 L2 gg Ag cg rs rg W) (t : Touch L1 L2 W W2) (hg : OwnR L1 L2 W2 gg Ag rs.length cg rg') :
    Ey w A B n c m d xs ys lo S1 gs As cs L1 L2 gg Ag cg rs rg' W2 :=
  ⟨h.fg.touch t (Nat.lt_of_lt_of_le h.h1 h.h2), h.fs.touch t (.inl h.h2), hg, h.h1, h.h2⟩
end Go.Proofs.Ytjkmgpiiamffgaa

/- PartsOf, by both programs. -/
namespace Go.Proofs.Ytjkmgpiiamffgaa
open Go.RowKit

/-- A table of one empty row. -/
theorem NewT.one_empty {w w' : World} {R : Option Addr} {g : Nat} (hb : Below w.heap.size w w') (hg : w.heap.size ≤ g) (hB : Blk w' g 30 #[.slice R 0 0]) : NewT w [[]] (.returned (.slice (some ⟨g, 0, Option.none⟩) 1 1)) w' :=
  ⟨_, _, _, g, rfl, rfl, ⟨rfl, Nat.le_refl _, by omega, fun _ => ⟨0, fun _ => g, fun _ => R, fun _ => 0, rfl, hg, blk_lt hB, fun k hk => by
    obtain rfl : k = 0 := by omega
    exact ⟨blk_frozen hB _, blk_cell hB rfl, ⟨⟨rfl, Nat.le_refl _, by show (0 : Nat) ≤ _; omega, fun x hx => by simp [gr] at hx, fun h => by simp [gr] at h⟩, fun h => by simp [gr] at h⟩, fun h => by simp [gr] at h⟩, fun j k _ hk h => by simp at hk; subst hk; simp [gr] at h; omega⟩⟩, hb⟩

/-- What PartsOf answers. -/
noncomputable def ptV (n : Int) : List (List Int) := if pb (InR n 1 7) = true then pts 7 n.toNat n.toNat else []
theorem pt_no {n : Int} (h : ¬ InR n 1 7) : ptV n = [] := by unfold ptV; rw [if_neg (by rw [pb_false h]; decide)]
theorem pt_yes {n : Nat} (h : InR n 1 7) : ptV n = pts 7 n n := by unfold ptV; rw [if_pos (pb_true h), Int.toNat_natCast]
theorem offs_le7 {xss : List (List Int)} (h : ∀ r ∈ xss, r.length ≤ 7) : ∀ k, k ≤ xss.length → offs xss k ≤ 7 * k
  | 0, _ => by simp [offs]
  | k + 1, hk => by
    have h1 := offs_le7 h k (by omega)
    have h2 := h _ (gr_mem (xs := xss) (k := k) (by omega))
    simp only [offs]
    omega
theorem pt_offs (n : Int) : offs (ptV n) (ptV n).length ≤ 1000000 := by
  by_cases h : InR n 1 7
  · obtain ⟨n, rfl⟩ : ∃ k : Nat, n = (k : Int) := ⟨n.toNat, by unfold InR at h; omega⟩
    have h7 : n ≤ 7 := by unfold InR at h; omega
    rw [pt_yes h]
    have hb := pts_bd0 7 (by omega) n (by omega) n (by omega)
    have h2 := offs_le7 (fun r hr => (hb.2 r hr).1) _ (Nat.le_refl (pts 7 n n).length)
    omega
  · rw [pt_no h]; simp [offs]

end Go.Proofs.Ytjkmgpiiamffgaa

/- sorted, by the laws: numbers laid in order by an append in a region that draws its order. -/
namespace Go.Proofs.Ytjkmgpiiamffgaa
open Go.RowKit

/-- An append of a slice that reads as a list, whatever its length, behind a row that the call owns. -/
theorem run_app_ints (w : World) (base : Nat) (v : Value) (xs : List Int) (hown : w.ownsRow base 3 1 v xs.length (xs.map iv)) (hlo : base ≤ w.heap.size) (R : Option Addr) (m c : Nat) (r : List Int) (hr : Ints w R m c r) (hlen : xs.length + m ≤ 1000) :
    ∃ A cap w', (Builtin.append_ #[30, 30] 30 #[v, .slice R m c]).run Try.prog w = .ok (.slice A (xs ++ r).length cap) w' ∧
      w'.ownsRow base 3 1 (.slice A (xs ++ r).length cap) (xs ++ r).length ((xs ++ r).map iv) ∧ w.grownBy w' v.ownBlock ∧
      ((Value.slice A (xs ++ r).length cap).ownBlock = v.ownBlock ∨ (Value.slice A (xs ++ r).length cap).ownBlock = some w.heap.size) := by
  obtain ⟨i0, hi0, hz0, hz1, hz2⟩ := info_parts Try.info_int
  have hl := hr.len
  by_cases h0 : m = 0
  · subst h0
    have hr0 : r = [] := List.eq_nil_of_length_eq_zero hl
    subst hr0
    rw [List.append_nil]
    obtain ⟨A, cap, rfl⟩ := (⟨hown, fun k hk => (hown.lt k hk).2⟩ : BldI base w.heap.size w v xs).form
    exact ⟨A, cap, w, run_append_empty w base _ _ 3 i0 1 Try.underlying30 hi0 _ xs.length _ hown R c, hown, ⟨rfl, rfl, rfl, Nat.le_refl _, fun _ _ _ => rfl⟩, .inl rfl⟩
  · obtain ⟨b, o, rfl, hc⟩ := hr.at_ (by omega)
    obtain ⟨v', w5, e, ho, hg, _, hat⟩ := run_append_own_at (P := Try.prog) w base 30 30 3 i0 (.int .i64 0) 1 8 Try.underlying30 hi0 hz0 hz1 hz2 rfl (by decide) v xs.length (xs.map iv) hown ⟨b, o, none⟩ m c (r.map iv)
      (by rw [List.length_map, hl]; omega) (by
        have h := news_take (w := w) (j := r.length) (xs := r) (b := b) (o := o) rfl (fun k hk => hc k (by omega))
        rw [List.take_length] at h; exact h) (ones_map _) (by unfold maxLen; omega) (by omega) hlo
    have ho' : w5.ownsRow base 3 1 v' (xs ++ r).length ((xs ++ r).map iv) := by rw [List.length_append, hl, List.map_append]; exact ho
    obtain ⟨A, cap, rfl⟩ := (⟨ho', fun k hk => (ho'.lt k hk).2⟩ : BldI base w5.heap.size w5 v' (xs ++ r)).form
    exact ⟨A, cap, w5, e, ho', hg, hat⟩

/-- A row under way in a region: own, and nothing older changed. -/
structure OX (w0 W : World) (v : Value) (xs : List Int) : Prop where
  own : W.ownsRow w0.heap.size 3 1 v xs.length (xs.map iv)
  bl : Below w0.heap.size w0 W
/-- A new number in a block of its own, beside the row. -/
structure NwX (W : World) (X : Nat) (x : Int) (v : Value) : Prop where
  blk : Blk W X 3 #[iv x]
  ne : v.ownBlock ≠ some X
theorem OX.lo {w0 W v xs} (h : OX w0 W v xs) : w0.heap.size ≤ W.heap.size := h.bl.size
theorem OX.drew {w0 W v xs} (h : OX w0 W v xs) : OX w0 W.drew v xs := ⟨blk_kept h.own fun _ _ => rfl, h.bl.drew⟩
theorem OX.qu {w0 W W' v xs} (h : OX w0 W v xs) (k : Quiet W W') : OX w0 W' v xs := by
  obtain ⟨q, rfl⟩ := k
  exact ⟨blk_kept h.own fun _ _ => rfl, below_drewN h.bl q⟩
theorem OX.alloc {w0 W v xs} (h : OX w0 W v xs) (o : Obj) : OX w0 (W.alloc o) v xs := ⟨h.own.alloc o, below_up h.bl (below_alloc _ _)⟩
theorem OX.new {w0 W : World} (h : Below w0.heap.size w0 W) : OX w0 (W.alloc (.cells #[] 3)) (.slice (some ⟨W.heap.size, 0, none⟩) 0 0) [] :=
  ⟨(BldI.make h.size).own, below_up h (below_alloc _ _)⟩
theorem OX.newAt {w0 W : World} {g : Nat} (h : Below w0.heap.size w0 W) (hg : W.heap.size = g) : OX w0 (W.alloc (.cells #[] 3)) (.slice (some ⟨g, 0, none⟩) 0 0) [] := by
  subst hg; exact OX.new h
theorem below_al {w0 W : World} (h : Below w0.heap.size w0 W) (o : Obj) : Below w0.heap.size w0 (W.alloc o) := below_up h (below_alloc _ _)
theorem OX.up {w w0 W v0 xs0 v xs} (h : OX w w0 v0 xs0) (k : OX w0 W v xs) : OX w W v xs := by
  refine ⟨?_, below_up h.bl k.bl⟩
  obtain ⟨h1, h2⟩ := k.own
  refine ⟨h1, ?_⟩
  rcases h2 with h2 | ⟨g, cap, cur, rfl, hb, hg, r⟩
  · exact .inl h2
  · exact .inr ⟨g, cap, cur, rfl, Nat.le_trans h.lo hb, hg, r⟩
theorem OX.app {w0 W W' v v' xs ys} (h : OX w0 W v xs) (ho : W'.ownsRow w0.heap.size 3 1 v' ys.length (ys.map iv)) (hg : W.grownBy W' v.ownBlock) : OX w0 W' v' ys :=
  ⟨ho, h.bl.grown hg h.lo fun k hk => (h.own.lt k hk).1⟩
theorem OX.form {w0 W v xs} (h : OX w0 W v xs) : ∃ A c, v = .slice A xs.length c := (⟨h.own, fun k hk => (h.own.lt k hk).2⟩ : BldI w0.heap.size W.heap.size W v xs).form
theorem OX.ints {w0 W A c} {xs : List Int} (h : OX w0 W (.slice A xs.length c) xs) (hl : xs.length ≤ 1000) (hw : ∀ x ∈ xs, 0 ≤ x ∧ x ≤ 1000) : Ints W A xs.length c xs := by
  obtain ⟨A', n', c', g, e, _, hI, _⟩ := (⟨h.own, fun k hk => (h.own.lt k hk).2⟩ : BldI w0.heap.size W.heap.size W _ xs).owns (by omega) (fun x hx => by have := hw x hx; omega)
  injection e with e1 e2 e3
  subst e1; subst e2; subst e3
  exact hI.ints
theorem NwX.new {w0 W v xs} (h : OX w0 W v xs) (x : Int) : NwX (W.alloc (.cells #[.int .i64 x] 3)) W.heap.size x v :=
  ⟨blk_new _ _ _, fun e => by have := (h.own.lt _ e).2; omega⟩
theorem NwX.drew {W X x v} (h : NwX W X x v) : NwX W.drew X x v := ⟨h.blk, h.ne⟩
theorem NwX.app {W W' X x v v'} (h : NwX W X x v) (hg : W.grownBy W' v.ownBlock) (hat : v'.ownBlock = v.ownBlock ∨ v'.ownBlock = some W.heap.size) : NwX W' X x v' :=
  ⟨(hg.block X (blk_lt h.blk) (fun e => h.ne e.symm)).trans h.blk, fun e => by
    rcases hat with h1 | h1
    · exact h.ne (h1.symm.trans e)
    · rw [h1] at e; injection e with e; have := blk_lt h.blk; omega⟩
theorem NwX.at_ {w0 W v xs} (h : OX w0 W v xs) (x : Int) {X : Nat} (hX : W.heap.size = X) : NwX (W.alloc (.cells #[.int .i64 x] 3)) X x v := by subst hX; exact NwX.new h x
theorem NwX.drewI {W X x v} (h : NwX W X x v) : NwX W.drew X x v := ⟨h.blk, h.ne⟩
/-- The new number's block laid ahead of the row's. -/
theorem NwX.ahead {W : World} (x : Int) {X g : Nat} (hb : Blk W X 3 #[.int .i64 x]) (hg : W.heap.size = g) : NwX (W.alloc (.cells #[] 3)) X x (.slice (some ⟨g, 0, none⟩) 0 0) := by
  subst hg
  refine ⟨blk_below hb (below_alloc _ _), fun e => ?_⟩
  have h1 : W.heap.size = X := by simpa [Value.ownBlock] using e
  have := blk_lt hb; omega
theorem NwX.ints {W X x v} (h : NwX W X x v) (hx : 0 ≤ x ∧ x ≤ 1000) : Ints W (some ⟨X, 0, none⟩) 1 1 [x] :=
  ⟨rfl, Nat.le_refl _, by omega, fun y hy => by simp at hy; subst hy; omega, fun _ => ⟨X, 0, rfl, fun k hk => by
    obtain rfl : k = 0 := by omega
    exact blk_cell h.blk rfl⟩⟩

/-- The append at a step of a region that draws its order. -/
theorem step_app_ints {ops : Array Oper} {o : Oper} {a : Act} {K : Act → World → Prop} {Q : Exit → Act → World → Prop} {E : Prop} {w : World} (hgd : o.guard = none) (s x : Operand)
    (ho : o.op = .call { callee := .builtin .append, args := #[s, x], argTypes := #[30, 30] }) (hty : o.type = 30) (w0 : World)
    (v : Value) (xs : List Int) (hs : a.eval s = v) (hown : OX w0 w v xs) (R : Option Addr) (m c : Nat) (r : List Int) (hx : a.eval x = .slice R m c) (hr : Ints w R m c r) (hlen : xs.length + m ≤ 1000) (L : Nat) (hL : (xs ++ r).length = L)
    (h : ∀ A cap w', OX w0 w' (.slice A L cap) (xs ++ r) → w.grownBy w' v.ownBlock → ((Value.slice A L cap).ownBlock = v.ownBlock ∨ (Value.slice A L cap).ownBlock = some w.heap.size) → K (a.put o.dst (.slice A L cap)) w') :
    if Region.wanted o (yielded ops a.tmps) = true then Oper.wp Try.prog o a w K Q else E := by
  have hw : Region.wanted o (yielded ops a.tmps) = true := by simp [Region.wanted, hgd]
  rw [if_pos hw]
  subst hL
  obtain ⟨A, cap, w', hrun, h2, h3, h4⟩ := run_app_ints w w0.heap.size v xs hown.own hown.lo R m c r hr hlen
  unfold Oper.wp execOp
  simp only [ho, hty, resolve, invoke, builtin, Sem.run_bind, Sem.run_pure, Result.andThen_ok, List.map_toArray, List.map_cons, List.map_nil, hs, hx, hrun]
  exact h A cap w' (hown.app h2 h3) h3 h4

/-- How many numbers at the head are not less. -/
def plc : List Int → Int → Nat
  | [], _ => 0
  | y :: ys, x => if x ≤ y then plc ys x + 1 else 0
theorem plc_le (x : Int) : ∀ xs, plc xs x ≤ xs.length
  | [] => Nat.le_refl _
  | y :: ys => by have := plc_le x ys; unfold plc; split <;> simp <;> omega
theorem gi_zero (y : Int) (ys : List Int) : gi (y :: ys) 0 = y := rfl
theorem gi_succ (y : Int) (ys : List Int) (k : Nat) : gi (y :: ys) (k + 1) = gi ys k := by simp [gi]
theorem plc_ge (x : Int) : ∀ (xs : List Int) (k : Nat), k < plc xs x → x ≤ gi xs k
  | [], _, h => absurd h (by simp [plc])
  | y :: ys, k, h => by
    unfold plc at h
    split at h
    · next hy =>
      match k with
      | 0 => exact hy
      | k + 1 => rw [gi_succ]; exact plc_ge x ys k (by omega)
    · omega
theorem plc_lt (x : Int) : ∀ (xs : List Int), plc xs x < xs.length → gi xs (plc xs x) < x
  | [], h => absurd h (by simp)
  | y :: ys, h => by
    unfold plc at h ⊢
    split at h
    · next hy => rw [if_pos hy, gi_succ]; exact plc_lt x ys (by simpa using h)
    · next hy => rw [if_neg hy, gi_zero]; omega
/-- A number laid in its place. -/
def ins (xs : List Int) (x : Int) : List Int := (xs.take (plc xs x) ++ [x]) ++ xs.drop (plc xs x)
theorem ins_len (xs : List Int) (x : Int) : (ins xs x).length = xs.length + 1 := by
  have := plc_le x xs
  simp [ins]; omega
theorem ins_mem {xs : List Int} {x y : Int} (h : y ∈ ins xs x) : y = x ∨ y ∈ xs := by
  simp only [ins, List.mem_append, List.mem_singleton] at h
  rcases h with (h | h) | h
  · exact .inr (List.mem_of_mem_take h)
  · exact .inl h
  · exact .inr (List.mem_of_mem_drop h)
def srt (xs : List Int) : List Int := xs.foldl ins []
theorem take_next {xs : List Int} {i : Nat} (h : i < xs.length) : xs.take (i + 1) = xs.take i ++ [gi xs i] := by
  rw [List.take_add_one, List.getElem?_eq_getElem h, gi_get h]; rfl
theorem srt_next {xs : List Int} {i : Nat} (h : i < xs.length) : srt (xs.take (i + 1)) = ins (srt (xs.take i)) (gi xs i) := by
  rw [take_next h]; unfold srt; rw [List.foldl_append]; rfl
theorem fold_len : ∀ (xs acc : List Int), (xs.foldl ins acc).length = acc.length + xs.length
  | [], acc => rfl
  | x :: xs, acc => by rw [List.foldl_cons, fold_len xs, ins_len, List.length_cons]; omega
theorem srt_len (xs : List Int) : (srt xs).length = xs.length := by unfold srt; rw [fold_len]; simp
theorem fold_mem : ∀ (xs acc : List Int) (y : Int), y ∈ xs.foldl ins acc → y ∈ acc ∨ y ∈ xs
  | [], acc, y, h => .inl h
  | x :: xs, acc, y, h => by
    rcases fold_mem xs _ y h with h | h
    · rcases ins_mem h with rfl | h
      · exact .inr (List.mem_cons_self ..)
      · exact .inl h
    · exact .inr (List.mem_cons_of_mem _ h)
theorem srt_mem {xs : List Int} {y : Int} (h : y ∈ srt xs) : y ∈ xs := by
  rcases fold_mem xs [] y h with h | h
  · simp at h
  · exact h
theorem Ints.dropI {w : World} {b o n c k : Nat} {xs : List Int} (h : Ints w (some ⟨b, o, none⟩) n c xs) (hk : k ≤ n) : Ints w (some ⟨b, o + k, none⟩) (n - k) (c - k) (xs.drop k) := by
  have hl := h.len
  refine ⟨by rw [List.length_drop, hl], by have := h.cap; omega, by have := h.max; omega, fun y hy => h.wf y (List.mem_of_mem_drop hy), fun h0 => ?_⟩
  obtain ⟨b', o', e, hc⟩ := h.at_ (by omega)
  injection e with e; injection e with e1 e2; subst e1; subst e2
  refine ⟨b, o + k, rfl, fun j hj => ?_⟩
  have e1 : gi (xs.drop k) j = gi xs (k + j) := by
    rw [gi_get (by rw [List.length_drop]; omega), gi_get (by omega), List.getElem_drop]
  rw [e1, Nat.add_assoc]; exact hc (k + j) (by omega)

theorem gi_takeI {xs : List Int} {k j : Nat} (h : j < k) (hk : k ≤ xs.length) : gi (xs.take k) j = gi xs j := by
  rw [gi_get (by rw [List.length_take]; omega), gi_get (by omega), List.getElem_take]
theorem Ints.takeI {w : World} {A : Option Addr} {n c k : Nat} {xs : List Int} (h : Ints w A n c xs) (hk : k ≤ n) : Ints w A k c (xs.take k) := by
  have hl := h.len
  refine ⟨by rw [List.length_take]; omega, by have := h.cap; omega, by have := h.max; omega, fun y hy => h.wf y (List.mem_of_mem_take hy), fun h0 => ?_⟩
  obtain ⟨b, o, e, hc⟩ := h.at_ (by omega)
  exact ⟨b, o, e, fun j hj => by rw [gi_takeI hj (by omega)]; exact hc j (by omega)⟩
theorem Ints.dropIf {w : World} {b o n c k : Nat} {xs : List Int} (h : Ints w (some ⟨b, o, none⟩) n c xs) (hk : k ≤ n) : Ints w (if c = k then some ⟨b, o, none⟩ else some ⟨b, o + k, none⟩) (n - k) (c - k) (xs.drop k) := by
  have hd := h.dropI hk
  have hc := h.cap
  by_cases e : c = k
  · rw [if_pos e]
    exact ⟨hd.len, hd.cap, hd.max, hd.wf, fun h0 => by omega⟩
  · rw [if_neg e]; exact hd
end Go.Proofs.Ytjkmgpiiamffgaa

/- A region that draws its order, by an invariant: each operation is run once, whatever has come up before it. -/
namespace Go.Proofs.Ytjkmgpiiamffgaa
open Go.RowKit

/-- Operation j has come up. -/
def On (L : Array Bool) (j : Nat) : Prop := L.getD j false = true
theorem On.of_set {L : Array Bool} {i j : Nat} (h : On (L.setIfInBounds i true) j) (hne : i ≠ j) : On L j := by
  unfold On at *; rwa [getD_set_ne false hne] at h
theorem On.old {L : Array Bool} {i j : Nat} (h : On L j) : On (L.setIfInBounds i true) j := by
  unfold On at *; exact getD_set_true h
theorem On.not_start {n j : Nat} (h : On (Array.replicate n false) j) : False := by
  unfold On at h
  rcases Nat.lt_or_ge j n with h' | h'
  · simp [h'] at h
  · simp [h'] at h
/-- What an operation waits for. -/
def waitsOn (ops : Array Oper) (i : Nat) : List Nat :=
  match ops[i]? with
  | some o => (o.after.toList.filter (Region.binds .any)).map (·.on)
  | none => []
def earlierB (ops : Array Oper) : Bool := (List.range ops.size).all fun i => (waitsOn ops i).all fun j => decide (j < i)
theorem mem_waits {ops : Array Oper} {i : Nat} {o : Oper} (ho : ops[i]? = some o) {e : Edge} (he : e ∈ o.after) (hb : Region.binds .any e = true) : e.on ∈ waitsOn ops i := by
  unfold waitsOn; rw [ho]; exact List.mem_map.2 ⟨e, List.mem_filter.2 ⟨by simpa using he, hb⟩, rfl⟩
theorem waits_mem {ops : Array Oper} {i j : Nat} {o : Oper} (ho : ops[i]? = some o) (h : j ∈ waitsOn ops i) : ∃ e ∈ o.after, Region.binds .any e = true ∧ e.on = j := by
  unfold waitsOn at h; rw [ho] at h
  obtain ⟨e, he, hj⟩ := List.mem_map.1 h
  obtain ⟨h1, h2⟩ := List.mem_filter.1 he
  exact ⟨e, by simpa using h1, h2, hj⟩

section
variable {P : Program} {ops : Array Oper} {Q : Exit → Act → World → Prop} {I : Array Bool → Act → World → Prop}
/-- The operation i, run in whatever state the invariant allows. -/
def StepI (P : Program) (ops : Array Oper) (Q : Exit → Act → World → Prop) (I : Array Bool → Act → World → Prop) (i : Nat) : Prop :=
  ∀ L a w, I L a w → ¬ On L i → On (L.setIfInBounds i true) i → (∀ j ∈ waitsOn ops i, On L j) → wpOp P ops Q i (fun a' w' => I (L.setIfInBounds i true) a' w') a w
def StepsI (P : Program) (ops : Array Oper) (Q : Exit → Act → World → Prop) (I : Array Bool → Act → World → Prop) (rs : List Nat) : Prop := ∀ i ∈ rs, StepI P ops Q I i
theorem StepsI.nil : StepsI P ops Q I [] := fun _ h => by cases h
theorem StepsI.cons {i : Nat} {o : Oper} {ws rs : List Nat} (ho : ops[i]? = some o) (hw : waitsOn ops i = ws)
    (h : ∀ L a w, I L a w → ¬ On L i → On (L.setIfInBounds i true) i → (∀ j ∈ ws, On L j) → ∀ K' : Act → World → Prop, Shut (∀ a w, I (L.setIfInBounds i true) a w → K' a w) → if Region.wanted o (yielded ops a.tmps) = true then Oper.wp P o a w K' Q else K' (a.put o.dst undef) w)
    (hs : StepsI P ops Q I rs) : StepsI P ops Q I (i :: rs) := fun j hj => by
  rcases List.mem_cons.1 hj with rfl | hj
  · intro L a w hI hn hi hL
    rw [hw] at hL
    exact wpOp_step ho (fun K' hK => h L a w hI hn hi hL K' hK)
  · exact hs j hj

theorem wpAny_inv (hs : ∀ i, i < ops.size → StepI P ops Q I i) (he : earlierB ops = true) (hend : ∀ L a w, (∀ i, i < ops.size → On L i) → I L a w → Q .normal a w) :
    ∀ (fuel : Nat) (L : Array Bool) (a : Act) (w : World), L.size = ops.size → L.toList.countP (fun b => !b) ≤ fuel → I L a w → wpAny P .any ops Q fuel L a w := by
  have hall : ∀ L : Array Bool, L.size = ops.size → Region.ready .any ops L = [] → ∀ i, i < ops.size → On L i := by
    intro L hL hr i
    induction i using Nat.strongRecOn with
    | _ i ih =>
      intro hi
      apply Classical.byContradiction
      intro hn
      have ho : ops[i]? = some ops[i] := Array.getElem?_eq_getElem hi
      have hmem : i ∈ Region.ready .any ops L := by
        rw [mem_ready]
        refine ⟨?_, ops[i], ho, fun e hee hb => ?_⟩
        · have hiL : i < L.size := by omega
          unfold On at hn
          simp only [Array.getD_eq_getD_getElem?, Array.getElem?_eq_getElem hiL, Option.getD_some] at hn ⊢
          cases hx : L[i] with
          | true => exact absurd hx hn
          | false => rfl
        · have hm := mem_waits ho hee hb
          have hlt : e.on < i := by
            unfold earlierB at he
            have h1 := List.all_eq_true.1 he i (List.mem_range.2 hi)
            have h2 := List.all_eq_true.1 h1 _ hm
            simpa using h2
          exact ih e.on hlt (by omega)
      rw [hr] at hmem
      cases hmem
  intro fuel
  induction fuel with
  | zero =>
    intro L a w hL hc hI
    have hon : ∀ i, i < ops.size → On L i := fun i hi => by
      have hiL : i < L.size := by omega
      have h0 : L.toList.countP (fun b => !b) = 0 := by omega
      rw [List.countP_eq_zero] at h0
      have := h0 L[i] (by simp)
      unfold On
      simp only [Array.getD_eq_getD_getElem?, Array.getElem?_eq_getElem hiL, Option.getD_some]
      simpa using this
    refine ⟨?_, hend L a w hon hI⟩
    cases hr : Region.ready .any ops L with
    | nil => rfl
    | cons i rs =>
      have hi : i ∈ Region.ready .any ops L := by rw [hr]; simp
      obtain ⟨h0, o, ho, _⟩ := mem_ready.1 hi
      have hlt : i < ops.size := (Array.getElem?_eq_some_iff.1 ho).1
      have h1 := hon i hlt
      have hiL : i < L.size := by omega
      unfold On at h1
      simp only [Array.getD_eq_getD_getElem?, Array.getElem?_eq_getElem hiL, Option.getD_some] at h0 h1
      rw [h0] at h1; cases h1
  | succ fuel ih =>
    intro L a w hL hc hI
    refine ⟨fun hr => hend L a w (hall L hL hr) hI, fun i hi => ?_⟩
    obtain ⟨h0, o, ho, hw⟩ := mem_ready.1 hi
    have hlt : i < ops.size := (Array.getElem?_eq_some_iff.1 ho).1
    have hiL : i < L.size := by omega
    refine wpOp_mono (fun a' w' h => ih _ a' w' (by simpa using hL) ?_ h) (hs i hlt L a w hI ?_ ?_ (fun j hj => ?_))
    · have hb : L[i] = false := by simpa [Array.getD_eq_getD_getElem?, Array.getElem?_eq_getElem hiL] using h0
      rw [Array.toList_setIfInBounds, List.countP_set (by simpa using hiL)]
      have h1 : 0 < L.toList.countP (fun b => !b) := List.countP_pos_iff.2 ⟨L[i], by simp, by simp [hb]⟩
      have h2 : (if (!L.toList[i]'(by simpa using hiL)) = true then 1 else 0) = 1 := by simp [hb]
      have h3 : (if (!true) = true then 1 else 0) = 0 := by simp
      rw [h2, h3]
      omega
    · unfold On
      simp only [Array.getD_eq_getD_getElem?, Array.getElem?_eq_getElem hiL, Option.getD_some] at h0 ⊢
      rw [h0]; decide
    · unfold On
      simp [hiL]
    · obtain ⟨e, he1, he2, rfl⟩ := waits_mem ho hj
      exact hw e he1 he2

theorem wp_region_inv {id : Nat} {a : Act} {w : World} {rs : List Nat} (I : Array Bool → Act → World → Prop) (hm : P.follows .mixedOrders = true) (h0 : I (Array.replicate ops.size false) a w.drew)
    (hr : List.range ops.size = rs) (he : earlierB ops = true) (hs : StepsI P ops Q I rs) (hend : ∀ L a w, (∀ i, i ∈ rs → On L i) → I L a w → Q .normal a w) : (Code.region id ops true).wp P Q a w :=
  wp_region_any hm (wpAny_inv (I := I) (fun i hi => hs i (by rw [← hr]; exact List.mem_range.2 hi)) he (fun L a w h => hend L a w (fun i hi => h i (by rw [← hr] at hi; exact List.mem_range.1 hi))) ops.size _ a _ (by simp)
    (by rw [Array.toList_replicate]; exact Nat.le_trans List.countP_le_length (by simp)) h0)
end
/-- A frame with other values in some slots, and what is known of these and of the world. -/
def FI (a0 : Act) (ds : List Nat) (J : Array Bool → List Value → World → Prop) (L : Array Bool) (a : Act) (w : World) : Prop := ∃ us, a = frmL a0 ds us ∧ J L us w
theorem wp_region_invF {P : Program} {ops : Array Oper} {Q : Exit → Act → World → Prop} {id : Nat} {a : Act} {w : World} {rs : List Nat} (ds : List Nat) (J : Array Bool → List Value → World → Prop) (hm : P.follows .mixedOrders = true)
    (h0 : ∃ us, a = frmL a ds us ∧ J (Array.replicate ops.size false) us w.drew)
    (hr : List.range ops.size = rs) (he : earlierB ops = true) (hs : StepsI P ops Q (FI a ds J) rs) (hend : ∀ L us w, (∀ i, i ∈ rs → On L i) → J L us w → Q .normal (frmL a ds us) w) : (Code.region id ops true).wp P Q a w :=
  wp_region_inv (FI a ds J) hm h0 hr he hs (fun L a' w h ⟨us, e, hJ⟩ => by subst e; exact hend L us w h hJ)
end Go.Proofs.Ytjkmgpiiamffgaa

/- What is left over, by the model: numbers up to n, beaten rows, rows that are kept. -/
namespace Go.Proofs.Ytjkmgpiiamffgaa
open Go.RowKit

/-- Row r is more than row i in all of the first l columns told. -/
def BeatC (a : List (List Int)) (cols : List Int) (r i l : Nat) : Prop := ∀ y, y < l → g2 a i (gi cols y).toNat < g2 a r (gi cols y).toNat
theorem BeatC.zero (a : List (List Int)) (cols : List Int) (r i : Nat) : BeatC a cols r i 0 := fun _ h => absurd h (by omega)
theorem BeatC.succ {a : List (List Int)} {cols : List Int} {r i l : Nat} : BeatC a cols r i (l + 1) ↔ BeatC a cols r i l ∧ g2 a i (gi cols l).toNat < g2 a r (gi cols l).toNat := by
  constructor
  · exact fun h => ⟨fun j hj => h j (by omega), h l (by omega)⟩
  · rintro ⟨h1, h2⟩ j hj
    by_cases e : j = l
    · subst e; exact h2
    · exact h1 j (by omega)
def Beaten (a : List (List Int)) (rows cols : List Int) (i : Nat) : Prop := ∃ x, x < rows.length ∧ BeatC a cols (gi rows x).toNat i cols.length
/-- The rows before place k that are not beaten. -/
noncomputable def keepL (a : List (List Int)) (rows cols : List Int) : Nat → List Int
  | 0 => []
  | k + 1 => keepL a rows cols k ++ (if pb (Beaten a rows cols (gi rows k).toNat) = true then [] else [gi rows k])
theorem keepL_no {a : List (List Int)} {rows cols : List Int} {k : Nat} (h : Beaten a rows cols (gi rows k).toNat) : keepL a rows cols (k + 1) = keepL a rows cols k := by rw [keepL, if_pos (pb_true h), List.append_nil]
theorem keepL_yes {a : List (List Int)} {rows cols : List Int} {k : Nat} (h : ¬ Beaten a rows cols (gi rows k).toNat) : keepL a rows cols (k + 1) = keepL a rows cols k ++ [gi rows k] := by rw [keepL, if_neg (by rw [pb_false h]; decide)]
theorem keepL_len (a : List (List Int)) (rows cols : List Int) : ∀ k, (keepL a rows cols k).length ≤ k
  | 0 => by simp [keepL]
  | k + 1 => by
    have := keepL_len a rows cols k
    rw [keepL, List.length_append]
    split <;> simp <;> omega
theorem keepL_mem (a : List (List Int)) (rows cols : List Int) : ∀ k, ∀ y ∈ keepL a rows cols k, ∃ j, j < k ∧ y = gi rows j
  | 0, y, h => by simp [keepL] at h
  | k + 1, y, h => by
    rw [keepL, List.mem_append] at h
    rcases h with h | h
    · obtain ⟨j, hj, e⟩ := keepL_mem a rows cols k y h; exact ⟨j, by omega, e⟩
    · split at h
      · simp at h
      · simp only [List.mem_singleton] at h; exact ⟨k, by omega, h⟩
/-- The numbers before n. -/
def upL (n : Nat) : List Int := (List.range n).map fun (k : Nat) => (k : Int)
theorem upL_succ (n : Nat) : upL (n + 1) = upL n ++ [(n : Int)] := by simp [upL, List.range_succ]
theorem upL_len (n : Nat) : (upL n).length = n := by simp [upL]
theorem upL_bd (n : Nat) : ∀ y ∈ upL n, 0 ≤ y ∧ y < (n : Int) := fun y h => by
  simp only [upL, List.mem_map, List.mem_range] at h
  obtain ⟨k, hk, rfl⟩ := h
  omega

end Go.Proofs.Ytjkmgpiiamffgaa

/- What is left over, as sets: f tells which of the first n numbers are left. Plain. -/
namespace Go.Proofs.Ytjkmgpiiamffgaa

theorem keepL_filter (a : List (List Int)) (rows cols : List Int) : ∀ k, k ≤ rows.length → keepL a rows cols k = (rows.take k).filter fun y => !pb (Beaten a rows cols y.toNat)
  | 0, _ => by simp [keepL]
  | k + 1, h => by
    have hk : k < rows.length := by omega
    rw [keepL, keepL_filter a rows cols k (by omega), List.take_succ_eq_append_getElem hk, List.filter_append, gi_get hk]
    congr 1
    cases e : pb (Beaten a rows cols (rows[k].toNat)) <;> simp [e]
theorem keepL_all (a : List (List Int)) (rows cols : List Int) : keepL a rows cols rows.length = rows.filter fun y => !pb (Beaten a rows cols y.toNat) := by
  rw [keepL_filter a rows cols _ (Nat.le_refl _), List.take_length]
/-- The numbers before n that f tells, ascending. -/
def selL (f : Nat → Bool) (n : Nat) : List Int := ((List.range n).filter f).map fun (k : Nat) => (k : Int)
theorem selL_up (n : Nat) : selL (fun _ => true) n = upL n := by unfold selL upL; rw [List.filter_eq_self.2 (fun _ _ => rfl)]
theorem selL_mem {f : Nat → Bool} {n : Nat} {y : Int} : y ∈ selL f n ↔ ∃ k : Nat, k < n ∧ f k = true ∧ y = k := by
  simp only [selL, List.mem_map, List.mem_filter, List.mem_range]
  constructor
  · rintro ⟨k, ⟨h1, h2⟩, rfl⟩; exact ⟨k, h1, h2, rfl⟩
  · rintro ⟨k, h1, h2, rfl⟩; exact ⟨k, ⟨h1, h2⟩, rfl⟩
theorem selL_len (f : Nat → Bool) (n : Nat) : (selL f n).length ≤ n := by
  have := List.length_filter_le f (List.range n)
  simp [selL] at this ⊢; exact this
theorem selL_bd {f : Nat → Bool} {n x : Nat} (h : x < (selL f n).length) : 0 ≤ gi (selL f n) x ∧ gi (selL f n) x < n := by
  rw [gi_get h]
  obtain ⟨k, hk, _, e⟩ := selL_mem.1 (List.getElem_mem h)
  omega
/-- Row i is beaten among those that f tells, against the columns that h tells. -/
def BT (a : List (List Int)) (f h : Nat → Bool) (n m i : Nat) : Prop := ∃ r, r < n ∧ f r = true ∧ ∀ y, y < m → h y = true → g2 a i y < g2 a r y
theorem beaten_sel {a : List (List Int)} {f h : Nat → Bool} {n m i : Nat} : Beaten a (selL f n) (selL h m) i ↔ BT a f h n m i := by
  constructor
  · rintro ⟨x, hx, hb⟩
    obtain ⟨r, hr, hf, e⟩ := selL_mem.1 (List.getElem_mem hx)
    refine ⟨r, hr, hf, fun y hy hh => ?_⟩
    obtain ⟨l, hl, e2⟩ := List.mem_iff_getElem.1 (selL_mem.2 ⟨y, hy, hh, rfl⟩ : (y : Int) ∈ selL h m)
    have := hb l hl
    rw [gi_get hl, e2, gi_get hx, e] at this
    simpa using this
  · rintro ⟨r, hr, hf, hb⟩
    obtain ⟨x, hx, e⟩ := List.mem_iff_getElem.1 (selL_mem.2 ⟨r, hr, hf, rfl⟩ : (r : Int) ∈ selL f n)
    refine ⟨x, hx, fun l hl => ?_⟩
    obtain ⟨y, hy, hh, e2⟩ := selL_mem.1 (List.getElem_mem hl)
    rw [gi_get hl, e2, gi_get hx, e]
    simpa using hb y hy hh
/-- Those that stay. -/
noncomputable def stayF (a : List (List Int)) (f h : Nat → Bool) (n m : Nat) : Nat → Bool := fun i => f i && !pb (BT a f h n m i)
theorem keepL_sel (a : List (List Int)) (f h : Nat → Bool) (n m : Nat) : keepL a (selL f n) (selL h m) (selL f n).length = selL (stayF a f h n m) n := by
  rw [keepL_all]
  unfold selL stayF
  rw [List.filter_map, List.filter_filter]
  congr 1
  apply List.filter_congr
  intro k _
  have e : pb (Beaten a (selL f n) (selL h m) k) = pb (BT a f h n m k) := pb_congr beaten_sel
  unfold selL at e
  simp only [Function.comp, Int.toNat_natCast]
  rw [e, Bool.and_comm]
/-- One round: first the rows, then the columns against the rows that stay. -/
noncomputable def loStep (a b : List (List Int)) (n m : Nat) (s : (Nat → Bool) × (Nat → Bool)) : (Nat → Bool) × (Nat → Bool) :=
  (stayF a s.1 s.2 n m, stayF b s.2 (stayF a s.1 s.2 n m) m n)
noncomputable def loIt (a b : List (List Int)) (n m : Nat) : Nat → (Nat → Bool) × (Nat → Bool)
  | 0 => (fun _ => true, fun _ => true)
  | k + 1 => loStep a b n m (loIt a b n m k)
/-- The same numbers before n and before m. -/
def SameS (n m : Nat) (s t : (Nat → Bool) × (Nat → Bool)) : Prop := (∀ i, i < n → s.1 i = t.1 i) ∧ ∀ j, j < m → s.2 j = t.2 j
theorem BT_congr {a : List (List Int)} {f f' h h' : Nat → Bool} {n m : Nat} (hf : ∀ i, i < n → f i = f' i) (hh : ∀ j, j < m → h j = h' j) (i : Nat) : BT a f h n m i ↔ BT a f' h' n m i := by
  constructor
  · rintro ⟨r, h1, h2, h3⟩; exact ⟨r, h1, by rw [← hf r h1]; exact h2, fun y hy e => h3 y hy (by rw [hh y hy]; exact e)⟩
  · rintro ⟨r, h1, h2, h3⟩; exact ⟨r, h1, by rw [hf r h1]; exact h2, fun y hy e => h3 y hy (by rw [← hh y hy]; exact e)⟩
theorem stayF_congr {a : List (List Int)} {f f' h h' : Nat → Bool} {n m : Nat} (hf : ∀ i, i < n → f i = f' i) (hh : ∀ j, j < m → h j = h' j) (i : Nat) (hi : i < n) : stayF a f h n m i = stayF a f' h' n m i := by
  unfold stayF; rw [hf i hi, pb_congr (BT_congr hf hh i)]
theorem loStep_congr {a b : List (List Int)} {n m : Nat} {s t : (Nat → Bool) × (Nat → Bool)} (h : SameS n m s t) : SameS n m (loStep a b n m s) (loStep a b n m t) := by
  have h1 : ∀ i, i < n → stayF a s.1 s.2 n m i = stayF a t.1 t.2 n m i := fun i hi => stayF_congr h.1 h.2 i hi
  exact ⟨h1, fun j hj => stayF_congr h.2 h1 j hj⟩
theorem SameS.trans {n m s t u} (h : SameS n m s t) (k : SameS n m t u) : SameS n m s u := ⟨fun i hi => (h.1 i hi).trans (k.1 i hi), fun j hj => (h.2 j hj).trans (k.2 j hj)⟩
theorem SameS.symm {n m s t} (h : SameS n m s t) : SameS n m t s := ⟨fun i hi => (h.1 i hi).symm, fun j hj => (h.2 j hj).symm⟩
theorem SameS.refl (n m : Nat) (s : (Nat → Bool) × (Nat → Bool)) : SameS n m s s := ⟨fun _ _ => rfl, fun _ _ => rfl⟩
/-- Where a round changes nothing, none behind it does. -/
theorem loIt_fix {a b : List (List Int)} {n m k : Nat} (h : SameS n m (loIt a b n m (k + 1)) (loIt a b n m k)) : ∀ l, SameS n m (loIt a b n m (k + l)) (loIt a b n m k)
  | 0 => SameS.refl _ _ _
  | l + 1 => (show SameS n m (loStep a b n m (loIt a b n m (k + l))) (loIt a b n m k) from (loStep_congr (loIt_fix h l)).trans h)
/-- Two rounds that change nothing agree. -/
theorem loIt_one {a b : List (List Int)} {n m k l : Nat} (h : SameS n m (loIt a b n m (k + 1)) (loIt a b n m k)) (h' : SameS n m (loIt a b n m (l + 1)) (loIt a b n m l)) : SameS n m (loIt a b n m k) (loIt a b n m l) := by
  by_cases e : k ≤ l
  · obtain ⟨d, rfl⟩ := Nat.le.dest e; exact (loIt_fix h d).symm
  · obtain ⟨d, rfl⟩ := Nat.le.dest (show l ≤ k by omega); exact loIt_fix h' d
theorem selL_congr {f g : Nat → Bool} {n : Nat} (h : ∀ i, i < n → f i = g i) : selL f n = selL g n := by
  unfold selL; congr 1; exact List.filter_congr fun k hk => h k (List.mem_range.1 hk)
/-- What stays is all, if it is as many. -/
theorem sel_same {f g : Nat → Bool} {n : Nat} (hs : ∀ i, g i = true → f i = true) (h : (selL g n).length = (selL f n).length) : ∀ i, i < n → g i = f i := by
  have hl : (selL f n).filter (fun y => g y.toNat) = selL g n := by
    unfold selL
    rw [List.filter_map, List.filter_filter]
    congr 1
    apply List.filter_congr
    intro k _
    simp only [Function.comp, Int.toNat_natCast]
    cases e : g k
    · simp
    · rw [hs k e]; rfl
  have hall : ∀ y ∈ selL f n, g y.toNat = true := List.length_filter_eq_length_iff.1 (by rw [hl]; exact h)
  intro i hi
  cases e : f i
  · cases e2 : g i
    · rfl
    · rw [hs i e2] at e; cases e
  · simpa using hall i (selL_mem.2 ⟨i, hi, e, rfl⟩)
theorem stay_sub {a : List (List Int)} {f h : Nat → Bool} {n m i : Nat} (e : stayF a f h n m i = true) : f i = true := by
  unfold stayF at e; simp at e; exact e.1
theorem stay_le (a : List (List Int)) (f h : Nat → Bool) (n m : Nat) : (selL (stayF a f h n m) n).length ≤ (selL f n).length := by
  rw [← keepL_sel]; exact keepL_len a (selL f n) (selL h m) _
/-- As many as before: nothing was left out. -/
theorem lo_same {a b : List (List Int)} {n m : Nat} {s : (Nat → Bool) × (Nat → Bool)}
    (h : (selL (loStep a b n m s).1 n).length + (selL (loStep a b n m s).2 m).length = (selL s.1 n).length + (selL s.2 m).length) : SameS n m (loStep a b n m s) s := by
  have h1 := stay_le a s.1 s.2 n m
  have h2 := stay_le b s.2 (stayF a s.1 s.2 n m) m n
  simp only [loStep] at h
  exact ⟨sel_same (fun i => stay_sub) (by show (selL (stayF a s.1 s.2 n m) n).length = _; omega), sel_same (fun i => stay_sub) (by show (selL (stayF b s.2 (stayF a s.1 s.2 n m) m n) m).length = _; omega)⟩
theorem lo_less {a b : List (List Int)} {n m : Nat} {s : (Nat → Bool) × (Nat → Bool)}
    (h : (selL (loStep a b n m s).1 n).length + (selL (loStep a b n m s).2 m).length ≠ (selL s.1 n).length + (selL s.2 m).length) : (selL (loStep a b n m s).1 n).length + (selL (loStep a b n m s).2 m).length < (selL s.1 n).length + (selL s.2 m).length := by
  have h1 := stay_le a s.1 s.2 n m
  have h2 := stay_le b s.2 (stayF a s.1 s.2 n m) m n
  simp only [loStep] at h ⊢
  omega
end Go.Proofs.Ytjkmgpiiamffgaa

/- Tables as arrays of nine numbers. -/
namespace Go.Proofs.Ytjkmgpiiamffgaa
open Go.RowKit

/-- Nine cells, three rows one behind the other. -/
def cs9 (f : Nat → Nat → Int) : Array Value := #[.int .i64 (f 0 0), .int .i64 (f 0 1), .int .i64 (f 0 2), .int .i64 (f 1 0), .int .i64 (f 1 1), .int .i64 (f 1 2), .int .i64 (f 2 0), .int .i64 (f 2 1), .int .i64 (f 2 2)]
def upd9 (f : Nat → Nat → Int) (i j : Nat) (v : Int) : Nat → Nat → Int := fun r c => if r = i ∧ c = j then v else f r c
theorem lt3 {i : Nat} (h : i < 3) : i = 0 ∨ i = 1 ∨ i = 2 := by omega
theorem cs9_get (f : Nat → Nat → Int) {i j : Nat} (hi : i < 3) (hj : j < 3) : (cs9 f)[i * 3 + j]? = some (.int .i64 (f i j)) := by
  rcases lt3 hi with rfl | rfl | rfl <;> rcases lt3 hj with rfl | rfl | rfl <;> rfl
theorem cs9_congr {f g : Nat → Nat → Int} (h : ∀ r c, r < 3 → c < 3 → f r c = g r c) : cs9 f = cs9 g := by
  unfold cs9
  rw [h 0 0 (by omega) (by omega), h 0 1 (by omega) (by omega), h 0 2 (by omega) (by omega), h 1 0 (by omega) (by omega), h 1 1 (by omega) (by omega), h 1 2 (by omega) (by omega), h 2 0 (by omega) (by omega), h 2 1 (by omega) (by omega), h 2 2 (by omega) (by omega)]
theorem cs9_set (f : Nat → Nat → Int) {i j : Nat} (hi : i < 3) (hj : j < 3) (v : Int) : (cs9 f).setIfInBounds (i * 3 + j) (.int .i64 v) = cs9 (upd9 f i j v) := by
  rcases lt3 hi with rfl | rfl | rfl <;> rcases lt3 hj with rfl | rfl | rfl <;> rfl
/-- A table filled up to row i, column j. -/
def part9 (a : List (List Int)) (m i j : Nat) : Nat → Nat → Int := fun r c => if (r < i ∨ r = i ∧ c < j) ∧ c < m then g2 a r c else 0
def full9 (a : List (List Int)) (n m : Nat) : Nat → Nat → Int := fun r c => if r < n ∧ c < m then g2 a r c else 0
theorem part9_zero (a : List (List Int)) (m : Nat) : cs9 (part9 a m 0 0) = cs9 (fun _ _ => 0) := cs9_congr fun r c _ _ => by unfold part9; rw [if_neg (by omega)]
theorem part9_next (a : List (List Int)) (m i j : Nat) (hj : j < m) : cs9 (upd9 (part9 a m i j) i j (g2 a i j)) = cs9 (part9 a m i (j + 1)) := cs9_congr fun r c _ _ => by
  unfold upd9 part9
  by_cases e : r = i ∧ c = j
  · obtain ⟨rfl, rfl⟩ := e; rw [if_pos ⟨rfl, rfl⟩, if_pos (by omega)]
  · rw [if_neg e]
    by_cases h : (r < i ∨ r = i ∧ c < j) ∧ c < m
    · rw [if_pos h, if_pos (by omega)]
    · rw [if_neg h, if_neg (by omega)]
theorem part9_row (a : List (List Int)) (m i : Nat) : cs9 (part9 a m i m) = cs9 (part9 a m (i + 1) 0) := cs9_congr fun r c _ _ => by
  unfold part9
  by_cases h : (r < i ∨ r = i ∧ c < m) ∧ c < m
  · rw [if_pos h, if_pos (by omega)]
  · rw [if_neg h, if_neg (by omega)]
theorem part9_all (a : List (List Int)) (n m : Nat) : cs9 (part9 a m n 0) = cs9 (full9 a n m) := cs9_congr fun r c _ _ => by
  unfold part9 full9
  by_cases h : r < n ∧ c < m
  · rw [if_pos h, if_pos (by omega)]
  · rw [if_neg h, if_neg (by omega)]
abbrev agg9 (f : Nat → Nat → Int) : Value := .agg (cs9 f)
end Go.Proofs.Ytjkmgpiiamffgaa

/- Arrays compared: three numbers, three bools, nine numbers. -/
namespace Go.Proofs.Ytjkmgpiiamffgaa
open Go.RowKit

theorem info_i1 : (Try.prog.info? 3).map (·.size) = some 1 := by kernel_rfl
theorem run_sizeOf' {t : TypeId} {n : Nat} (h : (Try.prog.info? t).map (·.size) = some n) (w : World) : (sizeOf t).run Try.prog w = .ok n w := by
  cases hq : Try.prog.info? t with
  | none => simp [hq] at h
  | some i => simp [hq] at h; simp [sizeOf, typeInfo, hq, h]
theorem und_int : Try.prog.underlying 3 = some (.int .i64) := by kernel_rfl
theorem run_isAgg_no (w : World) : (isAgg 3).run Try.prog w = .ok false w := by
  unfold isAgg; rw [Sem.run_bind, run_underlying und_int w]; rfl
theorem run_part_int {cs : Array Value} {k : Nat} {v : Value} (h : cs[k]? = some v) (w : World) : (part 3 cs k).run Try.prog w = .ok v w := by
  unfold part; rw [Sem.run_bind, run_isAgg_no]; simp [h]
end Go.Proofs.Ytjkmgpiiamffgaa

