/- Texts merged: RN Math41 A6 J5 UD UE UF F1 EqF Pl1 Math25 Y1 FU K10 K11 Y8 UG J18 RI. -/
import Derived.Test.YtjkmgpiiamffgaaQ10
import Derived.Laws.OwnMore
/- A number ahead of a row: a new row; rows under way beside a list. -/
namespace Go.Proofs.Ytjkmgpiiamffgaa
open Go.RowKit

theorem run_append_empty {P : Program} (w : World) (base : Nat) (t ty e : TypeId) (i : TypeInfo) (size : Nat) (ht : P.underlying t = some (.slice e)) (hi : P.info? e = some i)
    (v : Value) (n : Nat) (xs : List Value) (hown : w.ownsRow base e size v n xs) (R : Option Addr) (c : Nat) :
    (Builtin.append_ #[t, t] ty #[v, .slice R 0 c]).run P w = .ok v w := by
  rcases hown.2 with ⟨rfl, rfl⟩ | ⟨g, cap, cur, rfl, _, _, hnc, _⟩
  · cases R <;> simp [Builtin.append_, run_underlying ht, sizeOf, typeInfo, hi, Builtin.lenOf, Builtin.firstCells, loadCells, loadCellsFrom]
  · cases R <;> simp [Builtin.append_, run_underlying ht, sizeOf, typeInfo, hi, Builtin.lenOf, Builtin.firstCells, loadCells, loadCellsFrom, hnc, storeCells]

/-- A number ahead of a row: a new row. -/
theorem row_new (w : World) (x : Int) (R : Option Addr) (m c : Nat) (r : List Int) (hr : Ints w R m c r) (hm : m ≤ 20) (hx : -9223372036854775808 ≤ x ∧ x ≤ 9223372036854775807) :
    ∃ A cc w5 g, (Builtin.append_ #[30, 30] 30 #[.slice (some ⟨w.heap.size, 0, none⟩) 1 1, .slice R m c]).run Try.prog (w.alloc (.cells #[.int .i64 x] 3)) = .ok (.slice A (x :: r).length cc) w5 ∧
      Below w.heap.size w w5 ∧ OwnI w.heap.size w5.heap.size w5 g A (x :: r).length cc (x :: r) := by
  obtain ⟨i0, hi0, hz0, hz1, hz2⟩ := info_parts Try.info_int
  have hb := below_alloc w (.cells #[.int .i64 x] 3)
  have hown : (w.alloc (.cells #[.int .i64 x] 3)).ownsRow w.heap.size 3 1 (.slice (some ⟨w.heap.size, 0, none⟩) 1 1) 1 [iv x] :=
    World.ownsRow_lit w #[.int .i64 x] 1 (Nat.le_refl _) (by unfold maxLen; omega) rfl
  have hwf : ∀ y ∈ x :: r, -9223372036854775808 ≤ y ∧ y ≤ 9223372036854775807 := by
    intro y hy
    rcases List.mem_cons.1 hy with rfl | hy
    · exact hx
    · exact hr.wf y hy
  have hl := hr.len
  have key : ∀ (v' : Value) (w5 : World), w5.ownsRow w.heap.size 3 1 v' (1 + m) ([iv x] ++ r.map iv) → (w.alloc (.cells #[.int .i64 x] 3)).grownBy w5 (some w.heap.size) →
      (v'.ownBlock = some w.heap.size ∨ v'.ownBlock = some (w.heap.size + 1)) →
      ∃ A cc g, v' = .slice A (x :: r).length cc ∧ Below w.heap.size w w5 ∧ OwnI w.heap.size w5.heap.size w5 g A (x :: r).length cc (x :: r) := by
    intro v' w5 ho hg hat
    have hz := hg.size
    simp only [World.size_alloc] at hz
    have hB : BldI w.heap.size w5.heap.size w5 v' (x :: r) := ⟨by
      have e : (x :: r).length = 1 + m := by rw [List.length_cons, hl]; omega
      rw [e]; exact ho, fun k hk => by
      rcases hat with hat | hat <;> (rw [hat] at hk; injection hk with hk; first | omega | (have := (ho.lt k (by rw [hat, hk])).2; omega))⟩
    obtain ⟨A, n, cc, g, rfl, rfl, hI, _⟩ := hB.owns (by rw [List.length_cons, hl]; omega) hwf
    exact ⟨A, cc, g, rfl, hb.grown hg (by simp) (fun k hk => by injection hk with hk; omega), hI⟩
  by_cases h0 : m = 0
  · subst h0
    have hr0 : r = [] := List.eq_nil_of_length_eq_zero hl
    subst hr0
    obtain ⟨A, cc, g, e, h1, h2⟩ := key (.slice (some ⟨w.heap.size, 0, none⟩) 1 1) (w.alloc (.cells #[.int .i64 x] 3)) (by simpa using hown) ⟨rfl, rfl, rfl, Nat.le_refl _, fun _ _ _ => rfl⟩ (.inl rfl)
    refine ⟨A, cc, _, g, ?_, h1, h2⟩
    rw [← e]
    exact run_append_empty _ w.heap.size _ _ 3 i0 1 Try.underlying30 hi0 _ 1 [iv x] hown R c
  · obtain ⟨b, o, rfl, hc⟩ := hr.at_ (by omega)
    obtain ⟨v', w5, e, ho, hg, _, hat⟩ := run_append_own_at (P := Try.prog) (w.alloc (.cells #[.int .i64 x] 3)) w.heap.size 30 30 3 i0 (.int .i64 0) 1 8 Try.underlying30 hi0 hz0 hz1 hz2 rfl (by decide) (.slice (some ⟨w.heap.size, 0, none⟩) 1 1) 1 [iv x] hown ⟨b, o, none⟩ m c (r.map iv)
      (by rw [List.length_map, hl]; omega) (by
        have h := news_take (w := w.alloc (.cells #[.int .i64 x] 3)) (j := r.length) (xs := r) (b := b) (o := o) rfl (fun k hk => Keep.below hb _ _ (hc k (by omega)))
        rw [List.take_length] at h; exact h) (ones_map _) (by unfold maxLen; omega) (by omega) (by simp)
    obtain ⟨A, cc, g, e', h1, h2⟩ := key v' w5 ho hg (by simpa [Value.ownBlock] using hat)
    exact ⟨A, cc, w5, g, by rw [← e']; exact e, h1, h2⟩

/-- Rows under way, and a list that is read beside them. -/
structure PI (w : World) (lo hi : Nat) (v : Value) (vs : List Value) (acc : List (List Int)) (gg : Nat) (A : Option Addr) (n c : Nat) (list : List (List Int)) (wr : World) : Prop where
  tm : TM w v vs acc wr
  li : OwnR lo hi wr gg A n c list
  hi_ : hi ≤ wr.heap.size
  far : ∀ k, v.ownBlock = some k → k < lo ∨ hi ≤ k
theorem PI.start {w w1 w2 : World} {v : Value} {vs : List Value} {acc : List (List Int)} {gg : Nat} {A : Option Addr} {n c : Nat} {list : List (List Int)} (h : TM w v vs acc w1) (ho : OwnR w1.heap.size w2.heap.size w2 gg A n c list) (hb : Below w1.heap.size w1 w2) :
    PI w w1.heap.size w2.heap.size v vs acc gg A n c list w2 :=
  ⟨h.next hb, ho, Nat.le_refl _, fun k hk => .inl (h.bo.hi_ k hk)⟩
theorem PI.push {w wr w5 w6 : World} {lo hi : Nat} {v v' : Value} {vs : List Value} {acc list : List (List Int)} {gg n c cr g : Nat} {A Ar : Option Addr} {r : List Int} (h : PI w lo hi v vs acc gg A n c list wr)
    (hk : Below wr.heap.size wr w5) (hr : OwnI wr.heap.size w5.heap.size w5 g Ar r.length cr r)
    (hown : w6.ownsRow w.heap.size 30 1 v' (acc.length + 1) (vs ++ [.slice Ar r.length cr])) (hgrow : (w5.alloc (.cells #[.slice Ar r.length cr] 30)).grownBy w6 v.ownBlock)
    (hat : v'.ownBlock = v.ownBlock ∨ v'.ownBlock = some (w5.heap.size + 1)) : PI w lo hi v' (vs ++ [.slice Ar r.length cr]) (acc ++ [r]) gg A n c list w6 := by
  have h1 := h.hi_
  have h2 := hk.size
  have h3 := hgrow.size
  simp only [World.size_alloc] at h3
  refine ⟨h.tm.push hk hr hown hgrow hat, h.li.of_blocks fun g h4 h5 h6 => ?_, by omega, fun k hk => ?_⟩
  · refine (hgrow.block g (by simp; omega) (fun e => ?_)).trans ((Below.heap_alloc _ _ _ (by omega)).trans (hk.block g h6))
    have := h.far g e.symm
    omega
  · rcases hat with hat | hat
    · exact h.far k (by rw [← hat]; exact hk)
    · rw [hat] at hk; injection hk with hk; omega

end Go.Proofs.Ytjkmgpiiamffgaa

/- All sizes of kinds: plain. -/
namespace Go.Proofs.Ytjkmgpiiamffgaa

/-- The rows from m down, t of them, with what comes behind each. -/
def ptsT (g : Nat → Nat → List (List Int)) (n m : Nat) : Nat → List (List Int)
  | 0 => []
  | t + 1 => ptsT g n m t ++ (g (n - (m - t)) (m - t)).map (fun r => ((m - t : Nat) : Int) :: r)
/-- All rows with the sum n, none greater than most (F: n at least). -/
def pts : Nat → Nat → Nat → List (List Int)
  | 0, _, _ => [[]]
  | F + 1, n, most => if n = 0 then [[]] else ptsT (pts F) n (min n most) (min n most)
theorem pts_all : ((List.range 8).all fun F => (List.range 8).all fun n => (List.range 8).all fun m => decide ((pts F n m).length ≤ 40) && (pts F n m).all fun r => decide (r.length ≤ 7) && r.all fun x => decide (0 ≤ x) && decide (x ≤ 7)) = true := by decide +kernel
theorem pts_bd0 (F : Nat) (hF : F < 8) (n : Nat) (hn : n < 8) (m : Nat) (hm : m < 8) : (pts F n m).length ≤ 40 ∧ (∀ r ∈ pts F n m, r.length ≤ 7 ∧ ∀ x ∈ r, 0 ≤ x ∧ x ≤ 7) := by
  have h := pts_all
  simp only [List.all_eq_true, List.mem_range, Bool.and_eq_true, decide_eq_true_eq] at h
  exact h F hF n hn m hm
theorem ptsT_bd0 : ∀ F, F < 7 → ∀ n, n < 8 → ∀ m, m < 8 → ∀ t, t ≤ m → (ptsT (pts F) n m t).length ≤ 50 := by decide +kernel
theorem pts_zero (F m : Nat) : pts F 0 m = [[]] := by cases F <;> rfl
theorem pts_pos {F n : Nat} (h : 0 < n) (m : Nat) : pts (F + 1) n m = ptsT (pts F) n (min n m) (min n m) := by
  show (if n = 0 then _ else _) = _
  rw [if_neg (by omega)]
theorem pts_row {F n m : Nat} (hF : F ≤ 7) (hn : n ≤ 7) (hm : m ≤ 7) {i : Nat} (hi : i < (pts F n m).length) : (gr (pts F n m) i).length ≤ 7 ∧ ∀ x ∈ gr (pts F n m) i, 0 ≤ x ∧ x ≤ 7 :=
  (pts_bd0 F (by omega) n (by omega) m (by omega)).2 _ (gr_mem hi)
/-- One row of what comes behind more. -/
theorem take_cons_succ (list : List (List Int)) (x : Int) {i : Nat} (h : i < list.length) :
    (list.take (i + 1)).map (fun r => x :: r) = (list.take i).map (fun r => x :: r) ++ [x :: gr list i] := by
  rw [List.take_succ_eq_append_getElem h, List.map_append, gr_get h]; rfl
end Go.Proofs.Ytjkmgpiiamffgaa

/- The harness of the exact laws: a copy of a game marked; how many numbers it has. -/
namespace Go.Proofs.Ytjkmgpiiamffgaa
open Go.RowKit

theorem szR_offs (left : Int) (xs : List (List Int)) (h : 0 ≤ szR left xs) : szR left xs = left - offs xs xs.length := by
  have key : ∀ (xs : List (List Int)) (left : Int), 0 ≤ szR left xs → szR left xs = left - ((xs.map List.length).sum : Nat) := by
    intro xs
    induction xs with
    | nil => intro left _; simp [szR]
    | cons x xs ih =>
      intro left h
      by_cases hn : szI left x.length < 0
      · rw [szR_neg hn] at h; omega
      · rw [szR_pos hn] at h ⊢
        rw [ih _ h]
        have : szI left x.length = left - x.length := by unfold szI at hn ⊢; split <;> simp_all
        rw [this]
        simp
        omega
  have key2 : ∀ k, k ≤ xs.length → offs xs k = (((xs.take k).map List.length).sum : Nat) := by
    intro k
    induction k with
    | zero => intro _; simp [offs]
    | succ k ih =>
      intro hk
      rw [offs, ih (by omega), List.take_succ_eq_append_getElem (by omega), List.map_append, List.sum_append, gr_get (by omega)]
      simp
  rw [key xs left h, key2 _ (Nat.le_refl _), List.take_length]
theorem szRR_offs {left : Int} {xs : List (List Int)} (h : ¬ szRR left xs < 0) : offs xs xs.length ≤ left := by
  unfold szRR at h
  split at h
  · omega
  · rename_i hn
    have := szR_offs _ _ (by omega : 0 ≤ szR (szI left xs.length) xs)
    have h2 : szI left xs.length ≤ left := by unfold szI at hn ⊢; split <;> simp_all; omega
    omega
theorem szG_offs {left : Int} {xs ys : List (List Int)} (h : ¬ szG left xs ys < 0) (h0 : 0 ≤ left) (h1 : left ≤ 1048576) : offs xs xs.length ≤ 1048576 ∧ offs ys ys.length ≤ 1048576 := by
  unfold szG at h
  split at h
  · omega
  · rename_i hn
    split at h
    · omega
    · rename_i hn2
      have := szRR_offs hn
      have := szRR_offs hn2
      have := szRR_le left xs h0 h1
      omega

/-- A game marked: only its own rows have turned, and new blocks are there. -/
def MarkedG (lo hi : Nat) (w : World) (xs ys : List (List Int)) (k : Int) (e : Ending) (w' : World) : Prop :=
  e = .returned (.int .i64 (k + offs xs xs.length + offs ys ys.length)) ∧ ∃ w1, Below w.heap.size w w1 ∧ Touch lo hi w1 w'

def MarkedP (lo hi : Nat) (w : World) (xs ys : List (List Int)) (k : Int) (n m : Nat) (e : Ending) (w' : World) : Prop :=
  e = .returned (.int .i64 (k + offs xs n + offs ys m)) ∧ ∃ w1, Below w.heap.size w w1 ∧ Touch lo hi w1 w'

set_option maxHeartbeats 1000000 in
theorem markGame_any (lo mid hi g g1 g2 n m : Nat) (xs ys : List (List Int)) (k : Int) (w : World) (hx : XS lo mid hi w g g1 g2 n m xs ys) (h0 : 0 ≤ k) (hk : k ≤ 1048576) (h1 : offs xs xs.length ≤ 1048576) (h2 : offs ys ys.length ≤ 1048576) :
    Calls Try.prog 50 #[.agg #[.slice (some ⟨g1, 0, none⟩) n n, .slice (some ⟨g2, 0, none⟩) m m], .int .i64 k] w (MarkedG lo hi w xs ys k) := by
  have hb0 := below_alloc w (.cells #[.slice (some ⟨g1, 0, none⟩) n n, .slice (some ⟨g2, 0, none⟩) m m] 54)
  have b0 := blk_new w 54 #[.slice (some ⟨g1, 0, none⟩) n n, .slice (some ⟨g2, 0, none⟩) m m]
  have HX := Lib.hid (hx.up hb0)
  have HB := Lib.hid hb0
  have HK := Lib.hid b0
  have hle := hx.le
  have hm1 := hx.h1
  have hm2 := hx.h2
  have hlx := hx.rx.len
  have hly := hx.ry.len
  have g1' := offs_ge xs xs.length
  have g2' := offs_ge ys ys.length
  rw [hlx] at h1 g1'
  rw [hly] at h2 g2'
  unfold MarkedG
  rw [hlx, hly]
  clear hx hb0 b0 hlx hly
  have HP : Hid (∀ e w', (e = .returned (.int .i64 (k + offs xs n + offs ys m)) ∧ ∃ w1, Below w.heap.size w w1 ∧ Touch lo hi w1 w') → MarkedP lo hi w xs ys k n m e w') := Lib.hid (fun _ _ h => h)
  suffices h : Calls Try.prog 50 #[.agg #[.slice (some ⟨g1, 0, none⟩) n n, .slice (some ⟨g2, 0, none⟩) m m], .int .i64 k] w (MarkedP lo hi w xs ys k n m) from h
  go_enter Try.func50, Try.ntmps50
  go_wp2_with fail
  generalize w.alloc (.cells #[.slice (some ⟨g1, 0, none⟩) n n, .slice (some ⟨g2, 0, none⟩) m m] 54) = W1 at *
  have HC := Lib.hid (markIntSS_any lo mid g1 _ n n xs k W1 HX.out.rx h0 (by omega))
  refine HC.out.mono ?_
  rintro e w1 ⟨rfl, _, hT⟩
  have hk1 := blk_touch HK.out hT (.inr (by omega))
  have c1 := blk_cell hk1 (i := 1) (v := .slice (some ⟨g2, 0, none⟩) m m) rfl
  have HC2 := Lib.hid (markIntSS_any mid hi g2 _ m m ys (k + offs xs n) w1 (HX.out.ry.touch hT (.inr (Nat.le_refl _))) (by omega) (by omega))
  have HT := Lib.hid hT
  clear hT HC
  go_wp2_with fail
  refine HC2.out.mono ?_
  rintro e w2 ⟨rfl, _, hT2⟩
  have HT2 := Lib.hid hT2
  clear hT2 HC2 c1
  go_wp2
  go_ret
  exact HP.out _ _ ⟨rfl, _, HB.out, (HT.out.mono (Nat.le_refl _) hm2).trans (HT2.out.mono hm1 (Nat.le_refl _))⟩

theorem offs_le {xss : List (List Int)} (h : ∀ r ∈ xss, r.length ≤ 3) : ∀ k, k ≤ xss.length → offs xss k ≤ 3 * k
  | 0, _ => by simp [offs]
  | k + 1, hk => by
    have h1 := offs_le h k (by omega)
    have h2 := h _ (gr_mem (xs := xss) (k := k) (by omega))
    simp only [offs]
    omega

/-- What an exact law on a game with rows as its result knows: its argument, the program's own copy of it, the model's rows, the program's rows. -/
structure Ex (w : World) (A B : Option Addr) (n c m d : Nat) (xs ys : List (List Int)) (lo mid hi g g3 g4 S1 gs : Nat) (As : Option Addr) (cs L1 L2 gg : Nat) (Ag : Option Addr) (cg : Nat) (rs rg : List (List Int)) (W : World) : Prop where
  fg : GS w W A B n c m d xs ys
  fx : XS lo mid hi W g g3 g4 n m xs ys
  fs : OwnR S1 lo W gs As rs.length cs rs
  fr : OwnR L1 L2 W gg Ag rs.length cg rg
  h1 : w.heap.size < lo
  h2 : hi ≤ L1
  h3 : lo ≤ hi
theorem Ex.up {w A B n c m d xs ys lo mid hi g g3 g4 S1 gs As cs L1 L2 gg Ag cg rs rg W W'} (h : Ex w A B n c m d xs ys lo mid hi g g3 g4 S1 gs As cs L1 L2 gg Ag cg rs rg W) (k : Below W.heap.size W W') :
    Ex w A B n c m d xs ys lo mid hi g g3 g4 S1 gs As cs L1 L2 gg Ag cg rs rg W' :=
  ⟨h.fg.up k, h.fx.up k, h.fs.below k, h.fr.below k, h.h1, h.h2, h.h3⟩
theorem Ex.cells {w A B n c m d xs ys lo mid hi g g3 g4 S1 gs As cs L1 L2 gg Ag cg rs rg W} (h : Ex w A B n c m d xs ys lo mid hi g g3 g4 S1 gs As cs L1 L2 gg Ag cg rs rg W) :
    (W.cell? ⟨w.heap.size, 0, none⟩ = some (.slice A n c) ∧ W.cell? ⟨w.heap.size, 1, none⟩ = some (.slice B m d)) ∧ (W.cell? ⟨g, 0, none⟩ = some (.slice (some ⟨g3, 0, none⟩) n n) ∧ W.cell? ⟨g, 1, none⟩ = some (.slice (some ⟨g4, 0, none⟩) m m)) :=
  ⟨⟨h.fg.c0, h.fg.c1⟩, ⟨h.fx.c0, h.fx.c1⟩⟩
/-- .. behind the marks: the copy is no longer asked for. -/
structure Ey (w : World) (A B : Option Addr) (n c m d : Nat) (xs ys : List (List Int)) (lo S1 gs : Nat) (As : Option Addr) (cs L1 L2 gg : Nat) (Ag : Option Addr) (cg : Nat) (rs rg : List (List Int)) (W : World) : Prop where
  fg : GS w W A B n c m d xs ys
  fs : OwnR S1 lo W gs As rs.length cs rs
  fr : OwnR L1 L2 W gg Ag rs.length cg rg
  h1 : w.heap.size < lo
  h2 : lo ≤ L1
theorem Ey.up {w A B n c m d xs ys lo S1 gs As cs L1 L2 gg Ag cg rs rg W W'} (h : Ey w A B n c m d xs ys lo S1 gs As cs L1 L2 gg Ag cg rs rg W) (k : Below W.heap.size W W') : Ey w A B n c m d xs ys lo S1 gs As cs L1 L2 gg Ag cg rs rg W' :=
  ⟨h.fg.up k, h.fs.below k, h.fr.below k, h.h1, h.h2⟩
theorem Ex.mark {w A B n c m d xs ys lo mid hi g g3 g4 S1 gs As cs L1 L2 gg Ag cg rs rg W W1 W2} (h : Ex w A B n c m d xs ys lo mid hi g g3 g4 S1 gs As cs L1 L2 gg Ag cg rs rg W) (k : Below W.heap.size W W1) (t : Touch lo hi W1 W2) :
    Ey w A B n c m d xs ys lo S1 gs As cs L1 L2 gg Ag cg rs rg W2 :=
  ⟨(h.fg.up k).touch t h.h1, (h.fs.below k).touch t (.inl (Nat.le_refl _)), (h.fr.below k).touch t (.inr h.h2), h.h1, Nat.le_trans h.h3 h.h2⟩
theorem Ey.mark {w A B n c m d xs ys lo S1 gs As cs L1 L2 gg Ag cg rs rg rg' W W2} (h : Ey w A B n c m d xs ys lo S1 gs As cs L1 L2 gg Ag cg rs rg W) (t : Touch L1 L2 W W2) (hg : OwnR L1 L2 W2 gg Ag rs.length cg rg') :
    Ey w A B n c m d xs ys lo S1 gs As cs L1 L2 gg Ag cg rs rg' W2 :=
  ⟨h.fg.touch t (Nat.lt_of_lt_of_le h.h1 h.h2), h.fs.touch t (.inl h.h2), hg, h.h1, h.h2⟩
end Go.Proofs.Ytjkmgpiiamffgaa

/- PartsOf, by both programs. -/
namespace Go.Proofs.Ytjkmgpiiamffgaa
open Go.RowKit

/-- A table of one empty row. -/
theorem NewT.one_empty {w w' : World} {R : Option Addr} {g : Nat} (hb : Below w.heap.size w w') (hg : w.heap.size ≤ g) (hB : Blk w' g 30 #[.slice R 0 0]) : NewT w [[]] (.returned (.slice (some ⟨g, 0, Option.none⟩) 1 1)) w' :=
  ⟨_, _, _, g, rfl, rfl, ⟨rfl, Nat.le_refl _, by omega, fun _ => ⟨0, fun _ => g, fun _ => R, fun _ => 0, rfl, hg, blk_lt hB, fun k hk => by
    obtain rfl : k = 0 := by omega
    exact ⟨blk_frozen hB _, blk_cell hB rfl, ⟨⟨rfl, Nat.le_refl _, by show (0 : Nat) ≤ _; omega, fun x hx => by simp [gr] at hx, fun h => by simp [gr] at h⟩, fun h => by simp [gr] at h⟩, fun h => by simp [gr] at h⟩, fun j k _ hk h => by simp at hk; subst hk; simp [gr] at h; omega⟩⟩, hb⟩

/-- What PartsOf answers. -/
noncomputable def ptV (n : Int) : List (List Int) := if pb (InR n 1 7) = true then pts 7 n.toNat n.toNat else []
theorem pt_no {n : Int} (h : ¬ InR n 1 7) : ptV n = [] := by unfold ptV; rw [if_neg (by rw [pb_false h]; decide)]
theorem pt_yes {n : Nat} (h : InR n 1 7) : ptV n = pts 7 n n := by unfold ptV; rw [if_pos (pb_true h), Int.toNat_natCast]
theorem offs_le7 {xss : List (List Int)} (h : ∀ r ∈ xss, r.length ≤ 7) : ∀ k, k ≤ xss.length → offs xss k ≤ 7 * k
  | 0, _ => by simp [offs]
  | k + 1, hk => by
    have h1 := offs_le7 h k (by omega)
    have h2 := h _ (gr_mem (xs := xss) (k := k) (by omega))
    simp only [offs]
    omega
theorem pt_offs (n : Int) : offs (ptV n) (ptV n).length ≤ 1000000 := by
  by_cases h : InR n 1 7
  · obtain ⟨n, rfl⟩ : ∃ k : Nat, n = (k : Int) := ⟨n.toNat, by unfold InR at h; omega⟩
    have h7 : n ≤ 7 := by unfold InR at h; omega
    rw [pt_yes h]
    have hb := pts_bd0 7 (by omega) n (by omega) n (by omega)
    have h2 := offs_le7 (fun r hr => (hb.2 r hr).1) _ (Nat.le_refl (pts 7 n n).length)
    omega
  · rw [pt_no h]; simp [offs]

end Go.Proofs.Ytjkmgpiiamffgaa

/- Pairs drawn, with numbers of players. -/
namespace Go.Proofs.Ytjkmgpiiamffgaa
open Go.RowKit

/-- The world with a table of two rows of two numbers, written out. -/
def lit2W (w : World) (x y z t : Int) : World := ((w.alloc (.cells #[iv x, iv y] 3)).alloc (.cells #[iv z, iv t] 3)).alloc (.cells #[.slice (some ⟨w.heap.size, 0, none⟩) 2 2, .slice (some ⟨w.heap.size + 1, 0, none⟩) 2 2] 30)
def lit2V (w : World) : List Value := [.slice (some ⟨w.heap.size, 0, none⟩) 2 2, .slice (some ⟨w.heap.size + 1, 0, none⟩) 2 2]
theorem lit2_below (w : World) (x y z t : Int) : Below w.heap.size w (lit2W w x y z t) := below_up (below_up (below_alloc w _) (below_alloc _ _)) (below_alloc _ _)
theorem lit2_size (w : World) (x y z t : Int) : (lit2W w x y z t).heap.size = w.heap.size + 3 := by simp [lit2W]
theorem own_two {W : World} {lo hi b : Nat} {x y : Int} (hb : Blk W b 3 #[iv x, iv y]) (h1 : lo ≤ b) (h2 : b < hi) (hx : -9223372036854775808 ≤ x ∧ x ≤ 9223372036854775807) (hy : -9223372036854775808 ≤ y ∧ y ≤ 9223372036854775807) :
    OwnI lo hi W b (some ⟨b, 0, none⟩) 2 2 [x, y] := by
  refine ⟨⟨rfl, Nat.le_refl _, by omega, fun v hv => ?_, fun _ => ⟨b, 0, rfl, fun k hk => ?_⟩⟩, fun _ => ⟨0, rfl, h1, h2, fun k _ => blk_frozen hb _⟩⟩
  · simp at hv; rcases hv with rfl | rfl <;> assumption
  · have h : k = 0 ∨ k = 1 := by omega
    rcases h with rfl | rfl
    · exact blk_cell hb (i := 0) rfl
    · exact blk_cell hb (i := 1) rfl
theorem Bld.lit2 (w : World) {x y z t : Int} (hx : -1000 ≤ x ∧ x ≤ 1000) (hy : -1000 ≤ y ∧ y ≤ 1000) (hz : -1000 ≤ z ∧ z ≤ 1000) (ht : -1000 ≤ t ∧ t ≤ 1000) :
    Bld w.heap.size (w.heap.size + 3) (lit2W w x y z t) (.slice (some ⟨w.heap.size + 1 + 1, 0, none⟩) 2 2) (lit2V w) [[x, y], [z, t]] := by
  have b0 := blk_old (blk_old (blk_new w 3 #[iv x, iv y]) (.cells #[iv z, iv t] 3)) (.cells #[.slice (some ⟨w.heap.size, 0, none⟩) 2 2, .slice (some ⟨w.heap.size + 1, 0, none⟩) 2 2] 30)
  have b1 := blk_old (blk_new (w.alloc (.cells #[iv x, iv y] 3)) 3 #[iv z, iv t]) (.cells #[.slice (some ⟨w.heap.size, 0, none⟩) 2 2, .slice (some ⟨w.heap.size + 1, 0, none⟩) 2 2] 30)
  have b2 := blk_new ((w.alloc (.cells #[iv x, iv y] 3)).alloc (.cells #[iv z, iv t] 3)) 30 #[.slice (some ⟨w.heap.size, 0, none⟩) 2 2, .slice (some ⟨w.heap.size + 1, 0, none⟩) 2 2]
  simp only [World.size_alloc] at b1 b2
  refine ⟨⟨rfl, .inr ⟨w.heap.size + 1 + 1, 2, #[.slice (some ⟨w.heap.size, 0, none⟩) 2 2, .slice (some ⟨w.heap.size + 1, 0, none⟩) 2 2], rfl, by omega, b2, Nat.le_refl _, by decide, rfl, by simp [lit2V]⟩⟩, fun k hk => by simp [Value.ownBlock] at hk; omega, fun k => w.heap.size + k, fun k => some ⟨w.heap.size + k, 0, none⟩, fun _ => 2, fun k hk => ?_, fun j k hjk _ _ _ => by show w.heap.size + j ≠ w.heap.size + k; omega⟩
  have h : k = 0 ∨ k = 1 := by simp at hk; omega
  rcases h with rfl | rfl
  · exact ⟨rfl, own_two (b := w.heap.size) b0 (Nat.le_refl _) (by omega) (by omega) (by omega), fun _ => by simp [Value.ownBlock]; omega⟩
  · exact ⟨rfl, own_two (b := w.heap.size + 1) b1 (by omega) (by omega) (by omega) (by omega), fun _ => by simp [Value.ownBlock]⟩
theorem TO.lit2 {w0 wb g A l c p} (h : Rdr w0 wb g A l c p) {x y z t : Int} (hx : -1000 ≤ x ∧ x ≤ 1000) (hy : -1000 ≤ y ∧ y ≤ 1000) (hz : -1000 ≤ z ∧ z ≤ 1000) (ht : -1000 ≤ t ∧ t ≤ 1000) :
    TO w0 wb g A l c p (.slice (some ⟨wb.heap.size + 1 + 1, 0, none⟩) 2 2) (lit2V wb) [[x, y], [z, t]] (lit2W wb x y z t) :=
  ⟨h.below_ (lit2_below _ _ _ _ _), by rw [lit2_size]; exact Bld.lit2 wb hx hy hz ht, blk_lt h.box, grown_of_below (lit2_below _ _ _ _ _)⟩

set_option maxRecDepth 100000 in
set_option maxHeartbeats 1600000 in
theorem somePair_any (w0 w : World) (g : Nat) (A : Option Addr) (l c p : Nat) (h : Rdr w0 w g A l c p) (hp : p < 800000000) :
    Calls Try.prog 56 #[.pointer (some ⟨g, 0, none⟩)] w (SomeT w0 g A l c p w) := by
  have H1 := Lib.hid (one_lit w0 w _ g A l c p w.heap.size 3 [9, 4, 2] h (by omega) (below_alloc w (.cells #[iv 9, iv 4, iv 2] 3)) (Nat.le_refl _) (Ints.lit w [9, 4, 2] (by decide) (by decide)) (by omega))
  clear h
  go_enter Try.func56, Try.ntmps56
  go_wp2_with fail
  refine H1.out.mono ?_
  rintro e w1 ⟨x, rfl, hx, hr, hgr⟩
  have hx1 : 2 ≤ x ∧ x ≤ 9 := by simp at hx; omega
  have HG1 := Lib.hid hgr
  have H4 := Lib.hid (tableOf_any w0 w1 g A l c (p + 1) 2 2 1 x hr (by omega) (by omega) (by omega) (by omega) (by omega) (by omega))
  clear hx hr hgr H1
  go_wp2_with fail
  refine H4.out.mono ?_
  rintro e w4 ⟨Av, cv, vs, xss, p4, rfl, hl, hxs, hto, hp4⟩
  have HTO := Lib.hid hto
  have HSM := Lib.hid (show Small xss from ⟨by omega, fun r hr => ⟨by have := (hxs r hr).1; omega, fun y hy => by have := (hxs r hr).2 y hy; omega⟩⟩)
  have HL := Lib.hid hl
  have H5 := Lib.hid (pick_any w0 w4 g A l c p4 8 hto.rd (by omega))
  clear hxs hto H4 hl
  go_wp2_with fail
  refine H5.out.mono ?_
  rintro e w5 ⟨k, rfl, hk1, _, hr, z, hw⟩
  have hone := Rdr.one (g := g) w4 (.int .i64 (p4 + 1 : Nat)) z
  rw [← hw] at hone
  have HT5 := Lib.hid (HTO.out.one hr hone)
  have HG5 := Lib.hid (grown_trans HG1.out HT5.out.up)
  clear hr hone hw hk1 H5 HTO
  by_cases e0 : k = 0
  · subst e0
    have H6 := Lib.hid (pick_any w0 w5 g A l c (p4 + 1) 9 HT5.out.rd (by omega))
    clear HSM HL HG1
    go_wp2_with fail
    refine H6.out.mono ?_
    rintro e w6 hpk
    obtain ⟨m, rfl, hm, hrd, hgr⟩ := hpk.one
    have hm := hm (by omega)
    obtain ⟨hm1, hm2⟩ := hm
    have HT6 := Lib.hid (TO.lit2 hrd (x := 1 + m) (y := 1 + m) (z := 1 + m) (t := 1 + m) (by omega) (by omega) (by omega) (by omega))
    have HG6 := Lib.hid (grown_trans HG5.out hgr)
    have HSM := Lib.hid (show Small [[1 + m, 1 + m], [1 + m, 1 + m]] from ⟨by simp, fun r hr => by
      simp at hr; subst hr; exact ⟨by simp, fun y hy => by simp at hy; omega⟩⟩)
    have H7 := Lib.hid (spoil_any w0 w6 (lit2W w6 (1 + m) (1 + m) (1 + m) (1 + m)) g A l c (p4 + 2) _ 2 (lit2V w6) [[1 + m, 1 + m], [1 + m, 1 + m]] HT6.out (by omega) HSM.out (by simp))
    clear hpk hrd hgr H6 HT5 HG5
    go_wp2_with fail
    refine H7.out.mono ?_
    rintro e w7 ⟨v', vs', xss', p', rfl, hs, hto, hp5⟩
    have HTO := Lib.hid hto
    have HSM2 := Lib.hid hs
    clear hs hto H7
    go_wp2
    go_ret
    exact ⟨_, _, _, _, _, rfl, HSM2.out, HTO.out, by omega, HG6.out⟩
  · have hz : (k == 0) = false := by simpa using e0
    have H7 := Lib.hid (spoil_any w0 w1 w5 g A l c (p4 + 1) Av cv vs xss (by rw [HL.out]; exact HT5.out) (by omega) HSM.out (by rw [HL.out]; omega))
    rw [HL.out] at H7
    clear e0
    go_wp2_with fail
    refine H7.out.mono ?_
    rintro e w7 ⟨v', vs', xss', p', rfl, hs, hto, hp5⟩
    have HTO := Lib.hid hto
    have HSM2 := Lib.hid hs
    clear hs hto H7
    go_wp2
    go_ret
    exact ⟨_, _, _, _, _, rfl, HSM2.out, HTO.out, by omega, HG1.out⟩
end Go.Proofs.Ytjkmgpiiamffgaa

/- Pairs and numbers of players drawn from bytes. -/
namespace Go.Proofs.Ytjkmgpiiamffgaa
open Go.RowKit

/-- A drawn table and a number; and another number. -/
def DrawnTN (w : World) (e : Ending) (w' : World) : Prop :=
  ∃ Av n c gg xss, ∃ k : Int, e = .returned (.tuple #[.slice Av n c, .int .i64 k]) ∧ (1 ≤ k ∧ k ≤ 7) ∧ Small xss ∧ OwnR w.heap.size w'.heap.size w' gg Av n c xss ∧ Below w.heap.size w w'
def DrawnTNI (w : World) (e : Ending) (w' : World) : Prop :=
  ∃ Av n c gg xss, ∃ k i : Int, e = .returned (.tuple #[.slice Av n c, .int .i64 k, .int .i64 i]) ∧ (1 ≤ k ∧ k ≤ 7) ∧ (-1 ≤ i ∧ i ≤ 8) ∧ Small xss ∧ OwnR w.heap.size w'.heap.size w' gg Av n c xss ∧ Below w.heap.size w w'
set_option maxRecDepth 100000 in
set_option maxHeartbeats 1600000 in
theorem DrawFixedOnes_any (A : Option Addr) (n c : Nat) (w : World) (h : Bytes w A n c) :
    Calls Try.prog 25 #[.slice A n c] w (DrawnTN w) := by
  have H0 := Lib.hid (newReader_any A n c w h)
  clear h
  go_enter Try.func25, Try.ntmps25
  go_wp2_with fail
  refine H0.out.mono ?_
  rintro e w1 ⟨A1, l, c1, rfl, hl, hr, hs⟩
  have H1 := Lib.hid (somePair_any w w1 w.heap.size A1 l c1 0 hr (by omega))
  clear hr hl H0
  go_wp2_with fail
  refine H1.out.mono ?_
  rintro e w2 ⟨wb, v', vs', xss', p', rfl, hsm, hto, hp, hg⟩
  have hsz := hg.size
  obtain ⟨Av, nv, cv, gg, rfl, hnv, hown⟩ := hto.bo.owns (by have := hsm.n; omega)
  have HO := Lib.hid (hown.mono (show w.heap.size + 1 ≤ wb.heap.size by have := hto.gl; omega) (Nat.le_refl _))
  have HS := Lib.hid hsm
  have H2 := Lib.hid (one_lit w w2 _ w.heap.size A1 l c1 p' w2.heap.size 7 [3, 4, 2, 5, 6, 1, 7] hto.rd (by omega) (below_alloc w2 (.cells #[iv 3, iv 4, iv 2, iv 5, iv 6, iv 1, iv 7] 3)) (Nat.le_refl _) (Ints.lit w2 [3, 4, 2, 5, 6, 1, 7] (by decide) (by decide)) (by omega))
  clear hsm hto hown hg H1 hnv
  go_wp2_with fail
  refine H2.out.mono ?_
  rintro e w3 ⟨k, rfl, hx, hr, hgr⟩
  have hk : 1 ≤ k ∧ k ≤ 7 := by simp at hx; omega
  have HO3 := Lib.hid ((HO.out.grown hgr (by omega)).mono (Nat.le_refl _) hgr.size)
  have HR3 := Lib.hid hr
  clear hx hr hgr H2 HO
  go_wp2
  go_ret2
  exact ⟨_, _, _, _, _, k, rfl, hk, HS.out, HO3.out.mono (Nat.le_succ _) (Nat.le_refl _), HR3.out.below⟩
set_option maxRecDepth 100000 in
set_option maxHeartbeats 1600000 in
theorem DrawOddsOf_any (A : Option Addr) (n c : Nat) (w : World) (h : Bytes w A n c) :
    Calls Try.prog 13 #[.slice A n c] w (DrawnTN w) := by
  have H0 := Lib.hid (newReader_any A n c w h)
  clear h
  go_enter Try.func13, Try.ntmps13
  go_wp2_with fail
  refine H0.out.mono ?_
  rintro e w1 ⟨A1, l, c1, rfl, hl, hr, hs⟩
  have H1 := Lib.hid (somePair_any w w1 w.heap.size A1 l c1 0 hr (by omega))
  clear hr hl H0
  go_wp2_with fail
  refine H1.out.mono ?_
  rintro e w2 ⟨wb, v', vs', xss', p', rfl, hsm, hto, hp, hg⟩
  have hsz := hg.size
  obtain ⟨Av, nv, cv, gg, rfl, hnv, hown⟩ := hto.bo.owns (by have := hsm.n; omega)
  have HO := Lib.hid (hown.mono (show w.heap.size + 1 ≤ wb.heap.size by have := hto.gl; omega) (Nat.le_refl _))
  have HS := Lib.hid hsm
  have H2 := Lib.hid (one_lit w w2 _ w.heap.size A1 l c1 p' w2.heap.size 7 [3, 4, 2, 5, 6, 1, 7] hto.rd (by omega) (below_alloc w2 (.cells #[iv 3, iv 4, iv 2, iv 5, iv 6, iv 1, iv 7] 3)) (Nat.le_refl _) (Ints.lit w2 [3, 4, 2, 5, 6, 1, 7] (by decide) (by decide)) (by omega))
  clear hsm hto hown hg H1 hnv
  go_wp2_with fail
  refine H2.out.mono ?_
  rintro e w3 ⟨k, rfl, hx, hr, hgr⟩
  have hk : 1 ≤ k ∧ k ≤ 7 := by simp at hx; omega
  have HO3 := Lib.hid ((HO.out.grown hgr (by omega)).mono (Nat.le_refl _) hgr.size)
  have HR3 := Lib.hid hr
  clear hx hr hgr H2 HO
  go_wp2
  go_ret2
  exact ⟨_, _, _, _, _, k, rfl, hk, HS.out, HO3.out.mono (Nat.le_succ _) (Nat.le_refl _), HR3.out.below⟩
set_option maxRecDepth 100000 in
set_option maxHeartbeats 1600000 in
theorem DrawPaysAt_any (A : Option Addr) (n c : Nat) (w : World) (h : Bytes w A n c) :
    Calls Try.prog 21 #[.slice A n c] w (DrawnTNI w) := by
  have H0 := Lib.hid (newReader_any A n c w h)
  clear h
  go_enter Try.func21, Try.ntmps21
  go_wp2_with fail
  refine H0.out.mono ?_
  rintro e w1 ⟨A1, l, c1, rfl, hl, hr, hs⟩
  have H1 := Lib.hid (somePair_any w w1 w.heap.size A1 l c1 0 hr (by omega))
  clear hr hl H0
  go_wp2_with fail
  refine H1.out.mono ?_
  rintro e w2 ⟨wb, v', vs', xss', p', rfl, hsm, hto, hp, hg⟩
  have hsz := hg.size
  obtain ⟨Av, nv, cv, gg, rfl, hnv, hown⟩ := hto.bo.owns (by have := hsm.n; omega)
  have HO := Lib.hid (hown.mono (show w.heap.size + 1 ≤ wb.heap.size by have := hto.gl; omega) (Nat.le_refl _))
  have HS := Lib.hid hsm
  have H2 := Lib.hid (one_lit w w2 _ w.heap.size A1 l c1 p' w2.heap.size 7 [3, 4, 2, 5, 6, 1, 7] hto.rd (by omega) (below_alloc w2 (.cells #[iv 3, iv 4, iv 2, iv 5, iv 6, iv 1, iv 7] 3)) (Nat.le_refl _) (Ints.lit w2 [3, 4, 2, 5, 6, 1, 7] (by decide) (by decide)) (by omega))
  clear hsm hto hown hg H1 hnv
  go_wp2_with fail
  refine H2.out.mono ?_
  rintro e w3 ⟨k, rfl, hx, hr, hgr⟩
  have hk : 1 ≤ k ∧ k ≤ 7 := by simp at hx; omega
  have HO3 := Lib.hid ((HO.out.grown hgr (by omega)).mono (Nat.le_refl _) hgr.size)
  have HR3 := Lib.hid hr
  clear hx hr hgr H2 HO
  have H4 := Lib.hid (pick_any w w3 w.heap.size A1 l c1 (p' + 1) (k + 1) HR3.out (by omega))
  obtain ⟨hk1, hk2⟩ := hk
  go_wp2_with fail
  refine H4.out.mono ?_
  rintro e w4 hpk
  obtain ⟨m1, rfl, hm, hrd, hgr⟩ := hpk.one
  have hm := hm (by omega)
  have HO4 := Lib.hid ((HO3.out.grown hgr (by omega)).mono (Nat.le_refl _) hgr.size)
  have HR4 := Lib.hid hrd
  obtain ⟨hm1, hm2⟩ := hm
  clear hpk hrd hgr H4 HO3 HR3
  have H5 := Lib.hid (pick_any w w4 w.heap.size A1 l c1 (p' + 1 + 1) (k + 1) HR4.out (by omega))
  go_wp2_with fail
  refine H5.out.mono ?_
  rintro e w5 hpk
  obtain ⟨m2, rfl, hm, hrd, hgr⟩ := hpk.one
  have hm := hm (by omega)
  have HO5 := Lib.hid ((HO4.out.grown hgr (by omega)).mono (Nat.le_refl _) hgr.size)
  have HR5 := Lib.hid hrd
  obtain ⟨hm3, hm4⟩ := hm
  clear hpk hrd hgr H5 HO4 HR4
  have H6 := Lib.hid (one_lit w w5 _ w.heap.size A1 l c1 (p' + 1 + 1 + 1) w5.heap.size 7 [1, m1, m2, k, 0, k + 1, -1] HR5.out (by omega) (below_alloc w5 (.cells #[iv 1, iv m1, iv m2, iv k, iv 0, iv (k + 1), iv (-1)] 3)) (Nat.le_refl _) (Ints.lit w5 [1, m1, m2, k, 0, k + 1, -1] (by simp) (by intro x hx; simp at hx; omega)) (by omega))
  go_wp2_with fail
  refine H6.out.mono ?_
  rintro e w6 ⟨i, rfl, hx, hr, hgr⟩
  have hi : -1 ≤ i ∧ i ≤ 8 := by simp at hx; omega
  have HO6 := Lib.hid ((HO5.out.grown hgr (by omega)).mono (Nat.le_succ _) hgr.size)
  have HB6 := Lib.hid hr.below
  clear hx hr hgr H6 HO5 HR5
  go_wp2
  refine bodyPost_ret (v := .tuple #[.slice Av nv cv, .int .i64 k, .int .i64 i]) (by simp [results, Try.results21, go_sem]) rfl ?_
  exact ⟨_, _, _, _, _, k, i, rfl, ⟨hk1, hk2⟩, hi, HS.out, HO6.out, HB6.out⟩
set_option maxRecDepth 100000 in
set_option maxHeartbeats 1600000 in
theorem DrawFixedFrom_any (A : Option Addr) (n c : Nat) (w : World) (h : Bytes w A n c) :
    Calls Try.prog 18 #[.slice A n c] w (DrawnTNI w) := by
  have H0 := Lib.hid (newReader_any A n c w h)
  clear h
  go_enter Try.func18, Try.ntmps18
  go_wp2_with fail
  refine H0.out.mono ?_
  rintro e w1 ⟨A1, l, c1, rfl, hl, hr, hs⟩
  have H1 := Lib.hid (somePair_any w w1 w.heap.size A1 l c1 0 hr (by omega))
  clear hr hl H0
  go_wp2_with fail
  refine H1.out.mono ?_
  rintro e w2 ⟨wb, v', vs', xss', p', rfl, hsm, hto, hp, hg⟩
  have hsz := hg.size
  obtain ⟨Av, nv, cv, gg, rfl, hnv, hown⟩ := hto.bo.owns (by have := hsm.n; omega)
  have HO := Lib.hid (hown.mono (show w.heap.size + 1 ≤ wb.heap.size by have := hto.gl; omega) (Nat.le_refl _))
  have HS := Lib.hid hsm
  have H2 := Lib.hid (one_lit w w2 _ w.heap.size A1 l c1 p' w2.heap.size 7 [3, 4, 2, 5, 6, 1, 7] hto.rd (by omega) (below_alloc w2 (.cells #[iv 3, iv 4, iv 2, iv 5, iv 6, iv 1, iv 7] 3)) (Nat.le_refl _) (Ints.lit w2 [3, 4, 2, 5, 6, 1, 7] (by decide) (by decide)) (by omega))
  clear hsm hto hown hg H1 hnv
  go_wp2_with fail
  refine H2.out.mono ?_
  rintro e w3 ⟨k, rfl, hx, hr, hgr⟩
  have hk : 1 ≤ k ∧ k ≤ 7 := by simp at hx; omega
  have HO3 := Lib.hid ((HO.out.grown hgr (by omega)).mono (Nat.le_refl _) hgr.size)
  have HR3 := Lib.hid hr
  clear hx hr hgr H2 HO
  have H4 := Lib.hid (pick_any w w3 w.heap.size A1 l c1 (p' + 1) (k + 1) HR3.out (by omega))
  obtain ⟨hk1, hk2⟩ := hk
  go_wp2_with fail
  refine H4.out.mono ?_
  rintro e w4 hpk
  obtain ⟨m1, rfl, hm, hrd, hgr⟩ := hpk.one
  have hm := hm (by omega)
  have HO4 := Lib.hid ((HO3.out.grown hgr (by omega)).mono (Nat.le_refl _) hgr.size)
  have HR4 := Lib.hid hrd
  obtain ⟨hm1, hm2⟩ := hm
  clear hpk hrd hgr H4 HO3 HR3
  have H5 := Lib.hid (pick_any w w4 w.heap.size A1 l c1 (p' + 1 + 1) (k + 1) HR4.out (by omega))
  go_wp2_with fail
  refine H5.out.mono ?_
  rintro e w5 hpk
  obtain ⟨m2, rfl, hm, hrd, hgr⟩ := hpk.one
  have hm := hm (by omega)
  have HO5 := Lib.hid ((HO4.out.grown hgr (by omega)).mono (Nat.le_refl _) hgr.size)
  have HR5 := Lib.hid hrd
  obtain ⟨hm3, hm4⟩ := hm
  clear hpk hrd hgr H5 HO4 HR4
  have H6 := Lib.hid (one_lit w w5 _ w.heap.size A1 l c1 (p' + 1 + 1 + 1) w5.heap.size 7 [1, m1, m2, k, 0, k + 1, -1] HR5.out (by omega) (below_alloc w5 (.cells #[iv 1, iv m1, iv m2, iv k, iv 0, iv (k + 1), iv (-1)] 3)) (Nat.le_refl _) (Ints.lit w5 [1, m1, m2, k, 0, k + 1, -1] (by simp) (by intro x hx; simp at hx; omega)) (by omega))
  go_wp2_with fail
  refine H6.out.mono ?_
  rintro e w6 ⟨i, rfl, hx, hr, hgr⟩
  have hi : -1 ≤ i ∧ i ≤ 8 := by simp at hx; omega
  have HO6 := Lib.hid ((HO5.out.grown hgr (by omega)).mono (Nat.le_succ _) hgr.size)
  have HB6 := Lib.hid hr.below
  clear hx hr hgr H6 HO5 HR5
  go_wp2
  refine bodyPost_ret (v := .tuple #[.slice Av nv cv, .int .i64 k, .int .i64 i]) (by simp [results, Try.results18, go_sem]) rfl ?_
  exact ⟨_, _, _, _, _, k, i, rfl, ⟨hk1, hk2⟩, hi, HS.out, HO6.out, HB6.out⟩

end Go.Proofs.Ytjkmgpiiamffgaa

/- Tables of two rows written out, whichever row is made first. -/
namespace Go.Proofs.Ytjkmgpiiamffgaa
open Go.RowKit

theorem lit2_rows (w : World) {x y z t : Int} (hx : -1000 ≤ x ∧ x ≤ 1000) (hy : -1000 ≤ y ∧ y ≤ 1000) (hz : -1000 ≤ z ∧ z ≤ 1000) (ht : -1000 ≤ t ∧ t ≤ 1000) :
    IntRows (((w.alloc (.cells #[.int .i64 x, .int .i64 y] 3)).alloc (.cells #[.int .i64 z, .int .i64 t] 3)).alloc (.cells #[.slice (some ⟨w.heap.size, 0, none⟩) 2 2, .slice (some ⟨w.heap.size + 1, 0, none⟩) 2 2] 30)) (some ⟨w.heap.size + 1 + 1, 0, none⟩) 2 2 [[x, y], [z, t]] := by
  obtain ⟨A, n, c, g, e, hn, ho⟩ := (Bld.lit2 w hx hy hz ht).owns (by simp)
  injection e with e1 e2 e3
  subst e1
  subst e2
  subst e3
  exact ho.rows
theorem lit2_rowsB (w : World) {x y z t : Int} (hx : -1000 ≤ x ∧ x ≤ 1000) (hy : -1000 ≤ y ∧ y ≤ 1000) (hz : -1000 ≤ z ∧ z ≤ 1000) (ht : -1000 ≤ t ∧ t ≤ 1000) :
    IntRows (((w.alloc (.cells #[.int .i64 z, .int .i64 t] 3)).alloc (.cells #[.int .i64 x, .int .i64 y] 3)).alloc (.cells #[.slice (some ⟨w.heap.size + 1, 0, none⟩) 2 2, .slice (some ⟨w.heap.size, 0, none⟩) 2 2] 30)) (some ⟨w.heap.size + 1 + 1, 0, none⟩) 2 2 [[x, y], [z, t]] := by
  have b0 := blk_old (blk_old (blk_new w 3 #[iv z, iv t]) (.cells #[iv x, iv y] 3)) (.cells #[.slice (some ⟨w.heap.size + 1, 0, none⟩) 2 2, .slice (some ⟨w.heap.size, 0, none⟩) 2 2] 30)
  have b1 := blk_old (blk_new (w.alloc (.cells #[iv z, iv t] 3)) 3 #[iv x, iv y]) (.cells #[.slice (some ⟨w.heap.size + 1, 0, none⟩) 2 2, .slice (some ⟨w.heap.size, 0, none⟩) 2 2] 30)
  have b2 := blk_new ((w.alloc (.cells #[iv z, iv t] 3)).alloc (.cells #[iv x, iv y] 3)) 30 #[.slice (some ⟨w.heap.size + 1, 0, none⟩) 2 2, .slice (some ⟨w.heap.size, 0, none⟩) 2 2]
  simp only [World.size_alloc] at b1 b2
  have hb : Bld w.heap.size (w.heap.size + 3) (((w.alloc (.cells #[iv z, iv t] 3)).alloc (.cells #[iv x, iv y] 3)).alloc (.cells #[.slice (some ⟨w.heap.size + 1, 0, none⟩) 2 2, .slice (some ⟨w.heap.size, 0, none⟩) 2 2] 30)) (.slice (some ⟨w.heap.size + 1 + 1, 0, none⟩) 2 2) [.slice (some ⟨w.heap.size + 1, 0, none⟩) 2 2, .slice (some ⟨w.heap.size, 0, none⟩) 2 2] [[x, y], [z, t]] := by
    refine ⟨⟨rfl, .inr ⟨w.heap.size + 1 + 1, 2, #[.slice (some ⟨w.heap.size + 1, 0, none⟩) 2 2, .slice (some ⟨w.heap.size, 0, none⟩) 2 2], rfl, by omega, b2, Nat.le_refl _, by decide, rfl, by simp⟩⟩, fun k hk => by simp [Value.ownBlock] at hk; omega, fun k => w.heap.size + 1 - k, fun k => some ⟨w.heap.size + 1 - k, 0, none⟩, fun _ => 2, fun k hk => ?_, fun j k hjk hk _ _ => by simp at hk; show w.heap.size + 1 - j ≠ w.heap.size + 1 - k; omega⟩
    have h : k = 0 ∨ k = 1 := by simp at hk; omega
    rcases h with rfl | rfl
    · exact ⟨rfl, own_two (b := w.heap.size + 1) b1 (by omega) (by omega) (by omega) (by omega), fun _ => by simp [Value.ownBlock]⟩
    · exact ⟨by simp [gr], own_two (b := w.heap.size) b0 (Nat.le_refl _) (by omega) (by omega) (by omega), fun _ => by simp [Value.ownBlock]; omega⟩
  obtain ⟨A, n, c, g, e, hn, ho⟩ := hb.owns (by simp)
  injection e with e1 e2 e3
  subst e1
  subst e2
  subst e3
  exact ho.rows
theorem lit2_up (w : World) (a b c : Obj) : Below w.heap.size w (((w.alloc a).alloc b).alloc c) := below_up (below_up (below_alloc w _) (below_alloc _ _)) (below_alloc _ _)
theorem lit2_rowsD (w : World) {x y z t : Int} (hx : -1000 ≤ x ∧ x ≤ 1000) (hy : -1000 ≤ y ∧ y ≤ 1000) (hz : -1000 ≤ z ∧ z ≤ 1000) (ht : -1000 ≤ t ∧ t ≤ 1000) : IntRows (((w.alloc (.cells #[.int .i64 x, .int .i64 y] 3)).alloc (.cells #[.int .i64 z, .int .i64 t] 3)).alloc (.cells #[.slice (some ⟨w.heap.size, 0, none⟩) 2 2, .slice (some ⟨w.heap.size + 1, 0, none⟩) 2 2] 30)).drew (some ⟨w.heap.size + 1 + 1, 0, none⟩) 2 2 [[x, y], [z, t]] := (lit2_rows w hx hy hz ht).keep (Keep.drewN _ 1)
theorem lit2_rowsBD (w : World) {x y z t : Int} (hx : -1000 ≤ x ∧ x ≤ 1000) (hy : -1000 ≤ y ∧ y ≤ 1000) (hz : -1000 ≤ z ∧ z ≤ 1000) (ht : -1000 ≤ t ∧ t ≤ 1000) : IntRows (((w.alloc (.cells #[.int .i64 z, .int .i64 t] 3)).alloc (.cells #[.int .i64 x, .int .i64 y] 3)).alloc (.cells #[.slice (some ⟨w.heap.size + 1, 0, none⟩) 2 2, .slice (some ⟨w.heap.size, 0, none⟩) 2 2] 30)).drew (some ⟨w.heap.size + 1 + 1, 0, none⟩) 2 2 [[x, y], [z, t]] := (lit2_rowsB w hx hy hz ht).keep (Keep.drewN _ 1)
theorem lit2_upD (w : World) (a b c : Obj) : Below w.heap.size w (((w.alloc a).alloc b).alloc c).drew := (lit2_up w a b c).drew
theorem keep_al1 (w : World) (a : Obj) : Keep w (w.alloc a).drew := Keep.below (below_alloc w a).drew
theorem keep_al2 (w : World) (a b : Obj) : Keep w ((w.alloc a).alloc b).drew := Keep.below (below_up (below_alloc w a) (below_alloc _ b)).drew
theorem keep_al3 (w : World) (a b c : Obj) : Keep w (((w.alloc a).alloc b).alloc c).drew := Keep.below (lit2_upD w a b c)
end Go.Proofs.Ytjkmgpiiamffgaa

/- The harness of the exact laws, for slices of fractions. -/
namespace Go.Proofs.Ytjkmgpiiamffgaa
open Go.RowKit

/-- A slice of fractions whose cells read as ints, two each. -/
structure Frs (w : World) (A : Option Addr) (n c : Nat) (L : List Int) : Prop where
  len : L.length = 2 * n
  cap : n ≤ c
  max : n ≤ 1000
  at_ : 0 < n → ∃ b o, A = some ⟨b, o, none⟩ ∧ ∀ k, k < 2 * n → w.cell? ⟨b, o + k, none⟩ = some (.int .i64 (gi L k))
theorem Frs.keep {w w' : World} {A n c L} (h : Frs w A n c L) (k : Keep w w') : Frs w' A n c L :=
  ⟨h.len, h.cap, h.max, fun hn => let ⟨b, o, e, hc⟩ := h.at_ hn; ⟨b, o, e, fun i hi => k _ _ (hc i hi)⟩⟩
structure OwnF (lo hi : Nat) (w : World) (b : Nat) (A : Option Addr) (n c : Nat) (L : List Int) : Prop where
  frs : Frs w A n c L
  own : 0 < n → ∃ o, A = some ⟨b, o, none⟩ ∧ lo ≤ b ∧ b < hi ∧ ∀ k, k < 2 * n → w.frozen? ⟨b, o + k, none⟩ = false
theorem OwnF.lt {lo hi w b A n c L} (h : OwnF lo hi w b A n c L) (hn : 0 < n) : b < w.heap.size := by
  obtain ⟨b', o', e, hc⟩ := h.frs.at_ hn
  obtain ⟨o, e', _⟩ := h.own hn
  rw [e] at e'
  injection e' with e'
  injection e' with e1 _ _
  rw [← e1]
  exact World.block_lt_of_cell? w _ (hc 0 (by omega))
theorem OwnF.of_block {lo hi w w' b A n c L} (h : OwnF lo hi w b A n c L) (e : 0 < n → w'.heap[b]? = w.heap[b]?) : OwnF lo hi w' b A n c L := by
  refine ⟨⟨h.frs.len, h.frs.cap, h.frs.max, fun hn => ?_⟩, fun hn => ?_⟩
  · obtain ⟨b', o', e1, hc⟩ := h.frs.at_ hn
    obtain ⟨o, e2, _⟩ := h.own hn
    rw [e1] at e2
    injection e2 with e2
    injection e2 with e2 _ _
    subst e2
    exact ⟨b', o', e1, fun k hk => by rw [World.cell?_of_block (w := w) (e hn)]; exact hc k hk⟩
  · obtain ⟨o, e2, hB, hB2, hf⟩ := h.own hn
    exact ⟨o, e2, hB, hB2, fun k hk => by rw [World.frozen?_of_block (w := w) (e hn)]; exact hf k hk⟩
theorem OwnF.mono {lo hi lo' hi' w b A n c L} (h : OwnF lo hi w b A n c L) (hB : lo' ≤ lo) (hB' : hi ≤ hi') : OwnF lo' hi' w b A n c L :=
  ⟨h.frs, fun hn => let ⟨o, e, h1, h2, h3⟩ := h.own hn; ⟨o, e, Nat.le_trans hB h1, Nat.lt_of_lt_of_le h2 hB', h3⟩⟩
theorem OwnF.below {lo hi w w' b A n c L} (h : OwnF lo hi w b A n c L) (k : Below w.heap.size w w') : OwnF lo hi w' b A n c L := h.of_block fun hn => k.block _ (h.lt hn)
theorem OwnF.touch {lo hi lo' hi' w w' b A n c L} (h : OwnF lo hi w b A n c L) (k : Touch lo' hi' w w') (hd : hi ≤ lo' ∨ hi' ≤ lo) : OwnF lo hi w' b A n c L :=
  h.of_block fun hn => k.block _ (by obtain ⟨_, _, h1, h2, _⟩ := h.own hn; omega)
theorem OwnF.one {lo hi g w w' b A n c L} (h : OwnF lo hi w b A n c L) (k : One g w w') (hne : b ≠ g) : OwnF lo hi w' b A n c L := h.of_block fun _ => k.block b hne
theorem OwnF.nil (lo hi : Nat) (w : World) (b : Nat) : OwnF lo hi w b none 0 0 [] :=
  ⟨⟨rfl, Nat.le_refl _, by omega, fun h => absurd h (by omega)⟩, fun h => absurd h (by omega)⟩
theorem OwnF.set {lo hi w b o n c L} (h : OwnF lo hi w b (some ⟨b, o, none⟩) n c L) {i : Nat} (hi' : i < 2 * n) (v : Int) :
    OwnF lo hi (w.setCell ⟨b, o + i, none⟩ (.int .i64 v)) b (some ⟨b, o, none⟩) n c (L.set i v) := by
  have hl := h.frs.len
  obtain ⟨o', e, h1, h2, hf⟩ := h.own (by omega)
  injection e with e
  injection e with _ e _
  subst e
  obtain ⟨b', o', e, hc⟩ := h.frs.at_ (by omega)
  injection e with e
  injection e with e1 e2 _
  subst e1
  subst e2
  refine ⟨⟨by rw [List.length_set]; exact hl, h.frs.cap, h.frs.max, fun _ => ⟨b, o, rfl, fun k hk => ?_⟩⟩, fun _ => ⟨o, rfl, h1, h2, fun k hk => ?_⟩⟩
  · by_cases e : k = i
    · subst e
      rw [gi_set_eq (by omega), World.cell?_setCell_same w _ _ (hc k hk)]
    · rw [gi_set_ne (by omega) e, World.cell?_setCell_other w _ _ _ (fun e' => by injection e' with _ e' _; omega)]
      exact hc k hk
  · rw [World.frozen?_setCell]; exact hf k hk
/-- A new slice of fractions. -/
def NewF (w : World) (L : List Int) (e : Ending) (w' : World) : Prop :=
  ∃ Av n c gg, e = .returned (.slice Av n c) ∧ L.length = 2 * n ∧ OwnF w.heap.size w'.heap.size w' gg Av n c L ∧ Below w.heap.size w w'
theorem NewF.ge {w w' : World} {L : List Int} {e : Ending} (h : NewF w L e w') :
    ∃ Av c gg, e = .returned (.slice Av (L.length / 2) c) ∧ OwnF w.heap.size w'.heap.size w' gg Av (L.length / 2) c L ∧ w.heap.size ≤ gg ∧ Below w.heap.size w w' := by
  obtain ⟨Av, n, c, gg, rfl, hn, ho, hb⟩ := h
  obtain rfl : n = L.length / 2 := by omega
  by_cases h0 : 0 < L.length / 2
  · obtain ⟨o, e, h1, h2, hf⟩ := ho.own h0
    exact ⟨Av, c, gg, rfl, ho, h1, hb⟩
  · exact ⟨Av, c, w.heap.size, rfl, ⟨ho.frs, fun hn => absurd hn h0⟩, Nat.le_refl _, hb⟩

theorem NewF.geN {w w' : World} {L : List Int} {e : Ending} {N : Nat} (h : NewF w L e w') (hN : L.length = 2 * N) :
    ∃ Av c gg, e = .returned (.slice Av N c) ∧ OwnF w.heap.size w'.heap.size w' gg Av N c L ∧ w.heap.size ≤ gg ∧ Below w.heap.size w w' := by
  have := h.ge
  rw [show L.length / 2 = N by omega] at this
  exact this


def MarkedF (lo hi : Nat) (w : World) (b : Nat) (A : Option Addr) (n c : Nat) (k : Int) (e : Ending) (w' : World) : Prop :=
  e = .returned (.int .i64 (k + (2 * n : Nat))) ∧ OwnF lo hi w' b A n c (seqI k (2 * n)) ∧ (n = 0 → w = w') ∧ One b w w'


end Go.Proofs.Ytjkmgpiiamffgaa

/- Lists of fractions compared. -/
namespace Go.Proofs.Ytjkmgpiiamffgaa
open Go.RowKit

end Go.Proofs.Ytjkmgpiiamffgaa

/- Fractions of whole numbers; one alone is a share; the pure rests. Plain. -/
namespace Go.Proofs.Ytjkmgpiiamffgaa

theorem fr_one (u : Int) : frU u 1 = u ∧ frD u 1 = 1 := by
  have g : gcdI u 1 = 1 := by unfold gcdI; simp
  unfold frU frD; rw [g]; simp
theorem frV_one (u : Int) : frV u 1 = .agg #[.int .i64 u, .int .i64 1] := by unfold frV; rw [(fr_one u).1, (fr_one u).2]
theorem onl_VS {n i : Nat} (hi : i < n) : VS (onl n i) n :=
  ⟨by rw [onl_len], fun j hj => by rw [onl_len] at hj; have := onl_bd (n := n) (i := i) hj; exact ⟨this.1, by omega⟩, by rw [tot_onl hi]; omega⟩
theorem rowRests_mem {a b : List (List Int)} {n m i : Nat} {r : List Int} : ∀ {j : Nat}, r ∈ rowRests a b n m i j ↔ ∃ l, l < j ∧ r = [(i : Int), (l : Int)] ∧ RestAt a b n m i l
  | 0 => by simp [rowRests]
  | j + 1 => by
    rw [rowRests, List.mem_append, rowRests_mem]
    constructor
    · rintro (⟨l, h1, h2⟩ | h)
      · exact ⟨l, by omega, h2⟩
      · split at h
        · rename_i hp
          simp only [List.mem_singleton] at h
          exact ⟨j, by omega, h, pb_iff.1 hp⟩
        · simp at h
    · rintro ⟨l, h1, h2, h3⟩
      by_cases e : l = j
      · subst e
        right
        rw [if_pos (pb_true h3), h2]; simp
      · exact .inl ⟨l, by omega, h2, h3⟩
theorem allRests_mem {a b : List (List Int)} {n m : Nat} {r : List Int} : ∀ {i : Nat}, r ∈ allRests a b n m i ↔ ∃ k l, k < i ∧ l < m ∧ r = [(k : Int), (l : Int)] ∧ RestAt a b n m k l
  | 0 => by simp [allRests]
  | i + 1 => by
    rw [allRests, List.mem_append, allRests_mem, rowRests_mem]
    constructor
    · rintro (⟨k, l, h1, h2⟩ | ⟨l, h2⟩)
      · exact ⟨k, l, by omega, h2⟩
      · exact ⟨i, l, by omega, h2⟩
    · rintro ⟨k, l, h1, h2⟩
      by_cases e : k = i
      · subst e; exact .inr ⟨l, h2⟩
      · exact .inl ⟨k, l, by omega, h2⟩
end Go.Proofs.Ytjkmgpiiamffgaa

/- At rest no one has more than the mean, and each one with a share has it. Plain. -/
namespace Go.Proofs.Ytjkmgpiiamffgaa

theorem payR_dot' (a : List (List Int)) (x y : List Int) (i : Nat) : ∀ j, payR a x y i j = gi x i * dotr a y i j
  | 0 => by simp [payR, dotr]
  | j + 1 => by
    rw [payR, dotr, payR_dot' a x y i j, Int.mul_add]
    congr 1
    grind
theorem payU_next (a : List (List Int)) (x y : List Int) (m k : Nat) : payU a x y m (k + 1) = payU a x y m k + gi x k * dotr a y k m := by
  rw [payU, payR_dot']
theorem payU_same {a : List (List Int)} {x : List Int} {n : Nat} {M : Int} : ∀ {k}, (∀ i, i < k → 0 ≤ gi x i) → (∀ i, i < k → 0 < gi x i → dotr a x i n = M) → payU a x x n k = M * sm x k
  | 0, _, _ => by simp [payU, sm]
  | k + 1, h0, h => by
    rw [payU_next, sm, payU_same (fun i hi => h0 i (by omega)) (fun i hi => h i (by omega)), Int.mul_add]
    congr 1
    by_cases e : 0 < gi x k
    · rw [h k (by omega) e, Int.mul_comm]
    · have : gi x k = 0 := by have := h0 k (by omega); omega
      rw [this]; simp
theorem sm_one {x : List Int} : ∀ {k}, (∀ j, j < k → 0 ≤ gi x j) → 0 < sm x k → ∃ j, j < k ∧ 0 < gi x j
  | 0, _, h => by simp [sm] at h
  | k + 1, h0, h => by
    by_cases e : 0 < gi x k
    · exact ⟨k, by omega, e⟩
    · rw [sm] at h
      obtain ⟨j, hj, hp⟩ := sm_one (k := k) (fun j hj => h0 j (by omega)) (by have := h0 k (by omega); omega)
      exact ⟨j, by omega, hp⟩
/-- Strategy i has no more than the mean, and has it if it has a share. -/
def MeanOk (a : List (List Int)) (x : List Int) (n : Nat) (i : Nat) : Prop := ¬ payU a x x n n < dotr a x i n * tot x ∧ (0 < gi x i → dotr a x i n * tot x = payU a x x n n)
theorem rest_mean {a : List (List Int)} {x : List Int} {n : Nat} (hx : VS x n) : RestP a x n ↔ ∀ i, i < n → MeanOk a x n i := by
  have hl : x.length = n := by have := hx.1; omega
  have h0 : ∀ j, j < n → 0 ≤ gi x j := fun j hj => (VS.bds hx j hj).1
  have ht : tot x = sm x n := by unfold tot; rw [hl]
  have hp : 0 < tot x := hx.2.2
  constructor
  · intro h
    obtain ⟨j, hj, hjp⟩ := sm_one h0 (by rw [← ht]; exact hp)
    have hP : payU a x x n n = dotr a x j n * tot x := by
      rw [ht]
      exact payU_same h0 fun i hi hip => by have := h i hi hip j hj; have := h j hj hjp i hi; omega
    intro i hi
    refine ⟨?_, fun hip => ?_⟩
    · rw [hP]
      have := Int.mul_le_mul_of_nonneg_right (h j hj hjp i hi) (Int.le_of_lt hp)
      omega
    · rw [hP]
      have e : dotr a x i n = dotr a x j n := by have := h i hi hip j hj; have := h j hj hjp i hi; omega
      rw [e]
  · intro h i hi hip k hk
    have h1 := (h i hi).2 hip
    have h2 := (h k hk).1
    rw [← h1] at h2
    exact Int.le_of_mul_le_mul_right (by omega) hp
/-- The fractions that the law compares. -/
theorem mean_frac {P d T : Int} (hT : 0 < T) : (lessB (frU P (T * T)) (frD P (T * T)) (frU d T) (frD d T) = decide (P < d * T)) ∧ ((frU d T = frU P (T * T) ∧ frD d T = frD P (T * T)) ↔ d * T = P) := by
  have hTT : 0 < T * T := Int.mul_pos hT hT
  have e1 : d * (T * T) = d * T * T := by rw [Int.mul_assoc]
  constructor
  · unfold lessB
    rw [decide_eq_decide, fr_lt hTT hT, e1]
    exact ⟨fun h => Int.lt_of_mul_lt_mul_right h (Int.le_of_lt hT), fun h => Int.mul_lt_mul_of_pos_right h hT⟩
  · constructor
    · rintro ⟨h1, h2⟩
      have k1 := fr_lt (u := d) (d := T) (v := P) (e := T * T) hT hTT
      have k2 := fr_lt (u := P) (d := T * T) (v := d) (e := T) hTT hT
      rw [h1, h2] at k1 k2
      have n1 : ¬ d * (T * T) < P * T := fun h => by have := k1.2 h; omega
      have n2 : ¬ P * T < d * (T * T) := fun h => by have := k2.2 h; omega
      rw [e1] at n1 n2
      exact Int.eq_of_mul_eq_mul_right (by omega) (show d * T * T = P * T by omega)
    · intro h
      exact fr_eq hT hTT (by rw [e1, h])
end Go.Proofs.Ytjkmgpiiamffgaa

/- Small functions of the laws. -/
namespace Go.Proofs.Ytjkmgpiiamffgaa
open Go.RowKit

set_option maxHeartbeats 400000 in
theorem divisor_any (a b : Int) (w : World) (ha : Mid a) (hb : Mid b) :
    Calls Try.prog 66 #[.int .i64 a, .int .i64 b] w fun e w' => e = .returned (.int .i64 (gcdI a b)) ∧ Quiet w w' := by
  have HA := Lib.hid ha
  have HB := Lib.hid hb
  clear ha hb
  go_enter Try.func66, Try.ntmps66
  go_wp2
  go_loopw [0, 1] (fun s t wr => ∃ x y : Int, s = .int .i64 x ∧ t = .int .i64 y ∧ Hid (Mid x) ∧ Hid (Mid y) ∧ Hid (gcdI x y = gcdI a b) ∧ Quiet w wr) (fun _ t _ => (intOf t).natAbs)
  case atStart => exact ⟨a, b, rfl, rfl, HA, HB, Lib.hid rfl, Quiet.refl _⟩
  case round =>
    obtain ⟨x, y, rfl, rfl, HX, HY, HG, q, rfl⟩ := hrel
    obtain ⟨x1, x2⟩ := HX.out
    obtain ⟨y1, y2⟩ := HY.out
    by_cases hy : y = 0
    · subst hy
      have hg := Lib.hid (gcdI_zero x)
      go_wp2
      all_goals go_ret
      all_goals exact ⟨ret_int (by rw [← HG.out, hg.out]; omega), ⟨_, rfl⟩⟩
    · have hy' : (y != 0) = true := by simpa using hy
      have HM := Lib.hid (HX.out.tmod (y := y))
      have HS := Lib.hid (gcdI_step x y)
      have HT := Lib.hid (tmod_abs (a := x) hy)
      go_wp2
      go_roundw
      case rel => exact ⟨y, x.tmod y, rfl, rfl, HY, HM, Lib.hid (HS.out.trans HG.out), ⟨_, rfl⟩⟩
      case measure => have := HT.out; simpa [intOf] using this

set_option maxHeartbeats 400000 in
theorem lessOf_any (u d v e : Int) (w : World) (hu : -1000000000 ≤ u ∧ u ≤ 1000000000) (hv : -1000000000 ≤ v ∧ v ≤ 1000000000) (hd : 0 ≤ d ∧ d ≤ 1000000000) (he : 0 ≤ e ∧ e ≤ 1000000000) :
    Calls Try.prog 24 #[.agg #[.int .i64 u, .int .i64 d], .agg #[.int .i64 v, .int .i64 e]] w (Ret (.bool (lessB u d v e)) w) := by
  obtain ⟨p1, p2⟩ := less_bd hu he
  obtain ⟨p3, p4⟩ := less_bd hv hd
  have b0 := blk_old (blk_new w 27 #[.int .i64 u, .int .i64 d]) (.cells #[.int .i64 v, .int .i64 e] 27)
  have b1 := blk_new (w.alloc (.cells #[.int .i64 u, .int .i64 d] 27)) 27 #[.int .i64 v, .int .i64 e]
  have HB := Lib.hid (below_up (below_alloc w (.cells #[.int .i64 u, .int .i64 d] 27)) (below_alloc _ (.cells #[.int .i64 v, .int .i64 e] 27)))
  rw [World.size_alloc] at b1
  have c0 := blk_cell b0 (i := 0) rfl
  have c1 := blk_cell b0 (i := 1) rfl
  have c2 := blk_cell b1 (i := 0) rfl
  have c3 := blk_cell b1 (i := 1) rfl
  go_enter Try.func24, Try.ntmps24
  go_wp2
  go_ret
  exact ⟨rfl, HB.out⟩
set_option maxHeartbeats 1000000 in
theorem fracOfL_any (u d : Int) (w : World) (hu : Mid u) (hd : Mid d) (h1 : 1 ≤ d) :
    Calls Try.prog 17 #[.int .i64 u, .int .i64 d] w (Ret (frV u d) w) := by
  have HQ := Lib.hid (fun W => divisor_any u d W hu hd)
  have hg1 := gcdI_pos (a := u) (b := d) (by omega)
  have hg2 := gcdI_le (a := u) (b := d) (by omega)
  obtain ⟨u1, u2⟩ := hu
  obtain ⟨d1, d2⟩ := hd
  have hB := Lib.hid (below_alloc w (.cells #[.int .i64 0, .int .i64 0] 27))
  go_enter Try.func17, Try.ntmps17
  go_wp2_with fail
  refine (HQ.out _).mono ?_
  rintro e w2 ⟨rfl, hq⟩
  have HFU : Hid (frU u d = u.tdiv (gcdI u d)) := Lib.hid rfl
  have HFD : Hid (frD u d = d / gcdI u d) := Lib.hid (by unfold frD; rw [Int.tdiv_eq_ediv_of_nonneg (by omega)])
  have b0 := blk_quiet (blk_new w 27 #[.int .i64 0, .int .i64 0]) hq
  have HBW := Lib.hid (below_quiet hB.out hq)
  clear hq hB HQ
  generalize gcdI u d = g at *
  have c0 := blk_cell b0 (i := 0) rfl
  have c1 := blk_cell b0 (i := 1) rfl
  have f0 := blk_frozen b0 0
  have f1 := blk_frozen b0 1
  have g0 : (g == 0) = false := by simp; omega
  go_wp2
  go_region
  all_goals clear c0 c1 f0 f1
  all_goals go_wp2
  have B1 := blk_set (blk_set b0 0 (.int .i64 (u.tdiv g))) 1 (.int .i64 (d / g))
  have r0 := blk_cell B1 (i := 0) (v := .int .i64 (u.tdiv g)) rfl
  have r1 := blk_cell B1 (i := 1) (v := .int .i64 (d / g)) rfl
  have HBX := Lib.hid ((HBW.out.setCell (p := ⟨w.heap.size, 0, none⟩) (Nat.le_refl _) (.int .i64 (u.tdiv g))).setCell (p := ⟨w.heap.size, 1, none⟩) (Nat.le_refl _) (.int .i64 (d / g))).drew
  replace r0 : ((w2.setCell ⟨w.heap.size, 0, none⟩ (.int .i64 (u.tdiv g))).setCell ⟨w.heap.size, 1, none⟩ (.int .i64 (d / g))).drew.cell? ⟨w.heap.size, 0, none⟩ = some (.int .i64 (u.tdiv g)) := r0
  replace r1 : ((w2.setCell ⟨w.heap.size, 0, none⟩ (.int .i64 (u.tdiv g))).setCell ⟨w.heap.size, 1, none⟩ (.int .i64 (d / g))).drew.cell? ⟨w.heap.size, 1, none⟩ = some (.int .i64 (d / g)) := r1
  clear B1 b0 HBW
  generalize ((w2.setCell ⟨w.heap.size, 0, none⟩ (.int .i64 (u.tdiv g))).setCell ⟨w.heap.size, 1, none⟩ (.int .i64 (d / g))).drew = W3 at *
  refine bodyPost_ret (v := .agg #[.int .i64 (u.tdiv g), .int .i64 (d / g)]) (by simp [results, Try.results17, go_sem, r0, r1]) rfl ?_
  exact ⟨by rw [frV, HFU.out, HFD.out], HBX.out⟩
set_option maxHeartbeats 1000000 in
theorem timesOf_any (u d v e : Int) (w : World) (hu : -1000000 ≤ u ∧ u ≤ 1000000) (hv : -1000000 ≤ v ∧ v ≤ 1000000) (hd : 1 ≤ d ∧ d ≤ 1000000) (he : 1 ≤ e ∧ e ≤ 1000000) :
    Calls Try.prog 16 #[.agg #[.int .i64 u, .int .i64 d], .agg #[.int .i64 v, .int .i64 e]] w (Ret (frV (u * v) (d * e)) w) := by
  obtain ⟨p1, p2⟩ := mulbd (x := u) (y := e) (A := 1000000) (B := 1000000) hu (by omega)
  obtain ⟨p3, p4⟩ := mulbd (x := v) (y := d) (A := 1000000) (B := 1000000) hv (by omega)
  obtain ⟨p5, p6⟩ := mulbd (x := d) (y := e) (A := 1000000) (B := 1000000) (by omega) (by omega)
  obtain ⟨p7, p8⟩ := mulbd (x := u) (y := v) (A := 1000000) (B := 1000000) hu hv
  have p9 : 1 ≤ d * e := by have h : 1 * 1 ≤ d * e := Int.mul_le_mul hd.1 he.1 (by omega) (by omega); omega
  have HC := Lib.hid (fun W => fracOfL_any (u * v) (d * e) W (by unfold Mid; omega) (by unfold Mid; omega) p9)
  have b0 := blk_old (blk_old (blk_new w 27 #[.int .i64 u, .int .i64 d]) (.cells #[.int .i64 v, .int .i64 e] 27)) (.cells #[.int .i64 0, .int .i64 0] 27)
  have b1 := blk_old (blk_new (w.alloc (.cells #[.int .i64 u, .int .i64 d] 27)) 27 #[.int .i64 v, .int .i64 e]) (.cells #[.int .i64 0, .int .i64 0] 27)
  have b2 := blk_new ((w.alloc (.cells #[.int .i64 u, .int .i64 d] 27)).alloc (.cells #[.int .i64 v, .int .i64 e] 27)) 27 #[.int .i64 0, .int .i64 0]
  have HB := Lib.hid (below_up (below_up (below_alloc w (.cells #[.int .i64 u, .int .i64 d] 27)) (below_alloc _ (.cells #[.int .i64 v, .int .i64 e] 27))) (below_alloc _ (.cells #[.int .i64 0, .int .i64 0] 27)))
  have HFV : Hid (frV (u * v) (d * e) = .agg #[.int .i64 (frU (u * v) (d * e)), .int .i64 (frD (u * v) (d * e))]) := Lib.hid rfl
  rw [HFV.out] at HC
  simp only [World.size_alloc] at b1 b2
  have c0 := blk_cell b0 (i := 0) rfl
  have c1 := blk_cell b0 (i := 1) rfl
  have c2 := blk_cell b1 (i := 0) rfl
  have c3 := blk_cell b1 (i := 1) rfl
  have HB2 := Lib.hid b2
  clear b0 b1 b2
  go_enter Try.func16, Try.ntmps16
  go_wp2_with fail
  clear c0 c1 c2 c3
  generalize ((w.alloc (.cells #[.int .i64 u, .int .i64 d] 27)).alloc (.cells #[.int .i64 v, .int .i64 e] 27)).alloc (.cells #[.int .i64 0, .int .i64 0] 27) = w1 at *
  refine (HC.out _).mono ?_
  rintro e w2 ⟨rfl, hb⟩
  have b0 := blk_below HB2.out hb
  have HBW := Lib.hid (below_up HB.out hb)
  clear hb HC HB HB2
  generalize frU (u * v) (d * e) = U at *
  generalize frD (u * v) (d * e) = D at *
  have c0 := blk_cell b0 (i := 0) rfl
  have c1 := blk_cell b0 (i := 1) rfl
  have f0 := blk_frozen b0 0
  have f1 := blk_frozen b0 1
  go_wp2
  clear c0 c1 f0 f1
  have B1 := blk_set (blk_set b0 0 (.int .i64 U)) 1 (.int .i64 D)
  have r0 := blk_cell B1 (i := 0) (v := .int .i64 U) rfl
  have r1 := blk_cell B1 (i := 1) (v := .int .i64 D) rfl
  have hle : w.heap.size ≤ w.heap.size + 1 + 1 := by omega
  have HBX := Lib.hid ((HBW.out.setCell (p := ⟨w.heap.size + 1 + 1, 0, none⟩) hle (.int .i64 U)).setCell (p := ⟨w.heap.size + 1 + 1, 1, none⟩) hle (.int .i64 D))
  clear B1 b0 HBW
  generalize (w2.setCell ⟨w.heap.size + 1 + 1, 0, none⟩ (.int .i64 U)).setCell ⟨w.heap.size + 1 + 1, 1, none⟩ (.int .i64 D) = WE at *
  refine bodyPost_ret (v := .agg #[.int .i64 U, .int .i64 D]) (by simp [results, Try.results16, go_sem, r0, r1]) rfl ?_
  exact ⟨by rw [HFV.out], HBX.out⟩
/-- Whether a list has a number. -/
def HasN (xs : List Int) (x : Int) : Prop := ∃ k, k < xs.length ∧ gi xs k = x
set_option maxHeartbeats 400000 in
theorem isIn_any (A : Option Addr) (n c : Nat) (xs : List Int) (x : Int) (w : World) (hx : Ints w A n c xs) :
    Calls Try.prog 32 #[.slice A n c, .int .i64 x] w fun e w' => e = .returned (.bool (pb (HasN xs x))) ∧ Quiet w w' := by
  have hl := hx.max
  have HX := Lib.hid hx
  have HL := Lib.hid hx.len
  clear hx
  go_enter Try.func32, Try.ntmps32
  go_wp2
  go_loopw [5] (fun i wr => ∃ k : Nat, k ≤ n ∧ i = .int .i64 k ∧ Hid (∀ j, j < k → gi xs j ≠ x) ∧ Quiet w wr) (fun i _ => n - (intOf i).toNat)
  case atStart => exact ⟨0, Nat.zero_le _, rfl, Lib.hid (fun _ h => absurd h (by omega)), Quiet.refl _⟩
  case round =>
    obtain ⟨k, hk, rfl, HN, q, rfl⟩ := hrel
    by_cases hlt : k < n
    · obtain ⟨b, o, rfl, hc⟩ := HX.out.at_ (by omega)
      have c1 := hc k hlt
      clear hc
      by_cases he : gi xs k = x
      · have HR := Lib.hid (pb_true (p := HasN xs x) ⟨k, by rw [HL.out]; exact hlt, he⟩)
        have hd : (gi xs k == x) = true := by simpa using he
        clear he
        go_wp2
        go_ret
        exact ⟨ret_bool HR.out.symm, ⟨_, rfl⟩⟩
      · have HE := Lib.hid he
        have hd : (gi xs k == x) = false := by simpa using he
        clear he
        go_wp2
        go_roundw
        case rel => exact ⟨k + 1, by omega, by go_num, Lib.hid (fun j hj => by
          by_cases hjk : j < k
          · exact HN.out j hjk
          · obtain rfl : j = k := by omega
            exact HE.out), ⟨_, rfl⟩⟩
        case measure => simp [intOf]; omega
    · obtain rfl : k = n := by omega
      have HR := Lib.hid (pb_false (p := HasN xs x) (fun ⟨j, hj, e⟩ => HN.out j (by rw [← HL.out]; exact hj) e))
      go_wp2
      go_ret
      exact ⟨ret_bool HR.out.symm, ⟨_, rfl⟩⟩
set_option maxHeartbeats 400000 in
theorem equalInts_any (A B : Option Addr) (n c m d : Nat) (xs ys : List Int) (w : World) (hx : Ints w A n c xs) (hy : Ints w B m d ys) :
    Calls Try.prog 30 #[.slice A n c, .slice B m d] w fun e w' => e = .returned (.bool (eqI xs ys)) ∧ Quiet w w' := by
  obtain ⟨lx, cx, mx, _, hx⟩ := hx
  obtain ⟨ly, cy, my, _, hy⟩ := hy
  have Lx := Lib.hid lx
  have Ly := Lib.hid ly
  clear lx ly
  by_cases hnm : n = m
  · subst hnm
    go_enter Try.func30, Try.ntmps30
    go_wp2
    go_loopw [5] (fun i wr => ∃ k : Nat, k ≤ n ∧ i = .int .i64 k ∧ (∀ j, j < k → gi xs j = gi ys j) ∧ Quiet w wr) (fun i _ => n - (intOf i).toNat)
    case atStart => exact ⟨0, Nat.zero_le _, rfl, fun _ h => absurd h (by omega), Quiet.refl _⟩
    case round =>
      obtain ⟨k, hk, rfl, hall, q, rfl⟩ := hrel
      have HALL := Lib.hid hall
      clear hall
      by_cases hlt : k < n
      · obtain ⟨b, o, rfl, hcx⟩ := hx (by omega)
        obtain ⟨b2, o2, rfl, hcy⟩ := hy (by omega)
        have c1 := hcx k hlt
        have c2 := hcy k hlt
        clear hx hy hcx hcy
        by_cases he : gi xs k = gi ys k
        · have he' : (gi xs k != gi ys k) = false := by simp [he]
          have HE := Lib.hid he
          clear he
          go_wp2
          go_quiet (fail)
          go_wp2
          go_roundw
          case rel => exact ⟨k + 1, by omega, by go_num, fun j hj => by
            by_cases hjk : j < k
            · exact HALL.out j hjk
            · obtain rfl : j = k := by omega
              exact HE.out, ⟨_, rfl⟩⟩
          case measure => simp [intOf]; omega
        · have he' : (gi xs k != gi ys k) = true := by simpa using he
          go_wp2
          go_quiet (fail)
          go_wp2
          go_ret
          exact ⟨ret_bool (eqI_no he).symm, Quiet.two _ _ _⟩
      · obtain rfl : k = n := by omega
        go_wp2
        go_ret
        exact ⟨ret_bool (eqI_yes (by rw [Lx.out, Ly.out]) fun j hj => HALL.out j (by rw [Lx.out] at hj; exact hj)).symm, ⟨_, rfl⟩⟩
  · go_enter Try.func30, Try.ntmps30
    go_wp2
    go_ret
    exact ⟨ret_bool (eqI_len (by rw [Lx.out, Ly.out]; exact hnm)).symm, Quiet.refl _⟩

end Go.Proofs.Ytjkmgpiiamffgaa

/- Fractions under way: a slice made by append. -/
namespace Go.Proofs.Ytjkmgpiiamffgaa
open Go.RowKit

theorem gi_append_lt {L M : List Int} {k : Nat} (h : k < L.length) : gi (L ++ M) k = gi L k := by
  rw [gi_get (by rw [List.length_append]; omega), gi_get h, List.getElem_append_left h]
theorem gi_append_ge {L M : List Int} {k : Nat} (h : k < M.length) : gi (L ++ M) (L.length + k) = gi M k := by
  rw [gi_get (by rw [List.length_append]; omega), gi_get h, List.getElem_append_right (by omega)]
  simp
/-- Fractions under way: a slice made by append. -/
structure FU (wb : World) (v : Value) (n : Nat) (L : List Int) (w : World) : Prop where
  own : w.ownsRow wb.heap.size 27 2 v n (L.map iv)
  hi_ : ∀ k, v.ownBlock = some k → k < w.heap.size
  up : Below wb.heap.size wb w
theorem FU.start (wb : World) : FU wb (.slice (some ⟨wb.heap.size, 0, none⟩) 0 0) 0 [] (wb.alloc (.cells #[] 27)) :=
  ⟨World.ownsRow_made (e := 27) (size := 2) wb #[] 0 (Nat.le_refl _) (Nat.zero_le _) rfl, fun k hk => by simp [Value.ownBlock] at hk; simp; omega, below_alloc _ _⟩
theorem FU.next {wb v n L w w'} (h : FU wb v n L w) (k : Below w.heap.size w w') : FU wb v n L w' :=
  ⟨blk_kept h.own fun g hg => k.block g (h.hi_ g hg), fun g hg => Nat.lt_of_lt_of_le (h.hi_ g hg) k.size, below_up h.up k⟩
theorem FU.form {wb v n L w} (h : FU wb v n L w) : ∃ A c, v = .slice A n c := by
  rcases h.own.2 with ⟨rfl, h0⟩ | ⟨g, cap, cur, rfl, _⟩
  · exact ⟨none, 0, by rw [h0]⟩
  · exact ⟨_, _, rfl⟩
theorem FU.len {wb v n L w} (h : FU wb v n L w) : L.length = 2 * n := by have := h.own.1; rw [List.length_map] at this; omega
theorem FU.push {wb v v' n L w w' u d} (h : FU wb v n L w) (hown : w'.ownsRow wb.heap.size 27 2 v' (n + 1) (L.map iv ++ [iv u, iv d]))
    (hgrow : (w.alloc (.cells #[iv u, iv d] 27)).grownBy w' v.ownBlock) (hat : v'.ownBlock = v.ownBlock ∨ v'.ownBlock = some (w.heap.size + 1)) : FU wb v' (n + 1) (L ++ [u, d]) w' := by
  have hsz := hgrow.size
  simp only [World.size_alloc] at hsz
  have hu : ∀ k, v.ownBlock = some k → wb.heap.size ≤ k := fun k hk => (h.own.lt k hk).1
  have hbelow : ∀ k, k < wb.heap.size → w'.heap[k]? = w.heap[k]? := fun k hk => by
    have := h.up.size
    exact (hgrow.block k (by simp; omega) (fun e => by have := hu k e.symm; omega)).trans (Below.heap_alloc _ _ _ (by omega))
  refine ⟨by rw [List.map_append]; exact hown, fun k hk => ?_, ?_⟩
  · rcases hat with hat | hat
    · have := h.hi_ k (by rw [← hat]; exact hk); omega
    · have := (hown.lt k hk).2; omega
  · exact ⟨hgrow.os.trans h.up.os, hgrow.tape.trans h.up.tape, hgrow.output.trans h.up.output, by have := h.up.size; omega, fun k hk => (hbelow k hk).trans (h.up.block k hk)⟩
theorem FU.new {wb n L w} {A : Option Addr} {c : Nat} (h : FU wb (.slice A n c) n L w) (hm : n ≤ 1000) : NewF wb L (.returned (.slice A n c)) w := by
  have hl := h.len
  have hh := h.hi_
  rcases h.own.2 with ⟨e, h0⟩ | ⟨g, cap, cur, e, hb, hg, hnc, _, hcs, htake⟩
  · injection e with e1 e2 e3
    subst e1
    subst e3
    subst h0
    have : L = [] := List.eq_nil_of_length_eq_zero (by omega)
    subst this
    exact ⟨none, 0, 0, 0, rfl, rfl, OwnF.nil _ _ _ _, h.up⟩
  · injection e with e1 e2 e3
    subst e1
    subst e3
    refine ⟨_, n, c, g, rfl, hl, ⟨⟨hl, hnc, hm, fun _ => ⟨g, 0, rfl, fun k hk => ?_⟩⟩, fun _ => ⟨0, rfl, hb, hh g rfl, fun k _ => ?_⟩⟩, h.up⟩
    · rw [Nat.zero_add, ← getElem_iv (by omega : k < L.length), ← htake, List.getElem?_take, if_pos (by omega)]
      simp [World.cell?, hg]
    · rw [Nat.zero_add]; simp [World.frozen?, hg]
theorem cells_two_new (w : World) (u d : Int) : ∀ j v, [iv u, iv d][j]? = some v → (w.alloc (.cells #[iv u, iv d] 27)).cell? ((⟨w.heap.size, 0, none⟩ : Addr).add j) = some v := fun j v h => by
  have hadd : (⟨w.heap.size, 0, none⟩ : Addr).add j = ⟨w.heap.size, j, none⟩ := by unfold Addr.add; split <;> simp_all
  rw [hadd]
  exact blk_cell (blk_new w _ _) (by simpa using h)
theorem NewF.empty {w w' : World} {ys : List Int} (h : Below w.heap.size w w') (hy : ys = []) : NewF w ys (.returned (.slice none 0 0)) w' := by
  subst hy; exact ⟨none, 0, 0, 0, rfl, rfl, OwnF.nil _ _ _ _, h⟩
theorem NewF.from {w w1 w2 : World} {ys : List Int} {e : Ending} (h : Below w.heap.size w w1) (k : NewF w1 ys e w2) : NewF w ys e w2 := by
  obtain ⟨A, n, c, g, he, hn, ho, hb⟩ := k
  exact ⟨A, n, c, g, he, hn, ho.mono h.size (Nat.le_refl _), below_up h hb⟩
theorem Try.infoF : (Try.prog.info? 27).map (fun i => (i.zero, i.size, i.bytes)) = some (some (.agg #[.int .i64 0, .int .i64 0]), 2, 16) := by kernel_rfl

end Go.Proofs.Ytjkmgpiiamffgaa

/- NextShares, by the program. -/
namespace Go.Proofs.Ytjkmgpiiamffgaa
open Go.RowKit

/-- The next shares on their way, beside the closure's boxes. -/
structure NL (n g pa pw b o c cw : Nat) (Y : Option Addr) (w : World) (L : List Int) (W : World) : Prop where
  nx : NX w n g L W
  ca : W.cell? ⟨pa, 0, none⟩ = some (.slice (some ⟨b, o, none⟩) n c)
  cs : W.cell? ⟨pw, 0, none⟩ = some (.slice Y n cw)
  ha : pa ≠ g
  hs : pw ≠ g
theorem NL.next {n g pa pw b o c cw Y w L W W'} (h : NL n g pa pw b o c cw Y w L W) (k : Below W.heap.size W W') : NL n g pa pw b o c cw Y w L W' :=
  ⟨h.nx.next k, Keep.below k _ _ h.ca, Keep.below k _ _ h.cs, h.ha, h.hs⟩
theorem NL.set {n g pa pw b o c cw Y w L W} (h : NL n g pa pw b o c cw Y w L W) {i : Nat} (hi : i < n) {v : Int} (hv : -9223372036854775808 ≤ v ∧ v ≤ 9223372036854775807) :
    NL n g pa pw b o c cw Y w (L.set i v) (W.setCell ⟨g, i, none⟩ (.int .i64 v)) :=
  ⟨h.nx.set hi hv, by rw [World.cell?_setCell_other _ _ _ _ (by intro e; have := congrArg Addr.block e; first | exact h.ha this | exact h.ha this.symm)]; exact h.ca, by rw [World.cell?_setCell_other _ _ _ _ (by intro e; have := congrArg Addr.block e; first | exact h.hs this | exact h.hs this.symm)]; exact h.cs, h.ha, h.hs⟩
theorem NL.pa {n g pa pw b o c cw Y w L W} {a : List (List Int)} {x : List Int} {rb ro cc : Nat → Nat} (h : NL n g pa pw b o c cw Y w L W) (ht : Tab w b o rb ro cc n n a) (hx : Ints w Y n cw x) (hb : ∀ j, j < n → 0 ≤ gi x j ∧ gi x j ≤ 1000) :
    PA a x n pa pw b o c cw rb ro cc Y W := ⟨ht.keep (Keep.below h.nx.up), hx.keep (Keep.below h.nx.up), hb, h.ca, h.cs⟩

end Go.Proofs.Ytjkmgpiiamffgaa

/- Growth, by the model: a slice of fractions made by append. -/
namespace Go.Proofs.Ytjkmgpiiamffgaa
open Go.RowKit

theorem payR_dot (a : List (List Int)) (x y : List Int) (i : Nat) : ∀ j, payR a x y i j = gi x i * dotr a y i j
  | 0 => by simp [payR, dotr]
  | j + 1 => by
    rw [payR, dotr, payR_dot a x y i j, Int.mul_add]
    have : gi x i * gi y j * g2 a i j = gi x i * (g2 a i j * gi y j) := by rw [Int.mul_assoc, Int.mul_comm (gi y j)]
    omega
theorem payU_ge {a : List (List Int)} {x : List Int} {n : Nat} (hx : ∀ j, j < n → 0 ≤ gi x j) (hd : ∀ i, i < n → 1 ≤ dotr a x i n) : ∀ {k}, k ≤ n → sm x k ≤ payU a x x n k
  | 0, _ => Int.le_refl _
  | k + 1, h => by
    have h1 := payU_ge hx hd (k := k) (by omega)
    have h2 : gi x k * 1 ≤ gi x k * dotr a x k n := Int.mul_le_mul_of_nonneg_left (hd k (by omega)) (hx k (by omega))
    rw [payU, payR_dot, sm]
    omega
/-- What a strategy grows by, above and below the line. -/
def gU (a : List (List Int)) (x : List Int) (n i : Nat) : Int := dotr a x i n * tot x
def gP (a : List (List Int)) (x : List Int) (n : Nat) : Int := payU a x x n n
def grL (a : List (List Int)) (x : List Int) (n : Nat) : Nat → List Int
  | 0 => []
  | i + 1 => grL a x n i ++ [frU (gU a x n i) (gP a x n), frD (gU a x n i) (gP a x n)]
theorem grL_len (a : List (List Int)) (x : List Int) (n : Nat) : ∀ i, (grL a x n i).length = 2 * i
  | 0 => rfl
  | i + 1 => by rw [grL, List.length_append, grL_len a x n i]; simp; omega
theorem gi_grL (a : List (List Int)) (x : List Int) (n : Nat) : ∀ {k i}, i < k → gi (grL a x n k) (i * 2) = frU (gU a x n i) (gP a x n) ∧ gi (grL a x n k) (i * 2 + 1) = frD (gU a x n i) (gP a x n)
  | 0, _, h => absurd h (by omega)
  | k + 1, i, h => by
    have hl := grL_len a x n k
    rw [grL]
    by_cases e : i = k
    · subst e
      have h0 := gi_append_ge (L := grL a x n i) (M := [frU (gU a x n i) (gP a x n), frD (gU a x n i) (gP a x n)]) (k := 0) (by simp)
      have h1 := gi_append_ge (L := grL a x n i) (M := [frU (gU a x n i) (gP a x n), frD (gU a x n i) (gP a x n)]) (k := 1) (by simp)
      rw [hl] at h0 h1
      rw [show i * 2 = 2 * i + 0 by omega, h0, show 2 * i + 0 + 1 = 2 * i + 1 by omega, h1]
      exact ⟨rfl, rfl⟩
    · rw [gi_append_lt (by omega), gi_append_lt (by omega)]
      exact gi_grL a x n (by omega)
theorem FS.gu {a x n} (h : FS a x n) {i : Nat} (hi : i < n) : 1 ≤ gU a x n i ∧ gU a x n i ≤ 81000000 := by
  have h1 := h.dot hi
  have h2 := h.s.bd (by have := h.n3; omega)
  unfold gU
  have h3 : 1 * 1 ≤ dotr a x i n * tot x := Int.mul_le_mul h1.1 (by omega) (by omega) (by omega)
  have h4 : dotr a x i n * tot x ≤ 27000 * 3000 := Int.mul_le_mul h1.2 h2.2 (by omega) (by omega)
  omega
theorem FS.pb {a x n} (h : FS a x n) : PB a x x n n := ⟨fun i j hi hj => by have := h.a hi hj; omega, h.x, h.x⟩
theorem FS.gp {a x n} (h : FS a x n) : 1 ≤ gP a x n ∧ gP a x n ≤ 81000000 := by
  have h0 := h.n3
  have h1 := payU_ge (a := a) (x := x) (n := n) (fun j hj => (h.x j hj).1) (fun i hi => (h.dot hi).1) (Nat.le_refl n)
  have h2 := payU_bd h.pb h0.2 (Nat.le_refl n)
  have h3 := h.s.2.2
  unfold tot at h3
  rw [h.xl] at h3
  unfold gP
  omega
noncomputable def grF (a : List (List Int)) (x : List Int) : List Int := if pb (VF a ∧ VS x a.length) = true then grL a x a.length a.length else []
theorem grF_yes {a : List (List Int)} {x : List Int} {n : Nat} (h : FS a x n) : grF a x = grL a x n n := by
  unfold grF; rw [if_pos (pb_true ⟨h.f, by rw [h.l]; exact h.s⟩), h.l]
theorem grF_no {a : List (List Int)} {x : List Int} (h : ¬ (VF a ∧ VS x a.length)) : grF a x = [] := by unfold grF; rw [if_neg (by rw [pb_false h]; decide)]
theorem grF_le (a : List (List Int)) (x : List Int) : (grF a x).length ≤ 100 ∧ 2 * ((grF a x).length / 2) = (grF a x).length := by
  by_cases h : VF a ∧ VS x a.length
  · have hf : FS a x a.length := ⟨h.1, h.2, rfl⟩
    have := hf.n3
    rw [grF_yes hf, grL_len]; omega
  · rw [grF_no h]; simp

theorem grF_two (a : List (List Int)) (x : List Int) : ∃ N, (grF a x).length = 2 * N ∧ N ≤ 50 := ⟨(grF a x).length / 2, (grF_le a x).2.symm, by have := (grF_le a x).1; omega⟩

end Go.Proofs.Ytjkmgpiiamffgaa

/- Fractions compared by the laws, and the sum of the shares' growth. -/
namespace Go.Proofs.Ytjkmgpiiamffgaa
open Go.RowKit

theorem fr_mul' {u d v e : Int} (hd : 0 < d) (he : 0 < e) : frU (frU u d * frU v e) (frD u d * frD v e) = frU (u * v) (d * e) ∧ frD (frU u d * frU v e) (frD u d * frD v e) = frD (u * v) (d * e) := by
  refine fr_eq (Int.mul_pos (frD_pos hd) (frD_pos he)) (Int.mul_pos hd he) ?_
  have h1 := fr_ratio u d
  have h2 := fr_ratio v e
  generalize frU u d = a at *
  generalize frD u d = b at *
  generalize frU v e = c at *
  generalize frD v e = f at *
  grind
/-- One strategy's part of the mean. -/
theorem gr_part {a : List (List Int)} {x : List Int} {n : Nat} (h : FS a x n) {i : Nat} :
    frU (frU (gi x i) (tot x) * frU (gU a x n i) (gP a x n)) (frD (gi x i) (tot x) * frD (gU a x n i) (gP a x n)) = frU (gi x i * dotr a x i n) (gP a x n) ∧
    frD (frU (gi x i) (tot x) * frU (gU a x n i) (gP a x n)) (frD (gi x i) (tot x) * frD (gU a x n i) (gP a x n)) = frD (gi x i * dotr a x i n) (gP a x n) := by
  have hS : 0 < tot x := h.s.2.2
  have hP := h.gp.1
  obtain ⟨e1, e2⟩ := fr_mul' (u := gi x i) (d := tot x) (v := gU a x n i) (e := gP a x n) hS (by omega)
  rw [e1, e2]
  have hU : gU a x n i = dotr a x i n * tot x := rfl
  rw [hU]
  generalize gP a x n = P at *
  generalize tot x = T at *
  exact fr_eq (Int.mul_pos hS (by omega)) (by omega) (by grind)
/-- Two fractions over the same number. -/
theorem fr_sum {S R P : Int} (hP : 0 < P) :
    frU (frU S P * frD R P + frU R P * frD S P) (frD S P * frD R P) = frU (S + R) P ∧ frD (frU S P * frD R P + frU R P * frD S P) (frD S P * frD R P) = frD (S + R) P := by
  have k1 := frU_mul S P
  have k2 := frD_mul S P
  have k3 := frU_mul R P
  have k4 := frD_mul R P
  have q1 := gcdI_pos (a := S) (b := P) (by omega)
  have q2 := gcdI_pos (a := R) (b := P) (by omega)
  refine fr_eq (Int.mul_pos (frD_pos hP) (frD_pos hP)) hP ?_
  generalize gcdI S P = g1 at *
  generalize gcdI R P = g2 at *
  generalize frU S P = s at *
  generalize frD S P = sd at *
  generalize frU R P = r at *
  generalize frD R P = rd at *
  have hc : 0 < g1 * g2 := Int.mul_pos q1 q2
  refine Int.eq_of_mul_eq_mul_right (show g1 * g2 ≠ 0 by omega) ?_
  have e1 : (s * rd + r * sd) * P * (g1 * g2) = ((s * g1) * (rd * g2) + (r * g2) * (sd * g1)) * P := by clear k1 k2 k3 k4; grind
  have e2 : (S + R) * (sd * rd) * (g1 * g2) = (S + R) * ((sd * g1) * (rd * g2)) := by clear k1 k2 k3 k4; grind
  rw [e1, e2, k1, k2, k3, k4]
  clear e1 e2 k1 k2 k3 k4
  grind
theorem fr_whole {P : Int} (hP : 0 < P) : frU P P = 1 ∧ frD P P = 1 := by
  obtain ⟨e1, e2⟩ := fr_eq (u := P) (d := P) (v := 1) (e := 1) hP (by omega) (by omega)
  obtain ⟨f1, f2⟩ := fr_one 1
  rw [e1, e2, f1, f2]; exact ⟨rfl, rfl⟩
/-- At rest a growth is at most one, and one where there is a share. -/
theorem gr_rest {a : List (List Int)} {x : List Int} {n : Nat} (h : FS a x n) (hr : RestP a x n) {i : Nat} (hi : i < n) :
    lessB 1 1 (frU (gU a x n i) (gP a x n)) (frD (gU a x n i) (gP a x n)) = false ∧ (0 < gi x i → frU (gU a x n i) (gP a x n) = 1 ∧ frD (gU a x n i) (gP a x n) = 1) := by
  have hm := (rest_mean h.s).1 hr i hi
  have hP := h.gp.1
  have hl := fr_lt (u := 1) (d := 1) (v := gU a x n i) (e := gP a x n) (by omega) (by omega)
  rw [(fr_one 1).1, (fr_one 1).2] at hl
  refine ⟨?_, fun hp => ?_⟩
  · unfold lessB
    rw [decide_eq_false_iff_not, hl]
    have := hm.1
    unfold gU gP
    omega
  · have he : gU a x n i = gP a x n := hm.2 hp
    rw [he]
    exact fr_whole (by omega)
theorem gr_bd {a : List (List Int)} {x : List Int} {n : Nat} (h : FS a x n) {i : Nat} (hi : i < n) : 0 ≤ gi x i * dotr a x i n ∧ gi x i * dotr a x i n ≤ 27000000 := by
  have h1 := h.dot hi
  have h2 := h.x i hi
  have h3 : 0 * dotr a x i n ≤ gi x i * dotr a x i n := Int.mul_le_mul_of_nonneg_right h2.1 (by omega)
  have h4 : gi x i * dotr a x i n ≤ 1000 * 27000 := Int.mul_le_mul h2.2 h1.2 (by omega) (by omega)
  omega
end Go.Proofs.Ytjkmgpiiamffgaa

/- A region that draws its order and makes memory: whatever the order, what follows is walked once. -/
namespace Go.Proofs.Ytjkmgpiiamffgaa
open Go.RowKit

/-- Objects laid one behind the other. -/
def pushAll (w : World) : List Obj → World
  | [] => w
  | o :: os => pushAll (w.alloc o) os
theorem push_below (w : World) : ∀ os, Below w.heap.size w (pushAll w os)
  | [] => Below.refl _ _
  | o :: os => below_up (below_alloc w o) (push_below (w.alloc o) os)
theorem push_drew (w : World) (os : List Obj) : Below w.heap.size w (pushAll w os).drew := (push_below w os).drew
theorem push_keep (w : World) (os : List Obj) : Keep w (pushAll w os).drew := Keep.below (push_drew w os)
theorem push_keep0 (w : World) (os : List Obj) : Keep w (pushAll w os) := Keep.below (push_below w os)
theorem blk_push0 {t : TypeId} {cs : Array Value} : ∀ (os : List Obj) (w : World) (j : Nat), os[j]? = some (.cells cs t) → Blk (pushAll w os) (w.heap.size + j) t cs
  | [], _, _, h => by simp at h
  | o :: os, w, 0, h => by
    simp at h
    subst h
    exact blk_below (blk_new w t cs) (push_below _ os)
  | o :: os, w, j + 1, h => by
    have h2 := blk_push0 os (w.alloc o) j (by simpa using h)
    rw [World.size_alloc, Nat.add_assoc, Nat.add_comm 1 j] at h2
    exact h2
theorem blk_push {t : TypeId} {cs : Array Value} (os : List Obj) (w : World) (j : Nat) (h : os[j]? = some (.cells cs t)) : Blk (pushAll w os).drew (w.heap.size + j) t cs := blk_quiet (blk_push0 os w j h) ⟨1, rfl⟩
/-- A table of two rows of two numbers, wherever its blocks lie. -/
theorem rows_of {W : World} {a b c : Nat} {x y z t : Int} (hx : -1000 ≤ x ∧ x ≤ 1000) (hy : -1000 ≤ y ∧ y ≤ 1000) (hz : -1000 ≤ z ∧ z ≤ 1000) (ht : -1000 ≤ t ∧ t ≤ 1000)
    (ha : Blk W a 3 #[.int .i64 x, .int .i64 y]) (hb : Blk W b 3 #[.int .i64 z, .int .i64 t]) (hc : Blk W c 30 #[.slice (some ⟨a, 0, none⟩) 2 2, .slice (some ⟨b, 0, none⟩) 2 2]) :
    IntRows W (some ⟨c, 0, none⟩) 2 2 [[x, y], [z, t]] := by
  have i1 := (own_two (lo := 0) (hi := a + 1) ha (Nat.zero_le _) (by omega) (by omega) (by omega)).ints
  have i2 := (own_two (lo := 0) (hi := b + 1) hb (Nat.zero_le _) (by omega) (by omega) (by omega)).ints
  refine ⟨rfl, Nat.le_refl _, by omega, fun _ => ⟨c, 0, rfl, fun k hk => ?_⟩⟩
  have h : k = 0 ∨ k = 1 := by omega
  rcases h with rfl | rfl
  · exact ⟨some ⟨a, 0, none⟩, 2, blk_cell hc (i := 0) rfl, i1⟩
  · exact ⟨some ⟨b, 0, none⟩, 2, blk_cell hc (i := 1) rfl, i2⟩

/-- Cells of older blocks stay where a new block of two is stored to. -/
theorem set2_keep {W : World} {B l : Nat} {U V : Value} (hl : B ≤ l) {p : Addr} {u : Value} (hp : p.block < B) (h : W.cell? p = some u) : ((W.setCell ⟨l, 0, none⟩ U).setCell ⟨l, 1, none⟩ V).cell? p = some u := by
  rw [World.cell?_setCell_other _ _ _ _ (by intro e; have := congrArg Addr.block e; simp at this; omega), World.cell?_setCell_other _ _ _ _ (by intro e; have := congrArg Addr.block e; simp at this; omega)]; exact h
theorem kc1 {w : World} {a0 : Obj} {p : Addr} {u : Value} (h : w.cell? p = some u) : (w.alloc a0).drew.cell? p = some u := push_keep w [a0] p u h
theorem kd1 {w : World} {a0 : Obj} {p : Addr} {u : Value} (h : w.cell? p = some u) : (w.alloc a0).cell? p = some u := push_keep0 w [a0] p u h
theorem kc2 {w : World} {a0 a1 : Obj} {p : Addr} {u : Value} (h : w.cell? p = some u) : ((w.alloc a0).alloc a1).drew.cell? p = some u := push_keep w [a0, a1] p u h
theorem kd2 {w : World} {a0 a1 : Obj} {p : Addr} {u : Value} (h : w.cell? p = some u) : ((w.alloc a0).alloc a1).cell? p = some u := push_keep0 w [a0, a1] p u h
theorem kc3 {w : World} {a0 a1 a2 : Obj} {p : Addr} {u : Value} (h : w.cell? p = some u) : (((w.alloc a0).alloc a1).alloc a2).drew.cell? p = some u := push_keep w [a0, a1, a2] p u h
theorem kd3 {w : World} {a0 a1 a2 : Obj} {p : Addr} {u : Value} (h : w.cell? p = some u) : (((w.alloc a0).alloc a1).alloc a2).cell? p = some u := push_keep0 w [a0, a1, a2] p u h
theorem kc4 {w : World} {a0 a1 a2 a3 : Obj} {p : Addr} {u : Value} (h : w.cell? p = some u) : ((((w.alloc a0).alloc a1).alloc a2).alloc a3).drew.cell? p = some u := push_keep w [a0, a1, a2, a3] p u h
theorem kd4 {w : World} {a0 a1 a2 a3 : Obj} {p : Addr} {u : Value} (h : w.cell? p = some u) : ((((w.alloc a0).alloc a1).alloc a2).alloc a3).cell? p = some u := push_keep0 w [a0, a1, a2, a3] p u h
theorem kc5 {w : World} {a0 a1 a2 a3 a4 : Obj} {p : Addr} {u : Value} (h : w.cell? p = some u) : (((((w.alloc a0).alloc a1).alloc a2).alloc a3).alloc a4).drew.cell? p = some u := push_keep w [a0, a1, a2, a3, a4] p u h
theorem kd5 {w : World} {a0 a1 a2 a3 a4 : Obj} {p : Addr} {u : Value} (h : w.cell? p = some u) : (((((w.alloc a0).alloc a1).alloc a2).alloc a3).alloc a4).cell? p = some u := push_keep0 w [a0, a1, a2, a3, a4] p u h
end Go.Proofs.Ytjkmgpiiamffgaa

/- sorted, by the laws: numbers laid in order by an append in a region that draws its order. -/
namespace Go.Proofs.Ytjkmgpiiamffgaa
open Go.RowKit

/-- An append of a slice that reads as a list, whatever its length, behind a row that the call owns. -/
theorem run_app_ints (w : World) (base : Nat) (v : Value) (xs : List Int) (hown : w.ownsRow base 3 1 v xs.length (xs.map iv)) (hlo : base ≤ w.heap.size) (R : Option Addr) (m c : Nat) (r : List Int) (hr : Ints w R m c r) (hlen : xs.length + m ≤ 1000) :
    ∃ A cap w', (Builtin.append_ #[30, 30] 30 #[v, .slice R m c]).run Try.prog w = .ok (.slice A (xs ++ r).length cap) w' ∧
      w'.ownsRow base 3 1 (.slice A (xs ++ r).length cap) (xs ++ r).length ((xs ++ r).map iv) ∧ w.grownBy w' v.ownBlock ∧
      ((Value.slice A (xs ++ r).length cap).ownBlock = v.ownBlock ∨ (Value.slice A (xs ++ r).length cap).ownBlock = some w.heap.size) := by
  obtain ⟨i0, hi0, hz0, hz1, hz2⟩ := info_parts Try.info_int
  have hl := hr.len
  by_cases h0 : m = 0
  · subst h0
    have hr0 : r = [] := List.eq_nil_of_length_eq_zero hl
    subst hr0
    rw [List.append_nil]
    obtain ⟨A, cap, rfl⟩ := (⟨hown, fun k hk => (hown.lt k hk).2⟩ : BldI base w.heap.size w v xs).form
    exact ⟨A, cap, w, run_append_empty w base _ _ 3 i0 1 Try.underlying30 hi0 _ xs.length _ hown R c, hown, ⟨rfl, rfl, rfl, Nat.le_refl _, fun _ _ _ => rfl⟩, .inl rfl⟩
  · obtain ⟨b, o, rfl, hc⟩ := hr.at_ (by omega)
    obtain ⟨v', w5, e, ho, hg, _, hat⟩ := run_append_own_at (P := Try.prog) w base 30 30 3 i0 (.int .i64 0) 1 8 Try.underlying30 hi0 hz0 hz1 hz2 rfl (by decide) v xs.length (xs.map iv) hown ⟨b, o, none⟩ m c (r.map iv)
      (by rw [List.length_map, hl]; omega) (by
        have h := news_take (w := w) (j := r.length) (xs := r) (b := b) (o := o) rfl (fun k hk => hc k (by omega))
        rw [List.take_length] at h; exact h) (ones_map _) (by unfold maxLen; omega) (by omega) hlo
    have ho' : w5.ownsRow base 3 1 v' (xs ++ r).length ((xs ++ r).map iv) := by rw [List.length_append, hl, List.map_append]; exact ho
    obtain ⟨A, cap, rfl⟩ := (⟨ho', fun k hk => (ho'.lt k hk).2⟩ : BldI base w5.heap.size w5 v' (xs ++ r)).form
    exact ⟨A, cap, w5, e, ho', hg, hat⟩

/-- A row under way in a region: own, and nothing older changed. -/
structure OX (w0 W : World) (v : Value) (xs : List Int) : Prop where
  own : W.ownsRow w0.heap.size 3 1 v xs.length (xs.map iv)
  bl : Below w0.heap.size w0 W
/-- A new number in a block of its own, beside the row. -/
structure NwX (W : World) (X : Nat) (x : Int) (v : Value) : Prop where
  blk : Blk W X 3 #[iv x]
  ne : v.ownBlock ≠ some X
theorem OX.lo {w0 W v xs} (h : OX w0 W v xs) : w0.heap.size ≤ W.heap.size := h.bl.size
theorem OX.drew {w0 W v xs} (h : OX w0 W v xs) : OX w0 W.drew v xs := ⟨blk_kept h.own fun _ _ => rfl, h.bl.drew⟩
theorem OX.qu {w0 W W' v xs} (h : OX w0 W v xs) (k : Quiet W W') : OX w0 W' v xs := by
  obtain ⟨q, rfl⟩ := k
  exact ⟨blk_kept h.own fun _ _ => rfl, below_drewN h.bl q⟩
theorem OX.alloc {w0 W v xs} (h : OX w0 W v xs) (o : Obj) : OX w0 (W.alloc o) v xs := ⟨h.own.alloc o, below_up h.bl (below_alloc _ _)⟩
theorem OX.new {w0 W : World} (h : Below w0.heap.size w0 W) : OX w0 (W.alloc (.cells #[] 3)) (.slice (some ⟨W.heap.size, 0, none⟩) 0 0) [] :=
  ⟨(BldI.make h.size).own, below_up h (below_alloc _ _)⟩
theorem OX.newAt {w0 W : World} {g : Nat} (h : Below w0.heap.size w0 W) (hg : W.heap.size = g) : OX w0 (W.alloc (.cells #[] 3)) (.slice (some ⟨g, 0, none⟩) 0 0) [] := by
  subst hg; exact OX.new h
theorem below_al {w0 W : World} (h : Below w0.heap.size w0 W) (o : Obj) : Below w0.heap.size w0 (W.alloc o) := below_up h (below_alloc _ _)
theorem OX.up {w w0 W v0 xs0 v xs} (h : OX w w0 v0 xs0) (k : OX w0 W v xs) : OX w W v xs := by
  refine ⟨?_, below_up h.bl k.bl⟩
  obtain ⟨h1, h2⟩ := k.own
  refine ⟨h1, ?_⟩
  rcases h2 with h2 | ⟨g, cap, cur, rfl, hb, hg, r⟩
  · exact .inl h2
  · exact .inr ⟨g, cap, cur, rfl, Nat.le_trans h.lo hb, hg, r⟩
theorem OX.app {w0 W W' v v' xs ys} (h : OX w0 W v xs) (ho : W'.ownsRow w0.heap.size 3 1 v' ys.length (ys.map iv)) (hg : W.grownBy W' v.ownBlock) : OX w0 W' v' ys :=
  ⟨ho, h.bl.grown hg h.lo fun k hk => (h.own.lt k hk).1⟩
theorem OX.form {w0 W v xs} (h : OX w0 W v xs) : ∃ A c, v = .slice A xs.length c := (⟨h.own, fun k hk => (h.own.lt k hk).2⟩ : BldI w0.heap.size W.heap.size W v xs).form
theorem OX.ints {w0 W A c} {xs : List Int} (h : OX w0 W (.slice A xs.length c) xs) (hl : xs.length ≤ 1000) (hw : ∀ x ∈ xs, 0 ≤ x ∧ x ≤ 1000) : Ints W A xs.length c xs := by
  obtain ⟨A', n', c', g, e, _, hI, _⟩ := (⟨h.own, fun k hk => (h.own.lt k hk).2⟩ : BldI w0.heap.size W.heap.size W _ xs).owns (by omega) (fun x hx => by have := hw x hx; omega)
  injection e with e1 e2 e3
  subst e1; subst e2; subst e3
  exact hI.ints
theorem NwX.new {w0 W v xs} (h : OX w0 W v xs) (x : Int) : NwX (W.alloc (.cells #[.int .i64 x] 3)) W.heap.size x v :=
  ⟨blk_new _ _ _, fun e => by have := (h.own.lt _ e).2; omega⟩
theorem NwX.drew {W X x v} (h : NwX W X x v) : NwX W.drew X x v := ⟨h.blk, h.ne⟩
theorem NwX.app {W W' X x v v'} (h : NwX W X x v) (hg : W.grownBy W' v.ownBlock) (hat : v'.ownBlock = v.ownBlock ∨ v'.ownBlock = some W.heap.size) : NwX W' X x v' :=
  ⟨(hg.block X (blk_lt h.blk) (fun e => h.ne e.symm)).trans h.blk, fun e => by
    rcases hat with h1 | h1
    · exact h.ne (h1.symm.trans e)
    · rw [h1] at e; injection e with e; have := blk_lt h.blk; omega⟩
theorem NwX.at_ {w0 W v xs} (h : OX w0 W v xs) (x : Int) {X : Nat} (hX : W.heap.size = X) : NwX (W.alloc (.cells #[.int .i64 x] 3)) X x v := by subst hX; exact NwX.new h x
theorem NwX.drewI {W X x v} (h : NwX W X x v) : NwX W.drew X x v := ⟨h.blk, h.ne⟩
/-- The new number's block laid ahead of the row's. -/
theorem NwX.ahead {W : World} (x : Int) {X g : Nat} (hb : Blk W X 3 #[.int .i64 x]) (hg : W.heap.size = g) : NwX (W.alloc (.cells #[] 3)) X x (.slice (some ⟨g, 0, none⟩) 0 0) := by
  subst hg
  refine ⟨blk_below hb (below_alloc _ _), fun e => ?_⟩
  have h1 : W.heap.size = X := by simpa [Value.ownBlock] using e
  have := blk_lt hb; omega
theorem NwX.ints {W X x v} (h : NwX W X x v) (hx : 0 ≤ x ∧ x ≤ 1000) : Ints W (some ⟨X, 0, none⟩) 1 1 [x] :=
  ⟨rfl, Nat.le_refl _, by omega, fun y hy => by simp at hy; subst hy; omega, fun _ => ⟨X, 0, rfl, fun k hk => by
    obtain rfl : k = 0 := by omega
    exact blk_cell h.blk rfl⟩⟩

/-- The append at a step of a region that draws its order. -/
theorem step_app_ints {ops : Array Oper} {o : Oper} {a : Act} {K : Act → World → Prop} {Q : Exit → Act → World → Prop} {E : Prop} {w : World} (hgd : o.guard = none) (s x : Operand)
    (ho : o.op = .call { callee := .builtin .append, args := #[s, x], argTypes := #[30, 30] }) (hty : o.type = 30) (w0 : World)
    (v : Value) (xs : List Int) (hs : a.eval s = v) (hown : OX w0 w v xs) (R : Option Addr) (m c : Nat) (r : List Int) (hx : a.eval x = .slice R m c) (hr : Ints w R m c r) (hlen : xs.length + m ≤ 1000) (L : Nat) (hL : (xs ++ r).length = L)
    (h : ∀ A cap w', OX w0 w' (.slice A L cap) (xs ++ r) → w.grownBy w' v.ownBlock → ((Value.slice A L cap).ownBlock = v.ownBlock ∨ (Value.slice A L cap).ownBlock = some w.heap.size) → K (a.put o.dst (.slice A L cap)) w') :
    if Region.wanted o (yielded ops a.tmps) = true then Oper.wp Try.prog o a w K Q else E := by
  have hw : Region.wanted o (yielded ops a.tmps) = true := by simp [Region.wanted, hgd]
  rw [if_pos hw]
  subst hL
  obtain ⟨A, cap, w', hrun, h2, h3, h4⟩ := run_app_ints w w0.heap.size v xs hown.own hown.lo R m c r hr hlen
  unfold Oper.wp execOp
  simp only [ho, hty, resolve, invoke, builtin, Sem.run_bind, Sem.run_pure, Result.andThen_ok, List.map_toArray, List.map_cons, List.map_nil, hs, hx, hrun]
  exact h A cap w' (hown.app h2 h3) h3 h4

/-- How many numbers at the head are not less. -/
def plc : List Int → Int → Nat
  | [], _ => 0
  | y :: ys, x => if x ≤ y then plc ys x + 1 else 0
theorem plc_le (x : Int) : ∀ xs, plc xs x ≤ xs.length
  | [] => Nat.le_refl _
  | y :: ys => by have := plc_le x ys; unfold plc; split <;> simp <;> omega
theorem gi_zero (y : Int) (ys : List Int) : gi (y :: ys) 0 = y := rfl
theorem gi_succ (y : Int) (ys : List Int) (k : Nat) : gi (y :: ys) (k + 1) = gi ys k := by simp [gi]
theorem plc_ge (x : Int) : ∀ (xs : List Int) (k : Nat), k < plc xs x → x ≤ gi xs k
  | [], _, h => absurd h (by simp [plc])
  | y :: ys, k, h => by
    unfold plc at h
    split at h
    · next hy =>
      match k with
      | 0 => exact hy
      | k + 1 => rw [gi_succ]; exact plc_ge x ys k (by omega)
    · omega
theorem plc_lt (x : Int) : ∀ (xs : List Int), plc xs x < xs.length → gi xs (plc xs x) < x
  | [], h => absurd h (by simp)
  | y :: ys, h => by
    unfold plc at h ⊢
    split at h
    · next hy => rw [if_pos hy, gi_succ]; exact plc_lt x ys (by simpa using h)
    · next hy => rw [if_neg hy, gi_zero]; omega
/-- A number laid in its place. -/
def ins (xs : List Int) (x : Int) : List Int := (xs.take (plc xs x) ++ [x]) ++ xs.drop (plc xs x)
theorem ins_len (xs : List Int) (x : Int) : (ins xs x).length = xs.length + 1 := by
  have := plc_le x xs
  simp [ins]; omega
theorem ins_mem {xs : List Int} {x y : Int} (h : y ∈ ins xs x) : y = x ∨ y ∈ xs := by
  simp only [ins, List.mem_append, List.mem_singleton] at h
  rcases h with (h | h) | h
  · exact .inr (List.mem_of_mem_take h)
  · exact .inl h
  · exact .inr (List.mem_of_mem_drop h)
def srt (xs : List Int) : List Int := xs.foldl ins []
theorem take_next {xs : List Int} {i : Nat} (h : i < xs.length) : xs.take (i + 1) = xs.take i ++ [gi xs i] := by
  rw [List.take_add_one, List.getElem?_eq_getElem h, gi_get h]; rfl
theorem srt_next {xs : List Int} {i : Nat} (h : i < xs.length) : srt (xs.take (i + 1)) = ins (srt (xs.take i)) (gi xs i) := by
  rw [take_next h]; unfold srt; rw [List.foldl_append]; rfl
theorem fold_len : ∀ (xs acc : List Int), (xs.foldl ins acc).length = acc.length + xs.length
  | [], acc => rfl
  | x :: xs, acc => by rw [List.foldl_cons, fold_len xs, ins_len, List.length_cons]; omega
theorem srt_len (xs : List Int) : (srt xs).length = xs.length := by unfold srt; rw [fold_len]; simp
theorem fold_mem : ∀ (xs acc : List Int) (y : Int), y ∈ xs.foldl ins acc → y ∈ acc ∨ y ∈ xs
  | [], acc, y, h => .inl h
  | x :: xs, acc, y, h => by
    rcases fold_mem xs _ y h with h | h
    · rcases ins_mem h with rfl | h
      · exact .inr (List.mem_cons_self ..)
      · exact .inl h
    · exact .inr (List.mem_cons_of_mem _ h)
theorem srt_mem {xs : List Int} {y : Int} (h : y ∈ srt xs) : y ∈ xs := by
  rcases fold_mem xs [] y h with h | h
  · simp at h
  · exact h
theorem Ints.dropI {w : World} {b o n c k : Nat} {xs : List Int} (h : Ints w (some ⟨b, o, none⟩) n c xs) (hk : k ≤ n) : Ints w (some ⟨b, o + k, none⟩) (n - k) (c - k) (xs.drop k) := by
  have hl := h.len
  refine ⟨by rw [List.length_drop, hl], by have := h.cap; omega, by have := h.max; omega, fun y hy => h.wf y (List.mem_of_mem_drop hy), fun h0 => ?_⟩
  obtain ⟨b', o', e, hc⟩ := h.at_ (by omega)
  injection e with e; injection e with e1 e2; subst e1; subst e2
  refine ⟨b, o + k, rfl, fun j hj => ?_⟩
  have e1 : gi (xs.drop k) j = gi xs (k + j) := by
    rw [gi_get (by rw [List.length_drop]; omega), gi_get (by omega), List.getElem_drop]
  rw [e1, Nat.add_assoc]; exact hc (k + j) (by omega)

theorem gi_takeI {xs : List Int} {k j : Nat} (h : j < k) (hk : k ≤ xs.length) : gi (xs.take k) j = gi xs j := by
  rw [gi_get (by rw [List.length_take]; omega), gi_get (by omega), List.getElem_take]
theorem Ints.takeI {w : World} {A : Option Addr} {n c k : Nat} {xs : List Int} (h : Ints w A n c xs) (hk : k ≤ n) : Ints w A k c (xs.take k) := by
  have hl := h.len
  refine ⟨by rw [List.length_take]; omega, by have := h.cap; omega, by have := h.max; omega, fun y hy => h.wf y (List.mem_of_mem_take hy), fun h0 => ?_⟩
  obtain ⟨b, o, e, hc⟩ := h.at_ (by omega)
  exact ⟨b, o, e, fun j hj => by rw [gi_takeI hj (by omega)]; exact hc j (by omega)⟩
theorem Ints.dropIf {w : World} {b o n c k : Nat} {xs : List Int} (h : Ints w (some ⟨b, o, none⟩) n c xs) (hk : k ≤ n) : Ints w (if c = k then some ⟨b, o, none⟩ else some ⟨b, o + k, none⟩) (n - k) (c - k) (xs.drop k) := by
  have hd := h.dropI hk
  have hc := h.cap
  by_cases e : c = k
  · rw [if_pos e]
    exact ⟨hd.len, hd.cap, hd.max, hd.wf, fun h0 => by omega⟩
  · rw [if_neg e]; exact hd
end Go.Proofs.Ytjkmgpiiamffgaa

/- A region that draws its order, by an invariant: each operation is run once, whatever has come up before it. -/
namespace Go.Proofs.Ytjkmgpiiamffgaa
open Go.RowKit

/-- Operation j has come up. -/
def On (L : Array Bool) (j : Nat) : Prop := L.getD j false = true
theorem On.of_set {L : Array Bool} {i j : Nat} (h : On (L.setIfInBounds i true) j) (hne : i ≠ j) : On L j := by
  unfold On at *; rwa [getD_set_ne false hne] at h
theorem On.old {L : Array Bool} {i j : Nat} (h : On L j) : On (L.setIfInBounds i true) j := by
  unfold On at *; exact getD_set_true h
theorem On.not_start {n j : Nat} (h : On (Array.replicate n false) j) : False := by
  unfold On at h
  rcases Nat.lt_or_ge j n with h' | h'
  · simp [h'] at h
  · simp [h'] at h
/-- What an operation waits for. -/
def waitsOn (ops : Array Oper) (i : Nat) : List Nat :=
  match ops[i]? with
  | some o => (o.after.toList.filter (Region.binds .any)).map (·.on)
  | none => []
def earlierB (ops : Array Oper) : Bool := (List.range ops.size).all fun i => (waitsOn ops i).all fun j => decide (j < i)
theorem mem_waits {ops : Array Oper} {i : Nat} {o : Oper} (ho : ops[i]? = some o) {e : Edge} (he : e ∈ o.after) (hb : Region.binds .any e = true) : e.on ∈ waitsOn ops i := by
  unfold waitsOn; rw [ho]; exact List.mem_map.2 ⟨e, List.mem_filter.2 ⟨by simpa using he, hb⟩, rfl⟩
theorem waits_mem {ops : Array Oper} {i j : Nat} {o : Oper} (ho : ops[i]? = some o) (h : j ∈ waitsOn ops i) : ∃ e ∈ o.after, Region.binds .any e = true ∧ e.on = j := by
  unfold waitsOn at h; rw [ho] at h
  obtain ⟨e, he, hj⟩ := List.mem_map.1 h
  obtain ⟨h1, h2⟩ := List.mem_filter.1 he
  exact ⟨e, by simpa using h1, h2, hj⟩

section
variable {P : Program} {ops : Array Oper} {Q : Exit → Act → World → Prop} {I : Array Bool → Act → World → Prop}
/-- The operation i, run in whatever state the invariant allows. -/
def StepI (P : Program) (ops : Array Oper) (Q : Exit → Act → World → Prop) (I : Array Bool → Act → World → Prop) (i : Nat) : Prop :=
  ∀ L a w, I L a w → ¬ On L i → On (L.setIfInBounds i true) i → (∀ j ∈ waitsOn ops i, On L j) → wpOp P ops Q i (fun a' w' => I (L.setIfInBounds i true) a' w') a w
def StepsI (P : Program) (ops : Array Oper) (Q : Exit → Act → World → Prop) (I : Array Bool → Act → World → Prop) (rs : List Nat) : Prop := ∀ i ∈ rs, StepI P ops Q I i
theorem StepsI.nil : StepsI P ops Q I [] := fun _ h => by cases h
theorem StepsI.cons {i : Nat} {o : Oper} {ws rs : List Nat} (ho : ops[i]? = some o) (hw : waitsOn ops i = ws)
    (h : ∀ L a w, I L a w → ¬ On L i → On (L.setIfInBounds i true) i → (∀ j ∈ ws, On L j) → ∀ K' : Act → World → Prop, Shut (∀ a w, I (L.setIfInBounds i true) a w → K' a w) → if Region.wanted o (yielded ops a.tmps) = true then Oper.wp P o a w K' Q else K' (a.put o.dst undef) w)
    (hs : StepsI P ops Q I rs) : StepsI P ops Q I (i :: rs) := fun j hj => by
  rcases List.mem_cons.1 hj with rfl | hj
  · intro L a w hI hn hi hL
    rw [hw] at hL
    exact wpOp_step ho (fun K' hK => h L a w hI hn hi hL K' hK)
  · exact hs j hj

theorem wpAny_inv (hs : ∀ i, i < ops.size → StepI P ops Q I i) (he : earlierB ops = true) (hend : ∀ L a w, (∀ i, i < ops.size → On L i) → I L a w → Q .normal a w) :
    ∀ (fuel : Nat) (L : Array Bool) (a : Act) (w : World), L.size = ops.size → L.toList.countP (fun b => !b) ≤ fuel → I L a w → wpAny P .any ops Q fuel L a w := by
  have hall : ∀ L : Array Bool, L.size = ops.size → Region.ready .any ops L = [] → ∀ i, i < ops.size → On L i := by
    intro L hL hr i
    induction i using Nat.strongRecOn with
    | _ i ih =>
      intro hi
      apply Classical.byContradiction
      intro hn
      have ho : ops[i]? = some ops[i] := Array.getElem?_eq_getElem hi
      have hmem : i ∈ Region.ready .any ops L := by
        rw [mem_ready]
        refine ⟨?_, ops[i], ho, fun e hee hb => ?_⟩
        · have hiL : i < L.size := by omega
          unfold On at hn
          simp only [Array.getD_eq_getD_getElem?, Array.getElem?_eq_getElem hiL, Option.getD_some] at hn ⊢
          cases hx : L[i] with
          | true => exact absurd hx hn
          | false => rfl
        · have hm := mem_waits ho hee hb
          have hlt : e.on < i := by
            unfold earlierB at he
            have h1 := List.all_eq_true.1 he i (List.mem_range.2 hi)
            have h2 := List.all_eq_true.1 h1 _ hm
            simpa using h2
          exact ih e.on hlt (by omega)
      rw [hr] at hmem
      cases hmem
  intro fuel
  induction fuel with
  | zero =>
    intro L a w hL hc hI
    have hon : ∀ i, i < ops.size → On L i := fun i hi => by
      have hiL : i < L.size := by omega
      have h0 : L.toList.countP (fun b => !b) = 0 := by omega
      rw [List.countP_eq_zero] at h0
      have := h0 L[i] (by simp)
      unfold On
      simp only [Array.getD_eq_getD_getElem?, Array.getElem?_eq_getElem hiL, Option.getD_some]
      simpa using this
    refine ⟨?_, hend L a w hon hI⟩
    cases hr : Region.ready .any ops L with
    | nil => rfl
    | cons i rs =>
      have hi : i ∈ Region.ready .any ops L := by rw [hr]; simp
      obtain ⟨h0, o, ho, _⟩ := mem_ready.1 hi
      have hlt : i < ops.size := (Array.getElem?_eq_some_iff.1 ho).1
      have h1 := hon i hlt
      have hiL : i < L.size := by omega
      unfold On at h1
      simp only [Array.getD_eq_getD_getElem?, Array.getElem?_eq_getElem hiL, Option.getD_some] at h0 h1
      rw [h0] at h1; cases h1
  | succ fuel ih =>
    intro L a w hL hc hI
    refine ⟨fun hr => hend L a w (hall L hL hr) hI, fun i hi => ?_⟩
    obtain ⟨h0, o, ho, hw⟩ := mem_ready.1 hi
    have hlt : i < ops.size := (Array.getElem?_eq_some_iff.1 ho).1
    have hiL : i < L.size := by omega
    refine wpOp_mono (fun a' w' h => ih _ a' w' (by simpa using hL) ?_ h) (hs i hlt L a w hI ?_ ?_ (fun j hj => ?_))
    · have hb : L[i] = false := by simpa [Array.getD_eq_getD_getElem?, Array.getElem?_eq_getElem hiL] using h0
      rw [Array.toList_setIfInBounds, List.countP_set (by simpa using hiL)]
      have h1 : 0 < L.toList.countP (fun b => !b) := List.countP_pos_iff.2 ⟨L[i], by simp, by simp [hb]⟩
      have h2 : (if (!L.toList[i]'(by simpa using hiL)) = true then 1 else 0) = 1 := by simp [hb]
      have h3 : (if (!true) = true then 1 else 0) = 0 := by simp
      rw [h2, h3]
      omega
    · unfold On
      simp only [Array.getD_eq_getD_getElem?, Array.getElem?_eq_getElem hiL, Option.getD_some] at h0 ⊢
      rw [h0]; decide
    · unfold On
      simp [hiL]
    · obtain ⟨e, he1, he2, rfl⟩ := waits_mem ho hj
      exact hw e he1 he2

theorem wp_region_inv {id : Nat} {a : Act} {w : World} {rs : List Nat} (I : Array Bool → Act → World → Prop) (hm : P.follows .mixedOrders = true) (h0 : I (Array.replicate ops.size false) a w.drew)
    (hr : List.range ops.size = rs) (he : earlierB ops = true) (hs : StepsI P ops Q I rs) (hend : ∀ L a w, (∀ i, i ∈ rs → On L i) → I L a w → Q .normal a w) : (Code.region id ops true).wp P Q a w :=
  wp_region_any hm (wpAny_inv (I := I) (fun i hi => hs i (by rw [← hr]; exact List.mem_range.2 hi)) he (fun L a w h => hend L a w (fun i hi => h i (by rw [← hr] at hi; exact List.mem_range.1 hi))) ops.size _ a _ (by simp)
    (by rw [Array.toList_replicate]; exact Nat.le_trans List.countP_le_length (by simp)) h0)
end
/-- A frame with other values in some slots, and what is known of these and of the world. -/
def FI (a0 : Act) (ds : List Nat) (J : Array Bool → List Value → World → Prop) (L : Array Bool) (a : Act) (w : World) : Prop := ∃ us, a = frmL a0 ds us ∧ J L us w
theorem wp_region_invF {P : Program} {ops : Array Oper} {Q : Exit → Act → World → Prop} {id : Nat} {a : Act} {w : World} {rs : List Nat} (ds : List Nat) (J : Array Bool → List Value → World → Prop) (hm : P.follows .mixedOrders = true)
    (h0 : ∃ us, a = frmL a ds us ∧ J (Array.replicate ops.size false) us w.drew)
    (hr : List.range ops.size = rs) (he : earlierB ops = true) (hs : StepsI P ops Q (FI a ds J) rs) (hend : ∀ L us w, (∀ i, i ∈ rs → On L i) → J L us w → Q .normal (frmL a ds us) w) : (Code.region id ops true).wp P Q a w :=
  wp_region_inv (FI a ds J) hm h0 hr he hs (fun L a' w h ⟨us, e, hJ⟩ => by subst e; exact hend L us w h hJ)
end Go.Proofs.Ytjkmgpiiamffgaa

