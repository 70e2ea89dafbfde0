/- Texts merged: N4 N17 N3 Y8a. -/
import Derived.Test.YtjkmgpiiamffgaaQ7
import Derived.LaidEqlPtr
/- Places: whether all are one another's neighbours, by the program. -/
namespace Go.Proofs.Ytjkmgpiiamffgaa
open Go.RowKit

/-- A list of pointers to places. -/
structure Ptrs (W : World) (B : Nat) (A : Option Addr) (l : List Nat) : Prop where
  at_ : 0 < l.length → ∃ b, A = some ⟨b, 0, none⟩ ∧ ∀ j, j < l.length → W.cell? ⟨b, j, none⟩ = some (.pointer (some ⟨B + 1 + l.getD j 0, 0, none⟩))
theorem ptrs_of {W : World} {B base : Nat} {v : Value} {l : List Nat} (h : W.ownsRow base 79 1 v l.length (l.map (pv B))) : ∃ A c, v = .slice A l.length c ∧ Ptrs W B A l := by
  rcases h.2 with ⟨rfl, h0⟩ | ⟨g, cap, cur, rfl, hb, hg, hnc, _, hcs, htake⟩
  · exact ⟨none, 0, by rw [h0], ⟨fun h => absurd h (by omega)⟩⟩
  · refine ⟨_, cap, rfl, ⟨fun _ => ⟨g, rfl, fun j hj => ?_⟩⟩⟩
    have e : (l.map (pv B))[j]? = some (pv B (l.getD j 0)) := by
      rw [List.getElem?_map, List.getElem?_eq_getElem hj]
      simp [List.getD, List.getElem?_eq_getElem hj]
    rw [← htake, List.getElem?_take, if_pos (by omega)] at e
    have : W.cell? ⟨g, j, none⟩ = some (pv B (l.getD j 0)) := by simp [World.cell?, hg]; simpa using e
    exact this
theorem Ptrs.keep {W W' : World} {B A l} (h : Ptrs W B A l) (k : Keep W W') : Ptrs W' B A l := ⟨fun hl => let ⟨b, e, hc⟩ := h.at_ hl; ⟨b, e, fun j hj => k _ _ (hc j hj)⟩⟩
theorem PLr.near {B n L s c R W} (h : PLr B n L s c R W) {v : Nat} (hv : v < n) : ∃ A k, R v = .slice A (L v).length k ∧ Ptrs W B A (L v) := ptrs_of (h.own v hv)
theorem PLr.quiet {B n L s c R W W'} (h : PLr B n L s c R W) (k : Quiet W W') : PLr B n L s c R W' := h.next k.below
theorem Try.info_pl : (Try.prog.info? 81).map (fun i => i.size) = some 3 := by kernel_rfl
theorem eqp_same (W : World) (a : Addr) : (binOp .eql 79 (.pointer (some a)) (.pointer (some a))).run Try.prog W = .ok (.bool true) W := by
  obtain ⟨j, hj, _⟩ := Option.map_eq_some_iff.1 Try.info_pl
  exact run_eql_ptr_same W a Try.underlying79 hj
theorem PLr.eqp {B n L s c R W} (h : PLr B n L s c R W) {u v : Nat} (hu : u < n) (hv : v < n) (hne : u ≠ v) :
    (binOp .eql 79 (.pointer (some ⟨B + 1 + u, 0, none⟩)) (.pointer (some ⟨B + 1 + v, 0, none⟩))).run Try.prog W = .ok (.bool false) W := by
  obtain ⟨j, hj, hz⟩ := Option.map_eq_some_iff.1 Try.info_pl
  exact run_eql_ptr_other W Try.underlying79 hj (by omega) (fun e => by injection e; omega) (h.bl u hu) (h.bl v hv)
theorem getD_mem {l : List Nat} {j : Nat} (h : j < l.length) : l.getD j 0 ∈ l := by simp [List.getD, List.getElem?_eq_getElem h]
end Go.Proofs.Ytjkmgpiiamffgaa

/- Rings by the program: the best of a place and its neighbours. -/
namespace Go.Proofs.Ytjkmgpiiamffgaa
open Go.RowKit

/-- The one with the most, of a place and the first of its neighbours. -/
def bstF (c : Nat → Int) (i : Nat) (l : List Nat) : Nat → Nat
  | 0 => i
  | j + 1 => if c (bstF c i l j) < c (l.getD j 0) then l.getD j 0 else bstF c i l j
theorem bstF_bat (a : List (List Int)) (x : List Int) (n i : Nat) : bstF (scv a x n) i [rl n i, rr n i] 2 = bat a x n i := rfl
set_option maxRecDepth 100000 in
set_option maxHeartbeats 800000 in
theorem best_any (B n : Nat) (L : Nat → List Nat) (s c : Nat → Int) (R : Nat → Value) (w : World) (h : PLr B n L s c R w) (v : Nat) (hv : v < n) (hL : (L v).length ≤ 5 ∧ ∀ u, u ∈ L v → u < n) :
    Calls Try.prog 75 #[.pointer (some ⟨B + 1 + v, 0, none⟩)] w fun e w' => e = .returned (.pointer (some ⟨B + 1 + bstF c v (L v) (L v).length, 0, none⟩)) ∧ Quiet w w' := by
  have HP := Lib.hid h
  obtain ⟨A, k, hR, hN⟩ := h.near hv
  have HN := Lib.hid hN
  have c0 := blk_cell (h.bl v hv) (i := 0) rfl
  rw [hR] at c0
  obtain ⟨hl5, hlu⟩ := hL
  have HU := Lib.hid hlu
  have HS : Hid (∀ j, bstF c v (L v) (j + 1) = if c (bstF c v (L v) j) < c ((L v).getD j 0) then (L v).getD j 0 else bstF c v (L v) j) := Lib.hid fun _ => rfl
  have HB0 : Hid (bstF c v (L v) 0 = v) := Lib.hid rfl
  clear hR hN hlu h
  generalize hm : (L v).length = m at *
  have HM := Lib.hid hm
  clear hm
  go_enter Try.func75, Try.ntmps75
  go_wp2
  go_loopw [3, 12] (fun x i wr => ∃ j : Nat, j ≤ m ∧ i = .int .i64 j ∧ x = .pointer (some ⟨B + 1 + bstF c v (L v) j, 0, none⟩) ∧ bstF c v (L v) j < n ∧ Quiet w wr) (fun _ i _ => m - (intOf i).toNat)
  case atStart => exact ⟨0, Nat.zero_le _, rfl, by rw [HB0.out], by rw [HB0.out]; exact hv, Quiet.refl _⟩
  case round =>
    obtain ⟨j, hj, rfl, rfl, hbn, q, rfl⟩ := hrel
    by_cases hjm : j < m
    · obtain ⟨b, rfl, hc⟩ := HN.out.at_ (by rw [HM.out]; omega)
      have c3 := hc j (by rw [HM.out]; omega)
      have hun := HU.out _ (getD_mem (l := L v) (j := j) (by rw [HM.out]; omega))
      have HE := Lib.hid (HS.out j)
      clear hc
      generalize (L v).getD j 0 = u at *
      generalize bstF c v (L v) j = y at *
      have c4 := blk_cell (HP.out.bl u hun) (i := 2) rfl
      have c5 := blk_cell (HP.out.bl y hbn) (i := 2) rfl
      generalize c u = cu at *
      generalize c y = cy at *
      by_cases hlt : cy < cu
      · have HE2 := Lib.hid (HE.out.trans (if_pos hlt))
        go_wp2
        go_quiet (fail)
        all_goals
          go_wp2
          go_roundw
          case rel => exact ⟨j + 1, by omega, by go_num, by rw [HE2.out], by rw [HE2.out]; exact hun, ⟨_, rfl⟩⟩
          case measure => simp [intOf]; omega
      · have HE2 := Lib.hid (HE.out.trans (if_neg hlt))
        go_wp2
        go_quiet (fail)
        all_goals
          go_wp2
          go_roundw
          case rel => exact ⟨j + 1, by omega, by go_num, by rw [HE2.out], by rw [HE2.out]; exact hbn, ⟨_, rfl⟩⟩
          case measure => simp [intOf]; omega
    · obtain rfl : m = j := by omega
      go_wp2
      go_ret
      exact ⟨rfl, ⟨_, rfl⟩⟩
/-- The places ahead and behind for the place i, in a row of their own. -/
theorem PLr.row2 {B n L s c R W} (h : PLr B n L s c R W) {i : Nat} (hi : i < n) (u1 u2 : Nat) :
    PLr B n (upd L i [u1, u2]) s c (upd R i (.slice (some ⟨W.heap.size, 0, none⟩) 2 2)) ((W.alloc (.cells #[pv B u1, pv B u2] 79)).setCell ⟨B + 1 + i, 0, none⟩ (.slice (some ⟨W.heap.size, 0, none⟩) 2 2)) := by
  have hs := h.sz
  have h1 := h.next (below_alloc W (.cells #[pv B u1, pv B u2] 79))
  have hown : (W.alloc (.cells #[pv B u1, pv B u2] 79)).ownsRow (B + 1 + n) 79 1 (.slice (some ⟨W.heap.size, 0, none⟩) 2 2) 2 [pv B u1, pv B u2] :=
    ⟨rfl, .inr ⟨W.heap.size, 2, #[pv B u1, pv B u2], rfl, hs, heap_alloc_new W _, Nat.le_refl _, by unfold maxLen; omega, rfl, rfl⟩⟩
  refine ⟨by simp [World.setCell]; omega, h1.row.setOther (by show B ≠ B + 1 + i; omega) _, fun v hv => ?_, fun v hv => ?_, fun v u hv hu hne b e1 e2 => ?_⟩
  · by_cases e : v = i
    · subst e
      rw [upd_same]
      exact blk_set (h1.bl v hv) 0 _
    · rw [upd_other _ _ e]
      exact blk_other (h1.bl v hv) (by show B + 1 + v ≠ B + 1 + i; omega) _
  · by_cases e : v = i
    · subst e
      rw [upd_same, upd_same]
      exact ownsRow_setCell_below hown (by show B + 1 + v < B + 1 + n; omega) _
    · rw [upd_other _ _ e, upd_other _ _ e]
      exact ownsRow_setCell_below (h1.own v hv) (by show B + 1 + i < B + 1 + n; omega) _
  · by_cases ev : v = i
    · subst ev
      rw [upd_same] at e1
      rw [upd_other _ _ (fun e => hne e.symm)] at e2
      have := ((h.own u hu).lt b e2).2
      simp [Value.ownBlock] at e1
      omega
    · rw [upd_other _ _ ev] at e1
      by_cases eu : u = i
      · subst eu
        rw [upd_same] at e2
        have := ((h.own v hv).lt b e1).2
        simp [Value.ownBlock] at e2
        omega
      · rw [upd_other _ _ eu] at e2
        exact h.far v u hv hu hne b e1 e2
/-- What the place i has. -/
theorem PLr.setC {B n L s c R W} (h : PLr B n L s c R W) {i : Nat} (hi : i < n) (x : Int) :
    PLr B n L s (upd c i x) R (W.setCell ⟨B + 1 + i, 2, none⟩ (.int .i64 x)) := by
  have hs := h.sz
  refine ⟨by simpa [World.setCell] using hs, h.row.setOther (by show B ≠ B + 1 + i; omega) _, fun v hv => ?_, fun v hv => ?_, h.far⟩
  · by_cases e : v = i
    · subst e
      rw [upd_same]
      exact blk_set (h.bl v hv) 2 _
    · rw [upd_other _ _ e]
      exact blk_other (h.bl v hv) (by show B + 1 + v ≠ B + 1 + i; omega) _
  · exact ownsRow_setCell_below (h.own v hv) (by show B + 1 + i < B + 1 + n; omega) _
/-- The blocks of a ring's places under way: the first i of them lie, each with its strategy. -/
structure PR (w : World) (n : Nat) (s : Nat → Int) (i : Nat) (W : World) : Prop where
  up : Below w.heap.size w W
  sz : W.heap.size = w.heap.size + 1 + i
  row : W.rowIs w.heap.size 79 n (fun v => if v < i then pv w.heap.size v else .pointer none)
  bl : ∀ v, v < i → Blk W (w.heap.size + 1 + v) 81 #[.slice none 0 0, .int .i64 (s v), .int .i64 0]
theorem PR.start (w : World) (n : Nat) (s : Nat → Int) : PR w n s 0 (w.alloc (.cells (madeCells #[.pointer none] n) 79)) :=
  ⟨below_alloc _ _, by simp, (World.rowIs_made w (.pointer none) n 79).congr fun i hi => by simp, fun v hv => absurd hv (by omega)⟩
theorem PR.step {w n s i W} (h : PR w n s i W) (hi : i < n) : PR w n s (i + 1) ((W.alloc (.cells #[.slice none 0 0, .int .i64 (s i), .int .i64 0] 81)).setCell ⟨w.heap.size, i, none⟩ (.pointer (some ⟨W.heap.size, 0, none⟩))) := by
  have hz := h.sz
  refine ⟨(below_up h.up (below_alloc _ _)).setCell (Nat.le_refl _) _, by simp [World.setCell]; omega, ?_, fun v hv => ?_⟩
  · refine ((h.row.alloc _).set i _).congr fun v hv => ?_
    by_cases e : v = i
    · subst e; simp [pv, hz]
    · rw [if_neg e]
      by_cases e2 : v < i
      · rw [if_pos e2, if_pos (by omega)]
      · rw [if_neg e2, if_neg (by omega)]
  · refine blk_other ?_ (by show w.heap.size + 1 + v ≠ w.heap.size; omega) _
    by_cases e : v < i
    · exact blk_old (h.bl v e) _
    · obtain rfl : v = i := by omega
      rw [← hz]; exact blk_new _ _ _
theorem PR.done {w n s W} (h : PR w n s n W) : Below w.heap.size w W ∧ PLr w.heap.size n (fun _ => []) s (fun _ => 0) (fun _ => .slice none 0 0) W :=
  ⟨h.up, by have := h.sz; omega, h.row.congr fun v hv => by rw [if_pos hv], fun v hv => h.bl v hv, fun v hv => World.ownsRow_nil _ _ _ _, fun v u _ _ _ b e => by simp [Value.ownBlock] at e⟩
/-- Places of a ring, the first i of them with their neighbours and with what they have. -/
def rgL (n i v : Nat) : List Nat := if v < i then [rl n v, rr n v] else []
def rgC (a : List (List Int)) (x : List Int) (n i v : Nat) : Int := if v < i then scv a x n v else 0
theorem rgL_step (n i : Nat) : ∀ v, upd (rgL n i) i [rl n i, rr n i] v = rgL n (i + 1) v := fun v => by
  unfold upd rgL
  by_cases e : v = i
  · subst e; rw [if_pos rfl, if_pos (by omega)]
  · rw [if_neg e]
    by_cases e2 : v < i
    · rw [if_pos e2, if_pos (by omega)]
    · rw [if_neg e2, if_neg (by omega)]
theorem rgC_step (a : List (List Int)) (x : List Int) (n i : Nat) : ∀ v, upd (rgC a x n i) i (scv a x n i) v = rgC a x n (i + 1) v := fun v => by
  unfold upd rgC
  by_cases e : v = i
  · subst e; rw [if_pos rfl, if_pos (by omega)]
  · rw [if_neg e]
    by_cases e2 : v < i
    · rw [if_pos e2, if_pos (by omega)]
    · rw [if_neg e2, if_neg (by omega)]
/-- What a call lays for a ring. -/
structure PG (w : World) (a : List (List Int)) (x : List Int) (n i : Nat) (W : World) : Prop where
  up : Below w.heap.size w W
  ex : ∃ R, PLr w.heap.size n (rgL n i) (gi x) (rgC a x n i) R W
theorem PR.pg {w a x n W} (h : PR w n (gi x) n W) : PG w a x n 0 W := ⟨h.up, _, h.done.2.congr (fun v _ => by unfold rgL; simp) (fun _ _ => rfl) (fun v _ => by unfold rgC; simp)⟩
theorem PG.step {w a x n i W} (h : PG w a x n i W) (hi : i < n) :
    PG w a x n (i + 1) (((W.alloc (.cells #[pv w.heap.size (rl n i), pv w.heap.size (rr n i)] 79)).setCell ⟨w.heap.size + 1 + i, 0, none⟩ (.slice (some ⟨W.heap.size, 0, none⟩) 2 2)).setCell ⟨w.heap.size + 1 + i, 2, none⟩ (.int .i64 (scv a x n i))) :=
  ⟨((below_up h.up (below_alloc _ _)).setCell (by show w.heap.size ≤ w.heap.size + 1 + i; omega) _).setCell (by show w.heap.size ≤ w.heap.size + 1 + i; omega) _,
   let ⟨R, q⟩ := h.ex; ⟨_, ((q.row2 hi (rl n i) (rr n i)).setC hi (scv a x n i)).congr (fun v _ => rgL_step n i v) (fun _ _ => rfl) (fun v _ => rgC_step a x n i v)⟩⟩

end Go.Proofs.Ytjkmgpiiamffgaa

/- Places as the program makes them: placesOf. -/
namespace Go.Proofs.Ytjkmgpiiamffgaa
open Go.RowKit

end Go.Proofs.Ytjkmgpiiamffgaa

/- A region that ends in one frame, whatever the order: walked on once. -/
namespace Go.Proofs.Ytjkmgpiiamffgaa
open Go.RowKit

/-- At the end of a region: one frame, and F of the world. -/
def OnceQ (b : Act) (F : World → Prop) : Exit → Act → World → Prop
  | .normal, b', v => b' = b ∧ F v
  | _, _, _ => False
theorem OnceQ.mk {b b' : Act} {F : World → Prop} {v : World} (h : b' = b) (f : F v) : OnceQ b F .normal b' v := ⟨h, f⟩
/-- A region that ends in one frame, whatever the order: what follows is walked once. -/
theorem region_once {P : Program} {c : Code} {Q : Exit → Act → World → Prop} {a : Act} {w : World} (F : World → Prop) {b : Act} (h : c.wp P (OnceQ b F) a w) (k : ∀ v, F v → Q .normal b v) : c.wp P Q a w :=
  Code.wp_mono (fun e b' v h => by
    cases e <;> first | exact (h : False).elim | (obtain ⟨rfl, hf⟩ := (h : b' = b ∧ F v); exact k v hf)) h
end Go.Proofs.Ytjkmgpiiamffgaa

