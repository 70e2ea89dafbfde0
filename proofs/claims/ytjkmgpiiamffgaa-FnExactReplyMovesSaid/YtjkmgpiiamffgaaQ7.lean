/- Texts merged: N3a. -/
import Derived.Test.YtjkmgpiiamffgaaQ6
import Derived.Deep.RegionHeldLaw
/- Places: pointers to structs with lists of neighbours, as the program makes them. -/
namespace Go.Proofs.Ytjkmgpiiamffgaa
open Go.RowKit

theorem Try.info_pp : (Try.prog.info? 79).map (fun i => (i.zero, i.size, i.bytes)) = some (some (.pointer none), 1, 8) := by kernel_rfl
/-- A pointer to the place v of those behind block B. -/
def pv (B v : Nat) : Value := .pointer (some ⟨B + 1 + v, 0, none⟩)
structure PLr (B n : Nat) (L : Nat → List Nat) (s c : Nat → Int) (R : Nat → Value) (W : World) : Prop where
  sz : B + 1 + n ≤ W.heap.size
  row : W.rowIs B 79 n (pv B)
  bl : ∀ v, v < n → Blk W (B + 1 + v) 81 #[R v, .int .i64 (s v), .int .i64 (c v)]
  own : ∀ v, v < n → W.ownsRow (B + 1 + n) 79 1 (R v) (L v).length ((L v).map (pv B))
  far : ∀ v u, v < n → u < n → v ≠ u → ∀ b, (R v).ownBlock = some b → (R u).ownBlock ≠ some b
theorem PLr.next {B n L s c R W W'} (h : PLr B n L s c R W) (k : Below W.heap.size W W') : PLr B n L s c R W' :=
  ⟨Nat.le_trans h.sz k.size, h.row.of_block (k.block _ h.row.lt), fun v hv => blk_below (h.bl v hv) k, fun v hv => blk_kept (h.own v hv) fun g hg => k.block g ((h.own v hv).lt g hg).2, h.far⟩
theorem PLr.congr {B n L L' s c s' c' R W} (h : PLr B n L s c R W) (e : ∀ v, v < n → L v = L' v) (es : ∀ v, v < n → s v = s' v) (ec : ∀ v, v < n → c v = c' v) : PLr B n L' s' c' R W :=
  ⟨h.sz, h.row, fun v hv => by rw [← es v hv, ← ec v hv]; exact h.bl v hv, fun v hv => by rw [← e v hv]; exact h.own v hv, h.far⟩
def upd {α : Type} (f : Nat → α) (i : Nat) (x : α) : Nat → α := fun v => if v = i then x else f v
theorem upd_same {α : Type} (f : Nat → α) (i : Nat) (x : α) : upd f i x i = x := if_pos rfl
theorem upd_other {α : Type} (f : Nat → α) {i v : Nat} (x : α) (h : v ≠ i) : upd f i x v = f v := if_neg h
/-- One neighbour more for the place i. -/
theorem PLr.push {B n L s c R W W' v' X} (h : PLr B n L s c R W) {i u : Nat} (hi : i < n)
    (hown : W'.ownsRow (B + 1 + n) 79 1 v' ((L i).length + 1) ((L i).map (pv B) ++ [pv B u])) (hgrow : (W.alloc X).grownBy W' (R i).ownBlock)
    (hat : v'.ownBlock = (R i).ownBlock ∨ v'.ownBlock = some (W.heap.size + 1)) :
    PLr B n (upd L i (L i ++ [u])) s c (upd R i v') (W'.setCell ⟨B + 1 + i, 0, none⟩ v') := by
  have hsz := hgrow.size
  simp only [World.size_alloc] at hsz
  have hs := h.sz
  have hk : ∀ k, k < W.heap.size → some k ≠ (R i).ownBlock → W'.heap[k]? = W.heap[k]? := fun k hk hne => (hgrow.block k (by simp; omega) hne).trans (Below.heap_alloc _ _ _ hk)
  have hlow : ∀ k, k < B + 1 + n → W'.heap[k]? = W.heap[k]? := fun k hk' => hk k (by omega) (fun e => by have := ((h.own i hi).lt k e.symm).1; omega)
  refine ⟨by simpa [World.setCell] using (by omega : B + 1 + n ≤ W'.heap.size), (h.row.of_block (hlow _ (by omega))).setOther (by show B ≠ B + 1 + i; omega) _, fun v hv => ?_, fun v hv => ?_, fun v u hv hu hne b e1 e2 => ?_⟩
  · have hb : Blk W' (B + 1 + v) 81 #[R v, .int .i64 (s v), .int .i64 (c v)] := (hlow _ (by omega)).trans (h.bl v hv)
    by_cases e : v = i
    · subst e
      rw [upd_same]
      exact blk_set hb 0 v'
    · rw [upd_other _ _ e]
      exact blk_other hb (by show B + 1 + v ≠ B + 1 + i; omega) _
  · by_cases e : v = i
    · subst e
      rw [upd_same, upd_same]
      have q := ownsRow_setCell_below hown (a := ⟨B + 1 + v, 0, none⟩) (by show B + 1 + v < B + 1 + n; omega) v'
      rw [List.length_append, List.length_singleton, List.map_append]
      exact q
    · rw [upd_other _ _ e, upd_other _ _ e]
      exact ownsRow_setCell_below (blk_kept (h.own v hv) fun g hg => hk g ((h.own v hv).lt g hg).2 (fun e' => h.far v i hv hi e g hg e'.symm)) (by show B + 1 + i < B + 1 + n; omega) v'
  · by_cases ev : v = i
    · subst ev
      rw [upd_same] at e1
      rw [upd_other _ _ (fun e => hne e.symm)] at e2
      rcases hat with hat | hat
      · exact h.far v u hv hu hne b (hat ▸ e1) e2
      · rw [hat] at e1; injection e1 with e1; have := ((h.own u hu).lt b e2).2; omega
    · rw [upd_other _ _ ev] at e1
      by_cases eu : u = i
      · subst eu
        rw [upd_same] at e2
        rcases hat with hat | hat
        · exact h.far v u hv hu hne b e1 (hat ▸ e2)
        · rw [hat] at e2; injection e2 with e2; have := ((h.own v hv).lt b e1).2; omega
      · rw [upd_other _ _ eu] at e2
        exact h.far v u hv hu hne b e1 e2
theorem PLr.low {B n L s c R W W' X} (h : PLr B n L s c R W) {i : Nat} (hi : i < n) (hgrow : ((W.alloc X).drew).grownBy W' (R i).ownBlock) : ∀ k, k < B + 1 + n → W'.heap[k]? = W.heap[k]? := fun k hk' => by
  have hs := h.sz
  exact (hgrow.block k (by show k < (W.alloc X).heap.size; simp; omega) (fun e => by have := ((h.own i hi).lt k e.symm).1; omega)).trans (Below.heap_alloc _ _ _ (by omega))
/-- Places that a call has made. -/
structure PW (w : World) (n : Nat) (L : Nat → List Nat) (s c : Nat → Int) (W : World) : Prop where
  up : Below w.heap.size w W
  ex : ∃ R, PLr w.heap.size n L s c R W
theorem PW.next {w n L s c W W'} (h : PW w n L s c W) (k : Below W.heap.size W W') : PW w n L s c W' := ⟨below_up h.up k, let ⟨R, q⟩ := h.ex; ⟨R, q.next k⟩⟩
theorem PW.congr {w n L L' s c s' c' W} (h : PW w n L s c W) (e : ∀ v, v < n → L v = L' v) (es : ∀ v, v < n → s v = s' v) (ec : ∀ v, v < n → c v = c' v) : PW w n L' s' c' W := ⟨h.up, let ⟨R, q⟩ := h.ex; ⟨R, q.congr e es ec⟩⟩
/-- .. the places' blocks under way: the first i of them lie. -/
structure PA7 (w : World) (n i : Nat) (W : World) : Prop where
  up : Below w.heap.size w W
  sz : W.heap.size = w.heap.size + 1 + i
  row : W.rowIs w.heap.size 79 n (fun v => if v < i then pv w.heap.size v else .pointer none)
  bl : ∀ v, v < i → Blk W (w.heap.size + 1 + v) 81 #[.slice none 0 0, .int .i64 0, .int .i64 0]
theorem PA7.start (w : World) (n : Nat) : PA7 w n 0 (w.alloc (.cells (madeCells #[.pointer none] n) 79)) :=
  ⟨below_alloc _ _, by simp, (World.rowIs_made w (.pointer none) n 79).congr fun i hi => by simp, fun v hv => absurd hv (by omega)⟩
theorem PA7.step {w n i W} (h : PA7 w n i W) (hi : i < n) : PA7 w n (i + 1) ((W.alloc (.cells #[.slice none 0 0, .int .i64 0, .int .i64 0] 81)).setCell ⟨w.heap.size, i, none⟩ (.pointer (some ⟨W.heap.size, 0, none⟩))) := by
  have hz := h.sz
  refine ⟨(below_up h.up (below_alloc _ _)).setCell (Nat.le_refl _) _, by simp [World.setCell]; omega, ?_, fun v hv => ?_⟩
  · refine ((h.row.alloc _).set i _).congr fun v hv => ?_
    by_cases e : v = i
    · subst e; simp [pv, hz]
    · rw [if_neg e]
      by_cases e2 : v < i
      · rw [if_pos e2, if_pos (by omega)]
      · rw [if_neg e2, if_neg (by omega)]
  · refine blk_other ?_ (by show w.heap.size + 1 + v ≠ w.heap.size; omega) _
    by_cases e : v < i
    · exact blk_old (h.bl v e) _
    · obtain rfl : v = i := by omega
      rw [← hz]; exact blk_new _ _ _
theorem PA7.done {w n W} (h : PA7 w n n W) : Below w.heap.size w W ∧ PLr w.heap.size n (fun _ => []) (fun _ => 0) (fun _ => 0) (fun _ => .slice none 0 0) W :=
  ⟨h.up, by have := h.sz; omega, h.row.congr fun v hv => by rw [if_pos hv], fun v hv => h.bl v hv, fun v hv => World.ownsRow_nil _ _ _ _, fun v u _ _ _ b e => by simp [Value.ownBlock] at e⟩
/-- The neighbours of v as plain numbers. -/
def nn (g : List Int) (v : Nat) : List Nat := (nb g v).map Int.toNat
theorem nn_len (g : List Int) (v : Nat) : (nn g v).length = (nb g v).length := by simp [nn]
theorem mem5_bd : ((List.range 6).all fun n => (List.range (2 ^ n)).all fun s => (memL s 5).all fun x => decide (0 ≤ x) && decide (x < (n : Int))) = true := by decide +kernel
theorem nb_bd {g : List Int} (hi : InG g) (h5 : g.length ≤ 5) {v : Nat} (hv : v < g.length) : ∀ x ∈ nb g v, 0 ≤ x ∧ x < (g.length : Int) := fun x hx => by
  have t := mem5_bd
  simp only [List.all_eq_true, List.mem_range, Bool.and_eq_true, decide_eq_true_eq] at t
  have h1 := hi v hv
  unfold InR at h1
  have h6 : ((2 ^ g.length : Nat) : Int) = (2 : Int) ^ g.length := by simp
  exact t g.length (by omega) (gi g v).toNat (by omega) x hx
theorem gi_nb {g : List Int} (hi : InG g) (h5 : g.length ≤ 5) {v : Nat} (hv : v < g.length) {j : Nat} (hj : j < (nb g v).length) : gi (nb g v) j = (((nn g v).getD j 0 : Nat) : Int) ∧ (nn g v).getD j 0 < g.length := by
  have hm := nb_bd hi h5 hv _ (gi_mem (xs := nb g v) hj)
  have e : (nn g v).getD j 0 = (gi (nb g v) j).toNat := by
    unfold nn gi
    simp [List.getD, List.getElem?_map, List.getElem?_eq_getElem hj]
  rw [e]; omega
theorem nn_take {g : List Int} {v j : Nat} (hj : j < (nb g v).length) : (nn g v).take (j + 1) = (nn g v).take j ++ [(nn g v).getD j 0] := by
  rw [← nn_len] at hj
  rw [List.take_add_one, List.getElem?_eq_getElem hj]
  simp [List.getD, List.getElem?_eq_getElem hj]
/-- What lies while the neighbours of the place i are laid. -/
structure PI7 (w wx : World) (n i : Nat) (L : Nat → List Nat) (W : World) : Prop where
  up : Below w.heap.size w W
  ex : ∃ R, PLr w.heap.size n L (fun _ => 0) (fun _ => 0) R W ∧ (∀ b, (R i).ownBlock = some b → wx.heap.size ≤ b) ∧ ∀ v, i < v → v < n → R v = .slice none 0 0
  sz : wx.heap.size ≤ W.heap.size
  old : ∀ k, k < wx.heap.size → k ≠ w.heap.size + 1 + i → W.heap[k]? = wx.heap[k]?
theorem PI7.congr {w wx n i L L' W} (h : PI7 w wx n i L W) (e : ∀ v, v < n → L v = L' v) : PI7 w wx n i L' W := ⟨h.up, let ⟨R, q, r⟩ := h.ex; ⟨R, q.congr e (fun _ _ => rfl) (fun _ _ => rfl), r⟩, h.sz, h.old⟩
/-- .. and ahead of it: what is to come has no neighbours yet. -/
structure PO (w : World) (n i : Nat) (L : Nat → List Nat) (W : World) : Prop where
  up : Below w.heap.size w W
  ex : ∃ R, PLr w.heap.size n L (fun _ => 0) (fun _ => 0) R W ∧ ∀ v, i ≤ v → v < n → R v = .slice none 0 0
theorem PO.next {w n i L W W'} (h : PO w n i L W) (k : Below W.heap.size W W') : PO w n i L W' := ⟨below_up h.up k, let ⟨R, q, r⟩ := h.ex; ⟨R, q.next k, r⟩⟩
theorem PO.start {w n i L W} (h : PO w n i L W) (hi : i < n) : PI7 w W n i L W :=
  ⟨h.up, let ⟨R, q, r⟩ := h.ex; ⟨R, q, fun b hb => by rw [r i (Nat.le_refl _) hi] at hb; simp [Value.ownBlock] at hb, fun v a b => r v (by omega) b⟩, Nat.le_refl _, fun _ _ _ => rfl⟩
theorem PI7.done {w wx n i L L' W} (h : PI7 w wx n i L W) (e : ∀ v, v < n → L v = L' v) : PO w n (i + 1) L' W := ⟨h.up, let ⟨R, q, _, r⟩ := h.ex; ⟨R, q.congr e (fun _ _ => rfl) (fun _ _ => rfl), fun v a b => r v (by omega) b⟩⟩
theorem PO.done {w n L W} (h : PO w n n L W) : PW w n L (fun _ => 0) (fun _ => 0) W := ⟨h.up, let ⟨R, q, _⟩ := h.ex; ⟨R, q⟩⟩
theorem PI7.ints {w wx n i L W A m c xs b lo hi} (h : PI7 w wx n i L W) (ho : OwnI lo hi wx b A m c xs) (hlo : w.heap.size + 1 + i < lo) : Ints W A m c xs :=
  (ho.of_block fun hn => h.old _ (ho.lt hn) (fun e => by obtain ⟨_, _, a, _, _⟩ := ho.own hn; omega)).ints
theorem PI7.push {w wx n i L R W W0 W' v' X} (hI : PI7 w wx n i L W0) (hd : Quiet W0 W) (h : PLr w.heap.size n L (fun _ => 0) (fun _ => 0) R W0) (hR : (∀ b, (R i).ownBlock = some b → wx.heap.size ≤ b) ∧ ∀ v, i < v → v < n → R v = .slice none 0 0) {u : Nat} (hi : i < n)
    (hown : W'.ownsRow (w.heap.size + 1 + n) 79 1 v' ((L i).length + 1) ((L i).map (pv w.heap.size) ++ [pv w.heap.size u])) (hgrow : (W.alloc X).grownBy W' (R i).ownBlock)
    (hat : v'.ownBlock = (R i).ownBlock ∨ v'.ownBlock = some (W.heap.size + 1)) :
    PI7 w wx n i (upd L i (L i ++ [u])) (W'.setCell ⟨w.heap.size + 1 + i, 0, none⟩ v') := by
  have hq := h.next hd.below
  have hsz := hgrow.size
  simp only [World.size_alloc] at hsz
  obtain ⟨m, rfl⟩ := hd
  have hsz' : W0.heap.size + 1 ≤ W'.heap.size := hsz
  have hs := h.sz
  have hown' := hq.own i hi
  have hx := hI.sz
  have hk : ∀ k, k < W0.heap.size → some k ≠ (R i).ownBlock → W'.heap[k]? = W0.heap[k]? := fun k hk hne => (hgrow.block k (by simp; show k < W0.heap.size + 1; omega) hne).trans (Below.heap_alloc (W0.drewN m) _ _ hk)
  have hold : ∀ k, k < wx.heap.size → k ≠ w.heap.size + 1 + i → W'.heap[k]? = wx.heap[k]? := fun k h1 h2 => (hk k (by omega) (fun e => by have := hR.1 k e.symm; omega)).trans (hI.old k h1 h2)
  have hlow : ∀ k, k < w.heap.size → W'.heap[k]? = w.heap[k]? := fun k h1 => (hk k (by omega) (fun e => by have := (hown'.lt k e.symm).1; omega)).trans (hI.up.block k h1)
  refine ⟨Below.setCell ⟨hgrow.os.trans hI.up.os, hgrow.tape.trans hI.up.tape, hgrow.output.trans hI.up.output, by have := hI.up.size; omega, hlow⟩ (by show w.heap.size ≤ w.heap.size + 1 + i; omega) _, ⟨_, hq.push hi hown hgrow hat, fun b hb => ?_, fun v a b => by rw [upd_other _ _ (by omega)]; exact hR.2 v a b⟩, by simpa [World.setCell] using (by omega : wx.heap.size ≤ W'.heap.size), fun k h1 h2 => (Below.heap_setCell _ _ _ _ (by show k ≠ w.heap.size + 1 + i; exact h2)).trans (hold k h1 h2)⟩
  rw [upd_same] at hb
  rcases hat with hat | hat
  · exact hR.1 b (hat ▸ hb)
  · rw [hat] at hb; injection hb with hb
    have : W0.heap.size + 1 = b := hb
    omega
/-- The lists while the place i has its first j neighbours. -/
def Lst (g : List Int) (i j : Nat) : Nat → List Nat := fun v => if v < i then nn g v else if v = i then (nn g v).take j else []
theorem Lst_i (g : List Int) (i j : Nat) : Lst g i j i = (nn g i).take j := by unfold Lst; rw [if_neg (by omega), if_pos rfl]
theorem Lst_next {g : List Int} {i j : Nat} (hj : j < (nb g i).length) (v : Nat) : upd (Lst g i j) i (Lst g i j i ++ [(nn g i).getD j 0]) v = Lst g i (j + 1) v := by
  by_cases e : v = i
  · subst e; rw [upd_same, Lst_i, Lst_i, nn_take hj]
  · rw [upd_other _ _ e]; unfold Lst
    by_cases h : v < i
    · rw [if_pos h, if_pos h]
    · rw [if_neg h, if_neg h, if_neg e, if_neg e]
theorem Lst_up (g : List Int) (i v : Nat) : Lst g i (nb g i).length v = Lst g (i + 1) 0 v := by
  unfold Lst
  by_cases h : v < i
  · rw [if_pos h, if_pos (by omega)]
  · rw [if_neg h]
    by_cases e : v = i
    · subst e; rw [if_pos rfl, if_pos (by omega), ← nn_len, List.take_length]
    · rw [if_neg e, if_neg (by omega)]
      by_cases e2 : v = i + 1
      · rw [if_pos e2]; simp
      · rw [if_neg e2]
theorem quiet_drew (w : World) : Quiet w w.drew := ⟨1, rfl⟩
def NewPl (w : World) (n : Nat) (L : Nat → List Nat) (e : Ending) (w' : World) : Prop := e = .returned (.slice (some ⟨w.heap.size, 0, none⟩) n n) ∧ PW w n L (fun _ => 0) (fun _ => 0) w'
theorem nil_of_own {W : World} {base n : Nat} {e : TypeId} {v : Value} {xs : List Value} (h : W.ownsRow base e 1 v n xs) (_ : n = 0) (hg : ∀ b, v.ownBlock ≠ some b) : v = .slice none 0 0 := by
  rcases h.2 with ⟨rfl, _⟩ | ⟨g, cap, cur, rfl, _⟩
  · rfl
  · exact absurd rfl (hg g)
end Go.Proofs.Ytjkmgpiiamffgaa

