/- Texts merged: W1 W2 W3 K1 W4 R12 S8 S9 T3. -/
import Derived.Test.YtjmfkodbilknlaaQ4
import Derived.Deep.RegionLaw
/- Rows that are appended to in their places of a made slice; a part of a table, by the program. -/
namespace Go.Proofs.Ytjmfkodbilknlaa
open Go.RowKit

/-- A made slice of k rows, of which the first i are done, row i is under way, and the others are nil. -/
structure PU (wb : World) (k H i : Nat) (vs : Nat → Value) (xss : List (List Int)) (v : Value) (ys : List Int) (w : World) : Prop where
  top : w.rowIs wb.heap.size 36 k vs
  cur : i < k → vs i = v
  rest : ∀ p, i < p → p < k → vs p = .slice none 0 0
  ex : ∃ (G : Nat → Nat) (R : Nat → Option Addr) (C : Nat → Nat), (∀ p, p < i → vs p = .slice (R p) (gr xss p).length (C p) ∧ OwnI (wb.heap.size + 1) H w (G p) (R p) (gr xss p).length (C p) (gr xss p)) ∧
    ∀ j p, j < p → p < i → 0 < (gr xss j).length → 0 < (gr xss p).length → G j ≠ G p
  len : xss.length = i
  bi : BldI H w.heap.size w v ys
  lh : wb.heap.size + 1 ≤ H
  hs : H ≤ w.heap.size
  up : Below wb.heap.size wb w
theorem PU.start (wb : World) (k : Nat) : PU wb k (wb.heap.size + 1) 0 (fun _ => .slice none 0 0) [] (.slice none 0 0) [] (wb.alloc (.cells (madeCells #[.slice none 0 0] k) 36)) :=
  ⟨World.rowIs_made wb (.slice none 0 0) k 36, fun _ => rfl, fun _ _ _ => rfl, ⟨fun _ => 0, fun _ => none, fun _ => 0, fun p hp => absurd hp (by omega), fun j p _ hp => absurd hp (by omega)⟩, rfl, BldI.nil _ _ _, Nat.le_refl _, by simp, below_alloc _ _⟩
theorem PU.below {wb k H i vs xss v ys w w'} (h : PU wb k H i vs xss v ys w) (q : Below w.heap.size w w') : PU wb k H i vs xss v ys w' := by
  obtain ⟨G, R, C, h1, h2⟩ := h.ex
  have hz := q.size
  have hhs := h.hs
  exact ⟨h.top.of_block (q.block _ h.top.lt), h.cur, h.rest, ⟨G, R, C, fun p hp => ⟨(h1 p hp).1, (h1 p hp).2.below q⟩, h2⟩, h.len, (h.bi.below q).mono hz, h.lh, by omega, below_up h.up q⟩
theorem PU.qu {wb k H i vs xss v ys w w'} (h : PU wb k H i vs xss v ys w) (q : Quiet w w') : PU wb k H i vs xss v ys w' := h.below q.below
theorem PU.cell {wb k H i vs xss v ys w} (h : PU wb k H i vs xss v ys w) (hi : i < k) : w.cell? ⟨wb.heap.size, i, none⟩ = some v := by rw [h.top.cell hi, h.cur hi]
/-- Behind the append, before the store. -/
theorem PU.mid {wb k H i vs xss v ys w w2 w1} (h : PU wb k H i vs xss v ys w) (hb : Below w.heap.size w w2) (hgrow : w2.grownBy w1 v.ownBlock) :
    (∀ g, g < H → w1.heap[g]? = w.heap[g]?) ∧ Below wb.heap.size wb w1 ∧ w.heap.size ≤ w1.heap.size := by
  have hu : ∀ g, v.ownBlock = some g → H ≤ g := fun g hg => (h.bi.own.lt g hg).1
  have hz := hb.size
  have hz2 := hgrow.size
  have hhs := h.hs
  have hlh := h.lh
  have hbl : ∀ g, g < H → w1.heap[g]? = w.heap[g]? := fun g hg => (hgrow.block g (by omega) (fun e => by have := hu g e.symm; omega)).trans (hb.block g (by omega))
  refine ⟨hbl, ?_, by omega⟩
  exact (below_up h.up hb).grown hgrow (by have := h.up.size; omega) fun g hg => by have := hu g hg; omega
theorem PU.mid_cell {wb k H i vs xss v ys w w2 w1} (h : PU wb k H i vs xss v ys w) (hi : i < k) (hb : Below w.heap.size w w2) (hgrow : w2.grownBy w1 v.ownBlock) :
    w1.cell? ⟨wb.heap.size, i, none⟩ = some v ∧ w1.frozen? ⟨wb.heap.size, i, none⟩ = false := by
  have hlh := h.lh
  have h1 := h.top.of_block ((h.mid hb hgrow).1 _ (by omega))
  exact ⟨by rw [h1.cell hi, h.cur hi], h1.frozen i⟩
theorem PU.push {wb k H i vs xss v ys w w2 w1 x} {gg cap : Nat} (h : PU wb k H i vs xss v ys w) (_ : i < k) (hb : Below w.heap.size w w2)
    (hown : w1.ownsRow H 3 1 (.slice (some ⟨gg, 0, none⟩) (ys.length + 1) cap) (ys.length + 1) (ys.map iv ++ [iv x])) (hgrow : w2.grownBy w1 v.ownBlock) (hlt : gg < w1.heap.size) :
    PU wb k H i (fun j => if j = i then .slice (some ⟨gg, 0, none⟩) (ys.length + 1) cap else vs j) xss (.slice (some ⟨gg, 0, none⟩) (ys.length + 1) cap) (ys ++ [x])
      (w1.setCell ⟨wb.heap.size, i, none⟩ (.slice (some ⟨gg, 0, none⟩) (ys.length + 1) cap)) := by
  obtain ⟨hbl, hup, hsz⟩ := h.mid hb hgrow
  obtain ⟨G, R, C, h1, h2⟩ := h.ex
  have hlh := h.lh
  have hhs := h.hs
  have hset : ∀ g, g ≠ wb.heap.size → (w1.setCell ⟨wb.heap.size, i, none⟩ (.slice (some ⟨gg, 0, none⟩) (ys.length + 1) cap)).heap[g]? = w1.heap[g]? := fun g hg => Below.heap_setCell _ _ _ _ hg
  have hgl := (hown.lt gg rfl).1
  have hss : (w1.setCell ⟨wb.heap.size, i, none⟩ (.slice (some ⟨gg, 0, none⟩) (ys.length + 1) cap)).heap.size = w1.heap.size := by simp [World.setCell]
  refine ⟨(h.top.of_block (hbl _ (by omega))).set i _, fun _ => by simp, fun p hp hpk => ?_, ⟨G, R, C, fun p hp => ⟨?_, (h1 p hp).2.of_block fun hn => ?_⟩, h2⟩, h.len, ⟨?_, fun g hg => ?_⟩, hlh, by omega, hup.setCell (p := ⟨wb.heap.size, i, none⟩) (Nat.le_refl _) _⟩
  · show (if p = i then _ else vs p) = _
    rw [if_neg (by omega)]; exact h.rest p hp hpk
  · show (if p = i then _ else vs p) = _
    rw [if_neg (by omega)]; exact (h1 p hp).1
  · obtain ⟨_, _, q1, q2, _⟩ := (h1 p hp).2.own hn
    exact (hset _ (by omega)).trans (hbl _ q2)
  · rw [List.length_append, List.length_singleton, List.map_append]
    exact blk_kept hown fun g hg => hset g (by
      have : gg = g := by simpa [Value.ownBlock] using hg
      omega)
  · have : gg = g := by simpa [Value.ownBlock] using hg
    omega
theorem PU.next {wb k H i vs xss ys w} {A : Option Addr} {c : Nat} (h : PU wb k H i vs xss (.slice A ys.length c) ys w) (hi : i < k) (hm : ys.length ≤ 100) (hb : ∀ y ∈ ys, -1000000000000000 ≤ y ∧ y ≤ 1000000000000000) :
    PU wb k w.heap.size (i + 1) vs (xss ++ [ys]) (.slice none 0 0) [] w := by
  obtain ⟨G, R, C, h1, h2⟩ := h.ex
  have hl := h.len
  have hlh := h.lh
  have hhs := h.hs
  obtain ⟨A', n', c', g, e, hn, ho, _⟩ := h.bi.owns (by omega) (fun t ht => by have := hb t ht; omega)
  injection e with e1 e2 e3
  subst e1
  subst e2
  subst e3
  refine ⟨h.top, fun hk => h.rest _ (by omega) hk, fun p hp hpk => h.rest p (by omega) hpk, ⟨fun p => if p < i then G p else g, fun p => if p < i then R p else A, fun p => if p < i then C p else c, fun p hp => ?_, fun j p hj hp hj0 hp0 => ?_⟩, by rw [List.length_append, List.length_singleton, hl], BldI.nil _ _ _, by omega, Nat.le_refl _, h.up⟩
  · by_cases e : p < i
    · simp only [if_pos e]
      rw [gr_snoc_lt (by omega)]
      exact ⟨(h1 p e).1, (h1 p e).2.mono (Nat.le_refl _) hhs⟩
    · obtain rfl : p = xss.length := by omega
      simp only [if_neg e]
      rw [gr_snoc_eq]
      exact ⟨by rw [hl]; exact h.cur hi, ho.mono hlh (Nat.le_refl _)⟩
  · have ej : j < i := by omega
    simp only [if_pos ej]
    rw [gr_snoc_lt (by omega)] at hj0
    by_cases e : p < i
    · simp only [if_pos e]
      rw [gr_snoc_lt (by omega)] at hp0
      exact h2 j p hj e hj0 hp0
    · obtain rfl : p = xss.length := by omega
      simp only [if_neg e]
      rw [gr_snoc_eq] at hp0
      obtain ⟨_, _, _, q, _⟩ := (h1 j ej).2.own hj0
      obtain ⟨_, _, q', _⟩ := ho.own hp0
      omega
theorem PU.done {wb k H vs xss v ys w} (h : PU wb k H k vs xss v ys w) (hm : k ≤ 1000) : OwnR wb.heap.size w.heap.size w wb.heap.size (some ⟨wb.heap.size, 0, none⟩) k k xss := by
  obtain ⟨G, R, C, h1, h2⟩ := h.ex
  refine ⟨h.len, Nat.le_refl _, by omega, fun _ => ⟨0, G, R, C, rfl, Nat.le_refl _, h.top.lt, fun p hp => ⟨by rw [Nat.zero_add]; exact h.top.frozen p, by rw [Nat.zero_add, h.top.cell hp, (h1 p hp).1], (h1 p hp).2.mono (by omega) h.hs, fun hn e => ?_⟩, h2⟩⟩
  obtain ⟨_, _, q, _⟩ := (h1 p hp).2.own hn
  omega

end Go.Proofs.Ytjmfkodbilknlaa

/- A row without the number of one column, by the program. -/
namespace Go.Proofs.Ytjmfkodbilknlaa
open Go.RowKit

theorem addr_add (b o i : Nat) : (⟨b, o, none⟩ : Addr).add i = ⟨b, o + i, none⟩ := by unfold Addr.add; split <;> simp_all
theorem rowW_parts {xs : List Int} {j : Nat} : ∀ {n : Nat}, n ≤ xs.length → rowW xs j n = xs.take (min j n) ++ (xs.take n).drop (j + 1)
  | 0, _ => by simp [rowW]
  | n + 1, h => by
    have ih := rowW_parts (xs := xs) (j := j) (n := n) (by omega)
    have ht : xs.take (n + 1) = xs.take n ++ [gi xs n] := by rw [List.take_succ_eq_append_getElem (by omega), gi_get (by omega)]
    by_cases e : n = j
    · subst e
      rw [rowW_at, ih, ht, show min n (n + 1) = n by omega, show min n n = n by omega]
      congr 1
      rw [List.drop_eq_nil_of_le (by simp; omega), List.drop_eq_nil_of_le (by simp; omega)]
    · rw [rowW_ne e, ih, ht]
      by_cases hlt : n < j
      · rw [show min j n = n by omega, show min j (n + 1) = n + 1 by omega, ht, show (xs.take n).drop (j + 1) = [] from List.drop_eq_nil_of_le (by rw [List.length_take]; omega), List.drop_eq_nil_of_le (by simp; omega)]
        simp
      · rw [show min j n = j by omega, show min j (n + 1) = j by omega, List.drop_append_of_le_length (by simp; omega), List.append_assoc]
theorem rowW_cut {xs : List Int} {j : Nat} (h : j < xs.length) : rowW xs j xs.length = xs.take j ++ xs.drop (j + 1) := by
  rw [rowW_parts (Nat.le_refl _), List.take_length, show min j xs.length = j by omega]
theorem news_take {w : World} {b o n : Nat} {xs : List Int} (hl : xs.length = n) (hc : ∀ k, k < n → w.cell? ⟨b, o + k, none⟩ = some (.int .i64 (gi xs k))) (j : Nat) :
    ∀ i u, ((xs.take j).map iv)[i]? = some u → w.cell? ((⟨b, o, none⟩ : Addr).add i) = some u := fun i u h => by
  rw [List.getElem?_map] at h
  obtain ⟨x, hx, rfl⟩ := Option.map_eq_some_iff.1 h
  obtain ⟨h1, h2⟩ := List.getElem?_eq_some_iff.1 hx
  rw [List.length_take] at h1
  rw [addr_add, hc i (by omega), gi_get (by omega)]
  rw [List.getElem_take] at h2
  rw [h2]; rfl
theorem news_drop {w : World} {b o n : Nat} {xs : List Int} (hl : xs.length = n) (hc : ∀ k, k < n → w.cell? ⟨b, o + k, none⟩ = some (.int .i64 (gi xs k))) (j : Nat) :
    ∀ i u, ((xs.drop j).map iv)[i]? = some u → w.cell? ((⟨b, o + j, none⟩ : Addr).add i) = some u := fun i u h => by
  rw [List.getElem?_map] at h
  obtain ⟨x, hx, rfl⟩ := Option.map_eq_some_iff.1 h
  obtain ⟨h1, h2⟩ := List.getElem?_eq_some_iff.1 hx
  rw [List.length_drop] at h1
  rw [addr_add, Nat.add_assoc, hc (j + i) (by omega), gi_get (by omega)]
  rw [List.getElem_drop] at h2
  rw [h2]; rfl
theorem ones_map (xs : List Int) : ∀ u ∈ xs.map iv, u.oneCell' = true := fun u hu => by
  obtain ⟨x, _, rfl⟩ := List.mem_map.1 hu; rfl
/-- Some numbers more, appended without a new array for them. -/
theorem IU.pushs {wb v v' ys zs w w'} (h : IU wb v ys w) (hown : w'.ownsRow wb.heap.size 3 1 v' (ys.length + zs.length) (ys.map iv ++ zs.map iv))
    (hgrow : w.grownBy w' v.ownBlock) : IU wb v' (ys ++ zs) w' := by
  have hu : ∀ k, v.ownBlock = some k → wb.heap.size ≤ k := fun k hk => (h.bi.own.lt k hk).1
  refine ⟨⟨by rw [List.length_append, List.map_append]; exact hown, fun k _ => ?_⟩, h.up.grown hgrow h.up.size fun k hk => hu k hk⟩
  rename_i hk
  exact (hown.lt k hk).2
theorem IU.made (wb : World) (cap : Nat) (hm : cap ≤ 100) : IU wb (.slice (some ⟨wb.heap.size, 0, none⟩) 0 cap) [] (wb.alloc (.cells (Array.replicate cap (.int .i64 0)) 3)) :=
  ⟨⟨World.ownsRow_made (e := 3) (size := 1) wb _ cap (Nat.le_refl _) (by unfold maxLen; omega) (by simp), fun k hk => by simp [Value.ownBlock] at hk; simp; omega⟩, below_alloc _ _⟩

end Go.Proofs.Ytjmfkodbilknlaa

/- Cofactors and determinants, by the program. -/
namespace Go.Proofs.Ytjmfkodbilknlaa
open Go.RowKit
open V (sumN detN rowC colC cofN minorN skip sgn)

theorem TM.nil (wb : World) : TM wb (.slice none 0 0) [] [] wb := ⟨Bld.nil _ _ _, Below.refl _ _⟩
theorem TM.push {wb v v' vs xss w w1 w' r} {A : Option Addr} {c g : Nat} (h : TM wb v vs xss w) (hk : Below w.heap.size w w1) (hr : OwnI w.heap.size w1.heap.size w1 g A r.length c r)
    (hown : w'.ownsRow wb.heap.size 36 1 v' (xss.length + 1) (vs ++ [.slice A r.length c])) (hgrow : (w1.alloc (.cells #[.slice A r.length c] 36)).grownBy w' v.ownBlock)
    (hat : v'.ownBlock = v.ownBlock ∨ v'.ownBlock = some (w1.heap.size + 1)) : TM wb v' (vs ++ [.slice A r.length c]) (xss ++ [r]) w' := by
  have hv : ∀ k, v.ownBlock = some k → wb.heap.size ≤ k := fun k hk => (h.bo.own.lt k hk).1
  have hb := below_alloc w1 (.cells #[.slice A r.length c] 36)
  have hz := h.up.size
  have hz1 := hk.size
  refine ⟨Bld.push (hi := w.heap.size) h.bo (below_up hk hb) ((hr.below hb).mono (Nat.le_refl _) (by simp)) hown hgrow (by simpa using hat) hz (Nat.le_refl _), ?_⟩
  exact (below_up h.up (below_up hk hb)).grown hgrow (by simp; omega) fun k hk => hv k hk
theorem TM.next {wb v vs xss w w'} (h : TM wb v vs xss w) (k : Below w.heap.size w w') : TM wb v vs xss w' := ⟨(h.bo.below k).mono k.size, below_up h.up k⟩

theorem cofN_odd {k : Nat} {f : Nat → Nat → Int} {i j : Nat} (h : (i + j) % 2 = 1) : cofN k f i j = -(detN (k - 1) (minorN f i j)) := by
  rw [cofN, sgn, if_pos h]; omega
theorem cofN_even {k : Nat} {f : Nat → Nat → Int} {i j : Nat} (h : ¬ (i + j) % 2 = 1) : cofN k f i j = detN (k - 1) (minorN f i j) := by
  rw [cofN, sgn, if_neg h]; omega

/-- The terms of a determinant. -/
def detT (n : Nat) (f : Nat → Nat → Int) (j : Nat) : List Int := (List.range j).map fun j => f 0 j * cofN n f 0 j
theorem detT_succ (n : Nat) (f : Nat → Nat → Int) (j : Nat) : detT n f (j + 1) = detT n f j ++ [f 0 j * cofN n f 0 j] := by simp [detT, List.range_succ]
theorem detT_len (n : Nat) (f : Nat → Nat → Int) (j : Nat) : (detT n f j).length = j := by simp [detT]
theorem detT_tot (k : Nat) (f : Nat → Nat → Int) : ∀ j, tot (detT (k + 1) f j) = detS k f j
  | 0 => rfl
  | j + 1 => by
    rw [detT_succ, tot_snoc, detT_tot k f j, detS_succ, cofN, Nat.zero_add, Nat.add_sub_cancel]
    grind
theorem detT_bd {n : Nat} {f : Nat → Nat → Int} (hn : n ≤ 3) (h : Ab n f) {j : Nat} (hj : j ≤ n) : ∀ x ∈ detT n f j, -10000000 ≤ x ∧ x ≤ 10000000 := fun x hx => by
  obtain ⟨i, hi, rfl⟩ := List.mem_map.1 hx
  have hi := List.mem_range.1 hi
  have h1 := mulbd (h 0 i (by omega) (by omega)) (cof_bd hn h (i := 0) (j := i) (by omega) (by omega))
  omega
theorem sumOk_of {xs : List Int} (hl : xs.length ≤ 100) (h : ∀ x ∈ xs, -10000000 ≤ x ∧ x ≤ 10000000) : SumOk xs := ⟨by omega, fun j hj => by have := h _ (gi_mem hj); omega⟩
theorem IU.ints {wb ys w} {A : Option Addr} {c : Nat} (h : IU wb (.slice A ys.length c) ys w) (hm : ys.length ≤ 100) (hb : ∀ y ∈ ys, -1000000000000000 ≤ y ∧ y ≤ 1000000000000000) : Ints w A ys.length c ys := by
  obtain ⟨A', n, c', g, e, _, ho, _⟩ := h.new hm hb
  injection e with e
  injection e with e1 e2 e3
  subst e1
  subst e2
  subst e3
  exact ho.ints

end Go.Proofs.Ytjmfkodbilknlaa

/- What strategies have against shares, told by a closure; which hold: by the program. -/
namespace Go.Proofs.Ytjmfkodbilknlaa
open Go.RowKit

theorem VS.bds {w : List Int} {n : Nat} (h : VS w n) : ∀ j, j < n → 0 ≤ gi w j ∧ gi w j ≤ 1000 := fun j hj => h.2.1 j (by have := h.1; omega)
theorem onl_bds (n k : Nat) : ∀ j, j < n → 0 ≤ gi (onl n k) j ∧ gi (onl n k) j ≤ 1000 := fun j hj => by have := onl_bd (n := n) (i := k) hj; omega
/-- Where the closure finds the table and the shares. -/
structure PA (a : List (List Int)) (w : List Int) (n : Nat) (pa pw b o c cw : Nat) (rb ro cc : Nat → Nat) (Y : Option Addr) (W : World) : Prop where
  tab : Tab W b o rb ro cc n n a
  sh : Ints W Y n cw w
  bd : ∀ j, j < n → 0 ≤ gi w j ∧ gi w j ≤ 1000
  ca : W.cell? ⟨pa, 0, none⟩ = some (.slice (some ⟨b, o, none⟩) n c)
  cs : W.cell? ⟨pw, 0, none⟩ = some (.slice Y n cw)
theorem PA.keep {a w n pa pw b o c cw rb ro cc Y W W'} (h : PA a w n pa pw b o c cw rb ro cc Y W) (k : Keep W W') : PA a w n pa pw b o c cw rb ro cc Y W' :=
  ⟨h.tab.keep k, h.sh.keep k, h.bd, k _ _ h.ca, k _ _ h.cs⟩


end Go.Proofs.Ytjmfkodbilknlaa

/- All cofactors of a square, by the program. -/
namespace Go.Proofs.Ytjmfkodbilknlaa
open Go.RowKit
open V (sumN detN rowC colC cofN minorN skip sgn)

def cofR (n : Nat) (f : Nat → Nat → Int) (i j : Nat) : List Int := (List.range j).map fun j => cofN n f i j
def cofM (n : Nat) (f : Nat → Nat → Int) (i : Nat) : List (List Int) := (List.range i).map fun i => cofR n f i n
theorem cofR_succ (n : Nat) (f : Nat → Nat → Int) (i j : Nat) : cofR n f i (j + 1) = cofR n f i j ++ [cofN n f i j] := by simp [cofR, List.range_succ]
theorem cofM_succ (n : Nat) (f : Nat → Nat → Int) (i : Nat) : cofM n f (i + 1) = cofM n f i ++ [cofR n f i n] := by simp [cofM, List.range_succ]
theorem cofR_len (n : Nat) (f : Nat → Nat → Int) (i j : Nat) : (cofR n f i j).length = j := by simp [cofR]
theorem cofM_len (n : Nat) (f : Nat → Nat → Int) (i : Nat) : (cofM n f i).length = i := by simp [cofM]
theorem gi_cofR {n : Nat} {f : Nat → Nat → Int} {i j q : Nat} (h : q < j) : gi (cofR n f i j) q = cofN n f i q := by rw [gi_get (by rw [cofR_len]; exact h)]; simp [cofR]
theorem gr_cofM {n : Nat} {f : Nat → Nat → Int} {i p : Nat} (h : p < i) : gr (cofM n f i) p = cofR n f p n := by rw [gr_get (by rw [cofM_len]; exact h)]; simp [cofM]
theorem cofM_sq (n : Nat) (f : Nat → Nat → Int) : Sq n (cofM n f n) (cofN n f) := ⟨cofM_len _ _ _, fun p hp => by rw [gr_cofM hp, cofR_len], fun p q hp hq => by unfold g2; rw [gr_cofM hp, gi_cofR hq]⟩
theorem cofR_bd {n : Nat} {f : Nat → Nat → Int} (hn : n ≤ 3) (h : Ab n f) {i : Nat} (hi : i < n) {j : Nat} (hj : j ≤ n) : ∀ x ∈ cofR n f i j, -118098 ≤ x ∧ x ≤ 118098 := fun x hx => by
  obtain ⟨q, hq, rfl⟩ := List.mem_map.1 hx
  have := List.mem_range.1 hq
  exact cof_bd hn h hi (by omega)

end Go.Proofs.Ytjmfkodbilknlaa

/- Tables with the other signs, by the model. -/
namespace Go.Proofs.Ytjmfkodbilknlaa
open Go.RowKit

/-- A new table, as append has made it. -/
def NewB (w : World) (yss : List (List Int)) (e : Ending) (w' : World) : Prop :=
  ∃ Av c vs, e = .returned (.slice Av yss.length c) ∧ Bld w.heap.size w'.heap.size w' (.slice Av yss.length c) vs yss ∧ Below w.heap.size w w'
set_option maxHeartbeats 1000000 in
theorem negatedB_any (A : Option Addr) (n c : Nat) (xss : List (List Int)) (w : World) (hx : IntRows w A n c xss) (hs : Small xss) :
    Calls Try.prog 82 #[.slice A n c] w (NewB w (mtab xss xss.length)) := by
  have HS := Lib.hid hs
  have HS0 := Lib.hid (TM.start w)
  have hn8 := hs.n
  have HX := Lib.hid hx
  have LX := Lib.hid hx.len
  have hnx : n ≤ 8 := by rw [← hx.len]; exact hn8
  clear hx hs
  go_enter Try.func82, Try.ntmps82
  go_wp2
  go_loopw [3, 4] (fun v i wr => ∃ (k : Nat) (vs : List Value), k ≤ n ∧ i = .int .i64 k ∧ Hid (TM w v vs (mtab xss k) wr)) (fun _ i _ => n - (intOf i).toNat)
  case atStart => exact ⟨0, [], Nat.zero_le _, rfl, HS0⟩
  case round =>
    clear HS0
    obtain ⟨k, vs, hk, rfl, HT⟩ := hrel
    obtain ⟨Av, cv, rfl⟩ := HT.out.bo.form
    by_cases hlt : k < n
    · have HI := Lib.hid HT.out.row
      have hkx : k < xss.length := by rw [LX.out]; exact hlt
      clear HT
      obtain ⟨b, o, rfl, hc⟩ := HX.out.at_ (by omega)
      have HC := Lib.hid (hc k hlt)
      clear hc
      go_wp2
      generalize wr.heap.size = N at *
      go_loopw [5, 6] (fun u i wi => ∃ (j : Nat), j ≤ (gr xss k).length ∧ i = .int .i64 j ∧ Hid (TN w N (.slice Av (mtab xss k).length cv) vs (mtab xss k) u (mrow (gr xss k) j) wi)) (fun _ i _ => (gr xss k).length - (intOf i).toNat)
      case atStart => exact ⟨0, Nat.zero_le _, rfl, HI⟩
      case round =>
        clear HI
        obtain ⟨j, hj, rfl, HI⟩ := hrel
        obtain ⟨Au, cu, rfl⟩ := HI.out.bi.form
        obtain ⟨R, cc, c1, hR⟩ := HC.out
        have c2 := HI.out.up.cell (p := ⟨b, o + k, none⟩) (World.block_lt_of_cell? _ _ c1)
        rw [c1] at c2
        have hR2 := hR.keep (Keep.below HI.out.up)
        by_cases hlm : j < (gr xss k).length
        · obtain ⟨b', o', rfl, hc'⟩ := hR2.at_ (by omega)
          have c3 := hc' j hlm
          have hbd := HS.out.gi hkx hlm
          clear hc' hR hR2
          generalize hval : gi (gr xss k) j = x at *
          have HV := Lib.hid hval
          clear hval
          have hb := below_alloc wr (.cells #[iv (-x)] 3)
          have HB4 := Lib.hid (HI.out.bi.below hb).own
          have HN := Lib.hid (cell_one_new wr (iv (-x)) 3)
          have hHs := HI.out.hs
          have hlh := HI.out.lh
          have HML := Lib.hid (mrow_len (gr xss k) j)
          generalize hys : mrow (gr xss k) j = ys at *
          have HYS := Lib.hid hys
          clear hb hys
          have hrl := (HS.out.rows _ (gr_mem hkx)).1
          obtain ⟨i0, hi0, hz0, hz1, hz2⟩ := info_parts Try.info_int
          go_wp2_with (at_builtin; refine wpList_append_own_at _ rfl _ _ 36 rfl N 3 i0 (.int .i64 0) 1 8 Try.underlying36 hi0 hz0 hz1 hz2 rfl (by decide) _ ys.length (ys.map iv) rfl HB4.out ⟨wr.heap.size, 0, none⟩ 1 1 [iv (-x)] rfl rfl ?c1 ?c2 ?c3 ?c4 ?c5 ?_)
          case c1 => exact HN.out
          case c2 => intro u hu; simp at hu; subst hu; rfl
          case c3 => have := HML.out; unfold maxLen; omega
          case c4 => have := HML.out; omega
          case c5 => simp; omega
          intro v' w5 hown' hgrow _ hat
          have HI5 := Lib.hid (HI.out.push hown' hgrow (by simpa using hat))
          clear HB4 HN hown' hgrow hat HI
          go_wp2
          go_roundw
          case rel => exact ⟨j + 1, by omega, by go_num, Lib.hid (by rw [mrow_succ, HYS.out, HV.out]; exact HI5.out)⟩
          case measure => simp [intOf]; omega
        · obtain rfl : j = (gr xss k).length := by omega
          have HBD := Lib.hid (HS.out.mrow_bd hkx (Nat.le_refl _))
          obtain ⟨Ar, nr, cr, gg, e, rfl, ho, _⟩ := HI.out.bi.owns (by rw [mrow_len]; have := (HS.out.rows _ (gr_mem hkx)).1; omega) (fun x hx => by have := HBD.out x hx; omega)
          injection e with e1 _ e3
          subst e1
          subst e3
          have HO := Lib.hid ho
          have HML := Lib.hid (mrow_len (gr xss k) (gr xss k).length)
          have HTL := Lib.hid (mtab_len xss k)
          have hb := below_alloc wr (.cells #[.slice Au (mrow (gr xss k) (gr xss k).length).length cu] 36)
          have HB4 := Lib.hid (HI.out.bo.below hb).own
          have HN := Lib.hid (cell_one_new wr (.slice Au (mrow (gr xss k) (gr xss k).length).length cu) 36)
          have hHs := HI.out.hs
          have hlh := HI.out.lh
          have HMS := Lib.hid (mtab_succ xss k)
          clear hb ho hR hR2
          generalize mrow (gr xss k) (gr xss k).length = ys at *
          generalize mtab xss k = ms at *
          obtain ⟨i0, hi0, hz0, hz1, hz2⟩ := info_parts Try.info_row
          go_wp2_with (at_builtin; refine wpList_append_own_at _ rfl _ _ 22 rfl w.heap.size 36 i0 (.slice none 0 0) 1 24 Try.underlying22 hi0 hz0 hz1 hz2 rfl (by decide) _ ms.length vs rfl HB4.out ⟨wr.heap.size, 0, none⟩ 1 1 [.slice Au ys.length cu] rfl rfl ?d1 ?d2 ?d3 ?d4 ?d5 ?_)
          case d2 => rfl
          case d3 => have := HTL.out; unfold maxLen; omega
          case d4 => have := HTL.out; omega
          case d5 => omega
          intro v' w5 hown' hgrow _ hat
          have HT5 := Lib.hid (HI.out.done HO.out hown' hgrow (by simpa using hat))
          clear HB4 HN hown' hgrow hat HI HO
          go_wp2
          go_roundw
          case rel => exact ⟨k + 1, _, by omega, by go_num, Lib.hid (by rw [HMS.out]; exact HT5.out)⟩
          case measure => simp [intOf]; omega
    · obtain rfl : k = n := by omega
      have HO := Lib.hid HT.out.bo
      have HB := Lib.hid HT.out.up
      clear HT
      go_wp2
      go_ret
      exact ⟨_, _, _, by rw [← LX.out]; rfl, by have h := HO.out; rw [← LX.out] at h; exact h, HB.out⟩
theorem negated_any (A : Option Addr) (n c : Nat) (xss : List (List Int)) (w : World) (hx : IntRows w A n c xss) (hs : Small xss) :
    Calls Try.prog 82 #[.slice A n c] w (NewT w (mtab xss xss.length)) :=
  (negatedB_any A n c xss w hx hs).mono fun e w' ⟨Av, cv, vs, he, hb, hk⟩ => by
    obtain ⟨A', n', c', gg, e1, hn', hown⟩ := hb.owns (by rw [mtab_len]; have := hs.n; omega)
    exact ⟨A', n', c', gg, by rw [he, e1], hn', hown, hk⟩
end Go.Proofs.Ytjmfkodbilknlaa

/- The least mean over columns alone, by the model. -/
namespace Go.Proofs.Ytjmfkodbilknlaa
open Go.RowKit

theorem PB.onl {a x y n m} (h : PB a x y n m) (j : Nat) : PB a x (onl m j) n m :=
  ⟨h.a, h.x, fun k hk => by have := onl_bd (n := m) (i := j) hk; omega⟩
theorem col_bd {a x y n m} (h : PB a x y n m) (hn : n ≤ 3) (hm : m ≤ 3) (j : Nat) : -81000000 ≤ colU a x n m j ∧ colU a x n m j ≤ 81000000 := by
  have := payU_bd (h.onl j) hm (Nat.le_refl n)
  unfold colU
  omega
theorem wst_bd {a x y n m} (h : PB a x y n m) (hn : n ≤ 3) (hm : m ≤ 3) (tx : 0 < tot x) (tx3 : tot x ≤ 3000) : ∀ k, (-81000000 ≤ (wst a x n m k).1 ∧ (wst a x n m k).1 ≤ 81000000) ∧ 1 ≤ (wst a x n m k).2 ∧ (wst a x n m k).2 ≤ 3000
  | 0 => ⟨frU_bd tx (col_bd h hn hm 0), frD_bd tx tx3⟩
  | k + 1 => by
    simp only [wst]
    split
    · exact ⟨frU_bd tx (col_bd h hn hm (k + 1)), frD_bd tx tx3⟩
    · exact wst_bd h hn hm tx tx3 k
theorem wst_yes {a x n m k} (h : lessB (frU (colU a x n m (k + 1)) (tot x)) (frD (colU a x n m (k + 1)) (tot x)) (wst a x n m k).1 (wst a x n m k).2 = true) :
    wst a x n m (k + 1) = (frU (colU a x n m (k + 1)) (tot x), frD (colU a x n m (k + 1)) (tot x)) := by
  unfold lessB at h
  simp only [decide_eq_true_eq] at h
  simp only [wst]
  rw [if_pos h]
theorem wst_no {a x n m k} (h : lessB (frU (colU a x n m (k + 1)) (tot x)) (frD (colU a x n m (k + 1)) (tot x)) (wst a x n m k).1 (wst a x n m k).2 = false) : wst a x n m (k + 1) = wst a x n m k := by
  unfold lessB at h
  simp only [decide_eq_false_iff_not] at h
  simp only [wst]
  rw [if_neg h]

/-- The boxes of the result and of what is the least so far. -/
structure WO (w W : World) (U D : Int) : Prop where
  b0 : Blk W w.heap.size 25 #[.int .i64 0, .int .i64 0]
  b1 : Blk W (w.heap.size + 1) 25 #[.int .i64 U, .int .i64 D]
  below : Below w.heap.size w W
theorem WO.up {w W W' U D} (h : WO w W U D) (k : Below W.heap.size W W') : WO w W' U D := ⟨blk_below h.b0 k, blk_below h.b1 k, below_up h.below k⟩
theorem WO.keep {w W U D} (h : WO w W U D) : Keep w W := Keep.below h.below
theorem WO.start (w : World) : WO w ((w.alloc (.cells #[.int .i64 0, .int .i64 0] 25)).alloc (.cells #[.int .i64 0, .int .i64 0] 25)) 0 0 := by
  have h := blk_new (w.alloc (.cells #[.int .i64 0, .int .i64 0] 25)) 25 #[.int .i64 0, .int .i64 0]
  rw [World.size_alloc] at h
  exact ⟨blk_old (blk_new _ _ _) _, h, below_up (below_alloc _ _) (below_alloc _ _)⟩
theorem WO.set {w W U D} (h : WO w W U D) (U' D' : Int) : WO w ((W.setCell ⟨w.heap.size + 1, 0, none⟩ (.int .i64 U')).setCell ⟨w.heap.size + 1, 1, none⟩ (.int .i64 D')) U' D' :=
  ⟨blk_other (blk_other h.b0 (p := ⟨w.heap.size + 1, 0, none⟩) (by show w.heap.size ≠ w.heap.size + 1; omega) _) (p := ⟨w.heap.size + 1, 1, none⟩) (by show w.heap.size ≠ w.heap.size + 1; omega) _,
   blk_set (blk_set h.b1 0 (.int .i64 U')) 1 (.int .i64 D'),
   (h.below.setCell (p := ⟨w.heap.size + 1, 0, none⟩) (by show w.heap.size ≤ w.heap.size + 1; omega) _).setCell (p := ⟨w.heap.size + 1, 1, none⟩) (by show w.heap.size ≤ w.heap.size + 1; omega) _⟩

end Go.Proofs.Ytjmfkodbilknlaa

/- The worst mean of shares, by both programs. -/
namespace Go.Proofs.Ytjmfkodbilknlaa
open Go.RowKit

structure WOk (a : List (List Int)) (x : List Int) : Prop where
  v : VT a
  x : VS x a.length
def wstV (p : Int × Int) : Value := .agg #[.int .i64 p.1, .int .i64 p.2]
def wlast (a : List (List Int)) (x : List Int) : Int × Int := wst a x a.length (gr a 0).length ((gr a 0).length - 1)
noncomputable def worF (a : List (List Int)) (x : List Int) : Int × Int := if pb (WOk a x) = true then wlast a x else (0, 0)
theorem worF_yes {a x} (h : WOk a x) : worF a x = wlast a x := by rw [worF, if_pos (pb_true h)]
theorem worF_no {a x} (h : ¬ WOk a x) : worF a x = (0, 0) := by rw [worF, if_neg (by rw [pb_false h]; decide)]
theorem wstV_form (p : Int × Int) : ∃ U D, wstV p = .agg #[.int .i64 U, .int .i64 D] := ⟨_, _, rfl⟩
theorem VT.pbx {a : List (List Int)} {x : List Int} (v : VT a) (hx : VS x a.length) : PB a x (onl (gr a 0).length 0) a.length (gr a 0).length :=
  ⟨fun i j hi hj => v.bd hi hj, fun i hi => hx.2.1 i (by have := hx.1; omega), fun j hj => by have := onl_bd (n := (gr a 0).length) (i := 0) hj; omega⟩

/-- The boxes of the result and of what is the least so far, at h. -/
structure WP (w W : World) (h : Nat) (U D : Int) : Prop where
  b0 : Blk W w.heap.size 25 #[.int .i64 0, .int .i64 0]
  b1 : Blk W h 25 #[.int .i64 U, .int .i64 D]
  lt : w.heap.size < h
  below : Below w.heap.size w W
theorem WP.up {w W W' h U D} (p : WP w W h U D) (k : Below W.heap.size W W') : WP w W' h U D := ⟨blk_below p.b0 k, blk_below p.b1 k, p.lt, below_up p.below k⟩
theorem WP.keep {w W h U D} (p : WP w W h U D) : Keep w W := Keep.below p.below
theorem WP.start {w W : World} (p : PF w W) (U D : Int) : WP w (W.alloc (.cells #[.int .i64 U, .int .i64 D] 25)) W.heap.size U D :=
  ⟨blk_old p.box _, blk_new _ _ _, blk_lt p.box, below_up p.below (below_alloc _ _)⟩
theorem WP.set {w W h U D} (p : WP w W h U D) (U' D' : Int) : WP w ((W.setCell ⟨h, 0, none⟩ (.int .i64 U')).setCell ⟨h, 1, none⟩ (.int .i64 D')) h U' D' := by
  have hl := p.lt
  exact ⟨blk_other (blk_other p.b0 (p := ⟨h, 0, none⟩) (by show w.heap.size ≠ h; omega) _) (p := ⟨h, 1, none⟩) (by show w.heap.size ≠ h; omega) _,
   blk_set (blk_set p.b1 0 (.int .i64 U')) 1 (.int .i64 D'), hl,
   (p.below.setCell (p := ⟨h, 0, none⟩) (by show w.heap.size ≤ h; omega) _).setCell (p := ⟨h, 1, none⟩) (by show w.heap.size ≤ h; omega) _⟩
theorem frV_onl (u : Int) (x : List Int) {m j : Nat} (h : j < m) : frV u (tot x * tot (onl m j)) = .agg #[.int .i64 (frU u (tot x)), .int .i64 (frD u (tot x))] := by
  rw [tot_onl h, Int.mul_one]; rfl

end Go.Proofs.Ytjmfkodbilknlaa

/- Best shares, by the model. -/
namespace Go.Proofs.Ytjmfkodbilknlaa
open Go.RowKit

theorem VT.small {a : List (List Int)} (v : VT a) : Small a := by
  have h3 := v.n3
  refine ⟨by omega, fun r hr => ?_⟩
  obtain ⟨k, hk, rfl⟩ := List.mem_iff_getElem.1 hr
  have h1 := v.rows k hk
  rw [← gr_get hk]
  have h2 := h1.1
  have h4 := v.m3
  refine ⟨by omega, fun x hx => ?_⟩
  obtain ⟨j, hj, rfl⟩ := List.mem_iff_getElem.1 hx
  have := h1.2 j hj
  unfold InR at this
  rw [gi_get hj] at this
  omega
/-- The table as the second player has it. -/
def ntab (a : List (List Int)) : List (List Int) := mtab (flip a a.length (gr a 0).length) (flip a a.length (gr a 0).length).length
theorem ntab_len (a : List (List Int)) : (ntab a).length = (gr a 0).length := by unfold ntab; rw [mtab_len, flip_len]
theorem VT.ntab {a : List (List Int)} (v : VT a) : VT (ntab a) := v.flip.minus
theorem VT.ntab_m {a : List (List Int)} (v : VT a) : (gr (Go.Proofs.Ytjmfkodbilknlaa.ntab a) 0).length = a.length := by
  have h0 := v.m1
  have h1 := flip_len a a.length (gr a 0).length
  unfold Go.Proofs.Ytjmfkodbilknlaa.ntab
  rw [gr_get (by rw [mtab_len, h1]; exact h0)]
  simp only [mtab, List.getElem_map, List.getElem_range, mrow_len]
  rw [gr_flip h0]; simp
/-- Shares that are best for both. -/
structure BestP (a : List (List Int)) (x y : List Int) : Prop where
  ok : POk a x y
  eq : wlast a x = (- (wlast (ntab a) y).1, (wlast (ntab a) y).2)
theorem wlast_bd {a : List (List Int)} {x : List Int} (v : VT a) (hx : VS x a.length) : (-81000000 ≤ (wlast a x).1 ∧ (wlast a x).1 ≤ 81000000) ∧ 1 ≤ (wlast a x).2 ∧ (wlast a x).2 ≤ 3000 := by
  have h := VT.pbx v hx
  have n3 := v.n3
  have := tot_bd (x := x) (n := a.length) n3 (by have := hx.1; omega) h.x
  exact wst_bd h n3 v.m3 hx.2.2 this.2 _

end Go.Proofs.Ytjmfkodbilknlaa

