/- Texts merged: W1 W2 W3 W4 W5 B3 B5 D1 D3 C1. -/
import Derived.Test.YtjkmgpiiamffgaaQ4
import Derived.Deep.RegionLaw
/- Rows that are appended to in their places of a made slice; a part of a table, by the program. -/
namespace Go.Proofs.Ytjkmgpiiamffgaa
open Go.RowKit

/-- A made slice of k rows, of which the first i are done, row i is under way, and the others are nil. -/
structure PU (wb : World) (k H i : Nat) (vs : Nat → Value) (xss : List (List Int)) (v : Value) (ys : List Int) (w : World) : Prop where
  top : w.rowIs wb.heap.size 30 k vs
  cur : i < k → vs i = v
  rest : ∀ p, i < p → p < k → vs p = .slice none 0 0
  ex : ∃ (G : Nat → Nat) (R : Nat → Option Addr) (C : Nat → Nat), (∀ p, p < i → vs p = .slice (R p) (gr xss p).length (C p) ∧ OwnI (wb.heap.size + 1) H w (G p) (R p) (gr xss p).length (C p) (gr xss p)) ∧
    ∀ j p, j < p → p < i → 0 < (gr xss j).length → 0 < (gr xss p).length → G j ≠ G p
  len : xss.length = i
  bi : BldI H w.heap.size w v ys
  lh : wb.heap.size + 1 ≤ H
  hs : H ≤ w.heap.size
  up : Below wb.heap.size wb w
theorem PU.start (wb : World) (k : Nat) : PU wb k (wb.heap.size + 1) 0 (fun _ => .slice none 0 0) [] (.slice none 0 0) [] (wb.alloc (.cells (madeCells #[.slice none 0 0] k) 30)) :=
  ⟨World.rowIs_made wb (.slice none 0 0) k 30, fun _ => rfl, fun _ _ _ => rfl, ⟨fun _ => 0, fun _ => none, fun _ => 0, fun p hp => absurd hp (by omega), fun j p _ hp => absurd hp (by omega)⟩, rfl, BldI.nil _ _ _, Nat.le_refl _, by simp, below_alloc _ _⟩
theorem PU.below {wb k H i vs xss v ys w w'} (h : PU wb k H i vs xss v ys w) (q : Below w.heap.size w w') : PU wb k H i vs xss v ys w' := by
  obtain ⟨G, R, C, h1, h2⟩ := h.ex
  have hz := q.size
  have hhs := h.hs
  exact ⟨h.top.of_block (q.block _ h.top.lt), h.cur, h.rest, ⟨G, R, C, fun p hp => ⟨(h1 p hp).1, (h1 p hp).2.below q⟩, h2⟩, h.len, (h.bi.below q).mono hz, h.lh, by omega, below_up h.up q⟩
theorem PU.qu {wb k H i vs xss v ys w w'} (h : PU wb k H i vs xss v ys w) (q : Quiet w w') : PU wb k H i vs xss v ys w' := h.below q.below
theorem PU.cell {wb k H i vs xss v ys w} (h : PU wb k H i vs xss v ys w) (hi : i < k) : w.cell? ⟨wb.heap.size, i, none⟩ = some v := by rw [h.top.cell hi, h.cur hi]
/-- Behind the append, before the store. -/
theorem PU.mid {wb k H i vs xss v ys w w2 w1} (h : PU wb k H i vs xss v ys w) (hb : Below w.heap.size w w2) (hgrow : w2.grownBy w1 v.ownBlock) :
    (∀ g, g < H → w1.heap[g]? = w.heap[g]?) ∧ Below wb.heap.size wb w1 ∧ w.heap.size ≤ w1.heap.size := by
  have hu : ∀ g, v.ownBlock = some g → H ≤ g := fun g hg => (h.bi.own.lt g hg).1
  have hz := hb.size
  have hz2 := hgrow.size
  have hhs := h.hs
  have hlh := h.lh
  have hbl : ∀ g, g < H → w1.heap[g]? = w.heap[g]? := fun g hg => (hgrow.block g (by omega) (fun e => by have := hu g e.symm; omega)).trans (hb.block g (by omega))
  refine ⟨hbl, ?_, by omega⟩
  exact (below_up h.up hb).grown hgrow (by have := h.up.size; omega) fun g hg => by have := hu g hg; omega
theorem PU.mid_cell {wb k H i vs xss v ys w w2 w1} (h : PU wb k H i vs xss v ys w) (hi : i < k) (hb : Below w.heap.size w w2) (hgrow : w2.grownBy w1 v.ownBlock) :
    w1.cell? ⟨wb.heap.size, i, none⟩ = some v ∧ w1.frozen? ⟨wb.heap.size, i, none⟩ = false := by
  have hlh := h.lh
  have h1 := h.top.of_block ((h.mid hb hgrow).1 _ (by omega))
  exact ⟨by rw [h1.cell hi, h.cur hi], h1.frozen i⟩
theorem PU.push {wb k H i vs xss v ys w w2 w1 x} {gg cap : Nat} (h : PU wb k H i vs xss v ys w) (_ : i < k) (hb : Below w.heap.size w w2)
    (hown : w1.ownsRow H 3 1 (.slice (some ⟨gg, 0, none⟩) (ys.length + 1) cap) (ys.length + 1) (ys.map iv ++ [iv x])) (hgrow : w2.grownBy w1 v.ownBlock) (hlt : gg < w1.heap.size) :
    PU wb k H i (fun j => if j = i then .slice (some ⟨gg, 0, none⟩) (ys.length + 1) cap else vs j) xss (.slice (some ⟨gg, 0, none⟩) (ys.length + 1) cap) (ys ++ [x])
      (w1.setCell ⟨wb.heap.size, i, none⟩ (.slice (some ⟨gg, 0, none⟩) (ys.length + 1) cap)) := by
  obtain ⟨hbl, hup, hsz⟩ := h.mid hb hgrow
  obtain ⟨G, R, C, h1, h2⟩ := h.ex
  have hlh := h.lh
  have hhs := h.hs
  have hset : ∀ g, g ≠ wb.heap.size → (w1.setCell ⟨wb.heap.size, i, none⟩ (.slice (some ⟨gg, 0, none⟩) (ys.length + 1) cap)).heap[g]? = w1.heap[g]? := fun g hg => Below.heap_setCell _ _ _ _ hg
  have hgl := (hown.lt gg rfl).1
  have hss : (w1.setCell ⟨wb.heap.size, i, none⟩ (.slice (some ⟨gg, 0, none⟩) (ys.length + 1) cap)).heap.size = w1.heap.size := by simp [World.setCell]
  refine ⟨(h.top.of_block (hbl _ (by omega))).set i _, fun _ => by simp, fun p hp hpk => ?_, ⟨G, R, C, fun p hp => ⟨?_, (h1 p hp).2.of_block fun hn => ?_⟩, h2⟩, h.len, ⟨?_, fun g hg => ?_⟩, hlh, by omega, hup.setCell (p := ⟨wb.heap.size, i, none⟩) (Nat.le_refl _) _⟩
  · show (if p = i then _ else vs p) = _
    rw [if_neg (by omega)]; exact h.rest p hp hpk
  · show (if p = i then _ else vs p) = _
    rw [if_neg (by omega)]; exact (h1 p hp).1
  · obtain ⟨_, _, q1, q2, _⟩ := (h1 p hp).2.own hn
    exact (hset _ (by omega)).trans (hbl _ q2)
  · rw [List.length_append, List.length_singleton, List.map_append]
    exact blk_kept hown fun g hg => hset g (by
      have : gg = g := by simpa [Value.ownBlock] using hg
      omega)
  · have : gg = g := by simpa [Value.ownBlock] using hg
    omega
theorem PU.next {wb k H i vs xss ys w} {A : Option Addr} {c : Nat} (h : PU wb k H i vs xss (.slice A ys.length c) ys w) (hi : i < k) (hm : ys.length ≤ 100) (hb : ∀ y ∈ ys, -1000000000000000 ≤ y ∧ y ≤ 1000000000000000) :
    PU wb k w.heap.size (i + 1) vs (xss ++ [ys]) (.slice none 0 0) [] w := by
  obtain ⟨G, R, C, h1, h2⟩ := h.ex
  have hl := h.len
  have hlh := h.lh
  have hhs := h.hs
  obtain ⟨A', n', c', g, e, hn, ho, _⟩ := h.bi.owns (by omega) (fun t ht => by have := hb t ht; omega)
  injection e with e1 e2 e3
  subst e1
  subst e2
  subst e3
  refine ⟨h.top, fun hk => h.rest _ (by omega) hk, fun p hp hpk => h.rest p (by omega) hpk, ⟨fun p => if p < i then G p else g, fun p => if p < i then R p else A, fun p => if p < i then C p else c, fun p hp => ?_, fun j p hj hp hj0 hp0 => ?_⟩, by rw [List.length_append, List.length_singleton, hl], BldI.nil _ _ _, by omega, Nat.le_refl _, h.up⟩
  · by_cases e : p < i
    · simp only [if_pos e]
      rw [gr_snoc_lt (by omega)]
      exact ⟨(h1 p e).1, (h1 p e).2.mono (Nat.le_refl _) hhs⟩
    · obtain rfl : p = xss.length := by omega
      simp only [if_neg e]
      rw [gr_snoc_eq]
      exact ⟨by rw [hl]; exact h.cur hi, ho.mono hlh (Nat.le_refl _)⟩
  · have ej : j < i := by omega
    simp only [if_pos ej]
    rw [gr_snoc_lt (by omega)] at hj0
    by_cases e : p < i
    · simp only [if_pos e]
      rw [gr_snoc_lt (by omega)] at hp0
      exact h2 j p hj e hj0 hp0
    · obtain rfl : p = xss.length := by omega
      simp only [if_neg e]
      rw [gr_snoc_eq] at hp0
      obtain ⟨_, _, _, q, _⟩ := (h1 j ej).2.own hj0
      obtain ⟨_, _, q', _⟩ := ho.own hp0
      omega
theorem PU.done {wb k H vs xss v ys w} (h : PU wb k H k vs xss v ys w) (hm : k ≤ 1000) : OwnR wb.heap.size w.heap.size w wb.heap.size (some ⟨wb.heap.size, 0, none⟩) k k xss := by
  obtain ⟨G, R, C, h1, h2⟩ := h.ex
  refine ⟨h.len, Nat.le_refl _, by omega, fun _ => ⟨0, G, R, C, rfl, Nat.le_refl _, h.top.lt, fun p hp => ⟨by rw [Nat.zero_add]; exact h.top.frozen p, by rw [Nat.zero_add, h.top.cell hp, (h1 p hp).1], (h1 p hp).2.mono (by omega) h.hs, fun hn e => ?_⟩, h2⟩⟩
  obtain ⟨_, _, q, _⟩ := (h1 p hp).2.own hn
  omega

end Go.Proofs.Ytjkmgpiiamffgaa

/- A row without the number of one column, by the program. -/
namespace Go.Proofs.Ytjkmgpiiamffgaa
open Go.RowKit

theorem addr_add (b o i : Nat) : (⟨b, o, none⟩ : Addr).add i = ⟨b, o + i, none⟩ := by unfold Addr.add; split <;> simp_all
theorem rowW_parts {xs : List Int} {j : Nat} : ∀ {n : Nat}, n ≤ xs.length → rowW xs j n = xs.take (min j n) ++ (xs.take n).drop (j + 1)
  | 0, _ => by simp [rowW]
  | n + 1, h => by
    have ih := rowW_parts (xs := xs) (j := j) (n := n) (by omega)
    have ht : xs.take (n + 1) = xs.take n ++ [gi xs n] := by rw [List.take_succ_eq_append_getElem (by omega), gi_get (by omega)]
    by_cases e : n = j
    · subst e
      rw [rowW_at, ih, ht, show min n (n + 1) = n by omega, show min n n = n by omega]
      congr 1
      rw [List.drop_eq_nil_of_le (by simp; omega), List.drop_eq_nil_of_le (by simp; omega)]
    · rw [rowW_ne e, ih, ht]
      by_cases hlt : n < j
      · rw [show min j n = n by omega, show min j (n + 1) = n + 1 by omega, ht, show (xs.take n).drop (j + 1) = [] from List.drop_eq_nil_of_le (by rw [List.length_take]; omega), List.drop_eq_nil_of_le (by simp; omega)]
        simp
      · rw [show min j n = j by omega, show min j (n + 1) = j by omega, List.drop_append_of_le_length (by simp; omega), List.append_assoc]
theorem rowW_cut {xs : List Int} {j : Nat} (h : j < xs.length) : rowW xs j xs.length = xs.take j ++ xs.drop (j + 1) := by
  rw [rowW_parts (Nat.le_refl _), List.take_length, show min j xs.length = j by omega]
theorem news_take {w : World} {b o n : Nat} {xs : List Int} (hl : xs.length = n) (hc : ∀ k, k < n → w.cell? ⟨b, o + k, none⟩ = some (.int .i64 (gi xs k))) (j : Nat) :
    ∀ i u, ((xs.take j).map iv)[i]? = some u → w.cell? ((⟨b, o, none⟩ : Addr).add i) = some u := fun i u h => by
  rw [List.getElem?_map] at h
  obtain ⟨x, hx, rfl⟩ := Option.map_eq_some_iff.1 h
  obtain ⟨h1, h2⟩ := List.getElem?_eq_some_iff.1 hx
  rw [List.length_take] at h1
  rw [addr_add, hc i (by omega), gi_get (by omega)]
  rw [List.getElem_take] at h2
  rw [h2]; rfl
theorem news_drop {w : World} {b o n : Nat} {xs : List Int} (hl : xs.length = n) (hc : ∀ k, k < n → w.cell? ⟨b, o + k, none⟩ = some (.int .i64 (gi xs k))) (j : Nat) :
    ∀ i u, ((xs.drop j).map iv)[i]? = some u → w.cell? ((⟨b, o + j, none⟩ : Addr).add i) = some u := fun i u h => by
  rw [List.getElem?_map] at h
  obtain ⟨x, hx, rfl⟩ := Option.map_eq_some_iff.1 h
  obtain ⟨h1, h2⟩ := List.getElem?_eq_some_iff.1 hx
  rw [List.length_drop] at h1
  rw [addr_add, Nat.add_assoc, hc (j + i) (by omega), gi_get (by omega)]
  rw [List.getElem_drop] at h2
  rw [h2]; rfl
theorem ones_map (xs : List Int) : ∀ u ∈ xs.map iv, u.oneCell' = true := fun u hu => by
  obtain ⟨x, _, rfl⟩ := List.mem_map.1 hu; rfl
/-- Some numbers more, appended without a new array for them. -/
theorem IU.pushs {wb v v' ys zs w w'} (h : IU wb v ys w) (hown : w'.ownsRow wb.heap.size 3 1 v' (ys.length + zs.length) (ys.map iv ++ zs.map iv))
    (hgrow : w.grownBy w' v.ownBlock) : IU wb v' (ys ++ zs) w' := by
  have hu : ∀ k, v.ownBlock = some k → wb.heap.size ≤ k := fun k hk => (h.bi.own.lt k hk).1
  refine ⟨⟨by rw [List.length_append, List.map_append]; exact hown, fun k _ => ?_⟩, h.up.grown hgrow h.up.size fun k hk => hu k hk⟩
  rename_i hk
  exact (hown.lt k hk).2
theorem IU.made (wb : World) (cap : Nat) (hm : cap ≤ 100) : IU wb (.slice (some ⟨wb.heap.size, 0, none⟩) 0 cap) [] (wb.alloc (.cells (Array.replicate cap (.int .i64 0)) 3)) :=
  ⟨⟨World.ownsRow_made (e := 3) (size := 1) wb _ cap (Nat.le_refl _) (by unfold maxLen; omega) (by simp), fun k hk => by simp [Value.ownBlock] at hk; simp; omega⟩, below_alloc _ _⟩

end Go.Proofs.Ytjkmgpiiamffgaa

/- Cofactors and determinants, by the program. -/
namespace Go.Proofs.Ytjkmgpiiamffgaa
open Go.RowKit
open V (sumN detN rowC colC cofN minorN skip sgn)

theorem TM.nil (wb : World) : TM wb (.slice none 0 0) [] [] wb := ⟨Bld.nil _ _ _, Below.refl _ _⟩
theorem TM.push {wb v v' vs xss w w1 w' r} {A : Option Addr} {c g : Nat} (h : TM wb v vs xss w) (hk : Below w.heap.size w w1) (hr : OwnI w.heap.size w1.heap.size w1 g A r.length c r)
    (hown : w'.ownsRow wb.heap.size 30 1 v' (xss.length + 1) (vs ++ [.slice A r.length c])) (hgrow : (w1.alloc (.cells #[.slice A r.length c] 30)).grownBy w' v.ownBlock)
    (hat : v'.ownBlock = v.ownBlock ∨ v'.ownBlock = some (w1.heap.size + 1)) : TM wb v' (vs ++ [.slice A r.length c]) (xss ++ [r]) w' := by
  have hv : ∀ k, v.ownBlock = some k → wb.heap.size ≤ k := fun k hk => (h.bo.own.lt k hk).1
  have hb := below_alloc w1 (.cells #[.slice A r.length c] 30)
  have hz := h.up.size
  have hz1 := hk.size
  refine ⟨Bld.push (hi := w.heap.size) h.bo (below_up hk hb) ((hr.below hb).mono (Nat.le_refl _) (by simp)) hown hgrow (by simpa using hat) hz (Nat.le_refl _), ?_⟩
  exact (below_up h.up (below_up hk hb)).grown hgrow (by simp; omega) fun k hk => hv k hk
theorem TM.next {wb v vs xss w w'} (h : TM wb v vs xss w) (k : Below w.heap.size w w') : TM wb v vs xss w' := ⟨(h.bo.below k).mono k.size, below_up h.up k⟩

theorem cofN_odd {k : Nat} {f : Nat → Nat → Int} {i j : Nat} (h : (i + j) % 2 = 1) : cofN k f i j = -(detN (k - 1) (minorN f i j)) := by
  rw [cofN, sgn, if_pos h]; omega
theorem cofN_even {k : Nat} {f : Nat → Nat → Int} {i j : Nat} (h : ¬ (i + j) % 2 = 1) : cofN k f i j = detN (k - 1) (minorN f i j) := by
  rw [cofN, sgn, if_neg h]; omega

/-- The terms of a determinant. -/
def detT (n : Nat) (f : Nat → Nat → Int) (j : Nat) : List Int := (List.range j).map fun j => f 0 j * cofN n f 0 j
theorem detT_succ (n : Nat) (f : Nat → Nat → Int) (j : Nat) : detT n f (j + 1) = detT n f j ++ [f 0 j * cofN n f 0 j] := by simp [detT, List.range_succ]
theorem detT_len (n : Nat) (f : Nat → Nat → Int) (j : Nat) : (detT n f j).length = j := by simp [detT]
theorem detT_tot (k : Nat) (f : Nat → Nat → Int) : ∀ j, tot (detT (k + 1) f j) = detS k f j
  | 0 => rfl
  | j + 1 => by
    rw [detT_succ, tot_snoc, detT_tot k f j, detS_succ, cofN, Nat.zero_add, Nat.add_sub_cancel]
    grind
theorem detT_bd {n : Nat} {f : Nat → Nat → Int} (hn : n ≤ 3) (h : Ab n f) {j : Nat} (hj : j ≤ n) : ∀ x ∈ detT n f j, -10000000 ≤ x ∧ x ≤ 10000000 := fun x hx => by
  obtain ⟨i, hi, rfl⟩ := List.mem_map.1 hx
  have hi := List.mem_range.1 hi
  have h1 := mulbd (h 0 i (by omega) (by omega)) (cof_bd hn h (i := 0) (j := i) (by omega) (by omega))
  omega
theorem sumOk_of {xs : List Int} (hl : xs.length ≤ 100) (h : ∀ x ∈ xs, -10000000 ≤ x ∧ x ≤ 10000000) : SumOk xs := ⟨by omega, fun j hj => by have := h _ (gi_mem hj); omega⟩
theorem IU.ints {wb ys w} {A : Option Addr} {c : Nat} (h : IU wb (.slice A ys.length c) ys w) (hm : ys.length ≤ 100) (hb : ∀ y ∈ ys, -1000000000000000 ≤ y ∧ y ≤ 1000000000000000) : Ints w A ys.length c ys := by
  obtain ⟨A', n, c', g, e, _, ho, _⟩ := h.new hm hb
  injection e with e
  injection e with e1 e2 e3
  subst e1
  subst e2
  subst e3
  exact ho.ints

end Go.Proofs.Ytjkmgpiiamffgaa

/- All cofactors of a square, by the program. -/
namespace Go.Proofs.Ytjkmgpiiamffgaa
open Go.RowKit
open V (sumN detN rowC colC cofN minorN skip sgn)

def cofR (n : Nat) (f : Nat → Nat → Int) (i j : Nat) : List Int := (List.range j).map fun j => cofN n f i j
def cofM (n : Nat) (f : Nat → Nat → Int) (i : Nat) : List (List Int) := (List.range i).map fun i => cofR n f i n
theorem cofR_succ (n : Nat) (f : Nat → Nat → Int) (i j : Nat) : cofR n f i (j + 1) = cofR n f i j ++ [cofN n f i j] := by simp [cofR, List.range_succ]
theorem cofM_succ (n : Nat) (f : Nat → Nat → Int) (i : Nat) : cofM n f (i + 1) = cofM n f i ++ [cofR n f i n] := by simp [cofM, List.range_succ]
theorem cofR_len (n : Nat) (f : Nat → Nat → Int) (i j : Nat) : (cofR n f i j).length = j := by simp [cofR]
theorem cofM_len (n : Nat) (f : Nat → Nat → Int) (i : Nat) : (cofM n f i).length = i := by simp [cofM]
theorem gi_cofR {n : Nat} {f : Nat → Nat → Int} {i j q : Nat} (h : q < j) : gi (cofR n f i j) q = cofN n f i q := by rw [gi_get (by rw [cofR_len]; exact h)]; simp [cofR]
theorem gr_cofM {n : Nat} {f : Nat → Nat → Int} {i p : Nat} (h : p < i) : gr (cofM n f i) p = cofR n f p n := by rw [gr_get (by rw [cofM_len]; exact h)]; simp [cofM]
theorem cofM_sq (n : Nat) (f : Nat → Nat → Int) : Sq n (cofM n f n) (cofN n f) := ⟨cofM_len _ _ _, fun p hp => by rw [gr_cofM hp, cofR_len], fun p q hp hq => by unfold g2; rw [gr_cofM hp, gi_cofR hq]⟩
theorem cofR_bd {n : Nat} {f : Nat → Nat → Int} (hn : n ≤ 3) (h : Ab n f) {i : Nat} (hi : i < n) {j : Nat} (hj : j ≤ n) : ∀ x ∈ cofR n f i j, -118098 ≤ x ∧ x ≤ 118098 := fun x hx => by
  obtain ⟨q, hq, rfl⟩ := List.mem_map.1 hx
  have := List.mem_range.1 hq
  exact cof_bd hn h hi (by omega)

end Go.Proofs.Ytjkmgpiiamffgaa

/- The sums of rows; a square turned: by the program. -/
namespace Go.Proofs.Ytjkmgpiiamffgaa
open Go.RowKit
open V (sumN detN rowC colC cofN minorN skip sgn)

/-- The sums of the first i of n rows, and 0 for the others. -/
def rsT (xss : List (List Int)) (n i : Nat) : List Int := (List.range n).map fun p => if p < i then tot (gr xss p) else 0
def rsL (xss : List (List Int)) (n : Nat) : List Int := (List.range n).map fun p => tot (gr xss p)
theorem rsT_len (xss : List (List Int)) (n i : Nat) : (rsT xss n i).length = n := by simp [rsT]
theorem gi_rsT {xss : List (List Int)} {n i p : Nat} (h : p < n) : gi (rsT xss n i) p = if p < i then tot (gr xss p) else 0 := by rw [gi_get (by rw [rsT_len]; exact h)]; simp [rsT]
theorem rsL_len (xss : List (List Int)) (n : Nat) : (rsL xss n).length = n := by simp [rsL]
theorem gi_rsL {xss : List (List Int)} {n p : Nat} (h : p < n) : gi (rsL xss n) p = tot (gr xss p) := by rw [gi_get (by rw [rsL_len]; exact h)]; simp [rsL]
theorem rsT_zero (xss : List (List Int)) (n : Nat) : rsT xss n 0 = List.replicate n 0 := gi_ext (by rw [rsT_len]; simp) fun p hp => by rw [rsT_len] at hp; rw [gi_rsT hp, gi_repl hp, if_neg (by omega)]
theorem rsT_all (xss : List (List Int)) (n : Nat) : rsT xss n n = rsL xss n := gi_ext (by rw [rsT_len, rsL_len]) fun p hp => by rw [rsT_len] at hp; rw [gi_rsT hp, gi_rsL hp, if_pos hp]
theorem rsT_set {xss : List (List Int)} {n i : Nat} : (rsT xss n i).set i (tot (gr xss i)) = rsT xss n (i + 1) := gi_ext (by rw [List.length_set, rsT_len, rsT_len]) fun p hp => by
  rw [List.length_set, rsT_len] at hp
  rw [gi_set_at (by rw [rsT_len]; exact hp), gi_rsT hp, gi_rsT hp]
  by_cases e : i = p
  · subst e; rw [if_pos rfl, if_pos (by omega)]
  · rw [if_neg e]; split <;> split <;> first | rfl | omega

theorem SU.next {w n ys wr wr'} (h : SU w n ys wr) (k : Below wr.heap.size wr wr') : SU w n ys wr' :=
  ⟨h.own.below k, below_up h.up k, Nat.le_trans h.sz k.size⟩

/-- A square with numbers of any size in memory, every cell. -/
structure TabX (w : World) (b o : Nat) (rb ro cc : Nat → Nat) (n : Nat) (xs : List (List Int)) : Prop where
  row : ∀ i, i < n → w.cell? ⟨b, o + i, none⟩ = some (.slice (some ⟨rb i, ro i, none⟩) n (cc i))
  cell : ∀ i j, i < n → j < n → w.cell? ⟨rb i, ro i + j, none⟩ = some (.int .i64 (g2 xs i j))
  bd : ∀ i j, i < n → j < n → -1000000000000000 ≤ g2 xs i j ∧ g2 xs i j ≤ 1000000000000000
theorem TabX.keep {w w' : World} {b o rb ro cc n xs} (h : TabX w b o rb ro cc n xs) (k : Keep w w') : TabX w' b o rb ro cc n xs :=
  ⟨fun i hi => k _ _ (h.row i hi), fun i j hi hj => k _ _ (h.cell i j hi hj), h.bd⟩
theorem IntRows.tabX {w A n c xs f} (h : IntRows w A n c xs) (q : Sq n xs f) (h0 : 0 < n) (hb : ∀ i j, i < n → j < n → -1000000000000000 ≤ f i j ∧ f i j ≤ 1000000000000000) : ∃ b o rb ro cc, A = some ⟨b, o, none⟩ ∧ TabX w b o rb ro cc n xs := by
  obtain ⟨b, o, rfl, hr⟩ := h.at_ h0
  have each : ∀ i, i < n → ∃ y : Nat × Nat × Nat, w.cell? ⟨b, o + i, none⟩ = some (.slice (some ⟨y.1, y.2.1, none⟩) n y.2.2) ∧ ∀ j, j < n → w.cell? ⟨y.1, y.2.1 + j, none⟩ = some (.int .i64 (g2 xs i j)) := by
    intro i hi
    obtain ⟨R, c', h1, h2⟩ := hr i hi
    have hrow := q.row i hi
    obtain ⟨b2, o2, rfl, hc⟩ := h2.at_ (by omega)
    exact ⟨(b2, o2, c'), by rw [← hrow]; rw [hrow] at h1 ⊢; exact h1, fun j hj => hc j (by omega)⟩
  obtain ⟨y, hy⟩ := Go.Deep.choose_lt each
  exact ⟨b, o, fun i => (y i).1, fun i => (y i).2.1, fun i => (y i).2.2, rfl, fun i hi => (hy i hi).1, fun i j hi hj => (hy i hi).2 j hj, fun i j hi hj => by rw [q.eq i j hi hj]; exact hb i j hi hj⟩
theorem turnO_ownX {w wr : World} {n m : Nat} {xs : List (List Int)} (h : TurnO w wr n m m xs) (hn : n ≤ 3) (hm : m ≤ 3) (hbd : ∀ i j, i < n → j < m → -1000000000000000 ≤ g2 xs i j ∧ g2 xs i j ≤ 1000000000000000) :
    OwnR w.heap.size wr.heap.size wr w.heap.size (some ⟨w.heap.size, 0, none⟩) m m (flip xs n m) := by
  have hs := h.size
  refine ⟨by simp [flip], Nat.le_refl _, by omega, fun _ => ⟨0, fun k => w.heap.size + 1 + k, fun k => some ⟨w.heap.size + 1 + k, 0, none⟩, fun _ => n, rfl, Nat.le_refl _, h.top.lt, fun k hk => ?_, fun j k hj _ _ _ => by show w.heap.size + 1 + j ≠ w.heap.size + 1 + k; omega⟩⟩
  have hl : ((List.range n).map fun i => g2 xs i k).length = n := by simp
  rw [gr_flip hk, hl]
  refine ⟨by rw [Nat.zero_add]; exact h.top.frozen k, by rw [Nat.zero_add, h.top.cell hk, ttop, if_pos hk], OwnI.of_rowIs hl (by omega) ?_ (by show w.heap.size ≤ w.heap.size + 1 + k; omega) (by show w.heap.size + 1 + k < _; omega) (h.done k hk) (fun i hi => by rw [gi_col hi]), fun _ => by show w.heap.size + 1 + k ≠ w.heap.size; omega⟩
  intro x hx
  obtain ⟨i, hi, rfl⟩ := List.mem_map.1 hx
  have := hbd i k (List.mem_range.1 hi) hk
  omega

set_option maxHeartbeats 1000000 in
theorem turnedX_any (b o : Nat) (rb ro cc : Nat → Nat) (n c : Nat) (xs : List (List Int)) (w : World) (h : TabX w b o rb ro cc n xs) (hn1 : 0 < n) (hn3 : n ≤ 3) :
    Calls Try.prog 84 #[.slice (some ⟨b, o, none⟩) n c] w (MadeT w n n xs) := by
  have HT := Lib.hid h
  have r0 := h.row 0 (by omega)
  simp only [Nat.add_zero] at r0
  clear h
  have hmk := run_make_row' (P := Try.prog) 23 30 (.slice none 0 0) 24 Try.underlying23 Try.info30 rfl .i64 .i64 n (by omega) (by omega)
  go_enter Try.func84, Try.ntmps84
  go_wp2
  clear hmk
  go_loopw [13] (fun s wr => ∃ k : Nat, k ≤ n ∧ s = .int .i64 k ∧ Hid (TurnO w wr n n k xs)) (fun s _ => n - (intOf s).toNat)
  case atStart => exact ⟨0, Nat.zero_le _, rfl, Lib.hid (turnO_start w n n xs)⟩
  case round =>
    obtain ⟨k, hk, rfl, HO⟩ := hrel
    by_cases hlt : k < n
    · have hmk2 := run_make_row' (P := Try.prog) 30 3 (.int .i64 0) 8 Try.underlying30 Try.info3 rfl .i64 .i64 n (by omega) (by omega)
      have c1 := (HO.out.top.alloc (.cells (madeCells #[.int .i64 0] n) 3)).cell hlt
      simp only [ttop, if_neg (Nat.lt_irrefl k)] at c1
      have c2 := (HO.out.top.alloc (.cells (madeCells #[.int .i64 0] n) 3)).frozen k
      have HI := Lib.hid (turnI_start HO.out)
      clear HO
      go_wp2
      clear hmk2 c1 c2
      go_loopw [24] (fun s wi => ∃ r : Nat, r ≤ n ∧ s = .int .i64 r ∧ Hid (TurnI w wi n n k r xs)) (fun s _ => n - (intOf s).toNat)
      case atStart => exact ⟨0, Nat.zero_le _, rfl, HI⟩
      case round =>
        clear HI
        obtain ⟨r, hr, rfl, HI⟩ := hrel
        by_cases hrn : r < n
        · have c1 := HI.out.top.cell hlt
          simp only [ttop, if_pos (Nat.lt_succ_self k)] at c1
          have hsrc := (HT.out.keep (Keep.below HI.out.below)).row r hrn
          have hel := (HT.out.keep (Keep.below HI.out.below)).cell r k hrn hlt
          have c3 := HI.out.cur.cell hrn
          simp only [if_neg (Nat.lt_irrefl r)] at c3
          have c4 := HI.out.cur.frozen r
          have HN := Lib.hid ((turnI_step HI.out (Quiet.refl _)).drew)
          go_wp2
          go_region
          all_goals
            clear c1 hsrc hel c3 c4 HI
            go_wp2
            go_roundw
            case rel => exact ⟨r + 1, by omega, by go_num, HN⟩
            case measure => simp [intOf]; omega
        · go_wp2
          go_roundw
          case rel => exact ⟨k + 1, by omega, by go_num, Lib.hid (turnI_done (by have h := HI.out; rw [show r = n by omega] at h; exact h))⟩
          case measure => simp [intOf]; omega
    · go_wp2
      go_ret
      obtain rfl : k = n := by omega
      exact ⟨rfl, turnO_ownX HO.out hn3 hn3 HT.out.bd, HO.out.below, HO.out.top.lt⟩

/-- The sums of cofactors, of rows and of columns. -/
theorem rsL_cofM (n : Nat) (f : Nat → Nat → Int) : rsL (cofM n f n) n = cofL n f n := gi_ext (by rw [rsL_len, cofL_len]) fun p hp => by
  rw [rsL_len] at hp
  rw [gi_rsL hp, gr_cofM hp, gi_cofL hp]
  unfold tot rowC
  rw [cofR_len, sm_sum]
  exact sumN_congr fun q hq => gi_cofR hq
theorem rsL_flip {n : Nat} (hn : n ≤ 3) (f : Nat → Nat → Int) : rsL (flip (cofM n f n) n n) n = cofL n (trN f) n := gi_ext (by rw [rsL_len, cofL_len]) fun q hq => by
  rw [rsL_len] at hq
  rw [gi_rsL hq, gi_cofL hq, rowC_tr hn, gr_flip hq]
  unfold tot colC
  rw [sm_sum, List.length_map, List.length_range]
  exact sumN_congr fun p hp => by rw [gi_col hp]; exact (cofM_sq n f).eq p q hp hq
end Go.Proofs.Ytjkmgpiiamffgaa

/- Valid games, by both programs. -/
namespace Go.Proofs.Ytjkmgpiiamffgaa
open Go.RowKit

set_option maxHeartbeats 400000 in
theorem validGame_any_a (A B : Option Addr) (n c m d : Nat) (xs ys : List (List Int)) (w : World) (hx : IntRows w A n c xs) (hy : IntRows w B m d ys) (h1 : ¬ VT xs) :
    Calls Try.prog 85 #[.agg #[.slice A n c, .slice B m d]] w (Ret (.bool (pb (VG xs ys))) w) := by
  have hb0 := below_alloc w (.cells #[.slice A n c, .slice B m d] 54)
  have b0 := blk_new w 54 #[.slice A n c, .slice B m d]
  have ca := blk_cell b0 (i := 0) (v := .slice A n c) rfl
  have cb := blk_cell b0 (i := 1) (v := .slice B m d) rfl
  have hx1 := hx.keep (Keep.below hb0)
  have hy1 := hy.keep (Keep.below hb0)
  have HB := Lib.hid hb0
  have HX := Lib.hid hx1
  have HY := Lib.hid hy1
  have lx := hx.cap
  have mx := hx.max
  have ly := hy.cap
  have my := hy.max
  clear hb0 b0 hx hy hx1 hy1
  have HV := Lib.hid (pb_false (p := VG xs ys) fun v => h1 v.ta)
  have p1 := pb_false h1
  clear h1
  go_enter Try.func85, Try.ntmps85
  go_wp2
  generalize w.alloc (.cells #[.slice A n c, .slice B m d] 54) = W1 at *
  have QX := Lib.hid (fun W (hW : Quiet W1 W) => (p1 ▸ validTable_any _ _ _ _ W (HX.out.keep (Keep.quiet hW))))
  go_quiet ((go_at_call 101; (with_reducible refine quiet_fit (QX.out _ ?_) (fun m => ?_)); exact ⟨_, rfl⟩; exact drewN_to1 _ _ _))
  go_wp2
  go_ret
  exact ⟨ret_bool HV.out.symm, below_drewN HB.out _⟩

set_option maxHeartbeats 400000 in
theorem validGame_any_b (A B : Option Addr) (n c m d : Nat) (xs ys : List (List Int)) (w : World) (hx : IntRows w A n c xs) (hy : IntRows w B m d ys) (h1 : VT xs) (h2 : ¬ VT ys) :
    Calls Try.prog 85 #[.agg #[.slice A n c, .slice B m d]] w (Ret (.bool (pb (VG xs ys))) w) := by
  have hb0 := below_alloc w (.cells #[.slice A n c, .slice B m d] 54)
  have b0 := blk_new w 54 #[.slice A n c, .slice B m d]
  have ca := blk_cell b0 (i := 0) (v := .slice A n c) rfl
  have cb := blk_cell b0 (i := 1) (v := .slice B m d) rfl
  have hx1 := hx.keep (Keep.below hb0)
  have hy1 := hy.keep (Keep.below hb0)
  have HB := Lib.hid hb0
  have HX := Lib.hid hx1
  have HY := Lib.hid hy1
  have lx := hx.cap
  have mx := hx.max
  have ly := hy.cap
  have my := hy.max
  clear hb0 b0 hx hy hx1 hy1
  have HV := Lib.hid (pb_false (p := VG xs ys) fun v => h2 v.tb)
  have p1 := pb_true h1
  have p2 := pb_false h2
  clear h1 h2
  go_enter Try.func85, Try.ntmps85
  go_wp2
  generalize w.alloc (.cells #[.slice A n c, .slice B m d] 54) = W1 at *
  have QX := Lib.hid (fun W (hW : Quiet W1 W) => (p1 ▸ validTable_any _ _ _ _ W (HX.out.keep (Keep.quiet hW))))
  have QY := Lib.hid (fun W (hW : Quiet W1 W) => (p2 ▸ validTable_any _ _ _ _ W (HY.out.keep (Keep.quiet hW))))
  go_quiet ((go_at_call 101; (first | (with_reducible refine quiet_fit (QX.out _ ?_) (fun m => ?_)) | (with_reducible refine quiet_fit (QY.out _ ?_) (fun m => ?_))); exact ⟨_, rfl⟩; exact drewN_to1 _ _ _))
  go_wp2
  go_ret
  exact ⟨ret_bool HV.out.symm, below_drewN HB.out _⟩

set_option maxHeartbeats 400000 in
theorem validGame_any_c (A B : Option Addr) (n c m d : Nat) (xs ys : List (List Int)) (w : World) (hx : IntRows w A n c xs) (hy : IntRows w B m d ys) (h1 : VT xs) (h2 : VT ys) (h3 : n ≠ m) :
    Calls Try.prog 85 #[.agg #[.slice A n c, .slice B m d]] w (Ret (.bool (pb (VG xs ys))) w) := by
  have hb0 := below_alloc w (.cells #[.slice A n c, .slice B m d] 54)
  have b0 := blk_new w 54 #[.slice A n c, .slice B m d]
  have ca := blk_cell b0 (i := 0) (v := .slice A n c) rfl
  have cb := blk_cell b0 (i := 1) (v := .slice B m d) rfl
  have hx1 := hx.keep (Keep.below hb0)
  have hy1 := hy.keep (Keep.below hb0)
  have HB := Lib.hid hb0
  have HX := Lib.hid hx1
  have HY := Lib.hid hy1
  have lx := hx.cap
  have mx := hx.max
  have ly := hy.cap
  have my := hy.max
  clear hb0 b0 hx hy hx1 hy1
  have HV := Lib.hid (pb_false (p := VG xs ys) fun v => h3 (by have := v.n; rw [HX.out.len, HY.out.len] at this; exact this))
  have h3' : ((n : Int) == (m : Int)) = false := by simp; omega
  have p1 := pb_true h1
  have p2 := pb_true h2
  clear h1 h2 h3
  go_enter Try.func85, Try.ntmps85
  go_wp2
  generalize w.alloc (.cells #[.slice A n c, .slice B m d] 54) = W1 at *
  have QX := Lib.hid (fun W (hW : Quiet W1 W) => (p1 ▸ validTable_any _ _ _ _ W (HX.out.keep (Keep.quiet hW))))
  have QY := Lib.hid (fun W (hW : Quiet W1 W) => (p2 ▸ validTable_any _ _ _ _ W (HY.out.keep (Keep.quiet hW))))
  go_quiet ((go_at_call 101; (first | (with_reducible refine quiet_fit (QX.out _ ?_) (fun m => ?_)) | (with_reducible refine quiet_fit (QY.out _ ?_) (fun m => ?_))); exact ⟨_, rfl⟩; exact drewN_to1 _ _ _))
  go_wp2
  go_ret
  exact ⟨ret_bool HV.out.symm, below_drewN HB.out _⟩

set_option maxHeartbeats 400000 in
theorem validGame_any_d (A B : Option Addr) (n c m d : Nat) (xs ys : List (List Int)) (w : World) (hx : IntRows w A n c xs) (hy : IntRows w B m d ys) (h1 : VT xs) (h2 : VT ys) (h3 : n = m) (h4 : (gr xs 0).length ≠ (gr ys 0).length) :
    Calls Try.prog 85 #[.agg #[.slice A n c, .slice B m d]] w (Ret (.bool (pb (VG xs ys))) w) := by
  have hb0 := below_alloc w (.cells #[.slice A n c, .slice B m d] 54)
  have b0 := blk_new w 54 #[.slice A n c, .slice B m d]
  have ca := blk_cell b0 (i := 0) (v := .slice A n c) rfl
  have cb := blk_cell b0 (i := 1) (v := .slice B m d) rfl
  have hx1 := hx.keep (Keep.below hb0)
  have hy1 := hy.keep (Keep.below hb0)
  have HB := Lib.hid hb0
  have HX := Lib.hid hx1
  have HY := Lib.hid hy1
  have lx := hx.cap
  have mx := hx.max
  have ly := hy.cap
  have my := hy.max
  clear hb0 b0 hx hy hx1 hy1
  have HV := Lib.hid (pb_false (p := VG xs ys) fun v => h4 v.m)
  have h4' : (((gr xs 0).length : Int) == ((gr ys 0).length : Int)) = false := by simp; omega
  have hn0 : 0 < n := by have := h1.n1; rw [HX.out.len] at this; omega
  have p1 := pb_true h1
  have p2 := pb_true h2
  obtain rfl : m = n := h3.symm
  clear h1 h2 h4
  go_enter Try.func85, Try.ntmps85
  go_wp2
  generalize w.alloc (.cells #[.slice A m c, .slice B m d] 54) = W1 at *
  obtain ⟨b, o, rfl, hc⟩ := HX.out.at_ hn0
  obtain ⟨R0, cc0, c0, hR0⟩ := hc 0 hn0
  obtain ⟨b2, o2, rfl, hc2⟩ := HY.out.at_ hn0
  obtain ⟨R2, cc2, c2, hR2⟩ := hc2 0 hn0
  simp only [Nat.add_zero] at c0 c2
  have hL0 : (gr xs 0).length ≤ 17592186044416 := hR0.max
  have hL2 : (gr ys 0).length ≤ 17592186044416 := hR2.max
  clear hc hc2 hR0 hR2
  have QX := Lib.hid (fun W (hW : Quiet W1 W) => (p1 ▸ validTable_any _ _ _ _ W (HX.out.keep (Keep.quiet hW))))
  have QY := Lib.hid (fun W (hW : Quiet W1 W) => (p2 ▸ validTable_any _ _ _ _ W (HY.out.keep (Keep.quiet hW))))
  go_quiet ((go_at_call 101; (first | (with_reducible refine quiet_fit (QX.out _ ?_) (fun m => ?_)) | (with_reducible refine quiet_fit (QY.out _ ?_) (fun m => ?_))); exact ⟨_, rfl⟩; exact drewN_to1 _ _ _))
  go_wp2
  go_ret
  exact ⟨ret_bool HV.out.symm, below_drewN HB.out _⟩

set_option maxHeartbeats 400000 in
theorem validGame_any_e (A B : Option Addr) (n c m d : Nat) (xs ys : List (List Int)) (w : World) (hx : IntRows w A n c xs) (hy : IntRows w B m d ys) (h1 : VT xs) (h2 : VT ys) (h3 : n = m) (h4 : (gr xs 0).length = (gr ys 0).length) :
    Calls Try.prog 85 #[.agg #[.slice A n c, .slice B m d]] w (Ret (.bool (pb (VG xs ys))) w) := by
  have hb0 := below_alloc w (.cells #[.slice A n c, .slice B m d] 54)
  have b0 := blk_new w 54 #[.slice A n c, .slice B m d]
  have ca := blk_cell b0 (i := 0) (v := .slice A n c) rfl
  have cb := blk_cell b0 (i := 1) (v := .slice B m d) rfl
  have hx1 := hx.keep (Keep.below hb0)
  have hy1 := hy.keep (Keep.below hb0)
  have HB := Lib.hid hb0
  have HX := Lib.hid hx1
  have HY := Lib.hid hy1
  have lx := hx.cap
  have mx := hx.max
  have ly := hy.cap
  have my := hy.max
  clear hb0 b0 hx hy hx1 hy1
  have HV := Lib.hid (pb_true (p := VG xs ys) ⟨h1, h2, by rw [HX.out.len, HY.out.len, h3], h4⟩)
  have h4' : (((gr xs 0).length : Int) == ((gr ys 0).length : Int)) = true := by simp [h4]
  have hn0 : 0 < n := by have := h1.n1; rw [HX.out.len] at this; omega
  have p1 := pb_true h1
  have p2 := pb_true h2
  obtain rfl : m = n := h3.symm
  clear h1 h2 h4
  go_enter Try.func85, Try.ntmps85
  go_wp2
  generalize w.alloc (.cells #[.slice A m c, .slice B m d] 54) = W1 at *
  obtain ⟨b, o, rfl, hc⟩ := HX.out.at_ hn0
  obtain ⟨R0, cc0, c0, hR0⟩ := hc 0 hn0
  obtain ⟨b2, o2, rfl, hc2⟩ := HY.out.at_ hn0
  obtain ⟨R2, cc2, c2, hR2⟩ := hc2 0 hn0
  simp only [Nat.add_zero] at c0 c2
  have hL0 : (gr xs 0).length ≤ 17592186044416 := hR0.max
  have hL2 : (gr ys 0).length ≤ 17592186044416 := hR2.max
  clear hc hc2 hR0 hR2
  have QX := Lib.hid (fun W (hW : Quiet W1 W) => (p1 ▸ validTable_any _ _ _ _ W (HX.out.keep (Keep.quiet hW))))
  have QY := Lib.hid (fun W (hW : Quiet W1 W) => (p2 ▸ validTable_any _ _ _ _ W (HY.out.keep (Keep.quiet hW))))
  go_quiet ((go_at_call 101; (first | (with_reducible refine quiet_fit (QX.out _ ?_) (fun m => ?_)) | (with_reducible refine quiet_fit (QY.out _ ?_) (fun m => ?_))); exact ⟨_, rfl⟩; exact drewN_to1 _ _ _))
  go_wp2
  go_ret
  exact ⟨ret_bool HV.out.symm, below_drewN HB.out _⟩

theorem validGame_any (A B : Option Addr) (n c m d : Nat) (xs ys : List (List Int)) (w : World) (hx : IntRows w A n c xs) (hy : IntRows w B m d ys) :
    Calls Try.prog 85 #[.agg #[.slice A n c, .slice B m d]] w (Ret (.bool (pb (VG xs ys))) w) := by
  by_cases h1 : VT xs
  · by_cases h2 : VT ys
    · by_cases h3 : n = m
      · by_cases h4 : (gr xs 0).length = (gr ys 0).length
        · exact validGame_any_e _ _ _ _ _ _ _ _ _ hx hy h1 h2 h3 h4
        · exact validGame_any_d _ _ _ _ _ _ _ _ _ hx hy h1 h2 h3 h4
      · exact validGame_any_c _ _ _ _ _ _ _ _ _ hx hy h1 h2 h3
    · exact validGame_any_b _ _ _ _ _ _ _ _ _ hx hy h1 h2
  · exact validGame_any_a _ _ _ _ _ _ _ _ _ hx hy h1

set_option maxHeartbeats 400000 in
theorem ValidGame_impl_a (A B : Option Addr) (n c m d : Nat) (xs ys : List (List Int)) (w : World) (hx : IntRows w A n c xs) (hy : IntRows w B m d ys) (h1 : ¬ VT xs) :
    Calls Try.prog 81 #[.agg #[.slice A n c, .slice B m d]] w (Ret (.bool (pb (VG xs ys))) w) := by
  have hb0 := below_alloc w (.cells #[.slice A n c, .slice B m d] 54)
  have b0 := blk_new w 54 #[.slice A n c, .slice B m d]
  have ca := blk_cell b0 (i := 0) (v := .slice A n c) rfl
  have cb := blk_cell b0 (i := 1) (v := .slice B m d) rfl
  have hx1 := hx.keep (Keep.below hb0)
  have hy1 := hy.keep (Keep.below hb0)
  have HB := Lib.hid hb0
  have HX := Lib.hid hx1
  have HY := Lib.hid hy1
  have lx := hx.cap
  have mx := hx.max
  have ly := hy.cap
  have my := hy.max
  clear hb0 b0 hx hy hx1 hy1
  have HV := Lib.hid (pb_false (p := VG xs ys) fun v => h1 v.ta)
  have p1 := pb_false h1
  clear h1
  go_enter Try.func81, Try.ntmps81
  go_wp2
  generalize w.alloc (.cells #[.slice A n c, .slice B m d] 54) = W1 at *
  have QX := Lib.hid (fun W (hW : Quiet W1 W) => (p1 ▸ ValidTable_impl _ _ _ _ W (HX.out.keep (Keep.quiet hW))))
  go_quiet ((go_at_call 104; (with_reducible refine quiet_fit (QX.out _ ?_) (fun m => ?_)); exact ⟨_, rfl⟩; exact drewN_to1 _ _ _))
  go_wp2
  go_ret
  exact ⟨ret_bool HV.out.symm, below_drewN HB.out _⟩

set_option maxHeartbeats 400000 in
theorem ValidGame_impl_b (A B : Option Addr) (n c m d : Nat) (xs ys : List (List Int)) (w : World) (hx : IntRows w A n c xs) (hy : IntRows w B m d ys) (h1 : VT xs) (h2 : ¬ VT ys) :
    Calls Try.prog 81 #[.agg #[.slice A n c, .slice B m d]] w (Ret (.bool (pb (VG xs ys))) w) := by
  have hb0 := below_alloc w (.cells #[.slice A n c, .slice B m d] 54)
  have b0 := blk_new w 54 #[.slice A n c, .slice B m d]
  have ca := blk_cell b0 (i := 0) (v := .slice A n c) rfl
  have cb := blk_cell b0 (i := 1) (v := .slice B m d) rfl
  have hx1 := hx.keep (Keep.below hb0)
  have hy1 := hy.keep (Keep.below hb0)
  have HB := Lib.hid hb0
  have HX := Lib.hid hx1
  have HY := Lib.hid hy1
  have lx := hx.cap
  have mx := hx.max
  have ly := hy.cap
  have my := hy.max
  clear hb0 b0 hx hy hx1 hy1
  have HV := Lib.hid (pb_false (p := VG xs ys) fun v => h2 v.tb)
  have p1 := pb_true h1
  have p2 := pb_false h2
  clear h1 h2
  go_enter Try.func81, Try.ntmps81
  go_wp2
  generalize w.alloc (.cells #[.slice A n c, .slice B m d] 54) = W1 at *
  have QX := Lib.hid (fun W (hW : Quiet W1 W) => (p1 ▸ ValidTable_impl _ _ _ _ W (HX.out.keep (Keep.quiet hW))))
  have QY := Lib.hid (fun W (hW : Quiet W1 W) => (p2 ▸ ValidTable_impl _ _ _ _ W (HY.out.keep (Keep.quiet hW))))
  go_quiet ((go_at_call 104; (first | (with_reducible refine quiet_fit (QX.out _ ?_) (fun m => ?_)) | (with_reducible refine quiet_fit (QY.out _ ?_) (fun m => ?_))); exact ⟨_, rfl⟩; exact drewN_to1 _ _ _))
  go_wp2
  go_ret
  exact ⟨ret_bool HV.out.symm, below_drewN HB.out _⟩

set_option maxHeartbeats 400000 in
theorem ValidGame_impl_c (A B : Option Addr) (n c m d : Nat) (xs ys : List (List Int)) (w : World) (hx : IntRows w A n c xs) (hy : IntRows w B m d ys) (h1 : VT xs) (h2 : VT ys) (h3 : n ≠ m) :
    Calls Try.prog 81 #[.agg #[.slice A n c, .slice B m d]] w (Ret (.bool (pb (VG xs ys))) w) := by
  have hb0 := below_alloc w (.cells #[.slice A n c, .slice B m d] 54)
  have b0 := blk_new w 54 #[.slice A n c, .slice B m d]
  have ca := blk_cell b0 (i := 0) (v := .slice A n c) rfl
  have cb := blk_cell b0 (i := 1) (v := .slice B m d) rfl
  have hx1 := hx.keep (Keep.below hb0)
  have hy1 := hy.keep (Keep.below hb0)
  have HB := Lib.hid hb0
  have HX := Lib.hid hx1
  have HY := Lib.hid hy1
  have lx := hx.cap
  have mx := hx.max
  have ly := hy.cap
  have my := hy.max
  clear hb0 b0 hx hy hx1 hy1
  have HV := Lib.hid (pb_false (p := VG xs ys) fun v => h3 (by have := v.n; rw [HX.out.len, HY.out.len] at this; exact this))
  have h3' : ((n : Int) == (m : Int)) = false := by simp; omega
  have p1 := pb_true h1
  have p2 := pb_true h2
  clear h1 h2 h3
  go_enter Try.func81, Try.ntmps81
  go_wp2
  generalize w.alloc (.cells #[.slice A n c, .slice B m d] 54) = W1 at *
  have QX := Lib.hid (fun W (hW : Quiet W1 W) => (p1 ▸ ValidTable_impl _ _ _ _ W (HX.out.keep (Keep.quiet hW))))
  have QY := Lib.hid (fun W (hW : Quiet W1 W) => (p2 ▸ ValidTable_impl _ _ _ _ W (HY.out.keep (Keep.quiet hW))))
  go_quiet ((go_at_call 104; (first | (with_reducible refine quiet_fit (QX.out _ ?_) (fun m => ?_)) | (with_reducible refine quiet_fit (QY.out _ ?_) (fun m => ?_))); exact ⟨_, rfl⟩; exact drewN_to1 _ _ _))
  go_wp2
  go_ret
  exact ⟨ret_bool HV.out.symm, below_drewN HB.out _⟩

set_option maxHeartbeats 400000 in
theorem ValidGame_impl_d (A B : Option Addr) (n c m d : Nat) (xs ys : List (List Int)) (w : World) (hx : IntRows w A n c xs) (hy : IntRows w B m d ys) (h1 : VT xs) (h2 : VT ys) (h3 : n = m) (h4 : (gr xs 0).length ≠ (gr ys 0).length) :
    Calls Try.prog 81 #[.agg #[.slice A n c, .slice B m d]] w (Ret (.bool (pb (VG xs ys))) w) := by
  have hb0 := below_alloc w (.cells #[.slice A n c, .slice B m d] 54)
  have b0 := blk_new w 54 #[.slice A n c, .slice B m d]
  have ca := blk_cell b0 (i := 0) (v := .slice A n c) rfl
  have cb := blk_cell b0 (i := 1) (v := .slice B m d) rfl
  have hx1 := hx.keep (Keep.below hb0)
  have hy1 := hy.keep (Keep.below hb0)
  have HB := Lib.hid hb0
  have HX := Lib.hid hx1
  have HY := Lib.hid hy1
  have lx := hx.cap
  have mx := hx.max
  have ly := hy.cap
  have my := hy.max
  clear hb0 b0 hx hy hx1 hy1
  have HV := Lib.hid (pb_false (p := VG xs ys) fun v => h4 v.m)
  have h4' : (((gr xs 0).length : Int) == ((gr ys 0).length : Int)) = false := by simp; omega
  have hn0 : 0 < n := by have := h1.n1; rw [HX.out.len] at this; omega
  have p1 := pb_true h1
  have p2 := pb_true h2
  obtain rfl : m = n := h3.symm
  clear h1 h2 h4
  go_enter Try.func81, Try.ntmps81
  go_wp2
  generalize w.alloc (.cells #[.slice A m c, .slice B m d] 54) = W1 at *
  obtain ⟨b, o, rfl, hc⟩ := HX.out.at_ hn0
  obtain ⟨R0, cc0, c0, hR0⟩ := hc 0 hn0
  obtain ⟨b2, o2, rfl, hc2⟩ := HY.out.at_ hn0
  obtain ⟨R2, cc2, c2, hR2⟩ := hc2 0 hn0
  simp only [Nat.add_zero] at c0 c2
  have hL0 : (gr xs 0).length ≤ 17592186044416 := hR0.max
  have hL2 : (gr ys 0).length ≤ 17592186044416 := hR2.max
  clear hc hc2 hR0 hR2
  have QX := Lib.hid (fun W (hW : Quiet W1 W) => (p1 ▸ ValidTable_impl _ _ _ _ W (HX.out.keep (Keep.quiet hW))))
  have QY := Lib.hid (fun W (hW : Quiet W1 W) => (p2 ▸ ValidTable_impl _ _ _ _ W (HY.out.keep (Keep.quiet hW))))
  go_quiet ((go_at_call 104; (first | (with_reducible refine quiet_fit (QX.out _ ?_) (fun m => ?_)) | (with_reducible refine quiet_fit (QY.out _ ?_) (fun m => ?_))); exact ⟨_, rfl⟩; exact drewN_to1 _ _ _))
  go_wp2
  go_ret
  exact ⟨ret_bool HV.out.symm, below_drewN HB.out _⟩

set_option maxHeartbeats 400000 in
theorem ValidGame_impl_e (A B : Option Addr) (n c m d : Nat) (xs ys : List (List Int)) (w : World) (hx : IntRows w A n c xs) (hy : IntRows w B m d ys) (h1 : VT xs) (h2 : VT ys) (h3 : n = m) (h4 : (gr xs 0).length = (gr ys 0).length) :
    Calls Try.prog 81 #[.agg #[.slice A n c, .slice B m d]] w (Ret (.bool (pb (VG xs ys))) w) := by
  have hb0 := below_alloc w (.cells #[.slice A n c, .slice B m d] 54)
  have b0 := blk_new w 54 #[.slice A n c, .slice B m d]
  have ca := blk_cell b0 (i := 0) (v := .slice A n c) rfl
  have cb := blk_cell b0 (i := 1) (v := .slice B m d) rfl
  have hx1 := hx.keep (Keep.below hb0)
  have hy1 := hy.keep (Keep.below hb0)
  have HB := Lib.hid hb0
  have HX := Lib.hid hx1
  have HY := Lib.hid hy1
  have lx := hx.cap
  have mx := hx.max
  have ly := hy.cap
  have my := hy.max
  clear hb0 b0 hx hy hx1 hy1
  have HV := Lib.hid (pb_true (p := VG xs ys) ⟨h1, h2, by rw [HX.out.len, HY.out.len, h3], h4⟩)
  have h4' : (((gr xs 0).length : Int) == ((gr ys 0).length : Int)) = true := by simp [h4]
  have hn0 : 0 < n := by have := h1.n1; rw [HX.out.len] at this; omega
  have p1 := pb_true h1
  have p2 := pb_true h2
  obtain rfl : m = n := h3.symm
  clear h1 h2 h4
  go_enter Try.func81, Try.ntmps81
  go_wp2
  generalize w.alloc (.cells #[.slice A m c, .slice B m d] 54) = W1 at *
  obtain ⟨b, o, rfl, hc⟩ := HX.out.at_ hn0
  obtain ⟨R0, cc0, c0, hR0⟩ := hc 0 hn0
  obtain ⟨b2, o2, rfl, hc2⟩ := HY.out.at_ hn0
  obtain ⟨R2, cc2, c2, hR2⟩ := hc2 0 hn0
  simp only [Nat.add_zero] at c0 c2
  have hL0 : (gr xs 0).length ≤ 17592186044416 := hR0.max
  have hL2 : (gr ys 0).length ≤ 17592186044416 := hR2.max
  clear hc hc2 hR0 hR2
  have QX := Lib.hid (fun W (hW : Quiet W1 W) => (p1 ▸ ValidTable_impl _ _ _ _ W (HX.out.keep (Keep.quiet hW))))
  have QY := Lib.hid (fun W (hW : Quiet W1 W) => (p2 ▸ ValidTable_impl _ _ _ _ W (HY.out.keep (Keep.quiet hW))))
  go_quiet ((go_at_call 104; (first | (with_reducible refine quiet_fit (QX.out _ ?_) (fun m => ?_)) | (with_reducible refine quiet_fit (QY.out _ ?_) (fun m => ?_))); exact ⟨_, rfl⟩; exact drewN_to1 _ _ _))
  go_wp2
  go_ret
  exact ⟨ret_bool HV.out.symm, below_drewN HB.out _⟩

theorem ValidGame_impl (A B : Option Addr) (n c m d : Nat) (xs ys : List (List Int)) (w : World) (hx : IntRows w A n c xs) (hy : IntRows w B m d ys) :
    Calls Try.prog 81 #[.agg #[.slice A n c, .slice B m d]] w (Ret (.bool (pb (VG xs ys))) w) := by
  by_cases h1 : VT xs
  · by_cases h2 : VT ys
    · by_cases h3 : n = m
      · by_cases h4 : (gr xs 0).length = (gr ys 0).length
        · exact ValidGame_impl_e _ _ _ _ _ _ _ _ _ hx hy h1 h2 h3 h4
        · exact ValidGame_impl_d _ _ _ _ _ _ _ _ _ hx hy h1 h2 h3 h4
      · exact ValidGame_impl_c _ _ _ _ _ _ _ _ _ hx hy h1 h2 h3
    · exact ValidGame_impl_b _ _ _ _ _ _ _ _ _ hx hy h1 h2
  · exact ValidGame_impl_a _ _ _ _ _ _ _ _ _ hx hy h1

end Go.Proofs.Ytjkmgpiiamffgaa

/- No rounds, by the model. -/
namespace Go.Proofs.Ytjkmgpiiamffgaa
open Go.RowKit

theorem upTo_ {P : Nat → Prop} {a : Nat} (h : ∀ l, l < a → P l) (z : P a) : ∀ l, l < a + 1 → P l := fun l hl => by
  by_cases hla : l < a
  · exact h l hla
  · obtain rfl : l = a := by omega
    exact z

end Go.Proofs.Ytjkmgpiiamffgaa

/- Pure rests, by the model. -/
namespace Go.Proofs.Ytjkmgpiiamffgaa
open Go.RowKit

/-- It returns rows of its own. -/
def RetR (xss : List (List Int)) (w : World) (e : Ending) (w' : World) : Prop :=
  ∃ A n c g, e = .returned (.slice A n c) ∧ n = xss.length ∧ OwnR w.heap.size w'.heap.size w' g A n c xss ∧ Below w.heap.size w w'

end Go.Proofs.Ytjkmgpiiamffgaa

/- Pure rests, by the program. -/
namespace Go.Proofs.Ytjkmgpiiamffgaa
open Go.RowKit

set_option maxHeartbeats 400000 in
theorem Max_any (A : Option Addr) (n c : Nat) (r : List Int) (w : World) (hx : Ints w A n c r) (h0 : 0 < n) :
    Calls Try.prog 87 #[.slice A n c] w fun e w' => e = .returned (.int .i64 (mxl r)) ∧ Quiet w w' := by
  obtain ⟨lx, cx, mx_, _, hx⟩ := hx
  have Lx := Lib.hid lx
  clear lx
  obtain ⟨b, o, rfl, hc⟩ := hx h0
  have c0 := hc 0 h0
  simp only [Nat.add_zero] at c0
  go_enter Try.func87, Try.ntmps87
  go_wp2
  go_loopw [3, 4] (fun m i wr => ∃ k : Nat, k < n ∧ i = .int .i64 (k + 1 : Nat) ∧ m = .int .i64 (mx r k) ∧ Quiet w wr) (fun _ i _ => n - (intOf i).toNat)
  case atStart => exact ⟨0, h0, rfl, rfl, Quiet.refl _⟩
  case round =>
    obtain ⟨k, hk, rfl, rfl, q, rfl⟩ := hrel
    by_cases hlt : k + 1 < n
    · have c1 := hc (k + 1) hlt
      clear c0 hc
      go_wp2
      go_roundw
      case rel => exact ⟨k + 1, hlt, by go_num, congrArg (Value.int .i64) (by simp only [mx]; split <;> omega), ⟨_, rfl⟩⟩
      case measure => simp [intOf]; omega
    · obtain rfl : n = k + 1 := by omega
      go_wp2
      go_ret
      exact ⟨ret_int (by rw [mxl, Lx.out]; rfl), ⟨_, rfl⟩⟩

theorem RestAt_iff {xs ys : List (List Int)} {n m i j : Nat} (hi : i < n) (hj : j < m) (hl : (gr ys i).length = m) :
    RestAt xs ys n m i j ↔ g2 xs i j = mxl (gr (flip xs n m) j) ∧ g2 ys i j = mxl (gr ys i) := by
  have hc : gi (gr (flip xs n m) j) i = g2 xs i j := by rw [gr_flip hj, gi_col hi]
  have hcl : (gr (flip xs n m) j).length = n := by rw [gr_flip hj]; simp
  rw [← hc, mxl_iff (by rw [hcl]; exact hi), show g2 ys i j = gi (gr ys i) j from rfl, mxl_iff (by rw [hl]; exact hj), hcl, hl]
  constructor
  · rintro ⟨h1, h2⟩
    exact ⟨fun k hk => by rw [hc, gr_flip hj, gi_col hk]; exact h1 k hk, h2⟩
  · rintro ⟨h1, h2⟩
    exact ⟨fun k hk => by have := h1 k hk; rw [hc, gr_flip hj, gi_col hk] at this; exact this, h2⟩

theorem OwnR.row0 {lo hi w b n c xss} (h : OwnR lo hi w b (some ⟨b, 0, none⟩) n c xss) {k : Nat} (hk : k < n) : ∃ R cc, w.cell? ⟨b, k, none⟩ = some (.slice R (gr xss k).length cc) ∧ Ints w R (gr xss k).length cc (gr xss k) := by
  obtain ⟨o, G, R, C, e, _, _, hr, _⟩ := h.at_ (by omega)
  injection e with e
  injection e with _ e _
  subst e
  have := (hr k hk).2.1
  rw [Nat.zero_add] at this
  exact ⟨R k, C k, this, (hr k hk).2.2.1.ints⟩
end Go.Proofs.Ytjkmgpiiamffgaa

/- The least of a row; the safe row. -/
namespace Go.Proofs.Ytjkmgpiiamffgaa
open Go.RowKit

set_option maxHeartbeats 400000 in
theorem Min_any (A : Option Addr) (n c : Nat) (r : List Int) (w : World) (hx : Ints w A n c r) (h0 : 0 < n) :
    Calls Try.prog 109 #[.slice A n c] w fun e w' => e = .returned (.int .i64 (lst r)) ∧ Quiet w w' := by
  obtain ⟨lx, cx, mx, _, hx⟩ := hx
  have Lx := Lib.hid lx
  clear lx
  obtain ⟨b, o, rfl, hc⟩ := hx h0
  have c0 := hc 0 h0
  simp only [Nat.add_zero] at c0
  go_enter Try.func109, Try.ntmps109
  go_wp2
  go_loopw [3, 4] (fun m i wr => ∃ k : Nat, k < n ∧ i = .int .i64 (k + 1 : Nat) ∧ m = .int .i64 (mn r k) ∧ Quiet w wr) (fun _ i _ => n - (intOf i).toNat)
  case atStart => exact ⟨0, h0, rfl, rfl, Quiet.refl _⟩
  case round =>
    obtain ⟨k, hk, rfl, rfl, q, rfl⟩ := hrel
    by_cases hlt : k + 1 < n
    · have c1 := hc (k + 1) hlt
      clear c0 hc
      go_wp2
      go_roundw
      case rel => exact ⟨k + 1, hlt, by go_num, congrArg (Value.int .i64) (by simp only [mn]; split <;> omega), ⟨_, rfl⟩⟩
      case measure => simp [intOf]; omega
    · obtain rfl : n = k + 1 := by omega
      go_wp2
      go_ret
      exact ⟨ret_int (by rw [lst, Lx.out]; rfl), ⟨_, rfl⟩⟩

/-- What a valid table's rows are, each with its length. -/
theorem VT.len {a : List (List Int)} (v : VT a) {i : Nat} (hi : i < a.length) : (gr a i).length = (gr a 0).length := (v.rows i hi).1

noncomputable def srAt (a : List (List Int)) : Int := if pb (VT a) = true then (bst a a.length : Int) else 0
noncomputable def srNum (a : List (List Int)) : Int := if pb (VT a) = true then lst (gr a (bst a a.length)) else 0
end Go.Proofs.Ytjkmgpiiamffgaa

