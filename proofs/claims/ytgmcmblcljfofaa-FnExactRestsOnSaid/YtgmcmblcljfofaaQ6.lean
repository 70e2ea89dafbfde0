/- Texts merged: W1 W2 W3 K1 K2 Ones A6 K3 K4 K5 R12 S8 S9 T3. -/
import Derived.Test.YtgmcmblcljfofaaQ5
import Derived.Deep.RegionLaw
/- Rows that are appended to in their places of a made slice; a part of a table, by the program. -/
namespace Go.Proofs.Ytgmcmblcljfofaa
open Go.RowKit

/-- A made slice of k rows, of which the first i are done, row i is under way, and the others are nil. -/
structure PU (wb : World) (k H i : Nat) (vs : Nat → Value) (xss : List (List Int)) (v : Value) (ys : List Int) (w : World) : Prop where
  top : w.rowIs wb.heap.size 27 k vs
  cur : i < k → vs i = v
  rest : ∀ p, i < p → p < k → vs p = .slice none 0 0
  ex : ∃ (G : Nat → Nat) (R : Nat → Option Addr) (C : Nat → Nat), (∀ p, p < i → vs p = .slice (R p) (gr xss p).length (C p) ∧ OwnI (wb.heap.size + 1) H w (G p) (R p) (gr xss p).length (C p) (gr xss p)) ∧
    ∀ j p, j < p → p < i → 0 < (gr xss j).length → 0 < (gr xss p).length → G j ≠ G p
  len : xss.length = i
  bi : BldI H w.heap.size w v ys
  lh : wb.heap.size + 1 ≤ H
  hs : H ≤ w.heap.size
  up : Below wb.heap.size wb w
theorem PU.start (wb : World) (k : Nat) : PU wb k (wb.heap.size + 1) 0 (fun _ => .slice none 0 0) [] (.slice none 0 0) [] (wb.alloc (.cells (madeCells #[.slice none 0 0] k) 27)) :=
  ⟨World.rowIs_made wb (.slice none 0 0) k 27, fun _ => rfl, fun _ _ _ => rfl, ⟨fun _ => 0, fun _ => none, fun _ => 0, fun p hp => absurd hp (by omega), fun j p _ hp => absurd hp (by omega)⟩, rfl, BldI.nil _ _ _, Nat.le_refl _, by simp, below_alloc _ _⟩
theorem PU.below {wb k H i vs xss v ys w w'} (h : PU wb k H i vs xss v ys w) (q : Below w.heap.size w w') : PU wb k H i vs xss v ys w' := by
  obtain ⟨G, R, C, h1, h2⟩ := h.ex
  have hz := q.size
  have hhs := h.hs
  exact ⟨h.top.of_block (q.block _ h.top.lt), h.cur, h.rest, ⟨G, R, C, fun p hp => ⟨(h1 p hp).1, (h1 p hp).2.below q⟩, h2⟩, h.len, (h.bi.below q).mono hz, h.lh, by omega, below_up h.up q⟩
theorem PU.qu {wb k H i vs xss v ys w w'} (h : PU wb k H i vs xss v ys w) (q : Quiet w w') : PU wb k H i vs xss v ys w' := h.below q.below
theorem PU.cell {wb k H i vs xss v ys w} (h : PU wb k H i vs xss v ys w) (hi : i < k) : w.cell? ⟨wb.heap.size, i, none⟩ = some v := by rw [h.top.cell hi, h.cur hi]
/-- Behind the append, before the store. -/
theorem PU.mid {wb k H i vs xss v ys w w2 w1} (h : PU wb k H i vs xss v ys w) (hb : Below w.heap.size w w2) (hgrow : w2.grownBy w1 v.ownBlock) :
    (∀ g, g < H → w1.heap[g]? = w.heap[g]?) ∧ Below wb.heap.size wb w1 ∧ w.heap.size ≤ w1.heap.size := by
  have hu : ∀ g, v.ownBlock = some g → H ≤ g := fun g hg => (h.bi.own.lt g hg).1
  have hz := hb.size
  have hz2 := hgrow.size
  have hhs := h.hs
  have hlh := h.lh
  have hbl : ∀ g, g < H → w1.heap[g]? = w.heap[g]? := fun g hg => (hgrow.block g (by omega) (fun e => by have := hu g e.symm; omega)).trans (hb.block g (by omega))
  refine ⟨hbl, ?_, by omega⟩
  exact (below_up h.up hb).grown hgrow (by have := h.up.size; omega) fun g hg => by have := hu g hg; omega
theorem PU.mid_cell {wb k H i vs xss v ys w w2 w1} (h : PU wb k H i vs xss v ys w) (hi : i < k) (hb : Below w.heap.size w w2) (hgrow : w2.grownBy w1 v.ownBlock) :
    w1.cell? ⟨wb.heap.size, i, none⟩ = some v ∧ w1.frozen? ⟨wb.heap.size, i, none⟩ = false := by
  have hlh := h.lh
  have h1 := h.top.of_block ((h.mid hb hgrow).1 _ (by omega))
  exact ⟨by rw [h1.cell hi, h.cur hi], h1.frozen i⟩
theorem PU.push {wb k H i vs xss v ys w w2 w1 x} {gg cap : Nat} (h : PU wb k H i vs xss v ys w) (_ : i < k) (hb : Below w.heap.size w w2)
    (hown : w1.ownsRow H 3 1 (.slice (some ⟨gg, 0, none⟩) (ys.length + 1) cap) (ys.length + 1) (ys.map iv ++ [iv x])) (hgrow : w2.grownBy w1 v.ownBlock) (hlt : gg < w1.heap.size) :
    PU wb k H i (fun j => if j = i then .slice (some ⟨gg, 0, none⟩) (ys.length + 1) cap else vs j) xss (.slice (some ⟨gg, 0, none⟩) (ys.length + 1) cap) (ys ++ [x])
      (w1.setCell ⟨wb.heap.size, i, none⟩ (.slice (some ⟨gg, 0, none⟩) (ys.length + 1) cap)) := by
  obtain ⟨hbl, hup, hsz⟩ := h.mid hb hgrow
  obtain ⟨G, R, C, h1, h2⟩ := h.ex
  have hlh := h.lh
  have hhs := h.hs
  have hset : ∀ g, g ≠ wb.heap.size → (w1.setCell ⟨wb.heap.size, i, none⟩ (.slice (some ⟨gg, 0, none⟩) (ys.length + 1) cap)).heap[g]? = w1.heap[g]? := fun g hg => Below.heap_setCell _ _ _ _ hg
  have hgl := (hown.lt gg rfl).1
  have hss : (w1.setCell ⟨wb.heap.size, i, none⟩ (.slice (some ⟨gg, 0, none⟩) (ys.length + 1) cap)).heap.size = w1.heap.size := by simp [World.setCell]
  refine ⟨(h.top.of_block (hbl _ (by omega))).set i _, fun _ => by simp, fun p hp hpk => ?_, ⟨G, R, C, fun p hp => ⟨?_, (h1 p hp).2.of_block fun hn => ?_⟩, h2⟩, h.len, ⟨?_, fun g hg => ?_⟩, hlh, by omega, hup.setCell (p := ⟨wb.heap.size, i, none⟩) (Nat.le_refl _) _⟩
  · show (if p = i then _ else vs p) = _
    rw [if_neg (by omega)]; exact h.rest p hp hpk
  · show (if p = i then _ else vs p) = _
    rw [if_neg (by omega)]; exact (h1 p hp).1
  · obtain ⟨_, _, q1, q2, _⟩ := (h1 p hp).2.own hn
    exact (hset _ (by omega)).trans (hbl _ q2)
  · rw [List.length_append, List.length_singleton, List.map_append]
    exact blk_kept hown fun g hg => hset g (by
      have : gg = g := by simpa [Value.ownBlock] using hg
      omega)
  · have : gg = g := by simpa [Value.ownBlock] using hg
    omega
theorem PU.next {wb k H i vs xss ys w} {A : Option Addr} {c : Nat} (h : PU wb k H i vs xss (.slice A ys.length c) ys w) (hi : i < k) (hm : ys.length ≤ 100) (hb : ∀ y ∈ ys, -1000000000000000 ≤ y ∧ y ≤ 1000000000000000) :
    PU wb k w.heap.size (i + 1) vs (xss ++ [ys]) (.slice none 0 0) [] w := by
  obtain ⟨G, R, C, h1, h2⟩ := h.ex
  have hl := h.len
  have hlh := h.lh
  have hhs := h.hs
  obtain ⟨A', n', c', g, e, hn, ho, _⟩ := h.bi.owns (by omega) (fun t ht => by have := hb t ht; omega)
  injection e with e1 e2 e3
  subst e1
  subst e2
  subst e3
  refine ⟨h.top, fun hk => h.rest _ (by omega) hk, fun p hp hpk => h.rest p (by omega) hpk, ⟨fun p => if p < i then G p else g, fun p => if p < i then R p else A, fun p => if p < i then C p else c, fun p hp => ?_, fun j p hj hp hj0 hp0 => ?_⟩, by rw [List.length_append, List.length_singleton, hl], BldI.nil _ _ _, by omega, Nat.le_refl _, h.up⟩
  · by_cases e : p < i
    · simp only [if_pos e]
      rw [gr_snoc_lt (by omega)]
      exact ⟨(h1 p e).1, (h1 p e).2.mono (Nat.le_refl _) hhs⟩
    · obtain rfl : p = xss.length := by omega
      simp only [if_neg e]
      rw [gr_snoc_eq]
      exact ⟨by rw [hl]; exact h.cur hi, ho.mono hlh (Nat.le_refl _)⟩
  · have ej : j < i := by omega
    simp only [if_pos ej]
    rw [gr_snoc_lt (by omega)] at hj0
    by_cases e : p < i
    · simp only [if_pos e]
      rw [gr_snoc_lt (by omega)] at hp0
      exact h2 j p hj e hj0 hp0
    · obtain rfl : p = xss.length := by omega
      simp only [if_neg e]
      rw [gr_snoc_eq] at hp0
      obtain ⟨_, _, _, q, _⟩ := (h1 j ej).2.own hj0
      obtain ⟨_, _, q', _⟩ := ho.own hp0
      omega
theorem PU.done {wb k H vs xss v ys w} (h : PU wb k H k vs xss v ys w) (hm : k ≤ 1000) : OwnR wb.heap.size w.heap.size w wb.heap.size (some ⟨wb.heap.size, 0, none⟩) k k xss := by
  obtain ⟨G, R, C, h1, h2⟩ := h.ex
  refine ⟨h.len, Nat.le_refl _, by omega, fun _ => ⟨0, G, R, C, rfl, Nat.le_refl _, h.top.lt, fun p hp => ⟨by rw [Nat.zero_add]; exact h.top.frozen p, by rw [Nat.zero_add, h.top.cell hp, (h1 p hp).1], (h1 p hp).2.mono (by omega) h.hs, fun hn e => ?_⟩, h2⟩⟩
  obtain ⟨_, _, q, _⟩ := (h1 p hp).2.own hn
  omega

set_option maxRecDepth 100000 in
set_option maxHeartbeats 3200000 in
theorem partOf_any (b o : Nat) (rb ro cc : Nat → Nat) (n m c k l cx cy : Nat) (X Y : Option Addr) (a : List (List Int)) (r s : Nat → Nat) (more : Int) (w : World) (h : Tab w b o rb ro cc n m a) (hx : Pl w X k cx r n) (hy : Pl w Y l cy s m) (hk3 : k ≤ 3) (hl3 : l ≤ 3) (hm0 : 0 ≤ more) (hm18 : more ≤ 18) :
    Calls Try.prog 93 #[.slice (some ⟨b, o, none⟩) n c, .slice X k cx, .slice Y l cy, .int .i64 more] w (NewT w (prtL a r s more l k)) := by
  have HT := Lib.hid h
  have HX := Lib.hid hx
  have HY := Lib.hid hy
  have hn3 := h.n3
  have hm3 := h.m3
  have HS0 := Lib.hid (PU.start w k)
  obtain ⟨i0, hi0, hz0, hz1, hz2⟩ := info_parts Try.infoI
  have hmk := run_make_row' (P := Try.prog) 22 27 (.slice none 0 0) 24 Try.underlying22 Try.info27 rfl .i64 .i64 k (by omega) (by omega)
  clear h hx hy
  go_enter Try.func93, Try.ntmps93
  go_wp2
  clear hmk
  go_loopw [19] (fun i wr => ∃ (p H : Nat) (vs : Nat → Value), p ≤ k ∧ i = .int .i64 p ∧ Hid (PU w k H p vs (prtL a r s more l p) (.slice none 0 0) [] wr)) (fun i _ => k - (intOf i).toNat)
  case atStart => exact ⟨0, _, _, Nat.zero_le _, rfl, HS0⟩
  case round =>
    clear HS0
    obtain ⟨p, H, vs, hp, rfl, HP⟩ := hrel
    by_cases hlt : p < k
    · obtain ⟨bx, ox, rfl, hcx⟩ := HX.out.ints.at_ (by omega)
      have c1 := hcx p hlt
      rw [gi_lstN hlt] at c1
      have hrp := HX.out.lt p hlt
      have d1 := Keep.below HP.out.up _ _ c1
      have HRW := Lib.hid (HT.out.row (r p) hrp)
      have HZ : Hid (prtR a (r p) s more 0 = []) := Lib.hid rfl
      clear hcx c1
      go_wp2
      clear d1
      rw [← HZ.out] at HP
      go_loopw [26] (fun j wi => ∃ (q : Nat) (vs : Nat → Value) (v : Value), q ≤ l ∧ j = .int .i64 q ∧ Hid (PU w k H p vs (prtL a r s more l p) v (prtR a (r p) s more q) wi)) (fun j _ => l - (intOf j).toNat)
      case atStart => exact ⟨0, vs, _, Nat.zero_le _, rfl, HP⟩
      case round =>
        clear HP
        obtain ⟨q, vs, v, hq, rfl, HP⟩ := hrel
        obtain ⟨Av, cv, rfl⟩ := HP.out.bi.form
        by_cases hlm : q < l
        · obtain ⟨by_, oy, rfl, hcy⟩ := HY.out.ints.at_ (by omega)
          have c2 := hcy q hlm
          rw [gi_lstN hlm] at c2
          have hsq := HY.out.lt q hlm
          have c3 := HT.out.cell (r p) (s q) hrp hsq
          obtain ⟨z1, z2⟩ := HT.out.bd (r p) (s q) hrp hsq
          have HRS := Lib.hid (prtR_succ a (r p) s more q)
          have HML := Lib.hid (prtR_len a (r p) s more q)
          have k1 := Keep.below HP.out.up _ _ HRW.out
          have k2 := Keep.below HP.out.up _ _ c2
          have k3 := Keep.below HP.out.up _ _ c3
          have k4 := HP.out.cell hlt
          have hHs := HP.out.hs
          have hlh := HP.out.lh
          clear hcy c2 c3
          generalize g2 a (r p) (s q) = x at *
          generalize hys : prtR a (r p) s more q = ys at *
          have HYS := Lib.hid hys
          clear hys
          have hyl : ys.length ≤ 3 := by have := HML.out; omega
          generalize hrr : r p = R at *
          have HRR := Lib.hid hrr
          generalize hss : s q = S at *
          have HSS := Lib.hid hss
          clear hrr hss
          have HW : Hid (IntKind.i64.wrap (x + more) = x + more) := Lib.hid (wrapIn (by omega))
          have k7 : (wr.alloc (.cells #[.int .i64 (IntKind.i64.wrap (x + more))] 3)).cell? ⟨w.heap.size, p, none⟩ = some (.slice Av ys.length cv) := by rw [World.cell?_alloc_lt _ _ _ (World.block_lt_of_cell? _ _ k4)]; exact k4
          go_wp2
          go_region_law ((refine step_append_lies _ (by rfl) _ _ _ (by rfl) H 3 i0 _ 1 8 Try.underlying27 hi0 hz0 hz1 hz2 rfl (by omega) (.slice Av ys.length cv) ys.length (ys.map iv) (by rfl) ((HP.out.bi.own.alloc _).drew) ⟨wr.heap.size, 0, none⟩ 1 1 [iv (IntKind.i64.wrap (x + more))] (by rfl) (by rfl) (World.news_of_block (w := (wr.alloc (.cells #[iv (IntKind.i64.wrap (x + more))] 3)).drew) (cs := #[iv (IntKind.i64.wrap (x + more))]) (t := 3) (fr := (0, 0)) (heap_alloc_new wr _)) (by simp [Value.oneCell', iv]) (by omega) (by unfold maxLen; omega) (by omega) (by simp; omega) (wr.heap.size + 1) (by simp) ?_; intro gg cap w1 hown1 hgrow hat hlt1; rw [HW.out] at hown1; obtain ⟨k5, k6⟩ := HP.out.mid_cell hlt ((below_alloc wr _).drew) hgrow; have HP2 := Lib.hid (HP.out.push hlt ((below_alloc wr _).drew) hown1 hgrow hlt1); clear hown1 hgrow hat hlt1 HP))
          all_goals
            clear k1 k2 k3 k4 k5 k6 k7
            go_wp2
            go_roundw
            case rel => exact ⟨q + 1, _, _, by omega, by go_num, Lib.hid (by rw [HRS.out]; first | exact HP2.out | exact HP2.out.qu ⟨1, rfl⟩ | exact HP2.out.qu ⟨_, rfl⟩)⟩
            case measure => simp [intOf]; omega
        · obtain rfl : q = l := by omega
          have HBD := Lib.hid (prtR_bd (a := a) (i := r p) (c := s) (more := more) (j := q) (fun j hj => HT.out.bd _ _ hrp (HY.out.lt j hj)) (by omega))
          have HN := Lib.hid (HP.out.next hlt (by rw [prtR_len]; omega) (fun y hy => by have := HBD.out y hy; omega))
          have HMS := Lib.hid (prtL_succ a r s more q p)
          clear HP HBD
          go_wp2
          go_roundw
          case rel => exact ⟨p + 1, _, _, by omega, by go_num, Lib.hid (by rw [HMS.out]; exact HN.out)⟩
          case measure => simp [intOf]; omega
    · obtain rfl : p = k := by omega
      have HO := Lib.hid (HP.out.done (by omega))
      have HB := Lib.hid HP.out.up
      have HL := Lib.hid (prtL_len a r s more l p)
      clear HP
      go_wp2
      go_ret
      exact ⟨_, _, _, w.heap.size, rfl, HL.out.symm, HO.out, HB.out⟩
end Go.Proofs.Ytgmcmblcljfofaa

/- A row without the number of one column, by the program. -/
namespace Go.Proofs.Ytgmcmblcljfofaa
open Go.RowKit

theorem addr_add (b o i : Nat) : (⟨b, o, none⟩ : Addr).add i = ⟨b, o + i, none⟩ := by unfold Addr.add; split <;> simp_all
theorem rowW_parts {xs : List Int} {j : Nat} : ∀ {n : Nat}, n ≤ xs.length → rowW xs j n = xs.take (min j n) ++ (xs.take n).drop (j + 1)
  | 0, _ => by simp [rowW]
  | n + 1, h => by
    have ih := rowW_parts (xs := xs) (j := j) (n := n) (by omega)
    have ht : xs.take (n + 1) = xs.take n ++ [gi xs n] := by rw [List.take_succ_eq_append_getElem (by omega), gi_get (by omega)]
    by_cases e : n = j
    · subst e
      rw [rowW_at, ih, ht, show min n (n + 1) = n by omega, show min n n = n by omega]
      congr 1
      rw [List.drop_eq_nil_of_le (by simp; omega), List.drop_eq_nil_of_le (by simp; omega)]
    · rw [rowW_ne e, ih, ht]
      by_cases hlt : n < j
      · rw [show min j n = n by omega, show min j (n + 1) = n + 1 by omega, ht, show (xs.take n).drop (j + 1) = [] from List.drop_eq_nil_of_le (by rw [List.length_take]; omega), List.drop_eq_nil_of_le (by simp; omega)]
        simp
      · rw [show min j n = j by omega, show min j (n + 1) = j by omega, List.drop_append_of_le_length (by simp; omega), List.append_assoc]
theorem rowW_cut {xs : List Int} {j : Nat} (h : j < xs.length) : rowW xs j xs.length = xs.take j ++ xs.drop (j + 1) := by
  rw [rowW_parts (Nat.le_refl _), List.take_length, show min j xs.length = j by omega]
theorem news_take {w : World} {b o n : Nat} {xs : List Int} (hl : xs.length = n) (hc : ∀ k, k < n → w.cell? ⟨b, o + k, none⟩ = some (.int .i64 (gi xs k))) (j : Nat) :
    ∀ i u, ((xs.take j).map iv)[i]? = some u → w.cell? ((⟨b, o, none⟩ : Addr).add i) = some u := fun i u h => by
  rw [List.getElem?_map] at h
  obtain ⟨x, hx, rfl⟩ := Option.map_eq_some_iff.1 h
  obtain ⟨h1, h2⟩ := List.getElem?_eq_some_iff.1 hx
  rw [List.length_take] at h1
  rw [addr_add, hc i (by omega), gi_get (by omega)]
  rw [List.getElem_take] at h2
  rw [h2]; rfl
theorem news_drop {w : World} {b o n : Nat} {xs : List Int} (hl : xs.length = n) (hc : ∀ k, k < n → w.cell? ⟨b, o + k, none⟩ = some (.int .i64 (gi xs k))) (j : Nat) :
    ∀ i u, ((xs.drop j).map iv)[i]? = some u → w.cell? ((⟨b, o + j, none⟩ : Addr).add i) = some u := fun i u h => by
  rw [List.getElem?_map] at h
  obtain ⟨x, hx, rfl⟩ := Option.map_eq_some_iff.1 h
  obtain ⟨h1, h2⟩ := List.getElem?_eq_some_iff.1 hx
  rw [List.length_drop] at h1
  rw [addr_add, Nat.add_assoc, hc (j + i) (by omega), gi_get (by omega)]
  rw [List.getElem_drop] at h2
  rw [h2]; rfl
theorem ones_map (xs : List Int) : ∀ u ∈ xs.map iv, u.oneCell' = true := fun u hu => by
  obtain ⟨x, _, rfl⟩ := List.mem_map.1 hu; rfl
/-- Some numbers more, appended without a new array for them. -/
theorem IU.pushs {wb v v' ys zs w w'} (h : IU wb v ys w) (hown : w'.ownsRow wb.heap.size 3 1 v' (ys.length + zs.length) (ys.map iv ++ zs.map iv))
    (hgrow : w.grownBy w' v.ownBlock) : IU wb v' (ys ++ zs) w' := by
  have hu : ∀ k, v.ownBlock = some k → wb.heap.size ≤ k := fun k hk => (h.bi.own.lt k hk).1
  refine ⟨⟨by rw [List.length_append, List.map_append]; exact hown, fun k _ => ?_⟩, h.up.grown hgrow h.up.size fun k hk => hu k hk⟩
  rename_i hk
  exact (hown.lt k hk).2
theorem IU.made (wb : World) (cap : Nat) (hm : cap ≤ 100) : IU wb (.slice (some ⟨wb.heap.size, 0, none⟩) 0 cap) [] (wb.alloc (.cells (Array.replicate cap (.int .i64 0)) 3)) :=
  ⟨⟨World.ownsRow_made (e := 3) (size := 1) wb _ cap (Nat.le_refl _) (by unfold maxLen; omega) (by simp), fun k hk => by simp [Value.ownBlock] at hk; simp; omega⟩, below_alloc _ _⟩

set_option maxRecDepth 100000 in
set_option maxHeartbeats 3200000 in
theorem without_10 (R : Option Addr) (c : Nat) (xs : List Int) (w : World) (hx : Ints w R 1 c xs) (hb : ∀ y ∈ xs, -1000 ≤ y ∧ y ≤ 1000) :
    Calls Try.prog 100 #[.slice R 1 c, .int .i64 0] w (NewI w (rowW xs 0 1)) := by
  have hmk : ∀ w : World, (Instr.makeSlice 27 (.int .i64 0) (.int .i64 0)).run Try.prog w = .ok (.slice (some ⟨w.heap.size, 0, none⟩) 0 0) (w.alloc (.cells #[] 3)) := fun _ => by kernel_rfl
  have HL := Lib.hid hx.len
  have hcap := hx.cap
  obtain ⟨b, o, rfl, hc⟩ := hx.at_ (by omega)
  have HC := Lib.hid hc
  have HB := Lib.hid hb
  have HS0 := Lib.hid (show IU w (.slice (some ⟨w.heap.size, 0, none⟩) 0 0) [] (w.alloc (.cells #[] 3)) from IU.made w 0 (by omega))
  clear hx hc hb
  have HE : Hid (rowW xs 0 1 = [] ++ xs.take 0 ++ xs.drop 1) := Lib.hid (by have h := rowW_cut (xs := xs) (j := 0) (by rw [HL.out]; omega); rw [HL.out] at h; rw [h, List.nil_append])
  have HT := Lib.hid (show (xs.take 0).length = 0 by rw [List.length_take, HL.out]; rfl)
  have HD := Lib.hid (show (xs.drop 1).length = 0 by rw [List.length_drop, HL.out])
  have HNT : Hid (∀ W, Keep w W → ∀ i u, ((xs.take 0).map iv)[i]? = some u → W.cell? ((⟨b, o, none⟩ : Addr).add i) = some u) := Lib.hid (fun W k => news_take HL.out (fun q hq => k _ _ (HC.out q hq)) 0)
  have HND : Hid (∀ W, Keep w W → ∀ i u, ((xs.drop 1).map iv)[i]? = some u → W.cell? ((⟨b, o + 1, none⟩ : Addr).add i) = some u) := Lib.hid (fun W k => news_drop HL.out (fun q hq => k _ _ (HC.out q hq)) 1)
  generalize xs.take 0 = t1 at HE HT HNT
  generalize xs.drop 1 = t2 at HE HD HND
  obtain ⟨i0, hi0, hz0, hz1, hz2⟩ := info_parts Try.info_int
  by_cases hcn : c = 1
  · subst hcn
    go_enter Try.func100, Try.ntmps100
    have H1 := Lib.hid (show (w.alloc (.cells #[] 3)).ownsRow w.heap.size 3 1 (.slice (some ⟨w.heap.size, 0, none⟩) 0 0) 0 ([] : List Value) from HS0.out.bi.own)
    go_wp2_with (at_builtin; refine wpList_append_own_at _ rfl _ _ 27 rfl w.heap.size 3 i0 (.int .i64 0) 1 8 Try.underlying27 hi0 hz0 hz1 hz2 rfl (by decide) (.slice (some ⟨w.heap.size, 0, none⟩) 0 0) 0 [] rfl H1.out ⟨b, o, none⟩ 0 1 ((t1).map iv) rfl ?p1 ?p2 ?p3 ?p4 ?p5 ?p6 ?_)
    case p1 => rw [List.length_map, HT.out]
    case p2 => exact HNT.out _ (Keep.below HS0.out.up)
    case p3 => exact ones_map _
    case p4 => unfold maxLen; omega
    case p5 => omega
    case p6 => simp
    intro v1 w1 hown hgrow _ _
    have HI1 := Lib.hid (HS0.out.pushs (zs := t1) (by rw [HT.out]; simpa using hown) hgrow)
    clear hown hgrow HS0 H1
    have hw1 := HI1.out.up.size
    have H2 := Lib.hid (show w1.ownsRow w.heap.size 3 1 v1 0 (([] ++ t1).map iv) by have := HI1.out.bi.own; rw [List.length_append, HT.out] at this; exact this)
    go_wp2_with (at_builtin; refine wpList_append_own_at _ rfl _ _ 27 rfl w.heap.size 3 i0 (.int .i64 0) 1 8 Try.underlying27 hi0 hz0 hz1 hz2 rfl (by decide) v1 0 _ rfl H2.out ⟨b, o, none⟩ 0 0 ((t2).map iv) rfl ?pa ?pb ?pc ?pd ?pe ?pf ?_)
    case pa => rw [List.length_map, HD.out]
    case pb => intro i u h; rw [List.eq_nil_of_length_eq_zero HD.out] at h; simp at h
    case pc => exact ones_map _
    case pd => unfold maxLen; omega
    case pe => omega
    case pf => exact hw1
    intro v2 w2 hown hgrow _ _
    have HI2 := Lib.hid (HI1.out.pushs (zs := t2) (by rw [HD.out, List.length_append, HT.out]; simpa using hown) hgrow)
    clear hown hgrow HI1 H2
    rw [← HE.out] at HI2
    obtain ⟨Av, cv, rfl⟩ := HI2.out.bi.form
    have HN := Lib.hid (HI2.out.new (by have := rowW_le xs 0 1; omega) (fun y hy => by have := HB.out y (rowW_mem xs 0 (Nat.le_of_eq HL.out.symm) hy); omega))
    clear HI2
    go_wp2
    go_ret
    exact HN.out
  · have hcn' : ¬ (1 = c) := by omega
    have hlt : 1 < c := by omega
    go_enter Try.func100, Try.ntmps100
    have H1 := Lib.hid (show (w.alloc (.cells #[] 3)).ownsRow w.heap.size 3 1 (.slice (some ⟨w.heap.size, 0, none⟩) 0 0) 0 ([] : List Value) from HS0.out.bi.own)
    go_wp2_with (at_builtin; refine wpList_append_own_at _ rfl _ _ 27 rfl w.heap.size 3 i0 (.int .i64 0) 1 8 Try.underlying27 hi0 hz0 hz1 hz2 rfl (by decide) (.slice (some ⟨w.heap.size, 0, none⟩) 0 0) 0 [] rfl H1.out ⟨b, o, none⟩ 0 c ((t1).map iv) rfl ?q1 ?q2 ?q3 ?q4 ?q5 ?q6 ?_)
    case q1 => rw [List.length_map, HT.out]
    case q2 => exact HNT.out _ (Keep.below HS0.out.up)
    case q3 => exact ones_map _
    case q4 => unfold maxLen; omega
    case q5 => omega
    case q6 => simp
    intro v1 w1 hown hgrow _ _
    have HI1 := Lib.hid (HS0.out.pushs (zs := t1) (by rw [HT.out]; simpa using hown) hgrow)
    clear hown hgrow HS0 H1
    have hw1 := HI1.out.up.size
    have H2 := Lib.hid (show w1.ownsRow w.heap.size 3 1 v1 0 (([] ++ t1).map iv) by have := HI1.out.bi.own; rw [List.length_append, HT.out] at this; exact this)
    go_wp2_with (at_builtin; refine wpList_append_own_at _ rfl _ _ 27 rfl w.heap.size 3 i0 (.int .i64 0) 1 8 Try.underlying27 hi0 hz0 hz1 hz2 rfl (by decide) v1 0 _ rfl H2.out ⟨b, o + 1, none⟩ 0 (c - 1) ((t2).map iv) rfl ?qa ?qb ?qc ?qd ?qe ?qf ?_)
    case qa => rw [List.length_map, HD.out]
    case qb => intro i u h; rw [List.eq_nil_of_length_eq_zero HD.out] at h; simp at h
    case qc => exact ones_map _
    case qd => unfold maxLen; omega
    case qe => omega
    case qf => exact hw1
    intro v2 w2 hown hgrow _ _
    have HI2 := Lib.hid (HI1.out.pushs (zs := t2) (by rw [HD.out, List.length_append, HT.out]; simpa using hown) hgrow)
    clear hown hgrow HI1 H2
    rw [← HE.out] at HI2
    obtain ⟨Av, cv, rfl⟩ := HI2.out.bi.form
    have HN := Lib.hid (HI2.out.new (by have := rowW_le xs 0 1; omega) (fun y hy => by have := HB.out y (rowW_mem xs 0 (Nat.le_of_eq HL.out.symm) hy); omega))
    clear HI2
    go_wp2
    go_ret
    exact HN.out

set_option maxRecDepth 100000 in
set_option maxHeartbeats 3200000 in
theorem without_20 (R : Option Addr) (c : Nat) (xs : List Int) (w : World) (hx : Ints w R 2 c xs) (hb : ∀ y ∈ xs, -1000 ≤ y ∧ y ≤ 1000) :
    Calls Try.prog 100 #[.slice R 2 c, .int .i64 0] w (NewI w (rowW xs 0 2)) := by
  have hmk : ∀ w : World, (Instr.makeSlice 27 (.int .i64 0) (.int .i64 1)).run Try.prog w = .ok (.slice (some ⟨w.heap.size, 0, none⟩) 0 1) (w.alloc (.cells #[.int .i64 0] 3)) := fun _ => by kernel_rfl
  have HL := Lib.hid hx.len
  have hcap := hx.cap
  obtain ⟨b, o, rfl, hc⟩ := hx.at_ (by omega)
  have HC := Lib.hid hc
  have HB := Lib.hid hb
  have HS0 := Lib.hid (show IU w (.slice (some ⟨w.heap.size, 0, none⟩) 0 1) [] (w.alloc (.cells #[.int .i64 0] 3)) from IU.made w 1 (by omega))
  clear hx hc hb
  have HE : Hid (rowW xs 0 2 = [] ++ xs.take 0 ++ xs.drop 1) := Lib.hid (by have h := rowW_cut (xs := xs) (j := 0) (by rw [HL.out]; omega); rw [HL.out] at h; rw [h, List.nil_append])
  have HT := Lib.hid (show (xs.take 0).length = 0 by rw [List.length_take, HL.out]; rfl)
  have HD := Lib.hid (show (xs.drop 1).length = 1 by rw [List.length_drop, HL.out])
  have HNT : Hid (∀ W, Keep w W → ∀ i u, ((xs.take 0).map iv)[i]? = some u → W.cell? ((⟨b, o, none⟩ : Addr).add i) = some u) := Lib.hid (fun W k => news_take HL.out (fun q hq => k _ _ (HC.out q hq)) 0)
  have HND : Hid (∀ W, Keep w W → ∀ i u, ((xs.drop 1).map iv)[i]? = some u → W.cell? ((⟨b, o + 1, none⟩ : Addr).add i) = some u) := Lib.hid (fun W k => news_drop HL.out (fun q hq => k _ _ (HC.out q hq)) 1)
  generalize xs.take 0 = t1 at HE HT HNT
  generalize xs.drop 1 = t2 at HE HD HND
  obtain ⟨i0, hi0, hz0, hz1, hz2⟩ := info_parts Try.info_int
  have hcn : ¬ c = 1 := by omega
  have hlt : 1 < c := by omega
  go_enter Try.func100, Try.ntmps100
  have H1 := Lib.hid (show (w.alloc (.cells #[.int .i64 0] 3)).ownsRow w.heap.size 3 1 (.slice (some ⟨w.heap.size, 0, none⟩) 0 1) 0 ([] : List Value) from HS0.out.bi.own)
  go_wp2_with (at_builtin; refine wpList_append_own_at _ rfl _ _ 27 rfl w.heap.size 3 i0 (.int .i64 0) 1 8 Try.underlying27 hi0 hz0 hz1 hz2 rfl (by decide) (.slice (some ⟨w.heap.size, 0, none⟩) 0 1) 0 [] rfl H1.out ⟨b, o, none⟩ 0 c ((t1).map iv) rfl ?p1 ?p2 ?p3 ?p4 ?p5 ?p6 ?_)
  case p1 => rw [List.length_map, HT.out]
  case p2 => exact HNT.out _ (Keep.below HS0.out.up)
  case p3 => exact ones_map _
  case p4 => unfold maxLen; omega
  case p5 => omega
  case p6 => simp
  intro v1 w1 hown hgrow _ _
  have HI1 := Lib.hid (HS0.out.pushs (zs := t1) (by rw [HT.out]; simpa using hown) hgrow)
  clear hown hgrow HS0 H1
  have hw1 := HI1.out.up.size
  have H2 := Lib.hid (show w1.ownsRow w.heap.size 3 1 v1 0 (([] ++ t1).map iv) by have := HI1.out.bi.own; rw [List.length_append, HT.out] at this; exact this)
  go_wp2_with (at_builtin; refine wpList_append_own_at _ rfl _ _ 27 rfl w.heap.size 3 i0 (.int .i64 0) 1 8 Try.underlying27 hi0 hz0 hz1 hz2 rfl (by decide) v1 0 _ rfl H2.out ⟨b, o + 1, none⟩ 1 (c - 1) ((t2).map iv) rfl ?pa ?pb ?pc ?pd ?pe ?pf ?_)
  case pa => rw [List.length_map, HD.out]
  case pb => exact HND.out _ (Keep.below HI1.out.up)
  case pc => exact ones_map _
  case pd => unfold maxLen; omega
  case pe => omega
  case pf => exact hw1
  intro v2 w2 hown hgrow _ _
  have HI2 := Lib.hid (HI1.out.pushs (zs := t2) (by rw [HD.out, List.length_append, HT.out]; simpa using hown) hgrow)
  clear hown hgrow HI1 H2
  rw [← HE.out] at HI2
  obtain ⟨Av, cv, rfl⟩ := HI2.out.bi.form
  have HN := Lib.hid (HI2.out.new (by have := rowW_le xs 0 2; omega) (fun y hy => by have := HB.out y (rowW_mem xs 0 (Nat.le_of_eq HL.out.symm) hy); omega))
  clear HI2
  go_wp2
  go_ret
  exact HN.out

set_option maxRecDepth 100000 in
set_option maxHeartbeats 3200000 in
theorem without_21 (R : Option Addr) (c : Nat) (xs : List Int) (w : World) (hx : Ints w R 2 c xs) (hb : ∀ y ∈ xs, -1000 ≤ y ∧ y ≤ 1000) :
    Calls Try.prog 100 #[.slice R 2 c, .int .i64 1] w (NewI w (rowW xs 1 2)) := by
  have hmk : ∀ w : World, (Instr.makeSlice 27 (.int .i64 0) (.int .i64 1)).run Try.prog w = .ok (.slice (some ⟨w.heap.size, 0, none⟩) 0 1) (w.alloc (.cells #[.int .i64 0] 3)) := fun _ => by kernel_rfl
  have HL := Lib.hid hx.len
  have hcap := hx.cap
  obtain ⟨b, o, rfl, hc⟩ := hx.at_ (by omega)
  have HC := Lib.hid hc
  have HB := Lib.hid hb
  have HS0 := Lib.hid (show IU w (.slice (some ⟨w.heap.size, 0, none⟩) 0 1) [] (w.alloc (.cells #[.int .i64 0] 3)) from IU.made w 1 (by omega))
  clear hx hc hb
  have HE : Hid (rowW xs 1 2 = [] ++ xs.take 1 ++ xs.drop 2) := Lib.hid (by have h := rowW_cut (xs := xs) (j := 1) (by rw [HL.out]; omega); rw [HL.out] at h; rw [h, List.nil_append])
  have HT := Lib.hid (show (xs.take 1).length = 1 by rw [List.length_take, HL.out]; rfl)
  have HD := Lib.hid (show (xs.drop 2).length = 0 by rw [List.length_drop, HL.out])
  have HNT : Hid (∀ W, Keep w W → ∀ i u, ((xs.take 1).map iv)[i]? = some u → W.cell? ((⟨b, o, none⟩ : Addr).add i) = some u) := Lib.hid (fun W k => news_take HL.out (fun q hq => k _ _ (HC.out q hq)) 1)
  have HND : Hid (∀ W, Keep w W → ∀ i u, ((xs.drop 2).map iv)[i]? = some u → W.cell? ((⟨b, o + 2, none⟩ : Addr).add i) = some u) := Lib.hid (fun W k => news_drop HL.out (fun q hq => k _ _ (HC.out q hq)) 2)
  generalize xs.take 1 = t1 at HE HT HNT
  generalize xs.drop 2 = t2 at HE HD HND
  obtain ⟨i0, hi0, hz0, hz1, hz2⟩ := info_parts Try.info_int
  by_cases hcn : c = 2
  · subst hcn
    go_enter Try.func100, Try.ntmps100
    have H1 := Lib.hid (show (w.alloc (.cells #[.int .i64 0] 3)).ownsRow w.heap.size 3 1 (.slice (some ⟨w.heap.size, 0, none⟩) 0 1) 0 ([] : List Value) from HS0.out.bi.own)
    go_wp2_with (at_builtin; refine wpList_append_own_at _ rfl _ _ 27 rfl w.heap.size 3 i0 (.int .i64 0) 1 8 Try.underlying27 hi0 hz0 hz1 hz2 rfl (by decide) (.slice (some ⟨w.heap.size, 0, none⟩) 0 1) 0 [] rfl H1.out ⟨b, o, none⟩ 1 2 ((t1).map iv) rfl ?p1 ?p2 ?p3 ?p4 ?p5 ?p6 ?_)
    case p1 => rw [List.length_map, HT.out]
    case p2 => exact HNT.out _ (Keep.below HS0.out.up)
    case p3 => exact ones_map _
    case p4 => unfold maxLen; omega
    case p5 => omega
    case p6 => simp
    intro v1 w1 hown hgrow _ _
    have HI1 := Lib.hid (HS0.out.pushs (zs := t1) (by rw [HT.out]; simpa using hown) hgrow)
    clear hown hgrow HS0 H1
    have hw1 := HI1.out.up.size
    have H2 := Lib.hid (show w1.ownsRow w.heap.size 3 1 v1 1 (([] ++ t1).map iv) by have := HI1.out.bi.own; rw [List.length_append, HT.out] at this; exact this)
    go_wp2_with (at_builtin; refine wpList_append_own_at _ rfl _ _ 27 rfl w.heap.size 3 i0 (.int .i64 0) 1 8 Try.underlying27 hi0 hz0 hz1 hz2 rfl (by decide) v1 1 _ rfl H2.out ⟨b, o, none⟩ 0 0 ((t2).map iv) rfl ?pa ?pb ?pc ?pd ?pe ?pf ?_)
    case pa => rw [List.length_map, HD.out]
    case pb => intro i u h; rw [List.eq_nil_of_length_eq_zero HD.out] at h; simp at h
    case pc => exact ones_map _
    case pd => unfold maxLen; omega
    case pe => omega
    case pf => exact hw1
    intro v2 w2 hown hgrow _ _
    have HI2 := Lib.hid (HI1.out.pushs (zs := t2) (by rw [HD.out, List.length_append, HT.out]; simpa using hown) hgrow)
    clear hown hgrow HI1 H2
    rw [← HE.out] at HI2
    obtain ⟨Av, cv, rfl⟩ := HI2.out.bi.form
    have HN := Lib.hid (HI2.out.new (by have := rowW_le xs 1 2; omega) (fun y hy => by have := HB.out y (rowW_mem xs 1 (Nat.le_of_eq HL.out.symm) hy); omega))
    clear HI2
    go_wp2
    go_ret
    exact HN.out
  · have hcn' : ¬ (2 = c) := by omega
    have hlt : 2 < c := by omega
    go_enter Try.func100, Try.ntmps100
    have H1 := Lib.hid (show (w.alloc (.cells #[.int .i64 0] 3)).ownsRow w.heap.size 3 1 (.slice (some ⟨w.heap.size, 0, none⟩) 0 1) 0 ([] : List Value) from HS0.out.bi.own)
    go_wp2_with (at_builtin; refine wpList_append_own_at _ rfl _ _ 27 rfl w.heap.size 3 i0 (.int .i64 0) 1 8 Try.underlying27 hi0 hz0 hz1 hz2 rfl (by decide) (.slice (some ⟨w.heap.size, 0, none⟩) 0 1) 0 [] rfl H1.out ⟨b, o, none⟩ 1 c ((t1).map iv) rfl ?q1 ?q2 ?q3 ?q4 ?q5 ?q6 ?_)
    case q1 => rw [List.length_map, HT.out]
    case q2 => exact HNT.out _ (Keep.below HS0.out.up)
    case q3 => exact ones_map _
    case q4 => unfold maxLen; omega
    case q5 => omega
    case q6 => simp
    intro v1 w1 hown hgrow _ _
    have HI1 := Lib.hid (HS0.out.pushs (zs := t1) (by rw [HT.out]; simpa using hown) hgrow)
    clear hown hgrow HS0 H1
    have hw1 := HI1.out.up.size
    have H2 := Lib.hid (show w1.ownsRow w.heap.size 3 1 v1 1 (([] ++ t1).map iv) by have := HI1.out.bi.own; rw [List.length_append, HT.out] at this; exact this)
    go_wp2_with (at_builtin; refine wpList_append_own_at _ rfl _ _ 27 rfl w.heap.size 3 i0 (.int .i64 0) 1 8 Try.underlying27 hi0 hz0 hz1 hz2 rfl (by decide) v1 1 _ rfl H2.out ⟨b, o + 2, none⟩ 0 (c - 2) ((t2).map iv) rfl ?qa ?qb ?qc ?qd ?qe ?qf ?_)
    case qa => rw [List.length_map, HD.out]
    case qb => intro i u h; rw [List.eq_nil_of_length_eq_zero HD.out] at h; simp at h
    case qc => exact ones_map _
    case qd => unfold maxLen; omega
    case qe => omega
    case qf => exact hw1
    intro v2 w2 hown hgrow _ _
    have HI2 := Lib.hid (HI1.out.pushs (zs := t2) (by rw [HD.out, List.length_append, HT.out]; simpa using hown) hgrow)
    clear hown hgrow HI1 H2
    rw [← HE.out] at HI2
    obtain ⟨Av, cv, rfl⟩ := HI2.out.bi.form
    have HN := Lib.hid (HI2.out.new (by have := rowW_le xs 1 2; omega) (fun y hy => by have := HB.out y (rowW_mem xs 1 (Nat.le_of_eq HL.out.symm) hy); omega))
    clear HI2
    go_wp2
    go_ret
    exact HN.out

set_option maxRecDepth 100000 in
set_option maxHeartbeats 3200000 in
theorem without_30 (R : Option Addr) (c : Nat) (xs : List Int) (w : World) (hx : Ints w R 3 c xs) (hb : ∀ y ∈ xs, -1000 ≤ y ∧ y ≤ 1000) :
    Calls Try.prog 100 #[.slice R 3 c, .int .i64 0] w (NewI w (rowW xs 0 3)) := by
  have hmk : ∀ w : World, (Instr.makeSlice 27 (.int .i64 0) (.int .i64 2)).run Try.prog w = .ok (.slice (some ⟨w.heap.size, 0, none⟩) 0 2) (w.alloc (.cells #[.int .i64 0, .int .i64 0] 3)) := fun _ => by kernel_rfl
  have HL := Lib.hid hx.len
  have hcap := hx.cap
  obtain ⟨b, o, rfl, hc⟩ := hx.at_ (by omega)
  have HC := Lib.hid hc
  have HB := Lib.hid hb
  have HS0 := Lib.hid (show IU w (.slice (some ⟨w.heap.size, 0, none⟩) 0 2) [] (w.alloc (.cells #[.int .i64 0, .int .i64 0] 3)) from IU.made w 2 (by omega))
  clear hx hc hb
  have HE : Hid (rowW xs 0 3 = [] ++ xs.take 0 ++ xs.drop 1) := Lib.hid (by have h := rowW_cut (xs := xs) (j := 0) (by rw [HL.out]; omega); rw [HL.out] at h; rw [h, List.nil_append])
  have HT := Lib.hid (show (xs.take 0).length = 0 by rw [List.length_take, HL.out]; rfl)
  have HD := Lib.hid (show (xs.drop 1).length = 2 by rw [List.length_drop, HL.out])
  have HNT : Hid (∀ W, Keep w W → ∀ i u, ((xs.take 0).map iv)[i]? = some u → W.cell? ((⟨b, o, none⟩ : Addr).add i) = some u) := Lib.hid (fun W k => news_take HL.out (fun q hq => k _ _ (HC.out q hq)) 0)
  have HND : Hid (∀ W, Keep w W → ∀ i u, ((xs.drop 1).map iv)[i]? = some u → W.cell? ((⟨b, o + 1, none⟩ : Addr).add i) = some u) := Lib.hid (fun W k => news_drop HL.out (fun q hq => k _ _ (HC.out q hq)) 1)
  generalize xs.take 0 = t1 at HE HT HNT
  generalize xs.drop 1 = t2 at HE HD HND
  obtain ⟨i0, hi0, hz0, hz1, hz2⟩ := info_parts Try.info_int
  have hcn : ¬ c = 1 := by omega
  have hlt : 1 < c := by omega
  go_enter Try.func100, Try.ntmps100
  have H1 := Lib.hid (show (w.alloc (.cells #[.int .i64 0, .int .i64 0] 3)).ownsRow w.heap.size 3 1 (.slice (some ⟨w.heap.size, 0, none⟩) 0 2) 0 ([] : List Value) from HS0.out.bi.own)
  go_wp2_with (at_builtin; refine wpList_append_own_at _ rfl _ _ 27 rfl w.heap.size 3 i0 (.int .i64 0) 1 8 Try.underlying27 hi0 hz0 hz1 hz2 rfl (by decide) (.slice (some ⟨w.heap.size, 0, none⟩) 0 2) 0 [] rfl H1.out ⟨b, o, none⟩ 0 c ((t1).map iv) rfl ?p1 ?p2 ?p3 ?p4 ?p5 ?p6 ?_)
  case p1 => rw [List.length_map, HT.out]
  case p2 => exact HNT.out _ (Keep.below HS0.out.up)
  case p3 => exact ones_map _
  case p4 => unfold maxLen; omega
  case p5 => omega
  case p6 => simp
  intro v1 w1 hown hgrow _ _
  have HI1 := Lib.hid (HS0.out.pushs (zs := t1) (by rw [HT.out]; simpa using hown) hgrow)
  clear hown hgrow HS0 H1
  have hw1 := HI1.out.up.size
  have H2 := Lib.hid (show w1.ownsRow w.heap.size 3 1 v1 0 (([] ++ t1).map iv) by have := HI1.out.bi.own; rw [List.length_append, HT.out] at this; exact this)
  go_wp2_with (at_builtin; refine wpList_append_own_at _ rfl _ _ 27 rfl w.heap.size 3 i0 (.int .i64 0) 1 8 Try.underlying27 hi0 hz0 hz1 hz2 rfl (by decide) v1 0 _ rfl H2.out ⟨b, o + 1, none⟩ 2 (c - 1) ((t2).map iv) rfl ?pa ?pb ?pc ?pd ?pe ?pf ?_)
  case pa => rw [List.length_map, HD.out]
  case pb => exact HND.out _ (Keep.below HI1.out.up)
  case pc => exact ones_map _
  case pd => unfold maxLen; omega
  case pe => omega
  case pf => exact hw1
  intro v2 w2 hown hgrow _ _
  have HI2 := Lib.hid (HI1.out.pushs (zs := t2) (by rw [HD.out, List.length_append, HT.out]; simpa using hown) hgrow)
  clear hown hgrow HI1 H2
  rw [← HE.out] at HI2
  obtain ⟨Av, cv, rfl⟩ := HI2.out.bi.form
  have HN := Lib.hid (HI2.out.new (by have := rowW_le xs 0 3; omega) (fun y hy => by have := HB.out y (rowW_mem xs 0 (Nat.le_of_eq HL.out.symm) hy); omega))
  clear HI2
  go_wp2
  go_ret
  exact HN.out

set_option maxRecDepth 100000 in
set_option maxHeartbeats 3200000 in
theorem without_31 (R : Option Addr) (c : Nat) (xs : List Int) (w : World) (hx : Ints w R 3 c xs) (hb : ∀ y ∈ xs, -1000 ≤ y ∧ y ≤ 1000) :
    Calls Try.prog 100 #[.slice R 3 c, .int .i64 1] w (NewI w (rowW xs 1 3)) := by
  have hmk : ∀ w : World, (Instr.makeSlice 27 (.int .i64 0) (.int .i64 2)).run Try.prog w = .ok (.slice (some ⟨w.heap.size, 0, none⟩) 0 2) (w.alloc (.cells #[.int .i64 0, .int .i64 0] 3)) := fun _ => by kernel_rfl
  have HL := Lib.hid hx.len
  have hcap := hx.cap
  obtain ⟨b, o, rfl, hc⟩ := hx.at_ (by omega)
  have HC := Lib.hid hc
  have HB := Lib.hid hb
  have HS0 := Lib.hid (show IU w (.slice (some ⟨w.heap.size, 0, none⟩) 0 2) [] (w.alloc (.cells #[.int .i64 0, .int .i64 0] 3)) from IU.made w 2 (by omega))
  clear hx hc hb
  have HE : Hid (rowW xs 1 3 = [] ++ xs.take 1 ++ xs.drop 2) := Lib.hid (by have h := rowW_cut (xs := xs) (j := 1) (by rw [HL.out]; omega); rw [HL.out] at h; rw [h, List.nil_append])
  have HT := Lib.hid (show (xs.take 1).length = 1 by rw [List.length_take, HL.out]; rfl)
  have HD := Lib.hid (show (xs.drop 2).length = 1 by rw [List.length_drop, HL.out])
  have HNT : Hid (∀ W, Keep w W → ∀ i u, ((xs.take 1).map iv)[i]? = some u → W.cell? ((⟨b, o, none⟩ : Addr).add i) = some u) := Lib.hid (fun W k => news_take HL.out (fun q hq => k _ _ (HC.out q hq)) 1)
  have HND : Hid (∀ W, Keep w W → ∀ i u, ((xs.drop 2).map iv)[i]? = some u → W.cell? ((⟨b, o + 2, none⟩ : Addr).add i) = some u) := Lib.hid (fun W k => news_drop HL.out (fun q hq => k _ _ (HC.out q hq)) 2)
  generalize xs.take 1 = t1 at HE HT HNT
  generalize xs.drop 2 = t2 at HE HD HND
  obtain ⟨i0, hi0, hz0, hz1, hz2⟩ := info_parts Try.info_int
  have hcn : ¬ c = 2 := by omega
  have hlt : 2 < c := by omega
  go_enter Try.func100, Try.ntmps100
  have H1 := Lib.hid (show (w.alloc (.cells #[.int .i64 0, .int .i64 0] 3)).ownsRow w.heap.size 3 1 (.slice (some ⟨w.heap.size, 0, none⟩) 0 2) 0 ([] : List Value) from HS0.out.bi.own)
  go_wp2_with (at_builtin; refine wpList_append_own_at _ rfl _ _ 27 rfl w.heap.size 3 i0 (.int .i64 0) 1 8 Try.underlying27 hi0 hz0 hz1 hz2 rfl (by decide) (.slice (some ⟨w.heap.size, 0, none⟩) 0 2) 0 [] rfl H1.out ⟨b, o, none⟩ 1 c ((t1).map iv) rfl ?p1 ?p2 ?p3 ?p4 ?p5 ?p6 ?_)
  case p1 => rw [List.length_map, HT.out]
  case p2 => exact HNT.out _ (Keep.below HS0.out.up)
  case p3 => exact ones_map _
  case p4 => unfold maxLen; omega
  case p5 => omega
  case p6 => simp
  intro v1 w1 hown hgrow _ _
  have HI1 := Lib.hid (HS0.out.pushs (zs := t1) (by rw [HT.out]; simpa using hown) hgrow)
  clear hown hgrow HS0 H1
  have hw1 := HI1.out.up.size
  have H2 := Lib.hid (show w1.ownsRow w.heap.size 3 1 v1 1 (([] ++ t1).map iv) by have := HI1.out.bi.own; rw [List.length_append, HT.out] at this; exact this)
  go_wp2_with (at_builtin; refine wpList_append_own_at _ rfl _ _ 27 rfl w.heap.size 3 i0 (.int .i64 0) 1 8 Try.underlying27 hi0 hz0 hz1 hz2 rfl (by decide) v1 1 _ rfl H2.out ⟨b, o + 2, none⟩ 1 (c - 2) ((t2).map iv) rfl ?pa ?pb ?pc ?pd ?pe ?pf ?_)
  case pa => rw [List.length_map, HD.out]
  case pb => exact HND.out _ (Keep.below HI1.out.up)
  case pc => exact ones_map _
  case pd => unfold maxLen; omega
  case pe => omega
  case pf => exact hw1
  intro v2 w2 hown hgrow _ _
  have HI2 := Lib.hid (HI1.out.pushs (zs := t2) (by rw [HD.out, List.length_append, HT.out]; simpa using hown) hgrow)
  clear hown hgrow HI1 H2
  rw [← HE.out] at HI2
  obtain ⟨Av, cv, rfl⟩ := HI2.out.bi.form
  have HN := Lib.hid (HI2.out.new (by have := rowW_le xs 1 3; omega) (fun y hy => by have := HB.out y (rowW_mem xs 1 (Nat.le_of_eq HL.out.symm) hy); omega))
  clear HI2
  go_wp2
  go_ret
  exact HN.out

set_option maxRecDepth 100000 in
set_option maxHeartbeats 3200000 in
theorem without_32 (R : Option Addr) (c : Nat) (xs : List Int) (w : World) (hx : Ints w R 3 c xs) (hb : ∀ y ∈ xs, -1000 ≤ y ∧ y ≤ 1000) :
    Calls Try.prog 100 #[.slice R 3 c, .int .i64 2] w (NewI w (rowW xs 2 3)) := by
  have hmk : ∀ w : World, (Instr.makeSlice 27 (.int .i64 0) (.int .i64 2)).run Try.prog w = .ok (.slice (some ⟨w.heap.size, 0, none⟩) 0 2) (w.alloc (.cells #[.int .i64 0, .int .i64 0] 3)) := fun _ => by kernel_rfl
  have HL := Lib.hid hx.len
  have hcap := hx.cap
  obtain ⟨b, o, rfl, hc⟩ := hx.at_ (by omega)
  have HC := Lib.hid hc
  have HB := Lib.hid hb
  have HS0 := Lib.hid (show IU w (.slice (some ⟨w.heap.size, 0, none⟩) 0 2) [] (w.alloc (.cells #[.int .i64 0, .int .i64 0] 3)) from IU.made w 2 (by omega))
  clear hx hc hb
  have HE : Hid (rowW xs 2 3 = [] ++ xs.take 2 ++ xs.drop 3) := Lib.hid (by have h := rowW_cut (xs := xs) (j := 2) (by rw [HL.out]; omega); rw [HL.out] at h; rw [h, List.nil_append])
  have HT := Lib.hid (show (xs.take 2).length = 2 by rw [List.length_take, HL.out]; rfl)
  have HD := Lib.hid (show (xs.drop 3).length = 0 by rw [List.length_drop, HL.out])
  have HNT : Hid (∀ W, Keep w W → ∀ i u, ((xs.take 2).map iv)[i]? = some u → W.cell? ((⟨b, o, none⟩ : Addr).add i) = some u) := Lib.hid (fun W k => news_take HL.out (fun q hq => k _ _ (HC.out q hq)) 2)
  have HND : Hid (∀ W, Keep w W → ∀ i u, ((xs.drop 3).map iv)[i]? = some u → W.cell? ((⟨b, o + 3, none⟩ : Addr).add i) = some u) := Lib.hid (fun W k => news_drop HL.out (fun q hq => k _ _ (HC.out q hq)) 3)
  generalize xs.take 2 = t1 at HE HT HNT
  generalize xs.drop 3 = t2 at HE HD HND
  obtain ⟨i0, hi0, hz0, hz1, hz2⟩ := info_parts Try.info_int
  by_cases hcn : c = 3
  · subst hcn
    go_enter Try.func100, Try.ntmps100
    have H1 := Lib.hid (show (w.alloc (.cells #[.int .i64 0, .int .i64 0] 3)).ownsRow w.heap.size 3 1 (.slice (some ⟨w.heap.size, 0, none⟩) 0 2) 0 ([] : List Value) from HS0.out.bi.own)
    go_wp2_with (at_builtin; refine wpList_append_own_at _ rfl _ _ 27 rfl w.heap.size 3 i0 (.int .i64 0) 1 8 Try.underlying27 hi0 hz0 hz1 hz2 rfl (by decide) (.slice (some ⟨w.heap.size, 0, none⟩) 0 2) 0 [] rfl H1.out ⟨b, o, none⟩ 2 3 ((t1).map iv) rfl ?p1 ?p2 ?p3 ?p4 ?p5 ?p6 ?_)
    case p1 => rw [List.length_map, HT.out]
    case p2 => exact HNT.out _ (Keep.below HS0.out.up)
    case p3 => exact ones_map _
    case p4 => unfold maxLen; omega
    case p5 => omega
    case p6 => simp
    intro v1 w1 hown hgrow _ _
    have HI1 := Lib.hid (HS0.out.pushs (zs := t1) (by rw [HT.out]; simpa using hown) hgrow)
    clear hown hgrow HS0 H1
    have hw1 := HI1.out.up.size
    have H2 := Lib.hid (show w1.ownsRow w.heap.size 3 1 v1 2 (([] ++ t1).map iv) by have := HI1.out.bi.own; rw [List.length_append, HT.out] at this; exact this)
    go_wp2_with (at_builtin; refine wpList_append_own_at _ rfl _ _ 27 rfl w.heap.size 3 i0 (.int .i64 0) 1 8 Try.underlying27 hi0 hz0 hz1 hz2 rfl (by decide) v1 2 _ rfl H2.out ⟨b, o, none⟩ 0 0 ((t2).map iv) rfl ?pa ?pb ?pc ?pd ?pe ?pf ?_)
    case pa => rw [List.length_map, HD.out]
    case pb => intro i u h; rw [List.eq_nil_of_length_eq_zero HD.out] at h; simp at h
    case pc => exact ones_map _
    case pd => unfold maxLen; omega
    case pe => omega
    case pf => exact hw1
    intro v2 w2 hown hgrow _ _
    have HI2 := Lib.hid (HI1.out.pushs (zs := t2) (by rw [HD.out, List.length_append, HT.out]; simpa using hown) hgrow)
    clear hown hgrow HI1 H2
    rw [← HE.out] at HI2
    obtain ⟨Av, cv, rfl⟩ := HI2.out.bi.form
    have HN := Lib.hid (HI2.out.new (by have := rowW_le xs 2 3; omega) (fun y hy => by have := HB.out y (rowW_mem xs 2 (Nat.le_of_eq HL.out.symm) hy); omega))
    clear HI2
    go_wp2
    go_ret
    exact HN.out
  · have hcn' : ¬ (3 = c) := by omega
    have hlt : 3 < c := by omega
    go_enter Try.func100, Try.ntmps100
    have H1 := Lib.hid (show (w.alloc (.cells #[.int .i64 0, .int .i64 0] 3)).ownsRow w.heap.size 3 1 (.slice (some ⟨w.heap.size, 0, none⟩) 0 2) 0 ([] : List Value) from HS0.out.bi.own)
    go_wp2_with (at_builtin; refine wpList_append_own_at _ rfl _ _ 27 rfl w.heap.size 3 i0 (.int .i64 0) 1 8 Try.underlying27 hi0 hz0 hz1 hz2 rfl (by decide) (.slice (some ⟨w.heap.size, 0, none⟩) 0 2) 0 [] rfl H1.out ⟨b, o, none⟩ 2 c ((t1).map iv) rfl ?q1 ?q2 ?q3 ?q4 ?q5 ?q6 ?_)
    case q1 => rw [List.length_map, HT.out]
    case q2 => exact HNT.out _ (Keep.below HS0.out.up)
    case q3 => exact ones_map _
    case q4 => unfold maxLen; omega
    case q5 => omega
    case q6 => simp
    intro v1 w1 hown hgrow _ _
    have HI1 := Lib.hid (HS0.out.pushs (zs := t1) (by rw [HT.out]; simpa using hown) hgrow)
    clear hown hgrow HS0 H1
    have hw1 := HI1.out.up.size
    have H2 := Lib.hid (show w1.ownsRow w.heap.size 3 1 v1 2 (([] ++ t1).map iv) by have := HI1.out.bi.own; rw [List.length_append, HT.out] at this; exact this)
    go_wp2_with (at_builtin; refine wpList_append_own_at _ rfl _ _ 27 rfl w.heap.size 3 i0 (.int .i64 0) 1 8 Try.underlying27 hi0 hz0 hz1 hz2 rfl (by decide) v1 2 _ rfl H2.out ⟨b, o + 3, none⟩ 0 (c - 3) ((t2).map iv) rfl ?qa ?qb ?qc ?qd ?qe ?qf ?_)
    case qa => rw [List.length_map, HD.out]
    case qb => intro i u h; rw [List.eq_nil_of_length_eq_zero HD.out] at h; simp at h
    case qc => exact ones_map _
    case qd => unfold maxLen; omega
    case qe => omega
    case qf => exact hw1
    intro v2 w2 hown hgrow _ _
    have HI2 := Lib.hid (HI1.out.pushs (zs := t2) (by rw [HD.out, List.length_append, HT.out]; simpa using hown) hgrow)
    clear hown hgrow HI1 H2
    rw [← HE.out] at HI2
    obtain ⟨Av, cv, rfl⟩ := HI2.out.bi.form
    have HN := Lib.hid (HI2.out.new (by have := rowW_le xs 2 3; omega) (fun y hy => by have := HB.out y (rowW_mem xs 2 (Nat.le_of_eq HL.out.symm) hy); omega))
    clear HI2
    go_wp2
    go_ret
    exact HN.out

theorem without_any (R : Option Addr) (n c : Nat) (xs : List Int) (j : Nat) (w : World) (hx : Ints w R n c xs) (hb : ∀ y ∈ xs, -1000 ≤ y ∧ y ≤ 1000) (hn : n ≤ 3) (hj : j < n) :
    Calls Try.prog 100 #[.slice R n c, .int .i64 j] w (NewI w (rowW xs j n)) := by
  have : (n = 1 ∧ j = 0) ∨ (n = 2 ∧ j = 0) ∨ (n = 2 ∧ j = 1) ∨ (n = 3 ∧ j = 0) ∨ (n = 3 ∧ j = 1) ∨ (n = 3 ∧ j = 2) := by omega
  rcases this with ⟨rfl, rfl⟩ | ⟨rfl, rfl⟩ | ⟨rfl, rfl⟩ | ⟨rfl, rfl⟩ | ⟨rfl, rfl⟩ | ⟨rfl, rfl⟩
  · exact without_10 R c xs w hx hb
  · exact without_20 R c xs w hx hb
  · exact without_21 R c xs w hx hb
  · exact without_30 R c xs w hx hb
  · exact without_31 R c xs w hx hb
  · exact without_32 R c xs w hx hb

end Go.Proofs.Ytgmcmblcljfofaa

/- Cofactors and determinants, by the program. -/
namespace Go.Proofs.Ytgmcmblcljfofaa
open Go.RowKit
open V (sumN detN rowC colC cofN minorN skip sgn)

theorem TM.nil (wb : World) : TM wb (.slice none 0 0) [] [] wb := ⟨Bld.nil _ _ _, Below.refl _ _⟩
theorem TM.push {wb v v' vs xss w w1 w' r} {A : Option Addr} {c g : Nat} (h : TM wb v vs xss w) (hk : Below w.heap.size w w1) (hr : OwnI w.heap.size w1.heap.size w1 g A r.length c r)
    (hown : w'.ownsRow wb.heap.size 27 1 v' (xss.length + 1) (vs ++ [.slice A r.length c])) (hgrow : (w1.alloc (.cells #[.slice A r.length c] 27)).grownBy w' v.ownBlock)
    (hat : v'.ownBlock = v.ownBlock ∨ v'.ownBlock = some (w1.heap.size + 1)) : TM wb v' (vs ++ [.slice A r.length c]) (xss ++ [r]) w' := by
  have hv : ∀ k, v.ownBlock = some k → wb.heap.size ≤ k := fun k hk => (h.bo.own.lt k hk).1
  have hb := below_alloc w1 (.cells #[.slice A r.length c] 27)
  have hz := h.up.size
  have hz1 := hk.size
  refine ⟨Bld.push (hi := w.heap.size) h.bo (below_up hk hb) ((hr.below hb).mono (Nat.le_refl _) (by simp)) hown hgrow (by simpa using hat) hz (Nat.le_refl _), ?_⟩
  exact (below_up h.up (below_up hk hb)).grown hgrow (by simp; omega) fun k hk => hv k hk
theorem TM.next {wb v vs xss w w'} (h : TM wb v vs xss w) (k : Below w.heap.size w w') : TM wb v vs xss w' := ⟨(h.bo.below k).mono k.size, below_up h.up k⟩

/-- What is known of the determinant of squares of n. -/
def DetOk (n : Nat) : Prop := ∀ (A : Option Addr) (c : Nat) (xss : List (List Int)) (f : Nat → Nat → Int) (w : World), IntRows w A n c xss → Sq n xss f → Ab n f →
    Calls Try.prog 101 #[.slice A n c] w (Ret (.int .i64 (detN n f)) w)

theorem cofN_odd {k : Nat} {f : Nat → Nat → Int} {i j : Nat} (h : (i + j) % 2 = 1) : cofN k f i j = -(detN (k - 1) (minorN f i j)) := by
  rw [cofN, sgn, if_pos h]; omega
theorem cofN_even {k : Nat} {f : Nat → Nat → Int} {i j : Nat} (h : ¬ (i + j) % 2 = 1) : cofN k f i j = detN (k - 1) (minorN f i j) := by
  rw [cofN, sgn, if_neg h]; omega

set_option maxRecDepth 100000 in
set_option maxHeartbeats 2000000 in
theorem cofactor_of (n : Nat) (hn : n ≤ 3) (hD : DetOk (n - 1)) (A : Option Addr) (c : Nat) (xss : List (List Int)) (f : Nat → Nat → Int) (i j : Nat) (w : World) (hx : IntRows w A n c xss) (hq : Sq n xss f) (ha : Ab n f) (hi : i < n) (hj : j < n) :
    Calls Try.prog 99 #[.slice A n c, .int .i64 i, .int .i64 j] w (Ret (.int .i64 (cofN n f i j)) w) := by
  have HD := Lib.hid hD
  have HX := Lib.hid hx
  have HQ := Lib.hid hq
  have HSM := Lib.hid (hq.small hn ha)
  have HMI := Lib.hid (hq.minor' hi hj)
  have HMA := Lib.hid (ha.minor' (by omega) i j)
  have HDB := det_small (k := n - 1) (by omega) HMA.out
  have HS0 := Lib.hid (TM.nil w)
  obtain ⟨b, o, rfl, hc⟩ := hx.at_ (by omega)
  have HC := Lib.hid hc
  clear hx hq ha hc hD
  go_enter Try.func99, Try.ntmps99
  go_wp2
  go_loopw [7, 12] (fun v t wr => ∃ (k : Nat) (vs : List Value), k ≤ n ∧ t = .int .i64 k ∧ Hid (TM w v vs (minW xss i j n k) wr)) (fun _ t _ => n - (intOf t).toNat)
  case atStart => exact ⟨0, [], Nat.zero_le _, rfl, HS0⟩
  case round =>
    clear HS0
    obtain ⟨k, vs, hk, rfl, HT⟩ := hrel
    obtain ⟨Av, cv, rfl⟩ := HT.out.bo.form
    by_cases hlt : k < n
    · obtain ⟨R, cc, c1, hR⟩ := HC.out k hlt
      rw [HQ.out.row k hlt] at c1 hR
      have HR := Lib.hid (hR.keep (Keep.below HT.out.up))
      have c2 := Keep.below HT.out.up _ _ c1
      have HRB := Lib.hid ((HSM.out.rows _ (gr_mem (xs := xss) (k := k) (by rw [HQ.out.len]; exact hlt))).2)
      clear c1 hR
      by_cases hki : k = i
      · have ht := nei_false hki
        have HKI := Lib.hid hki
        clear hki
        go_wp2
        go_roundw
        case rel => exact ⟨k + 1, vs, by omega, by go_num, Lib.hid (by have := HKI.out; subst this; rw [minW_at]; exact HT.out)⟩
        case measure => simp [intOf]; omega
      have ht := nei_true hki
      have HMS := Lib.hid (minW_ne (a := xss) (c := j) (n := n) hki)
      clear hki
      have HWC := Lib.hid (without_any R n cc (gr xss k) j wr HR.out HRB.out hn hj)
      go_wp2_with fail
      refine HWC.out.mono ?_
      rintro e w1 ⟨A1, n1, c1, g1, rfl, hn1, ho, hb⟩
      subst hn1
      have HO := Lib.hid ho
      have HB := Lib.hid hb
      have HML := Lib.hid (rowW_le (gr xss k) j n)
      have HTL := Lib.hid (minW_le xss i j n k)
      have hb2 := below_alloc w1 (.cells #[.slice A1 (rowW (gr xss k) j n).length c1] 27)
      have HB4 := Lib.hid ((HT.out.next hb).bo.below hb2).own
      have HN := Lib.hid (cell_one_new w1 (.slice A1 (rowW (gr xss k) j n).length c1) 27)
      have hlh : w.heap.size ≤ w1.heap.size := Nat.le_trans HT.out.up.size hb.size
      clear hb ho hb2 HWC c2 ht HR
      generalize rowW (gr xss k) j n = ys at *
      generalize minW xss i j n k = ms at *
      obtain ⟨i0, hi0, hz0, hz1, hz2⟩ := info_parts Try.info_row
      go_wp2_with (at_builtin; refine wpList_append_own_at _ rfl _ _ 22 rfl w.heap.size 27 i0 (.slice none 0 0) 1 24 Try.underlying22 hi0 hz0 hz1 hz2 rfl (by decide) _ ms.length vs rfl HB4.out ⟨w1.heap.size, 0, none⟩ 1 1 [.slice A1 ys.length c1] rfl rfl ?d1 ?d2 ?d3 ?d4 ?d5 ?_)
      case d1 => exact HN.out
      case d2 => intro u hu; simp at hu; subst hu; rfl
      case d3 => have := HTL.out; unfold maxLen; omega
      case d4 => have := HTL.out; omega
      case d5 => simp; omega
      intro v' w5 hown' hgrow _ hat
      have HT5 := Lib.hid (HT.out.push HB.out HO.out hown' hgrow (by simpa using hat))
      clear HB4 HN hown' hgrow hat HT HO
      go_wp2
      go_roundw
      case rel => exact ⟨k + 1, _, by omega, by go_num, Lib.hid (by rw [HMS.out]; exact HT5.out)⟩
      case measure => simp [intOf]; omega
    · obtain rfl : k = n := by omega
      obtain ⟨A', n', c', gg, e, hn', hown⟩ := HT.out.bo.owns (by have := minW_le xss i j k k; omega)
      injection e with e1 e2 e3
      subst e1
      subst e2
      subst e3
      have HML := Lib.hid HMI.out.len
      rw [HML.out] at hown
      rw [HML.out]
      have HO := Lib.hid hown.rows
      have HB := Lib.hid HT.out.up
      have HC2 := Lib.hid (HD.out _ _ _ _ wr HO.out HMI.out HMA.out)
      clear hown HT hn'
      by_cases hp : (i + j) % 2 = 1
      · have HE := Lib.hid (cofN_odd (k := k) (f := f) hp)
        have h1 : (((i : Int) + (j : Int)) % 2 == 1) = true := by simp; omega
        generalize detN (k - 1) (minorN f i j) = d at *
        clear hp
        go_wp2_with fail
        refine HC2.out.mono ?_
        rintro e w2 ⟨rfl, hb⟩
        have HB2 := Lib.hid (below_up HB.out hb)
        clear hb HC2
        go_wp2
        go_ret
        exact ⟨ret_int HE.out.symm, HB2.out⟩
      · have HE := Lib.hid (cofN_even (k := k) (f := f) hp)
        have h1 : (((i : Int) + (j : Int)) % 2 == 1) = false := by simp; omega
        generalize detN (k - 1) (minorN f i j) = d at *
        clear hp
        go_wp2_with fail
        refine HC2.out.mono ?_
        rintro e w2 ⟨rfl, hb⟩
        have HB2 := Lib.hid (below_up HB.out hb)
        clear hb HC2
        go_wp2
        go_ret
        exact ⟨ret_int HE.out.symm, HB2.out⟩
/-- The terms of a determinant. -/
def detT (n : Nat) (f : Nat → Nat → Int) (j : Nat) : List Int := (List.range j).map fun j => f 0 j * cofN n f 0 j
theorem detT_succ (n : Nat) (f : Nat → Nat → Int) (j : Nat) : detT n f (j + 1) = detT n f j ++ [f 0 j * cofN n f 0 j] := by simp [detT, List.range_succ]
theorem detT_len (n : Nat) (f : Nat → Nat → Int) (j : Nat) : (detT n f j).length = j := by simp [detT]
theorem detT_tot (k : Nat) (f : Nat → Nat → Int) : ∀ j, tot (detT (k + 1) f j) = detS k f j
  | 0 => rfl
  | j + 1 => by
    rw [detT_succ, tot_snoc, detT_tot k f j, detS_succ, cofN, Nat.zero_add, Nat.add_sub_cancel]
    grind
theorem detT_bd {n : Nat} {f : Nat → Nat → Int} (hn : n ≤ 3) (h : Ab n f) {j : Nat} (hj : j ≤ n) : ∀ x ∈ detT n f j, -10000000 ≤ x ∧ x ≤ 10000000 := fun x hx => by
  obtain ⟨i, hi, rfl⟩ := List.mem_map.1 hx
  have hi := List.mem_range.1 hi
  have h1 := mulbd (h 0 i (by omega) (by omega)) (cof_bd hn h (i := 0) (j := i) (by omega) (by omega))
  omega
theorem sumOk_of {xs : List Int} (hl : xs.length ≤ 100) (h : ∀ x ∈ xs, -10000000 ≤ x ∧ x ≤ 10000000) : SumOk xs := ⟨by omega, fun j hj => by have := h _ (gi_mem hj); omega⟩
theorem IU.ints {wb ys w} {A : Option Addr} {c : Nat} (h : IU wb (.slice A ys.length c) ys w) (hm : ys.length ≤ 100) (hb : ∀ y ∈ ys, -1000000000000000 ≤ y ∧ y ≤ 1000000000000000) : Ints w A ys.length c ys := by
  obtain ⟨A', n, c', g, e, _, ho, _⟩ := h.new hm hb
  injection e with e
  injection e with e1 e2 e3
  subst e1
  subst e2
  subst e3
  exact ho.ints

set_option maxRecDepth 100000 in
set_option maxHeartbeats 2000000 in
theorem determinant_any : ∀ (n : Nat), n ≤ 3 → DetOk n := by
  intro n
  induction n with
  | zero =>
    intro _ A c xss f w hx hq ha
    clear hx hq ha
    go_enter Try.func101, Try.ntmps101
    go_wp2
    go_ret
    exact ⟨rfl, Below.refl _ _⟩
  | succ k ih =>
    intro hk3 A c xss f w hx hq ha
    have HCF := Lib.hid (cofactor_of (k + 1) hk3 (by rw [Nat.add_sub_cancel]; exact ih (by omega)))
    have HX := Lib.hid hx
    have HQ := Lib.hid hq
    have HAB := Lib.hid ha
    obtain ⟨b, o, rfl, hc⟩ := hx.at_ (by omega)
    obtain ⟨R, cc, c1, hR⟩ := hc 0 (by omega)
    rw [hq.row 0 (by omega)] at c1 hR
    obtain ⟨b', o', rfl, hc'⟩ := hR.at_ (by omega)
    simp only [Nat.add_zero] at c1
    have HC1 := Lib.hid c1
    have HC' := Lib.hid hc'
    have HTT := Lib.hid (fun j => detT_tot k f j)
    have HDA := Lib.hid (detS_all k f)
    clear hx hq ha hc hR hc' c1 ih
    have HS0 := Lib.hid (IU.nil w)
    have hn0 : 0 < k + 1 := by omega
    generalize k + 1 = n at *
    · have hn0' : (0 : Int) < (n : Int) := by omega
      have hnz : ((n : Int) == 0) = false := by simp; omega
      have c1 := HC1.out
      have HZ : Hid (detT n f 0 = []) := Lib.hid rfl
      go_enter Try.func101, Try.ntmps101
      go_wp2
      clear c1
      go_loopw [3, 13] (fun v t wr => ∃ j : Nat, j ≤ n ∧ t = .int .i64 j ∧ Hid (IU w v (detT n f j) wr)) (fun _ t _ => n - (intOf t).toNat)
      case atStart => exact ⟨0, Nat.zero_le _, rfl, HS0⟩
      case round =>
        clear HS0 HZ
        obtain ⟨j, hj, rfl, HI⟩ := hrel
        obtain ⟨Av, cv, rfl⟩ := HI.out.bi.form
        by_cases hlt : j < n
        · have c3 := Keep.below HI.out.up _ _ (HC'.out j hlt)
          have hsx : Hid (gi (gr xss 0) j = f 0 j) := Lib.hid (HQ.out.eq 0 j hn0 hlt)
          have HC := Lib.hid (HCF.out _ c xss f 0 j _ (HX.out.keep (Keep.below HI.out.up)) HQ.out HAB.out hn0 hlt)
          have hxb := HAB.out 0 j hn0 hlt
          have hcb := cof_bd hk3 HAB.out (i := 0) (j := j) hn0 hlt
          have HPB := mulbd hxb hcb
          have HTS := Lib.hid (detT_succ n f j)
          have HTL := Lib.hid (detT_len n f j)
          rw [← hsx.out] at HPB HTS
          generalize gi (gr xss 0) j = x at *
          generalize cofN n f 0 j = d at *
          generalize detT n f j = ys at *
          obtain ⟨p1, p2⟩ := HPB
          go_wp2_with fail
          refine HC.out.mono ?_
          rintro e w2 ⟨rfl, hb⟩
          have HI2 := Lib.hid (HI.out.next hb)
          clear hb HC HI c3
          have hb := below_alloc w2 (.cells #[iv (x * d)] 3)
          have HB4 := Lib.hid (HI2.out.bi.below hb).own
          have HN := Lib.hid (cell_one_new w2 (iv (x * d)) 3)
          have hwz := HI2.out.up.size
          clear hb
          obtain ⟨i0, hi0, hz0, hz1, hz2⟩ := info_parts Try.info_int
          go_wp2_with (at_builtin; refine wpList_append_own_at _ rfl _ _ 27 rfl w.heap.size 3 i0 (.int .i64 0) 1 8 Try.underlying27 hi0 hz0 hz1 hz2 rfl (by decide) _ ys.length (ys.map iv) rfl HB4.out ⟨w2.heap.size, 0, none⟩ 1 1 [iv (x * d)] rfl rfl ?c1 ?c2 ?c3 ?c4 ?c5 ?_)
          case c1 => exact HN.out
          case c2 => intro u hu; simp at hu; subst hu; rfl
          case c3 => have := HTL.out; unfold maxLen; omega
          case c4 => have := HTL.out; omega
          case c5 => simp; omega
          intro v' w5 hown' hgrow _ hat
          have HI5 := Lib.hid (HI2.out.push hown' hgrow (by simpa using hat))
          clear HB4 HN hown' hgrow hat HI2
          go_wp2
          go_roundw
          case rel => exact ⟨j + 1, by omega, by go_num, Lib.hid (by rw [HTS.out]; exact HI5.out)⟩
          case measure => simp [intOf]; omega
        · obtain rfl : j = n := by omega
          have HTB := Lib.hid (detT_bd hk3 HAB.out (Nat.le_refl j))
          have HTL := Lib.hid (detT_len j f j)
          have HTO := Lib.hid (show tot (detT j f j) = detN j f by rw [HTT.out, HDA.out])
          have HC := Lib.hid (sumOf_any _ _ _ _ wr (HI.out.ints (by rw [HTL.out]; omega) (fun y hy => by have := HTB.out y hy; omega)) (sumOk_of (by rw [HTL.out]; omega) HTB.out))
          rw [HTO.out] at HC
          have HB := Lib.hid HI.out.up
          go_wp2_with fail
          refine HC.out.mono ?_
          rintro e w2 ⟨rfl, hq⟩
          have HB2 := Lib.hid (below_quiet HB.out hq)
          clear hq HC
          go_wp2
          go_ret
          exact ⟨rfl, HB2.out⟩
theorem cofactor_any (n : Nat) (hn : n ≤ 3) (A : Option Addr) (c : Nat) (xss : List (List Int)) (f : Nat → Nat → Int) (i j : Nat) (w : World) (hx : IntRows w A n c xss) (hq : Sq n xss f) (ha : Ab n f) (hi : i < n) (hj : j < n) :
    Calls Try.prog 99 #[.slice A n c, .int .i64 i, .int .i64 j] w (Ret (.int .i64 (cofN n f i j)) w) :=
  cofactor_of n hn (determinant_any (n - 1) (by omega)) A c xss f i j w hx hq ha hi hj
end Go.Proofs.Ytgmcmblcljfofaa

/- What strategies have against shares, told by a closure; which hold: by the program. -/
namespace Go.Proofs.Ytgmcmblcljfofaa
open Go.RowKit

theorem VS.bds {w : List Int} {n : Nat} (h : VS w n) : ∀ j, j < n → 0 ≤ gi w j ∧ gi w j ≤ 1000 := fun j hj => h.2.1 j (by have := h.1; omega)
theorem onl_bds (n k : Nat) : ∀ j, j < n → 0 ≤ gi (onl n k) j ∧ gi (onl n k) j ≤ 1000 := fun j hj => by have := onl_bd (n := n) (i := k) hj; omega
/-- Where the closure finds the table and the shares. -/
structure PA (a : List (List Int)) (w : List Int) (n : Nat) (pa pw b o c cw : Nat) (rb ro cc : Nat → Nat) (Y : Option Addr) (W : World) : Prop where
  tab : Tab W b o rb ro cc n n a
  sh : Ints W Y n cw w
  bd : ∀ j, j < n → 0 ≤ gi w j ∧ gi w j ≤ 1000
  ca : W.cell? ⟨pa, 0, none⟩ = some (.slice (some ⟨b, o, none⟩) n c)
  cs : W.cell? ⟨pw, 0, none⟩ = some (.slice Y n cw)
theorem PA.keep {a w n pa pw b o c cw rb ro cc Y W W'} (h : PA a w n pa pw b o c cw rb ro cc Y W) (k : Keep W W') : PA a w n pa pw b o c cw rb ro cc Y W' :=
  ⟨h.tab.keep k, h.sh.keep k, h.bd, k _ _ h.ca, k _ _ h.cs⟩

set_option maxRecDepth 100000 in
set_option maxHeartbeats 1600000 in
theorem payAt_any (a : List (List Int)) (w : List Int) (n pa pw b o c cw : Nat) (rb ro cc : Nat → Nat) (Y : Option Addr) (W : World) (h : PA a w n pa pw b o c cw rb ro cc Y W) (i : Nat) (hi : i < n) :
    Calls Try.prog 85 #[.int .i64 i, .pointer (some ⟨pa, 0, none⟩), .pointer (some ⟨pw, 0, none⟩)] W (Ret (.int .i64 (dotr a w i n)) W) := by
  have H := Lib.hid h
  have hn1 := h.tab.n1
  have hn3 := h.tab.n3
  have q1 := h.ca
  have q2 := h.cs
  have q3 := h.tab.row i hi
  have HB := Lib.hid (fun j (hj : j < n) => h.tab.bd i j hi hj)
  obtain ⟨by_, oy, rfl, hcy⟩ := h.sh.at_ (by omega)
  have HY := Lib.hid hcy
  have HS0 := Lib.hid (IU.nil W)
  have HZ : Hid (termL a w i 0 = []) := Lib.hid rfl
  clear h hcy
  go_enter Try.func85, Try.ntmps85
  go_wp2
  clear q1 q2 q3
  go_loopw [5, 13] (fun v i_ wr => ∃ k : Nat, k ≤ n ∧ i_ = .int .i64 k ∧ Hid (IU W v (termL a w i k) wr)) (fun _ i_ _ => n - (intOf i_).toNat)
  case atStart => exact ⟨0, Nat.zero_le _, rfl, Lib.hid (by rw [HZ.out]; exact HS0.out)⟩
  case round =>
    clear HS0 HZ
    obtain ⟨k, hk, rfl, HI⟩ := hrel
    obtain ⟨Av, cv, rfl⟩ := HI.out.bi.form
    by_cases hlt : k < n
    · have c1 := Keep.below HI.out.up _ _ (H.out.tab.cell i k hi hlt)
      have c2 := Keep.below HI.out.up _ _ H.out.cs
      have c3 := Keep.below HI.out.up _ _ (HY.out k hlt)
      obtain ⟨z1, z2⟩ := HB.out k hlt
      obtain ⟨x1, x2⟩ := H.out.bd k hlt
      obtain ⟨p1, p2⟩ := mul_bd3 ⟨x1, x2⟩ ⟨z1, z2⟩
      have HCS : Hid (termL a w i (k + 1) = termL a w i k ++ [g2 a i k * gi w k]) := Lib.hid rfl
      have HML := Lib.hid (termL_len a w i k)
      have hb := below_alloc wr (.cells #[iv (g2 a i k * gi w k)] 3)
      have HB4 := Lib.hid (HI.out.bi.below hb).own
      have HN := Lib.hid (cell_one_new wr (iv (g2 a i k * gi w k)) 3)
      have hwz := HI.out.up.size
      clear hb
      generalize termL a w i k = ys at *
      generalize g2 a i k = g at *
      generalize gi w k = s at *
      obtain ⟨i0, hi0, hz0, hz1, hz2⟩ := info_parts Try.info_int
      go_wp2_with (at_builtin; refine wpList_append_own_at _ rfl _ _ 27 rfl W.heap.size 3 i0 (.int .i64 0) 1 8 Try.underlying27 hi0 hz0 hz1 hz2 rfl (by decide) _ ys.length (ys.map iv) rfl HB4.out ⟨wr.heap.size, 0, none⟩ 1 1 [iv (g * s)] rfl rfl ?c1 ?c2 ?c3 ?c4 ?c5 ?_)
      case c1 => exact HN.out
      case c2 => intro u hu; simp at hu; subst hu; rfl
      case c3 => have := HML.out; unfold maxLen; omega
      case c4 => have := HML.out; omega
      case c5 => simp; omega
      intro v' w5 hown' hgrow _ hat
      have HI5 := Lib.hid (HI.out.push hown' hgrow (by simpa using hat))
      clear HB4 HN hown' hgrow hat HI c1 c2 c3
      go_wp2
      go_roundw
      case rel => exact ⟨k + 1, by omega, by go_num, Lib.hid (by rw [HCS.out]; exact HI5.out)⟩
      case measure => simp [intOf]; omega
    · obtain rfl : k = n := by omega
      have HL := Lib.hid (termL_len a w i k)
      have HTB := Lib.hid (termL_bd HB.out H.out.bd (Nat.le_refl k))
      have HSM := Lib.hid (show SumOk (termL a w i k) from ⟨by rw [HL.out]; omega, fun j hj => by have := HTB.out _ (gi_mem hj); omega⟩)
      have HTT := Lib.hid (termL_tot a w i k)
      have HIN := Lib.hid (HI.out.ints (by rw [HL.out]; omega) (fun y hy => by have := HTB.out y hy; omega))
      have HUP := Lib.hid HI.out.up
      have HC := Lib.hid (HTT.out ▸ sumOf_any _ _ _ _ wr HIN.out HSM.out)
      clear HI
      go_wp2_with fail
      refine HC.out.mono ?_
      rintro e w2 ⟨rfl, hq⟩
      have HB2 := Lib.hid (below_quiet HUP.out hq)
      clear hq HC
      go_wp2
      go_ret
      exact ⟨rfl, HB2.out⟩

/-- The closure of two boxes. -/
def MadeP (a : List (List Int)) (w : List Int) (n b o c cw : Nat) (rb ro cc : Nat → Nat) (Y : Option Addr) (W : World) (e : Ending) (W' : World) : Prop :=
  ∃ pa pw, e = .returned (.func (.func 85) #[] #[.pointer (some ⟨pa, 0, none⟩), .pointer (some ⟨pw, 0, none⟩)]) ∧ PA a w n pa pw b o c cw rb ro cc Y W' ∧ Below W.heap.size W W'

set_option maxRecDepth 100000 in
set_option maxHeartbeats 400000 in
theorem payAgainst_far (a : List (List Int)) (w : List Int) (n b o c cw : Nat) (rb ro cc : Nat → Nat) (Y : Option Addr) (W : World) (ht : Tab W b o rb ro cc n n a) (hw : Ints W Y n cw w) (hb : ∀ j, j < n → 0 ≤ gi w j ∧ gi w j ≤ 1000) :
    Calls Try.prog 61 #[.slice (some ⟨b, o, none⟩) n c, .slice Y n cw] W (fun e W' => ∃ pa pw, e = .returned (.func (.func 85) #[] #[.pointer (some ⟨pa, 0, none⟩), .pointer (some ⟨pw, 0, none⟩)]) ∧ (PA a w n pa pw b o c cw rb ro cc Y W' ∧ Below W.heap.size W W') ∧ W.heap.size ≤ pa ∧ W.heap.size ≤ pw) := by
  have hmf : ∀ (fn : Fn) (first cap : Array Value) (w : World), (Instr.makeFunc fn first cap).run Try.prog w = .ok (.func fn first cap) w := fun _ _ _ _ => rfl
  have h1 := below_alloc W (.cells #[.slice (some ⟨b, o, none⟩) n c] 22)
  have h2 := below_alloc (W.alloc (.cells #[.slice (some ⟨b, o, none⟩) n c] 22)) (.cells #[.slice Y n cw] 27)
  have hbb := below_up h1 h2
  have HP := Lib.hid (show PA a w n W.heap.size (W.alloc (.cells #[.slice (some ⟨b, o, none⟩) n c] 22)).heap.size b o c cw rb ro cc Y ((W.alloc (.cells #[.slice (some ⟨b, o, none⟩) n c] 22)).alloc (.cells #[.slice Y n cw] 27)) from
    ⟨ht.keep (Keep.below hbb), hw.keep (Keep.below hbb), hb, Keep.below h2 _ _ (blk_cell (blk_new _ _ _) rfl), blk_cell (blk_new _ _ _) rfl⟩)
  have HBB := Lib.hid hbb
  clear h1 h2 hbb ht hw hb
  go_enter Try.func61, Try.ntmps61
  go_wp2
  go_ret
  exact ⟨_, _, rfl, ⟨by have h := HP.out; rw [World.size_alloc] at h; exact h, HBB.out⟩, Nat.le_refl _, Nat.le_succ _⟩
theorem payAgainst_any (a : List (List Int)) (w : List Int) (n b o c cw : Nat) (rb ro cc : Nat → Nat) (Y : Option Addr) (W : World) (ht : Tab W b o rb ro cc n n a) (hw : Ints W Y n cw w) (hb : ∀ j, j < n → 0 ≤ gi w j ∧ gi w j ≤ 1000) :
    Calls Try.prog 61 #[.slice (some ⟨b, o, none⟩) n c, .slice Y n cw] W (MadeP a w n b o c cw rb ro cc Y W) :=
  (payAgainst_far a w n b o c cw rb ro cc Y W ht hw hb).mono fun _ _ ⟨pa, pw, he, ⟨h1, h2⟩, _⟩ => ⟨pa, pw, he, h1, h2⟩
end Go.Proofs.Ytgmcmblcljfofaa

/- Stable strategies, by the program. -/
namespace Go.Proofs.Ytgmcmblcljfofaa
open Go.RowKit

/-- The leads of strategy i over j: against i, and against j. -/
def leadI (a : List (List Int)) (i j : Nat) : Int := g2 a i i - g2 a j i
def leadJ (a : List (List Int)) (i j : Nat) : Int := g2 a i j - g2 a j j

set_option maxRecDepth 100000 in
set_option maxHeartbeats 1600000 in
theorem leadsOf_any (A : Option Addr) (n c : Nat) (a : List (List Int)) (w : World) (i j : Nat) (hx : IntRows w A n c a) (hq : VQ a) (hi : i < n) (hj : j < n) :
    Calls Try.prog 54 #[.slice A n c, .int .i64 i, .int .i64 j] w (Ret (.tuple #[.int .i64 (leadI a i j), .int .i64 (leadJ a i j)]) w) := by
  have HX := Lib.hid hx
  obtain ⟨b, o, rb, ro, cc, rfl, tab⟩ := hx.tab hq.1
  have hl := hx.len
  have hm : (gr a 0).length = n := by have := hq.2; omega
  rw [hm] at tab
  have HT := Lib.hid tab
  have hn3 := tab.n3
  have B11 := tab.bd i i hi hi
  have B21 := tab.bd j i hj hi
  have B12 := tab.bd i j hi hj
  have B22 := tab.bd j j hj hj
  have HA1 := Lib.hid (dotr_alone a n i i hi)
  have HA2 := Lib.hid (dotr_alone a n j i hi)
  have HA3 := Lib.hid (dotr_alone a n i j hj)
  have HA4 := Lib.hid (dotr_alone a n j j hj)
  unfold leadI leadJ
  clear tab hm hl hq hx
  have Z0 := Lib.hid (Below.refl w.heap.size w)
  go_enter Try.func54, Try.ntmps54
  have HC := Lib.hid (alone_impl n i w (by omega) hi)
  go_wp2_with fail
  refine HC.out.mono ?_
  rintro e w1 ⟨rfl, ho, hb⟩
  have Z1 := Lib.hid (below_up Z0.out hb)
  have O1 := Lib.hid ho.ints
  clear ho hb HC Z0
  have HC := Lib.hid (payAgainst_any a (onl n i) n b o c n rb ro cc _ w1 (HT.out.keep (Keep.below Z1.out)) O1.out (onl_bds n i))
  go_wp2_with fail
  refine HC.out.mono ?_
  rintro e w2 ⟨pa, pw, rfl, hp, hb⟩
  have Z2 := Lib.hid (below_up Z1.out hb)
  have P := Lib.hid hp
  clear hp hb HC Z1 O1
  have HC := Lib.hid (alone_impl n j w2 (by omega) hj)
  go_wp2_with fail
  refine HC.out.mono ?_
  rintro e w3 ⟨rfl, ho, hb⟩
  have Z3 := Lib.hid (below_up Z2.out hb)
  have P3 := Lib.hid (P.out.keep (Keep.below hb))
  have O1 := Lib.hid ho.ints
  clear ho hb HC Z2 P
  have HC := Lib.hid (payAgainst_any a (onl n j) n b o c n rb ro cc _ w3 (HT.out.keep (Keep.below Z3.out)) O1.out (onl_bds n j))
  go_wp2_with fail
  refine HC.out.mono ?_
  rintro e w4 ⟨pb_, pv, rfl, hp, hb⟩
  have Z4 := Lib.hid (below_up Z3.out hb)
  have P4 := Lib.hid (P3.out.keep (Keep.below hb))
  have Q4 := Lib.hid hp
  clear hp hb HC Z3 O1 P3
  have HC := Lib.hid (HA1.out ▸ payAt_any a (onl n i) n pa pw b o c n rb ro cc _ w4 P4.out i hi)
  go_wp2_with fail
  refine HC.out.mono ?_
  rintro e w5 ⟨rfl, hb⟩
  have Z5 := Lib.hid (below_up Z4.out hb)
  have P5 := Lib.hid (P4.out.keep (Keep.below hb))
  have Q5 := Lib.hid (Q4.out.keep (Keep.below hb))
  clear hb HC Z4 P4 Q4
  have HC := Lib.hid (HA2.out ▸ payAt_any a (onl n i) n pa pw b o c n rb ro cc _ w5 P5.out j hj)
  go_wp2_with fail
  refine HC.out.mono ?_
  rintro e w6 ⟨rfl, hb⟩
  have Z6 := Lib.hid (below_up Z5.out hb)
  have Q6 := Lib.hid (Q5.out.keep (Keep.below hb))
  clear hb HC Z5 P5 Q5
  have HC := Lib.hid (HA3.out ▸ payAt_any a (onl n j) n pb_ pv b o c n rb ro cc _ w6 Q6.out i hi)
  go_wp2_with fail
  refine HC.out.mono ?_
  rintro e w7 ⟨rfl, hb⟩
  have Z7 := Lib.hid (below_up Z6.out hb)
  have Q7 := Lib.hid (Q6.out.keep (Keep.below hb))
  clear hb HC Z6 Q6
  have HC := Lib.hid (HA4.out ▸ payAt_any a (onl n j) n pb_ pv b o c n rb ro cc _ w7 Q7.out j hj)
  go_wp2_with fail
  refine HC.out.mono ?_
  rintro e w8 ⟨rfl, hb⟩
  have Z8 := Lib.hid (below_up Z7.out hb)
  clear hb HC Z7 Q7
  go_wp2
  go_ret2
  exact ⟨rfl, Z8.out⟩

/-- A strategy with these leads holds. -/
def HoldL (x y : Int) : Prop := 0 < x ∨ x = 0 ∧ 0 < y
theorem holdL_iff (a : List (List Int)) (i j : Nat) : HoldL (leadI a i j) (leadJ a i j) ↔ HoldP a i j := by
  unfold HoldL HoldP leadI leadJ
  omega
set_option maxHeartbeats 400000 in
theorem holdsL_any (x y : Int) (w : World) : Calls Try.prog 55 #[.int .i64 x, .int .i64 y] w fun e w' => e = .returned (.bool (pb (HoldL x y))) ∧ Quiet w w' := by
  by_cases h1 : 0 < x
  · rw [pb_true (p := HoldL x y) (.inl h1)]
    go_enter Try.func55, Try.ntmps55
    go_wp2
    go_ret
    exact ⟨rfl, Quiet.refl _⟩
  · have h1' : decide (0 < x) = false := decide_eq_false h1
    by_cases h2 : x = 0
    · subst h2
      by_cases h3 : 0 < y
      · rw [pb_true (p := HoldL 0 y) (.inr ⟨rfl, h3⟩)]
        go_enter Try.func55, Try.ntmps55
        go_wp2
        go_ret
        exact ⟨rfl, Quiet.refl _⟩
      · rw [pb_false (p := HoldL 0 y) (by unfold HoldL; omega)]
        have h3' : decide (0 < y) = false := decide_eq_false h3
        go_enter Try.func55, Try.ntmps55
        go_wp2
        go_ret
        exact ⟨rfl, Quiet.refl _⟩
    · rw [pb_false (p := HoldL x y) (by unfold HoldL; omega)]
      have h2' : (x == 0) = false := by rw [beq_eq_false_iff_ne]; exact h2
      go_enter Try.func55, Try.ntmps55
      go_wp2
      go_ret
      exact ⟨rfl, Quiet.refl _⟩

set_option maxRecDepth 100000 in
set_option maxHeartbeats 1600000 in
theorem isStable_any (A : Option Addr) (n c : Nat) (a : List (List Int)) (w : World) (i : Nat) (hx : IntRows w A n c a) (hq : VQ a) (hi : i < n) :
    Calls Try.prog 50 #[.slice A n c, .int .i64 i] w (Ret (.bool (pb (StP a i n))) w) := by
  have HX := Lib.hid hx
  have HV := Lib.hid hq
  have hn3 : n ≤ 3 := by have := hq.1.n3; have := hx.len; omega
  clear hx hq
  go_enter Try.func50, Try.ntmps50
  go_wp2
  go_loopw [8] (fun j wi => ∃ l : Nat, l ≤ n ∧ j = .int .i64 l ∧ Hid (StP a i l) ∧ Hid (Below w.heap.size w wi)) (fun j _ => n - (intOf j).toNat)
  case atStart => exact ⟨0, Nat.zero_le _, rfl, Lib.hid (StP.zero a i), Lib.hid (Below.refl _ _)⟩
  case round =>
    obtain ⟨l, hl, rfl, HP, HB⟩ := hrel
    by_cases hll : l < n
    · by_cases e : i = l
      · subst e
        have HN := Lib.hid (StP.succ.2 ⟨HP.out, .inl rfl⟩)
        go_wp2
        go_roundw
        case rel => exact ⟨i + 1, by omega, by go_num, HN, HB⟩
        case measure => simp [intOf]; omega
      · have hne : ((l : Int) != (i : Int)) = true := by simp; omega
        have HC := Lib.hid (leadsOf_any A n c a wr i l (HX.out.keep (Keep.below HB.out)) HV.out hi hll)
        have HK := Lib.hid (fun W => holdsL_any (leadI a i l) (leadJ a i l) W)
        by_cases hh : HoldP a i l
        · rw [pb_true ((holdL_iff a i l).2 hh)] at HK
          have HN := Lib.hid (StP.succ.2 ⟨HP.out, .inr hh⟩)
          clear hh e
          go_wp2_with fail
          refine HC.out.mono ?_
          rintro e w1 ⟨rfl, hb⟩
          have HB1 := Lib.hid (below_up HB.out hb)
          clear hb HC HB
          go_wp2_with fail
          refine (HK.out _).mono ?_
          rintro e w2 ⟨rfl, hq⟩
          have HB2 := Lib.hid (below_quiet HB1.out hq)
          clear hq HK HB1
          go_wp2
          go_roundw
          case rel => exact ⟨l + 1, by omega, by go_num, HN, HB2⟩
          case measure => simp [intOf]; omega
        · rw [pb_false (fun h => hh ((holdL_iff a i l).1 h))] at HK
          have HN := Lib.hid (pb_false (p := StP a i n) (fun h => (h l hll).elim e hh))
          clear hh e
          go_wp2_with fail
          refine HC.out.mono ?_
          rintro e w1 ⟨rfl, hb⟩
          have HB1 := Lib.hid (below_up HB.out hb)
          clear hb HC HB
          go_wp2_with fail
          refine (HK.out _).mono ?_
          rintro e w2 ⟨rfl, hq⟩
          have HB2 := Lib.hid (below_quiet HB1.out hq)
          clear hq HK HB1
          go_wp2
          go_ret
          exact ⟨ret_bool HN.out.symm, HB2.out⟩
    · obtain rfl : l = n := by omega
      have HN := Lib.hid (pb_true HP.out)
      go_wp2
      go_ret
      exact ⟨ret_bool HN.out.symm, HB.out⟩

theorem stF_le (a : List (List Int)) : (stF a).length ≤ 100 := by
  unfold stF
  split
  · rename_i h
    have := (pb_iff.1 h).1.n3
    have := stL_len a a.length a.length
    omega
  · simp

set_option maxRecDepth 100000 in
set_option maxHeartbeats 1600000 in
theorem StableOf_impl (A : Option Addr) (n c : Nat) (a : List (List Int)) (w : World) (hx : IntRows w A n c a) :
    Calls Try.prog 19 #[.slice A n c] w (NewI w (stF a)) := by
  have HX := Lib.hid hx
  have hl := hx.len
  by_cases hv : VQ a
  · have HC := Lib.hid (pb_true hv ▸ ValidSquare_impl A n c a w hx)
    have HF := Lib.hid (show stF a = stL a n n by unfold stF; rw [if_pos (pb_true hv), hl])
    have HV := Lib.hid hv
    have hn3 : n ≤ 3 := by have := hv.1.n3; omega
    clear hx hl hv
    go_enter Try.func19, Try.ntmps19
    go_wp2_with fail
    refine HC.out.mono ?_
    rintro e w1 ⟨rfl, hq⟩
    have HQ := Lib.hid hq
    have HX1 := Lib.hid (HX.out.keep (Keep.quiet hq))
    have HS0 := Lib.hid (IU.nil w1)
    clear hq HC HX
    go_wp2
    go_loopw [3, 10] (fun v i wr => ∃ k : Nat, k ≤ n ∧ i = .int .i64 k ∧ Hid (IU w1 v (stL a n k) wr)) (fun _ i _ => n - (intOf i).toNat)
    case atStart => exact ⟨0, Nat.zero_le _, rfl, HS0⟩
    case round =>
      clear HS0
      obtain ⟨k, hk, rfl, HI⟩ := hrel
      obtain ⟨Av, cv, rfl⟩ := HI.out.bi.form
      by_cases hlt : k < n
      · have HC := Lib.hid (isStable_any A n c a wr k (HX1.out.keep (Keep.below HI.out.up)) HV.out hlt)
        by_cases hs : StP a k n
        · rw [pb_true hs] at HC
          have HCS := Lib.hid (stL_yes hs)
          have HML := Lib.hid (stL_len a n k)
          clear hs
          generalize stL a n k = ys at *
          go_wp2_with fail
          refine HC.out.mono ?_
          rintro e w2 ⟨rfl, hb⟩
          have HI2 := Lib.hid (HI.out.next hb)
          clear hb HC HI
          have hb := below_alloc w2 (.cells #[iv (k : Int)] 3)
          have HB4 := Lib.hid (HI2.out.bi.below hb).own
          have HN := Lib.hid (cell_one_new w2 (iv (k : Int)) 3)
          have hwz := HI2.out.up.size
          clear hb
          obtain ⟨i0, hi0, hz0, hz1, hz2⟩ := info_parts Try.info_int
          go_wp2_with (at_builtin; refine wpList_append_own_at _ rfl _ _ 27 rfl w1.heap.size 3 i0 (.int .i64 0) 1 8 Try.underlying27 hi0 hz0 hz1 hz2 rfl (by decide) _ ys.length (ys.map iv) rfl HB4.out ⟨w2.heap.size, 0, none⟩ 1 1 [iv (k : Int)] rfl rfl ?c1 ?c2 ?c3 ?c4 ?c5 ?_)
          case c1 => exact HN.out
          case c2 => intro u hu; simp at hu; subst hu; rfl
          case c3 => have := HML.out; unfold maxLen; omega
          case c4 => have := HML.out; omega
          case c5 => simp; omega
          intro v' w5 hown' hgrow _ hat
          have HI5 := Lib.hid (HI2.out.push hown' hgrow (by simpa using hat))
          clear HB4 HN hown' hgrow hat HI2
          go_wp2
          go_roundw
          case rel => exact ⟨k + 1, by omega, by go_num, Lib.hid (by rw [HCS.out]; exact HI5.out)⟩
          case measure => simp [intOf]; omega
        · rw [pb_false hs] at HC
          have HCS := Lib.hid (stL_no hs)
          clear hs
          go_wp2_with fail
          refine HC.out.mono ?_
          rintro e w2 ⟨rfl, hb⟩
          have HI2 := Lib.hid (HI.out.next hb)
          clear hb HC HI
          go_wp2
          go_roundw
          case rel => exact ⟨k + 1, by omega, by go_num, Lib.hid (by rw [HCS.out]; exact HI2.out)⟩
          case measure => simp [intOf]; omega
      · obtain rfl : k = n := by omega
        have HNW := Lib.hid (NewI.quiet HQ.out (HI.out.new (by have := stL_len a k k; omega) (fun y hy => by have := stL_bd a k k y hy; omega)))
        go_wp2
        go_ret
        rw [HF.out]
        exact HNW.out
  · have HC := Lib.hid (pb_false hv ▸ ValidSquare_impl A n c a w hx)
    have HF := Lib.hid (show stF a = [] by unfold stF; rw [if_neg (by rw [pb_false hv]; decide)])
    clear hx hl hv
    go_enter Try.func19, Try.ntmps19
    go_wp2_with fail
    refine HC.out.mono ?_
    rintro e w1 ⟨rfl, hq⟩
    go_wp2
    go_ret
    rw [HF.out]
    exact ⟨none, 0, 0, 0, rfl, rfl, OwnI.nil _ _ _ _, hq.below⟩
end Go.Proofs.Ytgmcmblcljfofaa

/- One block alone has turned: what is elsewhere stays; new lists whose block is known. -/
namespace Go.Proofs.Ytgmcmblcljfofaa
open Go.RowKit
theorem eqI_same (xs : List Int) : eqI xs xs = true := eqI_yes rfl fun _ _ => rfl
theorem OwnI.one {lo hi g w w' b A n c xs} (h : OwnI lo hi w b A n c xs) (k : One g w w') (hne : b ≠ g) : OwnI lo hi w' b A n c xs := h.of_block fun _ => k.block b hne
theorem One.below {S g : Nat} {a w w' : World} (h : Below S a w) (k : One g w w') (hg : S ≤ g) : Below S a w' := Touch.below h (k.touch (Nat.le_refl g) (Nat.lt_succ_self g)) hg
theorem NewI.ge {w w' : World} {ys : List Int} {e : Ending} (h : NewI w ys e w') :
    ∃ Av c gg, e = .returned (.slice Av ys.length c) ∧ OwnI w.heap.size w'.heap.size w' gg Av ys.length c ys ∧ w.heap.size ≤ gg ∧ Below w.heap.size w w' := by
  obtain ⟨Av, n, c, gg, rfl, rfl, ho, hb⟩ := h
  by_cases h0 : 0 < ys.length
  · obtain ⟨o, e, h1, h2, hf⟩ := ho.own h0
    exact ⟨Av, c, gg, rfl, ho, h1, hb⟩
  · exact ⟨Av, c, w.heap.size, rfl, ⟨ho.ints, fun hn => absurd hn h0⟩, Nat.le_refl _, hb⟩
end Go.Proofs.Ytgmcmblcljfofaa

/- The harness of the exact laws: a copy of a game marked; how many numbers it has. -/
namespace Go.Proofs.Ytgmcmblcljfofaa
open Go.RowKit

theorem szR_offs (left : Int) (xs : List (List Int)) (h : 0 ≤ szR left xs) : szR left xs = left - offs xs xs.length := by
  have key : ∀ (xs : List (List Int)) (left : Int), 0 ≤ szR left xs → szR left xs = left - ((xs.map List.length).sum : Nat) := by
    intro xs
    induction xs with
    | nil => intro left _; simp [szR]
    | cons x xs ih =>
      intro left h
      by_cases hn : szI left x.length < 0
      · rw [szR_neg hn] at h; omega
      · rw [szR_pos hn] at h ⊢
        rw [ih _ h]
        have : szI left x.length = left - x.length := by unfold szI at hn ⊢; split <;> simp_all
        rw [this]
        simp
        omega
  have key2 : ∀ k, k ≤ xs.length → offs xs k = (((xs.take k).map List.length).sum : Nat) := by
    intro k
    induction k with
    | zero => intro _; simp [offs]
    | succ k ih =>
      intro hk
      rw [offs, ih (by omega), List.take_succ_eq_append_getElem (by omega), List.map_append, List.sum_append, gr_get (by omega)]
      simp
  rw [key xs left h, key2 _ (Nat.le_refl _), List.take_length]
theorem szRR_offs {left : Int} {xs : List (List Int)} (h : ¬ szRR left xs < 0) : offs xs xs.length ≤ left := by
  unfold szRR at h
  split at h
  · omega
  · rename_i hn
    have := szR_offs _ _ (by omega : 0 ≤ szR (szI left xs.length) xs)
    have h2 : szI left xs.length ≤ left := by unfold szI at hn ⊢; split <;> simp_all; omega
    omega
theorem szG_offs {left : Int} {xs ys : List (List Int)} (h : ¬ szG left xs ys < 0) (h0 : 0 ≤ left) (h1 : left ≤ 1048576) : offs xs xs.length ≤ 1048576 ∧ offs ys ys.length ≤ 1048576 := by
  unfold szG at h
  split at h
  · omega
  · rename_i hn
    split at h
    · omega
    · rename_i hn2
      have := szRR_offs hn
      have := szRR_offs hn2
      have := szRR_le left xs h0 h1
      omega

/-- A game marked: only its own rows have turned, and new blocks are there. -/
def MarkedG (lo hi : Nat) (w : World) (xs ys : List (List Int)) (k : Int) (e : Ending) (w' : World) : Prop :=
  e = .returned (.int .i64 (k + offs xs xs.length + offs ys ys.length)) ∧ ∃ w1, Below w.heap.size w w1 ∧ Touch lo hi w1 w'

def MarkedP (lo hi : Nat) (w : World) (xs ys : List (List Int)) (k : Int) (n m : Nat) (e : Ending) (w' : World) : Prop :=
  e = .returned (.int .i64 (k + offs xs n + offs ys m)) ∧ ∃ w1, Below w.heap.size w w1 ∧ Touch lo hi w1 w'

theorem offs_le {xss : List (List Int)} (h : ∀ r ∈ xss, r.length ≤ 3) : ∀ k, k ≤ xss.length → offs xss k ≤ 3 * k
  | 0, _ => by simp [offs]
  | k + 1, hk => by
    have h1 := offs_le h k (by omega)
    have h2 := h _ (gr_mem (xs := xss) (k := k) (by omega))
    simp only [offs]
    omega

end Go.Proofs.Ytgmcmblcljfofaa

/- Barriers, by both programs. -/
namespace Go.Proofs.Ytgmcmblcljfofaa
open Go.RowKit

/-- The barrier of a strategy with these leads: above and below the line. -/
noncomputable def barU (x y : Int) : Int := if pb (HoldL x y) = true then (if 0 ≤ y then 1 else x) else 0
noncomputable def barD (x y : Int) : Int := if pb (HoldL x y) = true then (if 0 ≤ y then 1 else x - y) else 1
theorem bar_no {x y : Int} (h : ¬ HoldL x y) : barU x y = 0 ∧ barD x y = 1 := by
  unfold barU barD; rw [if_neg (by rw [pb_false h]; decide), if_neg (by rw [pb_false h]; decide)]; exact ⟨rfl, rfl⟩
theorem bar_one {x y : Int} (h : HoldL x y) (hy : 0 ≤ y) : barU x y = 1 ∧ barD x y = 1 := by
  unfold barU barD; rw [if_pos (pb_true h), if_pos (pb_true h), if_pos hy, if_pos hy]; exact ⟨rfl, rfl⟩
theorem bar_mid {x y : Int} (h : HoldL x y) (hy : ¬ 0 ≤ y) : barU x y = x ∧ barD x y = x - y ∧ 0 < x := by
  unfold barU barD; rw [if_pos (pb_true h), if_pos (pb_true h), if_neg hy, if_neg hy]; refine ⟨rfl, rfl, ?_⟩; unfold HoldL at h; omega
theorem lead_bd {a : List (List Int)} {n i j : Nat} (hq : VQ a) (hl : a.length = n) (hi : i < n) (hj : j < n) : (-18 ≤ leadI a i j ∧ leadI a i j ≤ 18) ∧ -18 ≤ leadJ a i j ∧ leadJ a i j ≤ 18 := by
  have hm : (gr a 0).length = n := by have := hq.2; omega
  have b1 := hq.1.bd (i := i) (j := i) (by omega) (by omega)
  have b2 := hq.1.bd (i := j) (j := i) (by omega) (by omega)
  have b3 := hq.1.bd (i := i) (j := j) (by omega) (by omega)
  have b4 := hq.1.bd (i := j) (j := j) (by omega) (by omega)
  unfold leadI leadJ
  omega
structure BOk (a : List (List Int)) (i j : Int) : Prop where
  q : VQ a
  ri : InR i 0 ((a.length : Int) - 1)
  rj : InR j 0 ((a.length : Int) - 1)
  ne : i ≠ j
noncomputable def barF (a : List (List Int)) (i j : Int) : Value := if pb (BOk a i j) = true then frV (barU (leadI a i.toNat j.toNat) (leadJ a i.toNat j.toNat)) (barD (leadI a i.toNat j.toNat) (leadJ a i.toNat j.toNat)) else .agg #[.int .i64 0, .int .i64 0]
theorem barF_yes {a i j} (h : BOk a i j) : barF a i j = frV (barU (leadI a i.toNat j.toNat) (leadJ a i.toNat j.toNat)) (barD (leadI a i.toNat j.toNat) (leadJ a i.toNat j.toNat)) := by rw [barF, if_pos (pb_true h)]
theorem barF_no {a i j} (h : ¬ BOk a i j) : barF a i j = .agg #[.int .i64 0, .int .i64 0] := by rw [barF, if_neg (by rw [pb_false h]; decide)]
theorem barF_form (a : List (List Int)) (i j : Int) : ∃ U D, barF a i j = .agg #[.int .i64 U, .int .i64 D] := by
  unfold barF
  split
  · exact frV_form _ _
  · exact ⟨_, _, rfl⟩

theorem PF.upq {w W W' : World} {n : Nat} (h : PF w W) (k : Below (W.drewN n).heap.size (W.drewN n) W') : PF w W' := PF.up (W := W.drewN n) ⟨h.box, below_drewN h.below n⟩ k
theorem PF.upqq {w W W' : World} {n m : Nat} (h : PF w W) (k : Below ((W.drewN n).drewN m).heap.size ((W.drewN n).drewN m) W') : PF w W' := PF.up (W := (W.drewN n).drewN m) ⟨h.box, below_drewN (below_drewN h.below n) m⟩ k

set_option maxRecDepth 100000 in
set_option maxHeartbeats 3200000 in
theorem barrier_any (A : Option Addr) (n c : Nat) (a : List (List Int)) (w : World) (i j : Nat) (hx : IntRows w A n c a) (hq : VQ a) (hi : i < n) (hj : j < n) :
    Calls Try.prog 52 #[.slice A n c, .int .i64 i, .int .i64 j] w (Ret (frV (barU (leadI a i j) (leadJ a i j)) (barD (leadI a i j) (leadJ a i j))) w) := by
  obtain ⟨b, o, rb, ro, cc, rfl, tab⟩ := hx.tab hq.1
  have hl := hx.len
  have hm : (gr a 0).length = n := by have := hq.2; omega
  rw [hm] at tab
  have HPF := Lib.hid (PF.start w)
  have r1 := HPF.out.keep _ _ (tab.row i hi)
  have r2 := HPF.out.keep _ _ (tab.row j hj)
  have c11 := HPF.out.keep _ _ (tab.cell i i hi hi)
  have c21 := HPF.out.keep _ _ (tab.cell j i hj hi)
  have c12 := HPF.out.keep _ _ (tab.cell i j hi hj)
  have c22 := HPF.out.keep _ _ (tab.cell j j hj hj)
  have hin : (i : Int) < (n : Int) := by omega
  have hjn : (j : Int) < (n : Int) := by omega
  obtain ⟨b1, b2⟩ := tab.bd i i hi hi
  obtain ⟨b3, b4⟩ := tab.bd j i hj hi
  obtain ⟨b5, b6⟩ := tab.bd i j hi hj
  obtain ⟨b7, b8⟩ := tab.bd j j hj hj
  unfold leadI leadJ
  generalize g2 a i i = p at *
  generalize g2 a j i = q at *
  generalize g2 a i j = s at *
  generalize g2 a j j = t at *
  clear tab hm hl hq hx hi hj
  by_cases h1 : p - q < 0
  · rw [(bar_no (by unfold HoldL; omega)).1, (bar_no (by unfold HoldL; omega)).2]
    have d1 : decide (p - q < 0) = true := decide_eq_true h1
    have HC := Lib.hid (fun W => frac_any 0 1 W (by unfold Mid; omega) (by unfold Mid; omega) (by omega))
    go_enter Try.func52, Try.ntmps52
    go_wp2_with fail
    go_quiet (fail)
    go_wp2
    go_quiet (fail)
    clear c11 c21 c12 c22 r1 r2
    go_wp2_with fail
    refine (HC.out _).mono ?_
    rintro e w1 ⟨rfl, hb⟩
    have HPF1 := Lib.hid (by first | exact HPF.out.upq hb | exact HPF.out.upqq hb)
    clear hb HC HPF
    have HFV : Hid (frV 0 1 = .agg #[.int .i64 (frU 0 1), .int .i64 (frD 0 1)]) := Lib.hid rfl
    rw [HFV.out]
    generalize frU 0 1 = U at *
    generalize frD 0 1 = D at *
    have HPF := HPF1
    clear HPF1
    have c0 := blk_cell HPF.out.box (i := 0) rfl
    have c1 := blk_cell HPF.out.box (i := 1) rfl
    have f0 := blk_frozen HPF.out.box 0
    have f1 := blk_frozen HPF.out.box 1
    go_wp2
    clear c0 c1 f0 f1
    have B1 := blk_set (blk_set HPF.out.box 0 (.int .i64 U)) 1 (.int .i64 D)
    have r0 := blk_cell B1 (i := 0) (v := .int .i64 U) rfl
    have r1 := blk_cell B1 (i := 1) (v := .int .i64 D) rfl
    have HBX := Lib.hid ((HPF.out.below.setCell (p := ⟨w.heap.size, 0, none⟩) (Nat.le_refl _) (.int .i64 U)).setCell (p := ⟨w.heap.size, 1, none⟩) (Nat.le_refl _) (.int .i64 D))
    clear B1 HPF
    generalize (w1.setCell ⟨w.heap.size, 0, none⟩ (.int .i64 U)).setCell ⟨w.heap.size, 1, none⟩ (.int .i64 D) = WE at *
    refine bodyPost_ret (v := .agg #[.int .i64 U, .int .i64 D]) (by simp [results, Try.results52, go_sem, r0, r1]) rfl ?_
    exact ⟨by rw [HFV.out], HBX.out⟩
  have d1 : decide (p - q < 0) = false := decide_eq_false h1
  by_cases h2 : p - q = 0
  · have e2 : (p - q == 0) = true := by rw [beq_iff_eq]; exact h2
    by_cases h3 : s - t ≤ 0
    · rw [(bar_no (by unfold HoldL; omega)).1, (bar_no (by unfold HoldL; omega)).2]
      have d3 : decide (s - t ≤ 0) = true := decide_eq_true h3
      have HC := Lib.hid (fun W => frac_any 0 1 W (by unfold Mid; omega) (by unfold Mid; omega) (by omega))
      go_enter Try.func52, Try.ntmps52
      go_wp2_with fail
      go_quiet (fail)
      go_wp2
      go_quiet (fail)
      clear c11 c21 c12 c22 r1 r2
      go_wp2_with fail
      refine (HC.out _).mono ?_
      rintro e w1 ⟨rfl, hb⟩
      have HPF1 := Lib.hid (by first | exact HPF.out.upq hb | exact HPF.out.upqq hb)
      clear hb HC HPF
      have HFV : Hid (frV 0 1 = .agg #[.int .i64 (frU 0 1), .int .i64 (frD 0 1)]) := Lib.hid rfl
      rw [HFV.out]
      generalize frU 0 1 = U at *
      generalize frD 0 1 = D at *
      have HPF := HPF1
      clear HPF1
      have c0 := blk_cell HPF.out.box (i := 0) rfl
      have c1 := blk_cell HPF.out.box (i := 1) rfl
      have f0 := blk_frozen HPF.out.box 0
      have f1 := blk_frozen HPF.out.box 1
      go_wp2
      clear c0 c1 f0 f1
      have B1 := blk_set (blk_set HPF.out.box 0 (.int .i64 U)) 1 (.int .i64 D)
      have r0 := blk_cell B1 (i := 0) (v := .int .i64 U) rfl
      have r1 := blk_cell B1 (i := 1) (v := .int .i64 D) rfl
      have HBX := Lib.hid ((HPF.out.below.setCell (p := ⟨w.heap.size, 0, none⟩) (Nat.le_refl _) (.int .i64 U)).setCell (p := ⟨w.heap.size, 1, none⟩) (Nat.le_refl _) (.int .i64 D))
      clear B1 HPF
      generalize (w1.setCell ⟨w.heap.size, 0, none⟩ (.int .i64 U)).setCell ⟨w.heap.size, 1, none⟩ (.int .i64 D) = WE at *
      refine bodyPost_ret (v := .agg #[.int .i64 U, .int .i64 D]) (by simp [results, Try.results52, go_sem, r0, r1]) rfl ?_
      exact ⟨by rw [HFV.out], HBX.out⟩
    · have d3 : decide (s - t ≤ 0) = false := decide_eq_false h3
      have d4 : decide (0 ≤ s - t) = true := decide_eq_true (by omega)
      rw [(bar_one (by unfold HoldL; omega) (by omega)).1, (bar_one (by unfold HoldL; omega) (by omega)).2]
      have HC := Lib.hid (fun W => frac_any 1 1 W (by unfold Mid; omega) (by unfold Mid; omega) (by omega))
      go_enter Try.func52, Try.ntmps52
      go_wp2_with fail
      go_quiet (fail)
      go_wp2
      go_quiet (fail)
      clear c11 c21 c12 c22 r1 r2
      go_wp2_with fail
      refine (HC.out _).mono ?_
      rintro e w1 ⟨rfl, hb⟩
      have HPF1 := Lib.hid (by first | exact HPF.out.upq hb | exact HPF.out.upqq hb)
      clear hb HC HPF
      have HFV : Hid (frV 1 1 = .agg #[.int .i64 (frU 1 1), .int .i64 (frD 1 1)]) := Lib.hid rfl
      rw [HFV.out]
      generalize frU 1 1 = U at *
      generalize frD 1 1 = D at *
      have HPF := HPF1
      clear HPF1
      have c0 := blk_cell HPF.out.box (i := 0) rfl
      have c1 := blk_cell HPF.out.box (i := 1) rfl
      have f0 := blk_frozen HPF.out.box 0
      have f1 := blk_frozen HPF.out.box 1
      go_wp2
      clear c0 c1 f0 f1
      have B1 := blk_set (blk_set HPF.out.box 0 (.int .i64 U)) 1 (.int .i64 D)
      have r0 := blk_cell B1 (i := 0) (v := .int .i64 U) rfl
      have r1 := blk_cell B1 (i := 1) (v := .int .i64 D) rfl
      have HBX := Lib.hid ((HPF.out.below.setCell (p := ⟨w.heap.size, 0, none⟩) (Nat.le_refl _) (.int .i64 U)).setCell (p := ⟨w.heap.size, 1, none⟩) (Nat.le_refl _) (.int .i64 D))
      clear B1 HPF
      generalize (w1.setCell ⟨w.heap.size, 0, none⟩ (.int .i64 U)).setCell ⟨w.heap.size, 1, none⟩ (.int .i64 D) = WE at *
      refine bodyPost_ret (v := .agg #[.int .i64 U, .int .i64 D]) (by simp [results, Try.results52, go_sem, r0, r1]) rfl ?_
      exact ⟨by rw [HFV.out], HBX.out⟩
  · have e2 : (p - q == 0) = false := by rw [beq_eq_false_iff_ne]; exact h2
    by_cases h4 : 0 ≤ s - t
    · have d4 : decide (0 ≤ s - t) = true := decide_eq_true h4
      rw [(bar_one (by unfold HoldL; omega) (by omega)).1, (bar_one (by unfold HoldL; omega) (by omega)).2]
      have HC := Lib.hid (fun W => frac_any 1 1 W (by unfold Mid; omega) (by unfold Mid; omega) (by omega))
      go_enter Try.func52, Try.ntmps52
      go_wp2_with fail
      go_quiet (fail)
      go_wp2
      go_quiet (fail)
      clear c11 c21 c12 c22 r1 r2
      go_wp2_with fail
      refine (HC.out _).mono ?_
      rintro e w1 ⟨rfl, hb⟩
      have HPF1 := Lib.hid (by first | exact HPF.out.upq hb | exact HPF.out.upqq hb)
      clear hb HC HPF
      have HFV : Hid (frV 1 1 = .agg #[.int .i64 (frU 1 1), .int .i64 (frD 1 1)]) := Lib.hid rfl
      rw [HFV.out]
      generalize frU 1 1 = U at *
      generalize frD 1 1 = D at *
      have HPF := HPF1
      clear HPF1
      have c0 := blk_cell HPF.out.box (i := 0) rfl
      have c1 := blk_cell HPF.out.box (i := 1) rfl
      have f0 := blk_frozen HPF.out.box 0
      have f1 := blk_frozen HPF.out.box 1
      go_wp2
      clear c0 c1 f0 f1
      have B1 := blk_set (blk_set HPF.out.box 0 (.int .i64 U)) 1 (.int .i64 D)
      have r0 := blk_cell B1 (i := 0) (v := .int .i64 U) rfl
      have r1 := blk_cell B1 (i := 1) (v := .int .i64 D) rfl
      have HBX := Lib.hid ((HPF.out.below.setCell (p := ⟨w.heap.size, 0, none⟩) (Nat.le_refl _) (.int .i64 U)).setCell (p := ⟨w.heap.size, 1, none⟩) (Nat.le_refl _) (.int .i64 D))
      clear B1 HPF
      generalize (w1.setCell ⟨w.heap.size, 0, none⟩ (.int .i64 U)).setCell ⟨w.heap.size, 1, none⟩ (.int .i64 D) = WE at *
      refine bodyPost_ret (v := .agg #[.int .i64 U, .int .i64 D]) (by simp [results, Try.results52, go_sem, r0, r1]) rfl ?_
      exact ⟨by rw [HFV.out], HBX.out⟩
    · have d4 : decide (0 ≤ s - t) = false := decide_eq_false h4
      rw [(bar_mid (x := p - q) (y := s - t) (by unfold HoldL; omega) h4).1, (bar_mid (x := p - q) (y := s - t) (by unfold HoldL; omega) h4).2.1]
      have HC := Lib.hid (fun W => frac_any (p - q) (p - q - (s - t)) W (by unfold Mid; omega) (by unfold Mid; omega) (by omega))
      go_enter Try.func52, Try.ntmps52
      go_wp2_with fail
      go_quiet (fail)
      go_wp2
      go_quiet (fail)
      clear c11 c21 c12 c22 r1 r2
      go_wp2_with fail
      refine (HC.out _).mono ?_
      rintro e w1 ⟨rfl, hb⟩
      have HPF1 := Lib.hid (by first | exact HPF.out.upq hb | exact HPF.out.upqq hb)
      clear hb HC HPF
      have HFV : Hid (frV (p - q) (p - q - (s - t)) = .agg #[.int .i64 (frU (p - q) (p - q - (s - t))), .int .i64 (frD (p - q) (p - q - (s - t)))]) := Lib.hid rfl
      rw [HFV.out]
      generalize frU (p - q) (p - q - (s - t)) = U at *
      generalize frD (p - q) (p - q - (s - t)) = D at *
      have HPF := HPF1
      clear HPF1
      have c0 := blk_cell HPF.out.box (i := 0) rfl
      have c1 := blk_cell HPF.out.box (i := 1) rfl
      have f0 := blk_frozen HPF.out.box 0
      have f1 := blk_frozen HPF.out.box 1
      go_wp2
      clear c0 c1 f0 f1
      have B1 := blk_set (blk_set HPF.out.box 0 (.int .i64 U)) 1 (.int .i64 D)
      have r0 := blk_cell B1 (i := 0) (v := .int .i64 U) rfl
      have r1 := blk_cell B1 (i := 1) (v := .int .i64 D) rfl
      have HBX := Lib.hid ((HPF.out.below.setCell (p := ⟨w.heap.size, 0, none⟩) (Nat.le_refl _) (.int .i64 U)).setCell (p := ⟨w.heap.size, 1, none⟩) (Nat.le_refl _) (.int .i64 D))
      clear B1 HPF
      generalize (w1.setCell ⟨w.heap.size, 0, none⟩ (.int .i64 U)).setCell ⟨w.heap.size, 1, none⟩ (.int .i64 D) = WE at *
      refine bodyPost_ret (v := .agg #[.int .i64 U, .int .i64 D]) (by simp [results, Try.results52, go_sem, r0, r1]) rfl ?_
      exact ⟨by rw [HFV.out], HBX.out⟩

set_option maxHeartbeats 400000 in
theorem isStrategy_any (A : Option Addr) (n c : Nat) (i : Int) (w : World) (_ : n ≤ 5864062014805) :
    Calls Try.prog 53 #[.int .i64 i, .slice A n c] w fun e w' => e = .returned (.bool (pb (InR i 0 ((n : Int) - 1)))) ∧ Quiet w w' := by
  by_cases h1 : 0 ≤ i
  · by_cases h2 : i < (n : Int)
    · rw [pb_true (p := InR i 0 ((n : Int) - 1)) ⟨h1, by omega⟩]
      go_enter Try.func53, Try.ntmps53
      go_wp2
      go_ret
      exact ⟨rfl, Quiet.refl _⟩
    · rw [pb_false (p := InR i 0 ((n : Int) - 1)) (fun h => by have := h.2; omega)]
      have h2' : decide (i < (n : Int)) = false := decide_eq_false h2
      go_enter Try.func53, Try.ntmps53
      go_wp2
      go_ret
      exact ⟨rfl, Quiet.refl _⟩
  · rw [pb_false (p := InR i 0 ((n : Int) - 1)) (fun h => h1 h.1)]
    have h1' : decide (0 ≤ i) = false := decide_eq_false h1
    go_enter Try.func53, Try.ntmps53
    go_wp2
    go_ret
    exact ⟨rfl, Quiet.refl _⟩

set_option maxRecDepth 100000 in
set_option maxHeartbeats 3200000 in
theorem BarrierOf_spec (A : Option Addr) (n c : Nat) (a : List (List Int)) (i j : Int) (w : World) (hx : IntRows w A n c a) (_ : Fit i) (_ : Fit j) :
    Calls Try.prog 24 #[.slice A n c, .int .i64 i, .int .i64 j] w (Ret (.tuple #[barF a i j, .bool (pb (BOk a i j))]) w) := by
  have hmx := hx.max
  have HX := Lib.hid hx
  have hl := hx.len
  have HPF := Lib.hid (PF.start w)
  clear hx
  by_cases hv : VQ a
  · have hn1 := hv.1.n1
    have hn3 := hv.1.n3
    by_cases hi : InR i 0 ((n : Int) - 1)
    · by_cases hj : InR j 0 ((n : Int) - 1)
      · by_cases hij : i = j
        · have HNO := Lib.hid (show barF a i j = .agg #[.int .i64 0, .int .i64 0] ∧ pb (BOk a i j) = false from ⟨barF_no (fun h => h.ne hij), pb_false (fun h => h.ne hij)⟩)
          have HC := Lib.hid (pb_true hv ▸ validSquare_any A n c a _ (HX.out.keep HPF.out.keep))
          have HI := Lib.hid (fun W => pb_true hi ▸ inRange_any i 0 ((n : Int) - 1) W)
          have HJ := Lib.hid (fun W => pb_true hj ▸ inRange_any j 0 ((n : Int) - 1) W)
          subst hij
          clear hv
          go_enter Try.func24, Try.ntmps24
          go_wp2_with fail
          refine HC.out.mono ?_
          rintro e w1 ⟨rfl, hb⟩
          have HPF1 := Lib.hid (HPF.out.up hb.below)
          clear hb HC HPF
          go_wp2_with fail
          refine (HI.out _).mono ?_
          rintro e w2 ⟨rfl, rfl⟩
          clear HI
          go_wp2_with fail
          refine (HJ.out _).mono ?_
          rintro e w3 ⟨rfl, rfl⟩
          clear HJ
          have HPF := HPF1
          clear HPF1
          have c0 := blk_cell HPF.out.box (i := 0) rfl
          have c1 := blk_cell HPF.out.box (i := 1) rfl
          have f0 := blk_frozen HPF.out.box 0
          have f1 := blk_frozen HPF.out.box 1
          go_wp2
          clear c0 c1 f0 f1
          have B1 := blk_set (blk_set HPF.out.box 0 (.int .i64 0)) 1 (.int .i64 0)
          have r0 := blk_cell B1 (i := 0) (v := .int .i64 0) rfl
          have r1 := blk_cell B1 (i := 1) (v := .int .i64 0) rfl
          have HBX := Lib.hid ((HPF.out.below.setCell (p := ⟨w.heap.size, 0, none⟩) (Nat.le_refl _) (.int .i64 0)).setCell (p := ⟨w.heap.size, 1, none⟩) (Nat.le_refl _) (.int .i64 0))
          clear B1 HPF
          generalize (w1.setCell ⟨w.heap.size, 0, none⟩ (.int .i64 0)).setCell ⟨w.heap.size, 1, none⟩ (.int .i64 0) = WE at *
          refine bodyPost_ret (v := .tuple #[.agg #[.int .i64 0, .int .i64 0], .bool false]) (by simp [results, Try.results24, go_sem, r0, r1]) rfl ?_
          exact ⟨by rw [HNO.out.1, HNO.out.2], HBX.out⟩
        · have HOK := Lib.hid (show BOk a i j from ⟨hv, by rw [hl]; exact hi, by rw [hl]; exact hj, hij⟩)
          have HI := Lib.hid (fun W => pb_true hi ▸ inRange_any i 0 ((n : Int) - 1) W)
          have HJ := Lib.hid (fun W => pb_true hj ▸ inRange_any j 0 ((n : Int) - 1) W)
          have HC := Lib.hid (pb_true hv ▸ validSquare_any A n c a _ (HX.out.keep HPF.out.keep))
          have HQ := Lib.hid hv
          rw [barF_yes HOK.out, pb_true HOK.out]
          obtain ⟨i', rfl⟩ : ∃ i' : Nat, i = i' := ⟨i.toNat, by unfold InR at hi; omega⟩
          obtain ⟨j', rfl⟩ : ∃ j' : Nat, j = j' := ⟨j.toNat, by unfold InR at hj; omega⟩
          rw [Int.toNat_natCast, Int.toNat_natCast]
          have hi1 : i' < n := by unfold InR at hi; omega
          have hj1 : j' < n := by unfold InR at hj; omega
          have hne : ((i' : Int) == (j' : Int)) = false := by rw [beq_eq_false_iff_ne]; exact hij
          have HLB := Lib.hid (lead_bd hv hl hi1 hj1)
          clear hi hj hij hv HOK
          go_enter Try.func24, Try.ntmps24
          go_wp2_with fail
          refine HC.out.mono ?_
          rintro e w1 ⟨rfl, hb⟩
          have HPF1 := Lib.hid (HPF.out.up hb.below)
          clear hb HC HPF
          go_wp2_with fail
          refine (HI.out _).mono ?_
          rintro e w2 ⟨rfl, rfl⟩
          clear HI
          go_wp2_with fail
          refine (HJ.out _).mono ?_
          rintro e w3 ⟨rfl, rfl⟩
          clear HJ
          have HC := Lib.hid (barrier_any A n c a w1 i' j' (HX.out.keep HPF1.out.keep) HQ.out hi1 hj1)
          go_wp2_with fail
          refine HC.out.mono ?_
          rintro e w4 ⟨rfl, hb⟩
          have HPF4 := Lib.hid (HPF1.out.up hb)
          clear hb HC HPF1
          have HFV : Hid (frV (barU (leadI a i' j') (leadJ a i' j')) (barD (leadI a i' j') (leadJ a i' j')) = .agg #[.int .i64 (frU (barU (leadI a i' j') (leadJ a i' j')) (barD (leadI a i' j') (leadJ a i' j'))), .int .i64 (frD (barU (leadI a i' j') (leadJ a i' j')) (barD (leadI a i' j') (leadJ a i' j')))]) := Lib.hid rfl
          rw [HFV.out]
          generalize frU (barU (leadI a i' j') (leadJ a i' j')) (barD (leadI a i' j') (leadJ a i' j')) = U at *
          generalize frD (barU (leadI a i' j') (leadJ a i' j')) (barD (leadI a i' j') (leadJ a i' j')) = D at *
          have HPF := HPF4
          clear HPF4
          have c0 := blk_cell HPF.out.box (i := 0) rfl
          have c1 := blk_cell HPF.out.box (i := 1) rfl
          have f0 := blk_frozen HPF.out.box 0
          have f1 := blk_frozen HPF.out.box 1
          go_wp2
          clear c0 c1 f0 f1
          have B1 := blk_set (blk_set HPF.out.box 0 (.int .i64 U)) 1 (.int .i64 D)
          have r0 := blk_cell B1 (i := 0) (v := .int .i64 U) rfl
          have r1 := blk_cell B1 (i := 1) (v := .int .i64 D) rfl
          have HBX := Lib.hid ((HPF.out.below.setCell (p := ⟨w.heap.size, 0, none⟩) (Nat.le_refl _) (.int .i64 U)).setCell (p := ⟨w.heap.size, 1, none⟩) (Nat.le_refl _) (.int .i64 D))
          clear B1 HPF
          generalize (w4.setCell ⟨w.heap.size, 0, none⟩ (.int .i64 U)).setCell ⟨w.heap.size, 1, none⟩ (.int .i64 D) = WE at *
          refine bodyPost_ret (v := .tuple #[.agg #[.int .i64 U, .int .i64 D], .bool true]) (by simp [results, Try.results24, go_sem, r0, r1]) rfl ?_
          exact ⟨by rw [HFV.out], HBX.out⟩
      · have HNO := Lib.hid (show barF a i j = .agg #[.int .i64 0, .int .i64 0] ∧ pb (BOk a i j) = false from ⟨barF_no (fun h => hj (by have := h.rj; rw [hl] at this; exact this)), pb_false (fun h => hj (by have := h.rj; rw [hl] at this; exact this))⟩)
        have HC := Lib.hid (pb_true hv ▸ validSquare_any A n c a _ (HX.out.keep HPF.out.keep))
        have HI := Lib.hid (fun W => pb_true hi ▸ inRange_any i 0 ((n : Int) - 1) W)
        have HJ := Lib.hid (fun W => pb_false hj ▸ inRange_any j 0 ((n : Int) - 1) W)
        clear hv
        go_enter Try.func24, Try.ntmps24
        go_wp2_with fail
        refine HC.out.mono ?_
        rintro e w1 ⟨rfl, hb⟩
        have HPF1 := Lib.hid (HPF.out.up hb.below)
        clear hb HC HPF
        go_wp2_with fail
        refine (HI.out _).mono ?_
        rintro e w2 ⟨rfl, rfl⟩
        clear HI
        go_wp2_with fail
        refine (HJ.out _).mono ?_
        rintro e w3 ⟨rfl, rfl⟩
        clear HJ
        have HPF := HPF1
        clear HPF1
        have c0 := blk_cell HPF.out.box (i := 0) rfl
        have c1 := blk_cell HPF.out.box (i := 1) rfl
        have f0 := blk_frozen HPF.out.box 0
        have f1 := blk_frozen HPF.out.box 1
        go_wp2
        clear c0 c1 f0 f1
        have B1 := blk_set (blk_set HPF.out.box 0 (.int .i64 0)) 1 (.int .i64 0)
        have r0 := blk_cell B1 (i := 0) (v := .int .i64 0) rfl
        have r1 := blk_cell B1 (i := 1) (v := .int .i64 0) rfl
        have HBX := Lib.hid ((HPF.out.below.setCell (p := ⟨w.heap.size, 0, none⟩) (Nat.le_refl _) (.int .i64 0)).setCell (p := ⟨w.heap.size, 1, none⟩) (Nat.le_refl _) (.int .i64 0))
        clear B1 HPF
        generalize (w1.setCell ⟨w.heap.size, 0, none⟩ (.int .i64 0)).setCell ⟨w.heap.size, 1, none⟩ (.int .i64 0) = WE at *
        refine bodyPost_ret (v := .tuple #[.agg #[.int .i64 0, .int .i64 0], .bool false]) (by simp [results, Try.results24, go_sem, r0, r1]) rfl ?_
        exact ⟨by rw [HNO.out.1, HNO.out.2], HBX.out⟩
    · have HNO := Lib.hid (show barF a i j = .agg #[.int .i64 0, .int .i64 0] ∧ pb (BOk a i j) = false from ⟨barF_no (fun h => hi (by have := h.ri; rw [hl] at this; exact this)), pb_false (fun h => hi (by have := h.ri; rw [hl] at this; exact this))⟩)
      have HC := Lib.hid (pb_true hv ▸ validSquare_any A n c a _ (HX.out.keep HPF.out.keep))
      have HI := Lib.hid (fun W => pb_false hi ▸ inRange_any i 0 ((n : Int) - 1) W)
      clear hv
      go_enter Try.func24, Try.ntmps24
      go_wp2_with fail
      refine HC.out.mono ?_
      rintro e w1 ⟨rfl, hb⟩
      have HPF1 := Lib.hid (HPF.out.up hb.below)
      clear hb HC HPF
      go_wp2_with fail
      refine (HI.out _).mono ?_
      rintro e w2 ⟨rfl, rfl⟩
      clear HI
      have HPF := HPF1
      clear HPF1
      have c0 := blk_cell HPF.out.box (i := 0) rfl
      have c1 := blk_cell HPF.out.box (i := 1) rfl
      have f0 := blk_frozen HPF.out.box 0
      have f1 := blk_frozen HPF.out.box 1
      go_wp2
      clear c0 c1 f0 f1
      have B1 := blk_set (blk_set HPF.out.box 0 (.int .i64 0)) 1 (.int .i64 0)
      have r0 := blk_cell B1 (i := 0) (v := .int .i64 0) rfl
      have r1 := blk_cell B1 (i := 1) (v := .int .i64 0) rfl
      have HBX := Lib.hid ((HPF.out.below.setCell (p := ⟨w.heap.size, 0, none⟩) (Nat.le_refl _) (.int .i64 0)).setCell (p := ⟨w.heap.size, 1, none⟩) (Nat.le_refl _) (.int .i64 0))
      clear B1 HPF
      generalize (w1.setCell ⟨w.heap.size, 0, none⟩ (.int .i64 0)).setCell ⟨w.heap.size, 1, none⟩ (.int .i64 0) = WE at *
      refine bodyPost_ret (v := .tuple #[.agg #[.int .i64 0, .int .i64 0], .bool false]) (by simp [results, Try.results24, go_sem, r0, r1]) rfl ?_
      exact ⟨by rw [HNO.out.1, HNO.out.2], HBX.out⟩
  · have HNO := Lib.hid (show barF a i j = .agg #[.int .i64 0, .int .i64 0] ∧ pb (BOk a i j) = false from ⟨barF_no (fun h => hv h.q), pb_false (fun h => hv h.q)⟩)
    have HC := Lib.hid (pb_false hv ▸ validSquare_any A n c a _ (HX.out.keep HPF.out.keep))
    clear hv
    go_enter Try.func24, Try.ntmps24
    go_wp2_with fail
    refine HC.out.mono ?_
    rintro e w1 ⟨rfl, hb⟩
    have HPF1 := Lib.hid (HPF.out.up hb.below)
    clear hb HC HPF
    have HPF := HPF1
    clear HPF1
    have c0 := blk_cell HPF.out.box (i := 0) rfl
    have c1 := blk_cell HPF.out.box (i := 1) rfl
    have f0 := blk_frozen HPF.out.box 0
    have f1 := blk_frozen HPF.out.box 1
    go_wp2
    clear c0 c1 f0 f1
    have B1 := blk_set (blk_set HPF.out.box 0 (.int .i64 0)) 1 (.int .i64 0)
    have r0 := blk_cell B1 (i := 0) (v := .int .i64 0) rfl
    have r1 := blk_cell B1 (i := 1) (v := .int .i64 0) rfl
    have HBX := Lib.hid ((HPF.out.below.setCell (p := ⟨w.heap.size, 0, none⟩) (Nat.le_refl _) (.int .i64 0)).setCell (p := ⟨w.heap.size, 1, none⟩) (Nat.le_refl _) (.int .i64 0))
    clear B1 HPF
    generalize (w1.setCell ⟨w.heap.size, 0, none⟩ (.int .i64 0)).setCell ⟨w.heap.size, 1, none⟩ (.int .i64 0) = WE at *
    refine bodyPost_ret (v := .tuple #[.agg #[.int .i64 0, .int .i64 0], .bool false]) (by simp [results, Try.results24, go_sem, r0, r1]) rfl ?_
    exact ⟨by rw [HNO.out.1, HNO.out.2], HBX.out⟩

set_option maxRecDepth 100000 in
set_option maxHeartbeats 3200000 in
theorem BarrierOf_impl (A : Option Addr) (n c : Nat) (a : List (List Int)) (i j : Int) (w : World) (hx : IntRows w A n c a) (_ : Fit i) (_ : Fit j) :
    Calls Try.prog 25 #[.slice A n c, .int .i64 i, .int .i64 j] w (Ret (.tuple #[barF a i j, .bool (pb (BOk a i j))]) w) := by
  have hmx := hx.max
  have HX := Lib.hid hx
  have hl := hx.len
  have HPF := Lib.hid (PF.start w)
  clear hx
  by_cases hv : VQ a
  · have hn1 := hv.1.n1
    have hn3 := hv.1.n3
    by_cases hi : InR i 0 ((n : Int) - 1)
    · by_cases hj : InR j 0 ((n : Int) - 1)
      · by_cases hij : i = j
        · have HNO := Lib.hid (show barF a i j = .agg #[.int .i64 0, .int .i64 0] ∧ pb (BOk a i j) = false from ⟨barF_no (fun h => h.ne hij), pb_false (fun h => h.ne hij)⟩)
          have HC := Lib.hid (pb_true hv ▸ ValidSquare_impl A n c a _ (HX.out.keep HPF.out.keep))
          have HI := Lib.hid (fun W => pb_true hi ▸ isStrategy_any A n c i W hmx)
          have HJ := Lib.hid (fun W => pb_true hj ▸ isStrategy_any A n c j W hmx)
          subst hij
          clear hv
          go_enter Try.func25, Try.ntmps25
          go_wp2_with fail
          refine HC.out.mono ?_
          rintro e w1 ⟨rfl, hb⟩
          have HPF1 := Lib.hid (HPF.out.up hb.below)
          clear hb HC HPF
          go_wp2_with fail
          refine (HI.out _).mono ?_
          rintro e w2 ⟨rfl, hb⟩
          have HPF2 := Lib.hid (HPF1.out.up hb.below)
          clear hb HI HPF1
          go_wp2_with fail
          refine (HJ.out _).mono ?_
          rintro e w3 ⟨rfl, hb⟩
          have HPF3 := Lib.hid (HPF2.out.up hb.below)
          clear hb HJ HPF2
          have HPF := HPF3
          clear HPF3
          have c0 := blk_cell HPF.out.box (i := 0) rfl
          have c1 := blk_cell HPF.out.box (i := 1) rfl
          have f0 := blk_frozen HPF.out.box 0
          have f1 := blk_frozen HPF.out.box 1
          go_wp2
          clear c0 c1 f0 f1
          have B1 := blk_set (blk_set HPF.out.box 0 (.int .i64 0)) 1 (.int .i64 0)
          have r0 := blk_cell B1 (i := 0) (v := .int .i64 0) rfl
          have r1 := blk_cell B1 (i := 1) (v := .int .i64 0) rfl
          have HBX := Lib.hid ((HPF.out.below.setCell (p := ⟨w.heap.size, 0, none⟩) (Nat.le_refl _) (.int .i64 0)).setCell (p := ⟨w.heap.size, 1, none⟩) (Nat.le_refl _) (.int .i64 0))
          clear B1 HPF
          generalize (w3.setCell ⟨w.heap.size, 0, none⟩ (.int .i64 0)).setCell ⟨w.heap.size, 1, none⟩ (.int .i64 0) = WE at *
          refine bodyPost_ret (v := .tuple #[.agg #[.int .i64 0, .int .i64 0], .bool false]) (by simp [results, Try.results25, go_sem, r0, r1]) rfl ?_
          exact ⟨by rw [HNO.out.1, HNO.out.2], HBX.out⟩
        · have HOK := Lib.hid (show BOk a i j from ⟨hv, by rw [hl]; exact hi, by rw [hl]; exact hj, hij⟩)
          have HI := Lib.hid (fun W => pb_true hi ▸ isStrategy_any A n c i W hmx)
          have HJ := Lib.hid (fun W => pb_true hj ▸ isStrategy_any A n c j W hmx)
          have HC := Lib.hid (pb_true hv ▸ ValidSquare_impl A n c a _ (HX.out.keep HPF.out.keep))
          have HQ := Lib.hid hv
          rw [barF_yes HOK.out, pb_true HOK.out]
          obtain ⟨i', rfl⟩ : ∃ i' : Nat, i = i' := ⟨i.toNat, by unfold InR at hi; omega⟩
          obtain ⟨j', rfl⟩ : ∃ j' : Nat, j = j' := ⟨j.toNat, by unfold InR at hj; omega⟩
          rw [Int.toNat_natCast, Int.toNat_natCast]
          have hi1 : i' < n := by unfold InR at hi; omega
          have hj1 : j' < n := by unfold InR at hj; omega
          have hne : ((i' : Int) == (j' : Int)) = false := by rw [beq_eq_false_iff_ne]; exact hij
          have HLB := Lib.hid (lead_bd hv hl hi1 hj1)
          clear hi hj hij hv HOK
          go_enter Try.func25, Try.ntmps25
          go_wp2_with fail
          refine HC.out.mono ?_
          rintro e w1 ⟨rfl, hb⟩
          have HPF1 := Lib.hid (HPF.out.up hb.below)
          clear hb HC HPF
          go_wp2_with fail
          refine (HI.out _).mono ?_
          rintro e w2 ⟨rfl, hb⟩
          have HPF2 := Lib.hid (HPF1.out.up hb.below)
          clear hb HI HPF1
          go_wp2_with fail
          refine (HJ.out _).mono ?_
          rintro e w3 ⟨rfl, hb⟩
          have HPF3 := Lib.hid (HPF2.out.up hb.below)
          clear hb HJ HPF2
          have HC := Lib.hid (leadsOf_any A n c a w3 i' j' (HX.out.keep HPF3.out.keep) HQ.out hi1 hj1)
          go_wp2_with fail
          refine HC.out.mono ?_
          rintro e w4 ⟨rfl, hb⟩
          have HPF4 := Lib.hid (HPF3.out.up hb)
          clear hb HC HPF3
          obtain ⟨⟨x1, x2⟩, y1, y2⟩ := HLB.out
          clear HLB
          generalize leadI a i' j' = x at *
          generalize leadJ a i' j' = y at *
          have HK := Lib.hid (fun W => holdsL_any x y W)
          by_cases hh : HoldL x y
          · rw [pb_true hh] at HK
            by_cases hy : 0 ≤ y
            · have HBE := Lib.hid (show frV (barU x y) (barD x y) = frV 1 1 by rw [(bar_one hh hy).1, (bar_one hh hy).2])
              clear hh
              go_wp2_with fail
              refine (HK.out _).mono ?_
              rintro e w20 ⟨rfl, hb⟩
              have HPF20 := Lib.hid (HPF4.out.up hb.below)
              clear hb HK HPF4
              have HC := Lib.hid (fracOf_any 1 1 w20 (by unfold Mid; omega) (by unfold Mid; omega) (by omega))
              go_wp2_with fail
              refine HC.out.mono ?_
              rintro e w21 ⟨rfl, hb⟩
              have HPF21 := Lib.hid (HPF20.out.up hb)
              clear hb HC HPF20
              have HFV : Hid (frV 1 1 = .agg #[.int .i64 (frU 1 1), .int .i64 (frD 1 1)]) := Lib.hid rfl
              rw [HFV.out]
              generalize frU 1 1 = U at *
              generalize frD 1 1 = D at *
              have HPF := HPF21
              clear HPF21
              have c0 := blk_cell HPF.out.box (i := 0) rfl
              have c1 := blk_cell HPF.out.box (i := 1) rfl
              have f0 := blk_frozen HPF.out.box 0
              have f1 := blk_frozen HPF.out.box 1
              go_wp2
              clear c0 c1 f0 f1
              have B1 := blk_set (blk_set HPF.out.box 0 (.int .i64 U)) 1 (.int .i64 D)
              have r0 := blk_cell B1 (i := 0) (v := .int .i64 U) rfl
              have r1 := blk_cell B1 (i := 1) (v := .int .i64 D) rfl
              have HBX := Lib.hid ((HPF.out.below.setCell (p := ⟨w.heap.size, 0, none⟩) (Nat.le_refl _) (.int .i64 U)).setCell (p := ⟨w.heap.size, 1, none⟩) (Nat.le_refl _) (.int .i64 D))
              clear B1 HPF
              generalize (w21.setCell ⟨w.heap.size, 0, none⟩ (.int .i64 U)).setCell ⟨w.heap.size, 1, none⟩ (.int .i64 D) = WE at *
              refine bodyPost_ret (v := .tuple #[.agg #[.int .i64 U, .int .i64 D], .bool true]) (by simp [results, Try.results25, go_sem, r0, r1]) rfl ?_
              exact ⟨by rw [HBE.out, HFV.out], HBX.out⟩
            · obtain ⟨hu, hd, hp⟩ := bar_mid hh hy
              have HBE := Lib.hid (show frV (barU x y) (barD x y) = frV x (x - y) by rw [hu, hd])
              clear hh hu hd
              go_wp2_with fail
              refine (HK.out _).mono ?_
              rintro e w20 ⟨rfl, hb⟩
              have HPF20 := Lib.hid (HPF4.out.up hb.below)
              clear hb HK HPF4
              have HC := Lib.hid (fracOf_any x (x - y) w20 (by unfold Mid; omega) (by unfold Mid; omega) (by omega))
              go_wp2_with fail
              refine HC.out.mono ?_
              rintro e w21 ⟨rfl, hb⟩
              have HPF21 := Lib.hid (HPF20.out.up hb)
              clear hb HC HPF20
              have HFV : Hid (frV x (x - y) = .agg #[.int .i64 (frU x (x - y)), .int .i64 (frD x (x - y))]) := Lib.hid rfl
              rw [HFV.out]
              generalize frU x (x - y) = U at *
              generalize frD x (x - y) = D at *
              have HPF := HPF21
              clear HPF21
              have c0 := blk_cell HPF.out.box (i := 0) rfl
              have c1 := blk_cell HPF.out.box (i := 1) rfl
              have f0 := blk_frozen HPF.out.box 0
              have f1 := blk_frozen HPF.out.box 1
              go_wp2
              clear c0 c1 f0 f1
              have B1 := blk_set (blk_set HPF.out.box 0 (.int .i64 U)) 1 (.int .i64 D)
              have r0 := blk_cell B1 (i := 0) (v := .int .i64 U) rfl
              have r1 := blk_cell B1 (i := 1) (v := .int .i64 D) rfl
              have HBX := Lib.hid ((HPF.out.below.setCell (p := ⟨w.heap.size, 0, none⟩) (Nat.le_refl _) (.int .i64 U)).setCell (p := ⟨w.heap.size, 1, none⟩) (Nat.le_refl _) (.int .i64 D))
              clear B1 HPF
              generalize (w21.setCell ⟨w.heap.size, 0, none⟩ (.int .i64 U)).setCell ⟨w.heap.size, 1, none⟩ (.int .i64 D) = WE at *
              refine bodyPost_ret (v := .tuple #[.agg #[.int .i64 U, .int .i64 D], .bool true]) (by simp [results, Try.results25, go_sem, r0, r1]) rfl ?_
              exact ⟨by rw [HBE.out, HFV.out], HBX.out⟩
          · rw [pb_false hh] at HK
            have HBE := Lib.hid (show frV (barU x y) (barD x y) = frV 0 1 by rw [(bar_no hh).1, (bar_no hh).2])
            clear hh
            go_wp2_with fail
            refine (HK.out _).mono ?_
            rintro e w20 ⟨rfl, hb⟩
            have HPF20 := Lib.hid (HPF4.out.up hb.below)
            clear hb HK HPF4
            have HC := Lib.hid (fracOf_any 0 1 w20 (by unfold Mid; omega) (by unfold Mid; omega) (by omega))
            go_wp2_with fail
            refine HC.out.mono ?_
            rintro e w21 ⟨rfl, hb⟩
            have HPF21 := Lib.hid (HPF20.out.up hb)
            clear hb HC HPF20
            have HFV : Hid (frV 0 1 = .agg #[.int .i64 (frU 0 1), .int .i64 (frD 0 1)]) := Lib.hid rfl
            rw [HFV.out]
            generalize frU 0 1 = U at *
            generalize frD 0 1 = D at *
            have HPF := HPF21
            clear HPF21
            have c0 := blk_cell HPF.out.box (i := 0) rfl
            have c1 := blk_cell HPF.out.box (i := 1) rfl
            have f0 := blk_frozen HPF.out.box 0
            have f1 := blk_frozen HPF.out.box 1
            go_wp2
            clear c0 c1 f0 f1
            have B1 := blk_set (blk_set HPF.out.box 0 (.int .i64 U)) 1 (.int .i64 D)
            have r0 := blk_cell B1 (i := 0) (v := .int .i64 U) rfl
            have r1 := blk_cell B1 (i := 1) (v := .int .i64 D) rfl
            have HBX := Lib.hid ((HPF.out.below.setCell (p := ⟨w.heap.size, 0, none⟩) (Nat.le_refl _) (.int .i64 U)).setCell (p := ⟨w.heap.size, 1, none⟩) (Nat.le_refl _) (.int .i64 D))
            clear B1 HPF
            generalize (w21.setCell ⟨w.heap.size, 0, none⟩ (.int .i64 U)).setCell ⟨w.heap.size, 1, none⟩ (.int .i64 D) = WE at *
            refine bodyPost_ret (v := .tuple #[.agg #[.int .i64 U, .int .i64 D], .bool true]) (by simp [results, Try.results25, go_sem, r0, r1]) rfl ?_
            exact ⟨by rw [HBE.out, HFV.out], HBX.out⟩
      · have HNO := Lib.hid (show barF a i j = .agg #[.int .i64 0, .int .i64 0] ∧ pb (BOk a i j) = false from ⟨barF_no (fun h => hj (by have := h.rj; rw [hl] at this; exact this)), pb_false (fun h => hj (by have := h.rj; rw [hl] at this; exact this))⟩)
        have HC := Lib.hid (pb_true hv ▸ ValidSquare_impl A n c a _ (HX.out.keep HPF.out.keep))
        have HI := Lib.hid (fun W => pb_true hi ▸ isStrategy_any A n c i W hmx)
        have HJ := Lib.hid (fun W => pb_false hj ▸ isStrategy_any A n c j W hmx)
        clear hv
        go_enter Try.func25, Try.ntmps25
        go_wp2_with fail
        refine HC.out.mono ?_
        rintro e w1 ⟨rfl, hb⟩
        have HPF1 := Lib.hid (HPF.out.up hb.below)
        clear hb HC HPF
        go_wp2_with fail
        refine (HI.out _).mono ?_
        rintro e w2 ⟨rfl, hb⟩
        have HPF2 := Lib.hid (HPF1.out.up hb.below)
        clear hb HI HPF1
        go_wp2_with fail
        refine (HJ.out _).mono ?_
        rintro e w3 ⟨rfl, hb⟩
        have HPF3 := Lib.hid (HPF2.out.up hb.below)
        clear hb HJ HPF2
        have HPF := HPF3
        clear HPF3
        have c0 := blk_cell HPF.out.box (i := 0) rfl
        have c1 := blk_cell HPF.out.box (i := 1) rfl
        have f0 := blk_frozen HPF.out.box 0
        have f1 := blk_frozen HPF.out.box 1
        go_wp2
        clear c0 c1 f0 f1
        have B1 := blk_set (blk_set HPF.out.box 0 (.int .i64 0)) 1 (.int .i64 0)
        have r0 := blk_cell B1 (i := 0) (v := .int .i64 0) rfl
        have r1 := blk_cell B1 (i := 1) (v := .int .i64 0) rfl
        have HBX := Lib.hid ((HPF.out.below.setCell (p := ⟨w.heap.size, 0, none⟩) (Nat.le_refl _) (.int .i64 0)).setCell (p := ⟨w.heap.size, 1, none⟩) (Nat.le_refl _) (.int .i64 0))
        clear B1 HPF
        generalize (w3.setCell ⟨w.heap.size, 0, none⟩ (.int .i64 0)).setCell ⟨w.heap.size, 1, none⟩ (.int .i64 0) = WE at *
        refine bodyPost_ret (v := .tuple #[.agg #[.int .i64 0, .int .i64 0], .bool false]) (by simp [results, Try.results25, go_sem, r0, r1]) rfl ?_
        exact ⟨by rw [HNO.out.1, HNO.out.2], HBX.out⟩
    · have HNO := Lib.hid (show barF a i j = .agg #[.int .i64 0, .int .i64 0] ∧ pb (BOk a i j) = false from ⟨barF_no (fun h => hi (by have := h.ri; rw [hl] at this; exact this)), pb_false (fun h => hi (by have := h.ri; rw [hl] at this; exact this))⟩)
      have HC := Lib.hid (pb_true hv ▸ ValidSquare_impl A n c a _ (HX.out.keep HPF.out.keep))
      have HI := Lib.hid (fun W => pb_false hi ▸ isStrategy_any A n c i W hmx)
      clear hv
      go_enter Try.func25, Try.ntmps25
      go_wp2_with fail
      refine HC.out.mono ?_
      rintro e w1 ⟨rfl, hb⟩
      have HPF1 := Lib.hid (HPF.out.up hb.below)
      clear hb HC HPF
      go_wp2_with fail
      refine (HI.out _).mono ?_
      rintro e w2 ⟨rfl, hb⟩
      have HPF2 := Lib.hid (HPF1.out.up hb.below)
      clear hb HI HPF1
      have HPF := HPF2
      clear HPF2
      have c0 := blk_cell HPF.out.box (i := 0) rfl
      have c1 := blk_cell HPF.out.box (i := 1) rfl
      have f0 := blk_frozen HPF.out.box 0
      have f1 := blk_frozen HPF.out.box 1
      go_wp2
      clear c0 c1 f0 f1
      have B1 := blk_set (blk_set HPF.out.box 0 (.int .i64 0)) 1 (.int .i64 0)
      have r0 := blk_cell B1 (i := 0) (v := .int .i64 0) rfl
      have r1 := blk_cell B1 (i := 1) (v := .int .i64 0) rfl
      have HBX := Lib.hid ((HPF.out.below.setCell (p := ⟨w.heap.size, 0, none⟩) (Nat.le_refl _) (.int .i64 0)).setCell (p := ⟨w.heap.size, 1, none⟩) (Nat.le_refl _) (.int .i64 0))
      clear B1 HPF
      generalize (w2.setCell ⟨w.heap.size, 0, none⟩ (.int .i64 0)).setCell ⟨w.heap.size, 1, none⟩ (.int .i64 0) = WE at *
      refine bodyPost_ret (v := .tuple #[.agg #[.int .i64 0, .int .i64 0], .bool false]) (by simp [results, Try.results25, go_sem, r0, r1]) rfl ?_
      exact ⟨by rw [HNO.out.1, HNO.out.2], HBX.out⟩
  · have HNO := Lib.hid (show barF a i j = .agg #[.int .i64 0, .int .i64 0] ∧ pb (BOk a i j) = false from ⟨barF_no (fun h => hv h.q), pb_false (fun h => hv h.q)⟩)
    have HC := Lib.hid (pb_false hv ▸ ValidSquare_impl A n c a _ (HX.out.keep HPF.out.keep))
    clear hv
    go_enter Try.func25, Try.ntmps25
    go_wp2_with fail
    refine HC.out.mono ?_
    rintro e w1 ⟨rfl, hb⟩
    have HPF1 := Lib.hid (HPF.out.up hb.below)
    clear hb HC HPF
    have HPF := HPF1
    clear HPF1
    have c0 := blk_cell HPF.out.box (i := 0) rfl
    have c1 := blk_cell HPF.out.box (i := 1) rfl
    have f0 := blk_frozen HPF.out.box 0
    have f1 := blk_frozen HPF.out.box 1
    go_wp2
    clear c0 c1 f0 f1
    have B1 := blk_set (blk_set HPF.out.box 0 (.int .i64 0)) 1 (.int .i64 0)
    have r0 := blk_cell B1 (i := 0) (v := .int .i64 0) rfl
    have r1 := blk_cell B1 (i := 1) (v := .int .i64 0) rfl
    have HBX := Lib.hid ((HPF.out.below.setCell (p := ⟨w.heap.size, 0, none⟩) (Nat.le_refl _) (.int .i64 0)).setCell (p := ⟨w.heap.size, 1, none⟩) (Nat.le_refl _) (.int .i64 0))
    clear B1 HPF
    generalize (w1.setCell ⟨w.heap.size, 0, none⟩ (.int .i64 0)).setCell ⟨w.heap.size, 1, none⟩ (.int .i64 0) = WE at *
    refine bodyPost_ret (v := .tuple #[.agg #[.int .i64 0, .int .i64 0], .bool false]) (by simp [results, Try.results25, go_sem, r0, r1]) rfl ?_
    exact ⟨by rw [HNO.out.1, HNO.out.2], HBX.out⟩

end Go.Proofs.Ytgmcmblcljfofaa

/- Rests, by both programs. -/
namespace Go.Proofs.Ytgmcmblcljfofaa
open Go.RowKit

/-- No strategy has more than one with a share. -/
def RestP (a : List (List Int)) (w : List Int) (n : Nat) : Prop := ∀ i, i < n → 0 < gi w i → ∀ k, k < n → dotr a w k n ≤ dotr a w i n
structure RQ (a : List (List Int)) (w : List Int) : Prop where
  q : VQ a
  s : VS w a.length
  r : RestP a w a.length

set_option maxRecDepth 100000 in
set_option maxHeartbeats 3200000 in
theorem noneHasMore_any (a : List (List Int)) (w : List Int) (n pa pw b o c cw : Nat) (rb ro cc : Nat → Nat) (Y : Option Addr) (W : World) (h : PA a w n pa pw b o c cw rb ro cc Y W) :
    Calls Try.prog 60 #[.func (.func 85) #[] #[.pointer (some ⟨pa, 0, none⟩), .pointer (some ⟨pw, 0, none⟩)], .slice Y n cw] W (Ret (.bool (pb (RestP a w n))) W) := by
  have H := Lib.hid h
  have hn1 := h.tab.n1
  have hn3 := h.tab.n3
  obtain ⟨by_, oy, rfl, hcy⟩ := h.sh.at_ (by omega)
  have HY := Lib.hid hcy
  clear h hcy
  go_enter Try.func60, Try.ntmps60
  go_wp2
  go_loopw [10] (fun i_ wr => ∃ i : Nat, i ≤ n ∧ i_ = .int .i64 i ∧ Hid (∀ j, j < i → 0 < gi w j → ∀ k, k < n → dotr a w k n ≤ dotr a w j n) ∧ Hid (Below W.heap.size W wr)) (fun i_ _ => n - (intOf i_).toNat)
  case atStart => exact ⟨0, Nat.zero_le _, rfl, Lib.hid (fun _ h => absurd h (by omega)), Lib.hid (Below.refl _ _)⟩
  case round =>
    obtain ⟨i, hi, rfl, HALL, HB⟩ := hrel
    by_cases hlt : i < n
    · have c1 := Keep.below HB.out _ _ (HY.out i hlt)
      have HSI := Lib.hid (H.out.bd i hlt)
      generalize hs : gi w i = s at *
      have HS := Lib.hid hs
      clear hs
      go_wp2
      clear c1
      go_loopw [17] (fun k_ wi => ∃ k : Nat, k ≤ n ∧ k_ = .int .i64 k ∧ Hid (0 < s → ∀ l, l < k → dotr a w l n ≤ dotr a w i n) ∧ Hid (Below W.heap.size W wi)) (fun k_ _ => n - (intOf k_).toNat)
      case atStart => exact ⟨0, Nat.zero_le _, rfl, Lib.hid (fun _ _ h => absurd h (by omega)), HB⟩
      case round =>
        clear HB
        obtain ⟨k, hk, rfl, HK, HB⟩ := hrel
        by_cases hkl : k < n
        · by_cases hp : 0 < s
          · have HC := Lib.hid (payAt_any a w n pa pw b o c cw rb ro cc _ wr (H.out.keep (Keep.below HB.out)) k hkl)
            by_cases hle : dotr a w k n ≤ dotr a w i n
            · have HN := Lib.hid (show 0 < s → ∀ l, l < k + 1 → dotr a w l n ≤ dotr a w i n from fun h l hl => by
                by_cases e : l = k
                · subst e; exact hle
                · exact HK.out h l (by omega))
              have hng : ¬ dotr a w i n < dotr a w k n := by omega
              generalize hgx : dotr a w k n = x at *
              generalize hgy : dotr a w i n = y at *
              have HXX := Lib.hid hgx
              have HYY := Lib.hid hgy
              clear hgx hgy
              have HP := Lib.hid hp
              go_wp2_with fail
              refine HC.out.mono ?_
              rintro e w1 ⟨rfl, hb⟩
              have HB1 := Lib.hid (below_up HB.out hb)
              clear hb HC HB
              have HC := Lib.hid (HYY.out ▸ payAt_any a w n pa pw b o c cw rb ro cc _ w1 (H.out.keep (Keep.below HB1.out)) i hlt)
              go_wp2_with fail
              refine HC.out.mono ?_
              rintro e w2 ⟨rfl, hb⟩
              have HB2 := Lib.hid (below_up HB1.out hb)
              clear hb HC HB1
              go_wp2
              go_roundw
              case rel => exact ⟨k + 1, by omega, by go_num, HN, HB2⟩
              case measure => simp [intOf]; omega
            · have HN := Lib.hid (pb_false (p := RestP a w n) (fun h => hle (h i hlt (by rw [HS.out]; exact hp) k hkl)))
              have hng : dotr a w i n < dotr a w k n := by omega
              generalize hgx : dotr a w k n = x at *
              generalize hgy : dotr a w i n = y at *
              have HYY := Lib.hid hgy
              clear hgx hgy
              go_wp2_with fail
              refine HC.out.mono ?_
              rintro e w1 ⟨rfl, hb⟩
              have HB1 := Lib.hid (below_up HB.out hb)
              clear hb HC HB
              have HC := Lib.hid (HYY.out ▸ payAt_any a w n pa pw b o c cw rb ro cc _ w1 (H.out.keep (Keep.below HB1.out)) i hlt)
              go_wp2_with fail
              refine HC.out.mono ?_
              rintro e w2 ⟨rfl, hb⟩
              have HB2 := Lib.hid (below_up HB1.out hb)
              clear hb HC HB1
              go_wp2
              go_ret
              exact ⟨ret_bool HN.out.symm, HB2.out⟩
          · have hd : decide (0 < s) = false := decide_eq_false hp
            have HN := Lib.hid (show 0 < s → ∀ l, l < k + 1 → dotr a w l n ≤ dotr a w i n from fun h => absurd h hp)
            go_wp2
            go_roundw
            case rel => exact ⟨k + 1, by omega, by go_num, HN, HB⟩
            case measure => simp [intOf]; omega
        · obtain rfl : k = n := by omega
          have HN := Lib.hid (show ∀ j, j < i + 1 → 0 < gi w j → ∀ l, l < k → dotr a w l k ≤ dotr a w j k from fun j hj hp l hl => by
            by_cases e : j = i
            · subst e; exact HK.out (by rw [← HS.out]; exact hp) l hl
            · exact HALL.out j (by omega) hp l hl)
          go_wp2
          go_roundw
          case rel => exact ⟨i + 1, by omega, by go_num, HN, HB⟩
          case measure => simp [intOf]; omega
    · obtain rfl : i = n := by omega
      have HN := Lib.hid (pb_true (p := RestP a w i) (fun j hj hp k hk => HALL.out j hj hp k hk))
      go_wp2
      go_ret
      exact ⟨ret_bool HN.out.symm, HB.out⟩

/-- The greatest of the first k values. -/
def mxd (f : Nat → Int) : Nat → Int
  | 0 => 0
  | k + 1 => if k = 0 ∨ mxd f k < f k then f k else mxd f k
theorem mxd_up {f : Nat → Int} {k : Nat} (h : k = 0 ∨ mxd f k < f k) : mxd f (k + 1) = f k := by rw [mxd, if_pos h]
theorem mxd_same {f : Nat → Int} {k : Nat} (h : ¬ (k = 0 ∨ mxd f k < f k)) : mxd f (k + 1) = mxd f k := by rw [mxd, if_neg h]
theorem mxd_ge (f : Nat → Int) : ∀ {k i}, i < k → f i ≤ mxd f k
  | 0, _, h => absurd h (by omega)
  | k + 1, i, h => by
    by_cases hu : k = 0 ∨ mxd f k < f k
    · rw [mxd_up hu]
      by_cases e : i = k
      · subst e; exact Int.le_refl _
      · have := mxd_ge f (k := k) (i := i) (by omega)
        omega
    · rw [mxd_same hu]
      by_cases e : i = k
      · subst e; omega
      · exact mxd_ge f (by omega)
theorem mxd_at (f : Nat → Int) : ∀ {k}, 0 < k → ∃ i, i < k ∧ mxd f k = f i
  | 0, h => absurd h (by omega)
  | k + 1, _ => by
    by_cases hu : k = 0 ∨ mxd f k < f k
    · exact ⟨k, by omega, mxd_up hu⟩
    · obtain ⟨i, hi, e⟩ := mxd_at f (k := k) (by omega)
      exact ⟨i, by omega, (mxd_same hu).trans e⟩
/-- At rest all that is there has the most. -/
theorem rest_most (a : List (List Int)) (w : List Int) (n : Nat) (hn : 0 < n) : RestP a w n ↔ ∀ i, i < n → 0 < gi w i → dotr a w i n = mxd (fun i => dotr a w i n) n := by
  constructor
  · intro h i hi hp
    obtain ⟨k, hk, e⟩ := mxd_at (fun i => dotr a w i n) hn
    have h1 := h i hi hp k hk
    have h2 := mxd_ge (fun i => dotr a w i n) hi
    have e' : mxd (fun i => dotr a w i n) n = dotr a w k n := e
    have h2' : dotr a w i n ≤ mxd (fun i => dotr a w i n) n := h2
    omega
  · intro h i hi hp k hk
    rw [h i hi hp]
    exact mxd_ge (fun i => dotr a w i n) hk
theorem mxd_bd {f : Nat → Int} {B : Int} (hB : 0 ≤ B) : ∀ {k}, (∀ i, i < k → -B ≤ f i ∧ f i ≤ B) → -B ≤ mxd f k ∧ mxd f k ≤ B
  | 0, _ => by simp only [mxd]; omega
  | k + 1, h => by
    by_cases hu : k = 0 ∨ mxd f k < f k
    · rw [mxd_up hu]; exact h k (by omega)
    · rw [mxd_same hu]; exact mxd_bd hB fun i hi => h i (by omega)

set_option maxRecDepth 100000 in
set_option maxHeartbeats 3200000 in
theorem fits_any (b o : Nat) (rb ro cc : Nat → Nat) (n c cw : Nat) (Y : Option Addr) (a : List (List Int)) (w : List Int) (W : World) (ht : Tab W b o rb ro cc n n a) (hw : Ints W Y n cw w) (hbd : ∀ j, j < n → 0 ≤ gi w j ∧ gi w j ≤ 1000) :
    Calls Try.prog 58 #[.slice (some ⟨b, o, none⟩) n c, .slice Y n cw] W (Ret (.bool (pb (RestP a w n))) W) := by
  have HT := Lib.hid ht
  have HW := Lib.hid hw
  have hn1 := ht.n1
  have hn3 := ht.n3
  have HPB := Lib.hid (fun i => (⟨ht.bd, onl_bds n i, hbd⟩ : PB a (onl n i) w n n))
  obtain ⟨by_, oy, rfl, hcy⟩ := hw.at_ (by omega)
  have HY := Lib.hid hcy
  have HBD := Lib.hid hbd
  have HPU := Lib.hid (fun i (hi : i < n) => payU_alone a w n n i hi)
  have HRM := Lib.hid (rest_most a w n (by omega))
  clear ht hw hcy hbd
  have HZ : Hid (mxd (fun i => dotr a w i n) 0 = 0) := Lib.hid rfl
  go_enter Try.func58, Try.ntmps58
  go_wp2
  go_loopw [5, 6, 7] (fun m f i_ wr => ∃ i : Nat, i ≤ n ∧ i_ = .int .i64 i ∧ m = .int .i64 (mxd (fun i => dotr a w i n) i) ∧ f = .bool (decide (i = 0)) ∧ Hid (Below W.heap.size W wr)) (fun _ _ i_ _ => n - (intOf i_).toNat)
  case atStart => exact ⟨0, Nat.zero_le _, rfl, by rw [HZ.out], rfl, Lib.hid (Below.refl _ _)⟩
  case round =>
    clear HZ
    obtain ⟨i, hi, rfl, rfl, rfl, HB⟩ := hrel
    by_cases hlt : i < n
    · have HC := Lib.hid (alone_spec n i wr (by omega) hlt)
      have HMU := Lib.hid (fun h => mxd_up (f := fun i => dotr a w i n) (k := i) h)
      have HMS := Lib.hid (fun h => mxd_same (f := fun i => dotr a w i n) (k := i) h)
      go_wp2_with fail
      refine HC.out.mono ?_
      rintro e w1 ⟨rfl, ho, hb⟩
      have HB1 := Lib.hid (below_up HB.out hb)
      have HC := Lib.hid (HPU.out i hlt ▸ payUp_any b o rb ro cc n n c n cw _ _ a (onl n i) w w1 (HT.out.keep (Keep.below HB1.out)) ho.ints (HW.out.keep (Keep.below HB1.out)) (HPB.out i))
      clear ho hb HB
      generalize hgx : dotr a w i n = x at *
      generalize hgm : mxd (fun i => dotr a w i n) i = M at *
      clear hgm
      go_wp2_with fail
      refine HC.out.mono ?_
      rintro e w2 ⟨rfl, hq⟩
      have HB2 := Lib.hid (below_quiet HB1.out hq)
      clear hq HC HB1 hgx
      by_cases h0 : i = 0
      · have hd : decide (i = 0) = true := decide_eq_true h0
        have HN := Lib.hid (HMU.out (.inl h0))
        clear HMU HMS
        go_wp2
        go_roundw
        case rel => exact ⟨i + 1, by omega, by go_num, by rw [HN.out], by rw [decide_eq_false (by omega)], HB2⟩
        case measure => simp [intOf]; omega
      · have hd : decide (i = 0) = false := decide_eq_false h0
        by_cases hm : M < x
        · have HN := Lib.hid (HMU.out (.inr hm))
          clear HMU HMS
          go_wp2
          go_roundw
          case rel => exact ⟨i + 1, by omega, by go_num, by rw [HN.out], by rw [decide_eq_false (by omega)], HB2⟩
          case measure => simp [intOf]; omega
        · have HN := Lib.hid (HMS.out (by omega))
          have hm' : decide (M < x) = false := decide_eq_false hm
          clear HMU HMS
          go_wp2
          go_roundw
          case rel => exact ⟨i + 1, by omega, by go_num, by rw [HN.out], by rw [decide_eq_false (by omega)], HB2⟩
          case measure => simp [intOf]; omega
    · obtain rfl : i = n := by omega
      generalize mxd (fun j => dotr a w j i) i = M at *
      generalize wr = W0 at *
      have HB0 := HB
      clear HB
      go_wp2
      go_loopw [9] (fun k_ wi => ∃ k : Nat, k ≤ i ∧ k_ = .int .i64 k ∧ Hid (∀ l, l < k → 0 < gi w l → dotr a w l i = M) ∧ Hid (Below W.heap.size W wi)) (fun k_ _ => i - (intOf k_).toNat)
      case atStart => exact ⟨0, Nat.zero_le _, rfl, Lib.hid (fun _ h => absurd h (by omega)), HB0⟩
      case round =>
        clear HB0
        obtain ⟨k, hk, rfl, HALL, HB⟩ := hrel
        by_cases hkl : k < i
        · have c1 := Keep.below HB.out _ _ (HY.out k hkl)
          by_cases hp : 0 < gi w k
          · have HC := Lib.hid (alone_spec i k wr (by omega) hkl)
            have HP := Lib.hid hp
            have HNO := Lib.hid (fun (h : dotr a w k i ≠ M) => pb_false (p := RestP a w i) (fun r => h (HRM.out.1 r k hkl hp)))
            have HYES := Lib.hid (fun (h : dotr a w k i = M) => (fun l hl hp => by
                by_cases e : l = k
                · subst e; exact h
                · exact HALL.out l (by omega) hp : ∀ l, l < k + 1 → 0 < gi w l → dotr a w l i = M))
            generalize gi w k = s at *
            go_wp2_with fail
            refine HC.out.mono ?_
            rintro e w1 ⟨rfl, ho, hb⟩
            have HB1 := Lib.hid (below_up HB.out hb)
            have HC := Lib.hid (HPU.out k hkl ▸ payUp_any b o rb ro cc i i c i cw _ _ a (onl i k) w w1 (HT.out.keep (Keep.below HB1.out)) ho.ints (HW.out.keep (Keep.below HB1.out)) (HPB.out k))
            clear ho hb HB c1
            by_cases he : dotr a w k i = M
            · have HN := Lib.hid (HYES.out he)
              rw [he] at HC
              clear HYES HNO he
              have hne : (M != M) = false := by simp
              go_wp2_with fail
              refine HC.out.mono ?_
              rintro e w2 ⟨rfl, hq⟩
              have HB2 := Lib.hid (below_quiet HB1.out hq)
              clear hq HC HB1
              go_wp2
              go_roundw
              case rel => exact ⟨k + 1, by omega, by go_num, HN, HB2⟩
              case measure => simp [intOf]; omega
            · have HN := Lib.hid (HNO.out he)
              have hne : (dotr a w k i != M) = true := by simpa using he
              clear HYES HNO he
              generalize dotr a w k i = x at *
              go_wp2_with fail
              refine HC.out.mono ?_
              rintro e w2 ⟨rfl, hq⟩
              have HB2 := Lib.hid (below_quiet HB1.out hq)
              clear hq HC HB1
              go_wp2
              go_ret
              exact ⟨ret_bool HN.out.symm, HB2.out⟩
          · have hd : decide (0 < gi w k) = false := decide_eq_false hp
            have HN := Lib.hid (show ∀ l, l < k + 1 → 0 < gi w l → dotr a w l i = M from fun l hl h => by
                by_cases e : l = k
                · subst e; exact absurd h hp
                · exact HALL.out l (by omega) h)
            generalize gi w k = s at *
            go_wp2
            go_roundw
            case rel => exact ⟨k + 1, by omega, by go_num, HN, HB⟩
            case measure => simp [intOf]; omega
        · obtain rfl : k = i := by omega
          have HN := Lib.hid (HALL.out)
          go_wp2
          go_ret
          exact ⟨ret_bool (pb_true (HRM.out.2 HN.out)).symm, HB.out⟩
end Go.Proofs.Ytgmcmblcljfofaa

/- IsRest and MeanPay, by both programs. -/
namespace Go.Proofs.Ytgmcmblcljfofaa
open Go.RowKit

theorem VQ.len {a : List (List Int)} {n : Nat} (v : VQ a) (hl : a.length = n) : (gr a 0).length = n := by have := v.2; omega

set_option maxRecDepth 100000 in
set_option maxHeartbeats 1600000 in
theorem IsRest_spec (A : Option Addr) (n c : Nat) (a : List (List Int)) (X : Option Addr) (nx cx : Nat) (x : List Int) (w : World) (ha : IntRows w A n c a) (hx : Ints w X nx cx x) :
    Calls Try.prog 27 #[.slice A n c, .slice X nx cx] w (Ret (.bool (pb (RQ a x))) w) := by
  have HX := Lib.hid ha
  have HY := Lib.hid hx
  have hl := ha.len
  have hlx := hx.len
  have B0 := Lib.hid (Below.refl w.heap.size w)
  clear ha hx
  by_cases hv : VQ a
  · have HC := Lib.hid (pb_true hv ▸ validSquare_any A n c a w HX.out)
    have hn1 := hv.1.n1
    have hn3 := hv.1.n3
    rw [hl] at hn1 hn3
    by_cases hs : VS x (n : Int)
    · have HRQ := Lib.hid (show pb (RQ a x) = pb (RestP a x n) from pb_congr ⟨fun h => by rw [← hl]; exact h.r, fun h => ⟨hv, by rw [hl]; exact hs, by rw [hl]; exact h⟩⟩)
      have hm := hv.len hl
      obtain ⟨b, o, rb, ro, cc, rfl, tab⟩ := HX.out.tab hv.1
      rw [hm] at tab
      have HT := Lib.hid tab
      have HBS := Lib.hid (VS.bds (n := n) hs)
      have HS := Lib.hid (fun W (k : Keep w W) => pb_true hs ▸ validShares_any X nx cx x (n : Int) W (HY.out.keep k) (by omega))
      obtain rfl : n = nx := by have := hs.1; omega
      clear hm tab hv hs hl hlx
      go_enter Try.func27, Try.ntmps27
      go_wp2_with fail
      refine HC.out.mono ?_
      rintro e w1 ⟨rfl, hb⟩
      have B1 := Lib.hid (below_quiet B0.out hb)
      clear hb HC B0
      have HC := Lib.hid (HS.out w1 (Keep.below B1.out))
      go_wp2_with fail
      refine HC.out.mono ?_
      rintro e w2 ⟨rfl, hb⟩
      have B2 := Lib.hid (below_quiet B1.out hb)
      clear hb HC B1
      have HC := Lib.hid (fits_any b o rb ro cc n c cx X a x w2 (HT.out.keep (Keep.below B2.out)) (HY.out.keep (Keep.below B2.out)) HBS.out)
      go_wp2_with fail
      refine HC.out.mono ?_
      rintro e w3 ⟨rfl, hb⟩
      have B3 := Lib.hid (below_up B2.out hb)
      clear hb HC B2
      go_wp2
      go_ret
      exact ⟨ret_bool HRQ.out.symm, B3.out⟩
    · have HNO := Lib.hid (pb_false (p := RQ a x) (fun h => hs (by have := h.s; rw [hl] at this; exact this)))
      have HS := Lib.hid (fun W (k : Keep w W) => pb_false hs ▸ validShares_any X nx cx x (n : Int) W (HY.out.keep k) (by omega))
      clear hv hs hl hlx
      go_enter Try.func27, Try.ntmps27
      go_wp2_with fail
      refine HC.out.mono ?_
      rintro e w1 ⟨rfl, hb⟩
      have B1 := Lib.hid (below_quiet B0.out hb)
      clear hb HC B0
      have HC := Lib.hid (HS.out w1 (Keep.below B1.out))
      go_wp2_with fail
      refine HC.out.mono ?_
      rintro e w2 ⟨rfl, hb⟩
      have B2 := Lib.hid (below_quiet B1.out hb)
      clear hb HC B1
      go_wp2
      go_ret
      exact ⟨ret_bool HNO.out.symm, B2.out⟩
  · have HNO := Lib.hid (pb_false (p := RQ a x) (fun h => hv h.q))
    have HC := Lib.hid (pb_false hv ▸ validSquare_any A n c a w HX.out)
    clear hv hl hlx
    go_enter Try.func27, Try.ntmps27
    go_wp2_with fail
    refine HC.out.mono ?_
    rintro e w1 ⟨rfl, hb⟩
    have B1 := Lib.hid (below_quiet B0.out hb)
    clear hb HC B0
    go_wp2
    go_ret
    exact ⟨ret_bool HNO.out.symm, B1.out⟩

set_option maxRecDepth 100000 in
set_option maxHeartbeats 1600000 in
theorem IsRest_impl (A : Option Addr) (n c : Nat) (a : List (List Int)) (X : Option Addr) (nx cx : Nat) (x : List Int) (w : World) (ha : IntRows w A n c a) (hx : Ints w X nx cx x) :
    Calls Try.prog 29 #[.slice A n c, .slice X nx cx] w (Ret (.bool (pb (RQ a x))) w) := by
  have HX := Lib.hid ha
  have HY := Lib.hid hx
  have hl := ha.len
  have hlx := hx.len
  have B0 := Lib.hid (Below.refl w.heap.size w)
  clear ha hx
  by_cases hv : VQ a
  · have HC := Lib.hid (pb_true hv ▸ ValidSquare_impl A n c a w HX.out)
    have hn1 := hv.1.n1
    have hn3 := hv.1.n3
    rw [hl] at hn1 hn3
    have HVS := Lib.hid (show pb (VS x (n : Int)) = pb (VSn x (n : Int)) by rw [← hl]; exact (hv.1.vsn x).symm)
    by_cases hs : VS x (n : Int)
    · have HRQ := Lib.hid (show pb (RQ a x) = pb (RestP a x n) from pb_congr ⟨fun h => by rw [← hl]; exact h.r, fun h => ⟨hv, by rw [hl]; exact hs, by rw [hl]; exact h⟩⟩)
      have hm := hv.len hl
      obtain ⟨b, o, rb, ro, cc, rfl, tab⟩ := HX.out.tab hv.1
      rw [hm] at tab
      have HT := Lib.hid tab
      have HBS := Lib.hid (VS.bds (n := n) hs)
      have HS := Lib.hid (fun W (k : Keep w W) => HVS.out.symm.trans (pb_true hs) ▸ ValidShares_impl X nx cx x (n : Int) W (HY.out.keep k))
      obtain rfl : n = nx := by have := hs.1; omega
      clear hm tab hv hs hl hlx
      go_enter Try.func29, Try.ntmps29
      go_wp2_with fail
      refine HC.out.mono ?_
      rintro e w1 ⟨rfl, hb⟩
      have B1 := Lib.hid (below_quiet B0.out hb)
      clear hb HC B0
      have HC := Lib.hid (HS.out w1 (Keep.below B1.out))
      go_wp2_with fail
      refine HC.out.mono ?_
      rintro e w2 ⟨rfl, hb⟩
      have B2 := Lib.hid (below_quiet B1.out hb)
      clear hb HC B1
      have HC := Lib.hid (payAgainst_any a x n b o c cx rb ro cc X w2 (HT.out.keep (Keep.below B2.out)) (HY.out.keep (Keep.below B2.out)) HBS.out)
      go_wp2_with fail
      refine HC.out.mono ?_
      rintro e w3 ⟨pa, pw, rfl, hp, hb⟩
      have B3 := Lib.hid (below_up B2.out hb)
      have P := Lib.hid hp
      clear hb hp HC B2
      have HC := Lib.hid (noneHasMore_any a x n pa pw b o c cx rb ro cc X w3 P.out)
      go_wp2_with fail
      refine HC.out.mono ?_
      rintro e w4 ⟨rfl, hb⟩
      have B4 := Lib.hid (below_up B3.out hb)
      clear hb HC B3
      go_wp2
      go_ret
      exact ⟨ret_bool HRQ.out.symm, B4.out⟩
    · have HNO := Lib.hid (pb_false (p := RQ a x) (fun h => hs (by have := h.s; rw [hl] at this; exact this)))
      have HS := Lib.hid (fun W (k : Keep w W) => HVS.out.symm.trans (pb_false hs) ▸ ValidShares_impl X nx cx x (n : Int) W (HY.out.keep k))
      clear hv hs hl hlx
      go_enter Try.func29, Try.ntmps29
      go_wp2_with fail
      refine HC.out.mono ?_
      rintro e w1 ⟨rfl, hb⟩
      have B1 := Lib.hid (below_quiet B0.out hb)
      clear hb HC B0
      have HC := Lib.hid (HS.out w1 (Keep.below B1.out))
      go_wp2_with fail
      refine HC.out.mono ?_
      rintro e w2 ⟨rfl, hb⟩
      have B2 := Lib.hid (below_quiet B1.out hb)
      clear hb HC B1
      go_wp2
      go_ret
      exact ⟨ret_bool HNO.out.symm, B2.out⟩
  · have HNO := Lib.hid (pb_false (p := RQ a x) (fun h => hv h.q))
    have HC := Lib.hid (pb_false hv ▸ ValidSquare_impl A n c a w HX.out)
    clear hv hl hlx
    go_enter Try.func29, Try.ntmps29
    go_wp2_with fail
    refine HC.out.mono ?_
    rintro e w1 ⟨rfl, hb⟩
    have B1 := Lib.hid (below_quiet B0.out hb)
    clear hb HC B0
    go_wp2
    go_ret
    exact ⟨ret_bool HNO.out.symm, B1.out⟩

theorem POk_sq (a : List (List Int)) (x : List Int) : POk a x x ↔ VQ a ∧ VS x a.length := by
  constructor
  · rintro ⟨v, h1, h2⟩
    refine ⟨⟨v, ?_⟩, h1⟩
    have e1 := h1.1
    have e2 := h2.1
    omega
  · rintro ⟨v, h⟩
    exact ⟨v.1, h, by rw [← v.2]; exact h⟩

set_option maxRecDepth 100000 in
set_option maxHeartbeats 1600000 in
theorem MeanPay_impl (A : Option Addr) (n c : Nat) (a : List (List Int)) (X : Option Addr) (nx cx : Nat) (x : List Int) (w : World) (ha : IntRows w A n c a) (hx : Ints w X nx cx x) :
    Calls Try.prog 38 #[.slice A n c, .slice X nx cx] w (Ret (.tuple #[payF a x x, .bool (pb (POk a x x))]) w) := by
  have HPF := Lib.hid (PF.start w)
  have HC := Lib.hid (PayOf_impl A X X n c nx cx nx cx a x x _ (ha.keep HPF.out.keep) (hx.keep HPF.out.keep) (hx.keep HPF.out.keep))
  obtain ⟨U, D, hf⟩ := payF_form a x x
  rw [hf] at HC ⊢
  generalize pb (POk a x x) = K at *
  clear hf ha hx
  go_enter Try.func38, Try.ntmps38
  go_wp2_with fail
  refine HC.out.mono ?_
  rintro e w1 ⟨rfl, hb⟩
  have HPF1 := Lib.hid (HPF.out.up hb)
  clear hb HC HPF
  have HPF := HPF1
  clear HPF1
  have c0 := blk_cell HPF.out.box (i := 0) rfl
  have c1 := blk_cell HPF.out.box (i := 1) rfl
  have f0 := blk_frozen HPF.out.box 0
  have f1 := blk_frozen HPF.out.box 1
  go_wp2
  clear c0 c1 f0 f1
  have B1 := blk_set (blk_set HPF.out.box 0 (.int .i64 U)) 1 (.int .i64 D)
  have r0 := blk_cell B1 (i := 0) (v := .int .i64 U) rfl
  have r1 := blk_cell B1 (i := 1) (v := .int .i64 D) rfl
  have HBX := Lib.hid ((HPF.out.below.setCell (p := ⟨w.heap.size, 0, none⟩) (Nat.le_refl _) (.int .i64 U)).setCell (p := ⟨w.heap.size, 1, none⟩) (Nat.le_refl _) (.int .i64 D))
  clear B1 HPF
  generalize (w1.setCell ⟨w.heap.size, 0, none⟩ (.int .i64 U)).setCell ⟨w.heap.size, 1, none⟩ (.int .i64 D) = WE at *
  refine bodyPost_ret (v := .tuple #[.agg #[.int .i64 U, .int .i64 D], .bool K]) (by simp [results, Try.results38, go_sem, r0, r1]) rfl ?_
  exact ⟨rfl, HBX.out⟩

set_option maxRecDepth 100000 in
set_option maxHeartbeats 1600000 in
theorem MeanPay_spec (A : Option Addr) (n c : Nat) (a : List (List Int)) (X : Option Addr) (nx cx : Nat) (x : List Int) (w : World) (ha : IntRows w A n c a) (hx : Ints w X nx cx x) :
    Calls Try.prog 37 #[.slice A n c, .slice X nx cx] w (Ret (.tuple #[payF a x x, .bool (pb (POk a x x))]) w) := by
  have HX := Lib.hid ha
  have HY := Lib.hid hx
  have hl := ha.len
  have hlx := hx.len
  have HPF := Lib.hid (PF.start w)
  clear ha hx
  by_cases hv : VQ a
  · have HC := Lib.hid (pb_true hv ▸ validSquare_any A n c a _ (HX.out.keep HPF.out.keep))
    have hn1 := hv.1.n1
    have hn3 := hv.1.n3
    rw [hl] at hn1 hn3
    by_cases hs : VS x (n : Int)
    · have HOK := Lib.hid ((POk_sq a x).2 ⟨hv, by rw [hl]; exact hs⟩)
      have hm := hv.len hl
      have HPB := Lib.hid (hv.1.pb_ HOK.out.x HOK.out.y)
      rw [hl, hm] at HPB
      rw [payF_yes HOK.out, pb_true HOK.out, hl, hm]
      obtain ⟨b, o, rb, ro, cc, rfl, tab⟩ := HX.out.tab hv.1
      rw [hm] at tab
      have HT := Lib.hid tab
      have hts := hs.bd (by omega)
      have HS := Lib.hid (fun W (k : Keep w W) => pb_true hs ▸ validShares_any X nx cx x (n : Int) W (HY.out.keep k) (by omega))
      have HSU := Lib.hid (hs.sumOk (by omega))
      obtain rfl : n = nx := by have := hs.1; omega
      have hpu := payU_bd HPB.out hn3 (Nat.le_refl n)
      have hxy : 1 ≤ tot x * tot x ∧ tot x * tot x ≤ 9000000 := by
        have h1 : 1 * 1 ≤ tot x * tot x := Int.mul_le_mul (by omega) (by omega) (by omega) (by omega)
        have h2 : tot x * tot x ≤ 3000 * 3000 := Int.mul_le_mul hts.2 hts.2 (by omega) (by omega)
        omega
      obtain ⟨xy1, xy2⟩ := hxy
      obtain ⟨t1, t2⟩ := hts
      clear hm tab hv hs hl hlx
      go_enter Try.func37, Try.ntmps37
      go_wp2_with fail
      refine HC.out.mono ?_
      rintro e w1 ⟨rfl, hb⟩
      have HPF1 := Lib.hid (HPF.out.up hb.below)
      clear hb HC HPF
      have HC := Lib.hid (HS.out w1 HPF1.out.keep)
      go_wp2_with fail
      refine HC.out.mono ?_
      rintro e w2 ⟨rfl, hb⟩
      have HPF2 := Lib.hid (HPF1.out.up hb.below)
      clear hb HC HPF1
      have HC := Lib.hid (payUp_any b o rb ro cc n n c cx cx _ _ a x x w2 (HT.out.keep HPF2.out.keep) (HY.out.keep HPF2.out.keep) (HY.out.keep HPF2.out.keep) HPB.out)
      go_wp2_with fail
      refine HC.out.mono ?_
      rintro e w3 ⟨rfl, hb⟩
      have HPF3 := Lib.hid (HPF2.out.up hb.below)
      clear hb HC HPF2
      have HC := Lib.hid (sum_any _ _ _ _ w3 (HY.out.keep HPF3.out.keep) HSU.out)
      go_wp2_with fail
      refine HC.out.mono ?_
      rintro e w4 ⟨rfl, hb⟩
      have HPF4 := Lib.hid (HPF3.out.up hb.below)
      clear hb HC HPF3
      have HC := Lib.hid (sum_any _ _ _ _ w4 (HY.out.keep HPF4.out.keep) HSU.out)
      go_wp2_with fail
      refine HC.out.mono ?_
      rintro e w5 ⟨rfl, hb⟩
      have HPF5 := Lib.hid (HPF4.out.up hb.below)
      clear hb HC HPF4
      have HC := Lib.hid (frac_any (payU a x x n n) (tot x * tot x) w5 (by unfold Mid; omega) (by unfold Mid; omega) xy1)
      go_wp2_with fail
      refine HC.out.mono ?_
      rintro e w6 ⟨rfl, hb⟩
      have HPF6 := Lib.hid (HPF5.out.up hb)
      clear hb HC HPF5
      have HFV : Hid (frV (payU a x x n n) (tot x * tot x) = .agg #[.int .i64 (frU (payU a x x n n) (tot x * tot x)), .int .i64 (frD (payU a x x n n) (tot x * tot x))]) := Lib.hid rfl
      rw [HFV.out]
      generalize frU (payU a x x n n) (tot x * tot x) = U at *
      generalize frD (payU a x x n n) (tot x * tot x) = D at *
      have HPF := HPF6
      clear HPF6
      have c0 := blk_cell HPF.out.box (i := 0) rfl
      have c1 := blk_cell HPF.out.box (i := 1) rfl
      have f0 := blk_frozen HPF.out.box 0
      have f1 := blk_frozen HPF.out.box 1
      go_wp2
      clear c0 c1 f0 f1
      have B1 := blk_set (blk_set HPF.out.box 0 (.int .i64 U)) 1 (.int .i64 D)
      have r0 := blk_cell B1 (i := 0) (v := .int .i64 U) rfl
      have r1 := blk_cell B1 (i := 1) (v := .int .i64 D) rfl
      have HBX := Lib.hid ((HPF.out.below.setCell (p := ⟨w.heap.size, 0, none⟩) (Nat.le_refl _) (.int .i64 U)).setCell (p := ⟨w.heap.size, 1, none⟩) (Nat.le_refl _) (.int .i64 D))
      clear B1 HPF
      generalize (w6.setCell ⟨w.heap.size, 0, none⟩ (.int .i64 U)).setCell ⟨w.heap.size, 1, none⟩ (.int .i64 D) = WE at *
      refine bodyPost_ret (v := .tuple #[.agg #[.int .i64 U, .int .i64 D], .bool true]) (by simp [results, Try.results37, go_sem, r0, r1]) rfl ?_
      exact ⟨by rw [HFV.out], HBX.out⟩
    · have HNO := Lib.hid (show payF a x x = .agg #[.int .i64 0, .int .i64 0] ∧ pb (POk a x x) = false from ⟨payF_no (fun h => hs (by have := h.x; rw [hl] at this; exact this)), pb_false (fun h => hs (by have := h.x; rw [hl] at this; exact this))⟩)
      have HS := Lib.hid (fun W (k : Keep w W) => pb_false hs ▸ validShares_any X nx cx x (n : Int) W (HY.out.keep k) (by omega))
      clear hv hs hl hlx
      go_enter Try.func37, Try.ntmps37
      go_wp2_with fail
      refine HC.out.mono ?_
      rintro e w1 ⟨rfl, hb⟩
      have HPF1 := Lib.hid (HPF.out.up hb.below)
      clear hb HC HPF
      have HC := Lib.hid (HS.out w1 HPF1.out.keep)
      go_wp2_with fail
      refine HC.out.mono ?_
      rintro e w2 ⟨rfl, hb⟩
      have HPF2 := Lib.hid (HPF1.out.up hb.below)
      clear hb HC HPF1
      have HPF := HPF2
      clear HPF2
      have c0 := blk_cell HPF.out.box (i := 0) rfl
      have c1 := blk_cell HPF.out.box (i := 1) rfl
      have f0 := blk_frozen HPF.out.box 0
      have f1 := blk_frozen HPF.out.box 1
      go_wp2
      clear c0 c1 f0 f1
      have B1 := blk_set (blk_set HPF.out.box 0 (.int .i64 0)) 1 (.int .i64 0)
      have r0 := blk_cell B1 (i := 0) (v := .int .i64 0) rfl
      have r1 := blk_cell B1 (i := 1) (v := .int .i64 0) rfl
      have HBX := Lib.hid ((HPF.out.below.setCell (p := ⟨w.heap.size, 0, none⟩) (Nat.le_refl _) (.int .i64 0)).setCell (p := ⟨w.heap.size, 1, none⟩) (Nat.le_refl _) (.int .i64 0))
      clear B1 HPF
      generalize (w2.setCell ⟨w.heap.size, 0, none⟩ (.int .i64 0)).setCell ⟨w.heap.size, 1, none⟩ (.int .i64 0) = WE at *
      refine bodyPost_ret (v := .tuple #[.agg #[.int .i64 0, .int .i64 0], .bool false]) (by simp [results, Try.results37, go_sem, r0, r1]) rfl ?_
      exact ⟨by rw [HNO.out.1, HNO.out.2], HBX.out⟩
  · have HNO := Lib.hid (show payF a x x = .agg #[.int .i64 0, .int .i64 0] ∧ pb (POk a x x) = false from ⟨payF_no (fun h => hv ((POk_sq a x).1 h).1), pb_false (fun h => hv ((POk_sq a x).1 h).1)⟩)
    have HC := Lib.hid (pb_false hv ▸ validSquare_any A n c a _ (HX.out.keep HPF.out.keep))
    clear hv hl hlx
    go_enter Try.func37, Try.ntmps37
    go_wp2_with fail
    refine HC.out.mono ?_
    rintro e w1 ⟨rfl, hb⟩
    have HPF1 := Lib.hid (HPF.out.up hb.below)
    clear hb HC HPF
    have HPF := HPF1
    clear HPF1
    have c0 := blk_cell HPF.out.box (i := 0) rfl
    have c1 := blk_cell HPF.out.box (i := 1) rfl
    have f0 := blk_frozen HPF.out.box 0
    have f1 := blk_frozen HPF.out.box 1
    go_wp2
    clear c0 c1 f0 f1
    have B1 := blk_set (blk_set HPF.out.box 0 (.int .i64 0)) 1 (.int .i64 0)
    have r0 := blk_cell B1 (i := 0) (v := .int .i64 0) rfl
    have r1 := blk_cell B1 (i := 1) (v := .int .i64 0) rfl
    have HBX := Lib.hid ((HPF.out.below.setCell (p := ⟨w.heap.size, 0, none⟩) (Nat.le_refl _) (.int .i64 0)).setCell (p := ⟨w.heap.size, 1, none⟩) (Nat.le_refl _) (.int .i64 0))
    clear B1 HPF
    generalize (w1.setCell ⟨w.heap.size, 0, none⟩ (.int .i64 0)).setCell ⟨w.heap.size, 1, none⟩ (.int .i64 0) = WE at *
    refine bodyPost_ret (v := .tuple #[.agg #[.int .i64 0, .int .i64 0], .bool false]) (by simp [results, Try.results37, go_sem, r0, r1]) rfl ?_
    exact ⟨by rw [HNO.out.1, HNO.out.2], HBX.out⟩

end Go.Proofs.Ytgmcmblcljfofaa

/- Tables with the other signs, by the model. -/
namespace Go.Proofs.Ytgmcmblcljfofaa
open Go.RowKit

/-- A new table, as append has made it. -/
def NewB (w : World) (yss : List (List Int)) (e : Ending) (w' : World) : Prop :=
  ∃ Av c vs, e = .returned (.slice Av yss.length c) ∧ Bld w.heap.size w'.heap.size w' (.slice Av yss.length c) vs yss ∧ Below w.heap.size w w'
end Go.Proofs.Ytgmcmblcljfofaa

/- The least mean over columns alone, by the model. -/
namespace Go.Proofs.Ytgmcmblcljfofaa
open Go.RowKit

theorem PB.onl {a x y n m} (h : PB a x y n m) (j : Nat) : PB a x (onl m j) n m :=
  ⟨h.a, h.x, fun k hk => by have := onl_bd (n := m) (i := j) hk; omega⟩
theorem col_bd {a x y n m} (h : PB a x y n m) (hn : n ≤ 3) (hm : m ≤ 3) (j : Nat) : -81000000 ≤ colU a x n m j ∧ colU a x n m j ≤ 81000000 := by
  have := payU_bd (h.onl j) hm (Nat.le_refl n)
  unfold colU
  omega
theorem wst_bd {a x y n m} (h : PB a x y n m) (hn : n ≤ 3) (hm : m ≤ 3) (tx : 0 < tot x) (tx3 : tot x ≤ 3000) : ∀ k, (-81000000 ≤ (wst a x n m k).1 ∧ (wst a x n m k).1 ≤ 81000000) ∧ 1 ≤ (wst a x n m k).2 ∧ (wst a x n m k).2 ≤ 3000
  | 0 => ⟨frU_bd tx (col_bd h hn hm 0), frD_bd tx tx3⟩
  | k + 1 => by
    simp only [wst]
    split
    · exact ⟨frU_bd tx (col_bd h hn hm (k + 1)), frD_bd tx tx3⟩
    · exact wst_bd h hn hm tx tx3 k
theorem wst_yes {a x n m k} (h : lessB (frU (colU a x n m (k + 1)) (tot x)) (frD (colU a x n m (k + 1)) (tot x)) (wst a x n m k).1 (wst a x n m k).2 = true) :
    wst a x n m (k + 1) = (frU (colU a x n m (k + 1)) (tot x), frD (colU a x n m (k + 1)) (tot x)) := by
  unfold lessB at h
  simp only [decide_eq_true_eq] at h
  simp only [wst]
  rw [if_pos h]
theorem wst_no {a x n m k} (h : lessB (frU (colU a x n m (k + 1)) (tot x)) (frD (colU a x n m (k + 1)) (tot x)) (wst a x n m k).1 (wst a x n m k).2 = false) : wst a x n m (k + 1) = wst a x n m k := by
  unfold lessB at h
  simp only [decide_eq_false_iff_not] at h
  simp only [wst]
  rw [if_neg h]

/-- The boxes of the result and of what is the least so far. -/
structure WO (w W : World) (U D : Int) : Prop where
  b0 : Blk W w.heap.size 32 #[.int .i64 0, .int .i64 0]
  b1 : Blk W (w.heap.size + 1) 32 #[.int .i64 U, .int .i64 D]
  below : Below w.heap.size w W
theorem WO.up {w W W' U D} (h : WO w W U D) (k : Below W.heap.size W W') : WO w W' U D := ⟨blk_below h.b0 k, blk_below h.b1 k, below_up h.below k⟩
theorem WO.keep {w W U D} (h : WO w W U D) : Keep w W := Keep.below h.below
theorem WO.start (w : World) : WO w ((w.alloc (.cells #[.int .i64 0, .int .i64 0] 32)).alloc (.cells #[.int .i64 0, .int .i64 0] 32)) 0 0 := by
  have h := blk_new (w.alloc (.cells #[.int .i64 0, .int .i64 0] 32)) 32 #[.int .i64 0, .int .i64 0]
  rw [World.size_alloc] at h
  exact ⟨blk_old (blk_new _ _ _) _, h, below_up (below_alloc _ _) (below_alloc _ _)⟩
theorem WO.set {w W U D} (h : WO w W U D) (U' D' : Int) : WO w ((W.setCell ⟨w.heap.size + 1, 0, none⟩ (.int .i64 U')).setCell ⟨w.heap.size + 1, 1, none⟩ (.int .i64 D')) U' D' :=
  ⟨blk_other (blk_other h.b0 (p := ⟨w.heap.size + 1, 0, none⟩) (by show w.heap.size ≠ w.heap.size + 1; omega) _) (p := ⟨w.heap.size + 1, 1, none⟩) (by show w.heap.size ≠ w.heap.size + 1; omega) _,
   blk_set (blk_set h.b1 0 (.int .i64 U')) 1 (.int .i64 D'),
   (h.below.setCell (p := ⟨w.heap.size + 1, 0, none⟩) (by show w.heap.size ≤ w.heap.size + 1; omega) _).setCell (p := ⟨w.heap.size + 1, 1, none⟩) (by show w.heap.size ≤ w.heap.size + 1; omega) _⟩

end Go.Proofs.Ytgmcmblcljfofaa

/- The worst mean of shares, by both programs. -/
namespace Go.Proofs.Ytgmcmblcljfofaa
open Go.RowKit

structure WOk (a : List (List Int)) (x : List Int) : Prop where
  v : VT a
  x : VS x a.length
def wstV (p : Int × Int) : Value := .agg #[.int .i64 p.1, .int .i64 p.2]
def wlast (a : List (List Int)) (x : List Int) : Int × Int := wst a x a.length (gr a 0).length ((gr a 0).length - 1)
noncomputable def worF (a : List (List Int)) (x : List Int) : Int × Int := if pb (WOk a x) = true then wlast a x else (0, 0)
theorem worF_yes {a x} (h : WOk a x) : worF a x = wlast a x := by rw [worF, if_pos (pb_true h)]
theorem worF_no {a x} (h : ¬ WOk a x) : worF a x = (0, 0) := by rw [worF, if_neg (by rw [pb_false h]; decide)]
theorem wstV_form (p : Int × Int) : ∃ U D, wstV p = .agg #[.int .i64 U, .int .i64 D] := ⟨_, _, rfl⟩
theorem VT.pbx {a : List (List Int)} {x : List Int} (v : VT a) (hx : VS x a.length) : PB a x (onl (gr a 0).length 0) a.length (gr a 0).length :=
  ⟨fun i j hi hj => v.bd hi hj, fun i hi => hx.2.1 i (by have := hx.1; omega), fun j hj => by have := onl_bd (n := (gr a 0).length) (i := 0) hj; omega⟩

/-- The boxes of the result and of what is the least so far, at h. -/
structure WP (w W : World) (h : Nat) (U D : Int) : Prop where
  b0 : Blk W w.heap.size 32 #[.int .i64 0, .int .i64 0]
  b1 : Blk W h 32 #[.int .i64 U, .int .i64 D]
  lt : w.heap.size < h
  below : Below w.heap.size w W
theorem WP.up {w W W' h U D} (p : WP w W h U D) (k : Below W.heap.size W W') : WP w W' h U D := ⟨blk_below p.b0 k, blk_below p.b1 k, p.lt, below_up p.below k⟩
theorem WP.keep {w W h U D} (p : WP w W h U D) : Keep w W := Keep.below p.below
theorem WP.start {w W : World} (p : PF w W) (U D : Int) : WP w (W.alloc (.cells #[.int .i64 U, .int .i64 D] 32)) W.heap.size U D :=
  ⟨blk_old p.box _, blk_new _ _ _, blk_lt p.box, below_up p.below (below_alloc _ _)⟩
theorem WP.set {w W h U D} (p : WP w W h U D) (U' D' : Int) : WP w ((W.setCell ⟨h, 0, none⟩ (.int .i64 U')).setCell ⟨h, 1, none⟩ (.int .i64 D')) h U' D' := by
  have hl := p.lt
  exact ⟨blk_other (blk_other p.b0 (p := ⟨h, 0, none⟩) (by show w.heap.size ≠ h; omega) _) (p := ⟨h, 1, none⟩) (by show w.heap.size ≠ h; omega) _,
   blk_set (blk_set p.b1 0 (.int .i64 U')) 1 (.int .i64 D'), hl,
   (p.below.setCell (p := ⟨h, 0, none⟩) (by show w.heap.size ≤ h; omega) _).setCell (p := ⟨h, 1, none⟩) (by show w.heap.size ≤ h; omega) _⟩
theorem frV_onl (u : Int) (x : List Int) {m j : Nat} (h : j < m) : frV u (tot x * tot (onl m j)) = .agg #[.int .i64 (frU u (tot x)), .int .i64 (frD u (tot x))] := by
  rw [tot_onl h, Int.mul_one]; rfl

end Go.Proofs.Ytgmcmblcljfofaa

/- Best shares, by the model. -/
namespace Go.Proofs.Ytgmcmblcljfofaa
open Go.RowKit

theorem VT.small {a : List (List Int)} (v : VT a) : Small a := by
  have h3 := v.n3
  refine ⟨by omega, fun r hr => ?_⟩
  obtain ⟨k, hk, rfl⟩ := List.mem_iff_getElem.1 hr
  have h1 := v.rows k hk
  rw [← gr_get hk]
  have h2 := h1.1
  have h4 := v.m3
  refine ⟨by omega, fun x hx => ?_⟩
  obtain ⟨j, hj, rfl⟩ := List.mem_iff_getElem.1 hx
  have := h1.2 j hj
  unfold InR at this
  rw [gi_get hj] at this
  omega
/-- The table as the second player has it. -/
def ntab (a : List (List Int)) : List (List Int) := mtab (flip a a.length (gr a 0).length) (flip a a.length (gr a 0).length).length
theorem ntab_len (a : List (List Int)) : (ntab a).length = (gr a 0).length := by unfold ntab; rw [mtab_len, flip_len]
theorem VT.ntab {a : List (List Int)} (v : VT a) : VT (ntab a) := v.flip.minus
theorem VT.ntab_m {a : List (List Int)} (v : VT a) : (gr (Go.Proofs.Ytgmcmblcljfofaa.ntab a) 0).length = a.length := by
  have h0 := v.m1
  have h1 := flip_len a a.length (gr a 0).length
  unfold Go.Proofs.Ytgmcmblcljfofaa.ntab
  rw [gr_get (by rw [mtab_len, h1]; exact h0)]
  simp only [mtab, List.getElem_map, List.getElem_range, mrow_len]
  rw [gr_flip h0]; simp
/-- Shares that are best for both. -/
structure BestP (a : List (List Int)) (x y : List Int) : Prop where
  ok : POk a x y
  eq : wlast a x = (- (wlast (ntab a) y).1, (wlast (ntab a) y).2)
theorem wlast_bd {a : List (List Int)} {x : List Int} (v : VT a) (hx : VS x a.length) : (-81000000 ≤ (wlast a x).1 ∧ (wlast a x).1 ≤ 81000000) ∧ 1 ≤ (wlast a x).2 ∧ (wlast a x).2 ≤ 3000 := by
  have h := VT.pbx v hx
  have n3 := v.n3
  have := tot_bd (x := x) (n := a.length) n3 (by have := hx.1; omega) h.x
  exact wst_bd h n3 v.m3 hx.2.2 this.2 _

end Go.Proofs.Ytgmcmblcljfofaa

