/- Texts merged: RN Math74 Math75 Math76 KP2 KP3 Math77 Math78 Math80 Pw Put RI KP4 KN5 KQ1. -/
import Derived.Test.YtjmfkodbilknlaaQ11
import Derived.Laws.OwnMore
/- A number ahead of a row: a new row; rows under way beside a list. -/
namespace Go.Proofs.Ytjmfkodbilknlaa
open Go.RowKit

theorem run_append_empty {P : Program} (w : World) (base : Nat) (t ty e : TypeId) (i : TypeInfo) (size : Nat) (ht : P.underlying t = some (.slice e)) (hi : P.info? e = some i)
    (v : Value) (n : Nat) (xs : List Value) (hown : w.ownsRow base e size v n xs) (R : Option Addr) (c : Nat) :
    (Builtin.append_ #[t, t] ty #[v, .slice R 0 c]).run P w = .ok v w := by
  rcases hown.2 with ⟨rfl, rfl⟩ | ⟨g, cap, cur, rfl, _, _, hnc, _⟩
  · cases R <;> simp [Builtin.append_, run_underlying ht, sizeOf, typeInfo, hi, Builtin.lenOf, Builtin.firstCells, loadCells, loadCellsFrom]
  · cases R <;> simp [Builtin.append_, run_underlying ht, sizeOf, typeInfo, hi, Builtin.lenOf, Builtin.firstCells, loadCells, loadCellsFrom, hnc, storeCells]

/-- A number ahead of a row: a new row. -/
theorem row_new (w : World) (x : Int) (R : Option Addr) (m c : Nat) (r : List Int) (hr : Ints w R m c r) (hm : m ≤ 20) (hx : -9223372036854775808 ≤ x ∧ x ≤ 9223372036854775807) :
    ∃ A cc w5 g, (Builtin.append_ #[36, 36] 36 #[.slice (some ⟨w.heap.size, 0, none⟩) 1 1, .slice R m c]).run Try.prog (w.alloc (.cells #[.int .i64 x] 3)) = .ok (.slice A (x :: r).length cc) w5 ∧
      Below w.heap.size w w5 ∧ OwnI w.heap.size w5.heap.size w5 g A (x :: r).length cc (x :: r) := by
  obtain ⟨i0, hi0, hz0, hz1, hz2⟩ := info_parts Try.info_int
  have hb := below_alloc w (.cells #[.int .i64 x] 3)
  have hown : (w.alloc (.cells #[.int .i64 x] 3)).ownsRow w.heap.size 3 1 (.slice (some ⟨w.heap.size, 0, none⟩) 1 1) 1 [iv x] :=
    World.ownsRow_lit w #[.int .i64 x] 1 (Nat.le_refl _) (by unfold maxLen; omega) rfl
  have hwf : ∀ y ∈ x :: r, -9223372036854775808 ≤ y ∧ y ≤ 9223372036854775807 := by
    intro y hy
    rcases List.mem_cons.1 hy with rfl | hy
    · exact hx
    · exact hr.wf y hy
  have hl := hr.len
  have key : ∀ (v' : Value) (w5 : World), w5.ownsRow w.heap.size 3 1 v' (1 + m) ([iv x] ++ r.map iv) → (w.alloc (.cells #[.int .i64 x] 3)).grownBy w5 (some w.heap.size) →
      (v'.ownBlock = some w.heap.size ∨ v'.ownBlock = some (w.heap.size + 1)) →
      ∃ A cc g, v' = .slice A (x :: r).length cc ∧ Below w.heap.size w w5 ∧ OwnI w.heap.size w5.heap.size w5 g A (x :: r).length cc (x :: r) := by
    intro v' w5 ho hg hat
    have hz := hg.size
    simp only [World.size_alloc] at hz
    have hB : BldI w.heap.size w5.heap.size w5 v' (x :: r) := ⟨by
      have e : (x :: r).length = 1 + m := by rw [List.length_cons, hl]; omega
      rw [e]; exact ho, fun k hk => by
      rcases hat with hat | hat <;> (rw [hat] at hk; injection hk with hk; first | omega | (have := (ho.lt k (by rw [hat, hk])).2; omega))⟩
    obtain ⟨A, n, cc, g, rfl, rfl, hI, _⟩ := hB.owns (by rw [List.length_cons, hl]; omega) hwf
    exact ⟨A, cc, g, rfl, hb.grown hg (by simp) (fun k hk => by injection hk with hk; omega), hI⟩
  by_cases h0 : m = 0
  · subst h0
    have hr0 : r = [] := List.eq_nil_of_length_eq_zero hl
    subst hr0
    obtain ⟨A, cc, g, e, h1, h2⟩ := key (.slice (some ⟨w.heap.size, 0, none⟩) 1 1) (w.alloc (.cells #[.int .i64 x] 3)) (by simpa using hown) ⟨rfl, rfl, rfl, Nat.le_refl _, fun _ _ _ => rfl⟩ (.inl rfl)
    refine ⟨A, cc, _, g, ?_, h1, h2⟩
    rw [← e]
    exact run_append_empty _ w.heap.size _ _ 3 i0 1 Try.underlying36 hi0 _ 1 [iv x] hown R c
  · obtain ⟨b, o, rfl, hc⟩ := hr.at_ (by omega)
    obtain ⟨v', w5, e, ho, hg, _, hat⟩ := run_append_own_at (P := Try.prog) (w.alloc (.cells #[.int .i64 x] 3)) w.heap.size 36 36 3 i0 (.int .i64 0) 1 8 Try.underlying36 hi0 hz0 hz1 hz2 rfl (by decide) (.slice (some ⟨w.heap.size, 0, none⟩) 1 1) 1 [iv x] hown ⟨b, o, none⟩ m c (r.map iv)
      (by rw [List.length_map, hl]; omega) (by
        have h := news_take (w := w.alloc (.cells #[.int .i64 x] 3)) (j := r.length) (xs := r) (b := b) (o := o) rfl (fun k hk => Keep.below hb _ _ (hc k (by omega)))
        rw [List.take_length] at h; exact h) (ones_map _) (by unfold maxLen; omega) (by omega) (by simp)
    obtain ⟨A, cc, g, e', h1, h2⟩ := key v' w5 ho hg (by simpa [Value.ownBlock] using hat)
    exact ⟨A, cc, w5, g, by rw [← e']; exact e, h1, h2⟩

/-- Rows under way, and a list that is read beside them. -/
structure PI (w : World) (lo hi : Nat) (v : Value) (vs : List Value) (acc : List (List Int)) (gg : Nat) (A : Option Addr) (n c : Nat) (list : List (List Int)) (wr : World) : Prop where
  tm : TM w v vs acc wr
  li : OwnR lo hi wr gg A n c list
  hi_ : hi ≤ wr.heap.size
  far : ∀ k, v.ownBlock = some k → k < lo ∨ hi ≤ k
theorem PI.start {w w1 w2 : World} {v : Value} {vs : List Value} {acc : List (List Int)} {gg : Nat} {A : Option Addr} {n c : Nat} {list : List (List Int)} (h : TM w v vs acc w1) (ho : OwnR w1.heap.size w2.heap.size w2 gg A n c list) (hb : Below w1.heap.size w1 w2) :
    PI w w1.heap.size w2.heap.size v vs acc gg A n c list w2 :=
  ⟨h.next hb, ho, Nat.le_refl _, fun k hk => .inl (h.bo.hi_ k hk)⟩
theorem PI.push {w wr w5 w6 : World} {lo hi : Nat} {v v' : Value} {vs : List Value} {acc list : List (List Int)} {gg n c cr g : Nat} {A Ar : Option Addr} {r : List Int} (h : PI w lo hi v vs acc gg A n c list wr)
    (hk : Below wr.heap.size wr w5) (hr : OwnI wr.heap.size w5.heap.size w5 g Ar r.length cr r)
    (hown : w6.ownsRow w.heap.size 36 1 v' (acc.length + 1) (vs ++ [.slice Ar r.length cr])) (hgrow : (w5.alloc (.cells #[.slice Ar r.length cr] 36)).grownBy w6 v.ownBlock)
    (hat : v'.ownBlock = v.ownBlock ∨ v'.ownBlock = some (w5.heap.size + 1)) : PI w lo hi v' (vs ++ [.slice Ar r.length cr]) (acc ++ [r]) gg A n c list w6 := by
  have h1 := h.hi_
  have h2 := hk.size
  have h3 := hgrow.size
  simp only [World.size_alloc] at h3
  refine ⟨h.tm.push hk hr hown hgrow hat, h.li.of_blocks fun g h4 h5 h6 => ?_, by omega, fun k hk => ?_⟩
  · refine (hgrow.block g (by simp; omega) (fun e => ?_)).trans ((Below.heap_alloc _ _ _ (by omega)).trans (hk.block g h6))
    have := h.far g e.symm
    omega
  · rcases hat with hat | hat
    · exact h.far k (by rw [← hat]; exact hk)
    · rw [hat] at hk; injection hk with hk; omega

end Go.Proofs.Ytjmfkodbilknlaa

/- Kin by paths, in plain words: what the paths that meet at their ends count is the kinship. -/
namespace Go.Proofs.Ytjmfkodbilknlaa

/-- All rows up from a person, in the order in which they are gone through (k: at least the person's number). -/
def upR (f : List (List Int)) : Nat → Nat → List (List Nat)
  | 0, i => [[i]]
  | k + 1, i => [i] :: if g2 f i 0 < 0 then [] else (upR f k (g2 f i 0).toNat ++ upR f k (g2 f i 1).toNat).map (i :: ·)
/-- Two rows meet at their ends, and nowhere else. -/
def meetB (r o : List Nat) : Bool := r.getLast? == o.getLast? && r.dropLast.all fun x => !o.contains x
/-- What two rows count, times 64 and 1024. -/
def wtP (f : List (List Int)) (r o : List Nat) : Int := if meetB r o then kK f (r.getLastD 0) (r.getLastD 0) * 2 ^ (12 - r.length - o.length) else 0
def sm1 (F : List Nat → Int) : List (List Nat) → Int
  | [] => 0
  | r :: L => F r + sm1 F L
theorem sm1_app (F : List Nat → Int) : ∀ L M, sm1 F (L ++ M) = sm1 F L + sm1 F M
  | [], M => by simp [sm1]
  | r :: L, M => by rw [List.cons_append, sm1, sm1, sm1_app F L M]; omega
theorem sm1_map (F : List Nat → Int) (g : List Nat → List Nat) : ∀ L, sm1 F (L.map g) = sm1 (fun r => F (g r)) L
  | [] => rfl
  | r :: L => by rw [List.map_cons, sm1, sm1, sm1_map F g L]
theorem sm1_congr {F G : List Nat → Int} : ∀ {L}, (∀ r ∈ L, F r = G r) → sm1 F L = sm1 G L
  | [], _ => rfl
  | r :: L, h => by rw [sm1, sm1, h r (by simp), sm1_congr fun x hx => h x (by simp [hx])]
theorem sm1_zero {F : List Nat → Int} : ∀ {L}, (∀ r ∈ L, F r = 0) → sm1 F L = 0
  | [], _ => rfl
  | r :: L, h => by rw [sm1, h r (by simp), sm1_zero fun x hx => h x (by simp [hx])]; rfl
theorem sm1_two (F : List Nat → Int) : ∀ L, 2 * sm1 F L = sm1 (fun r => 2 * F r) L
  | [] => rfl
  | r :: L => by rw [sm1, sm1, ← sm1_two F L]; omega
theorem sm1_add (F G : List Nat → Int) : ∀ L, sm1 (fun r => F r + G r) L = sm1 F L + sm1 G L
  | [] => rfl
  | r :: L => by rw [sm1, sm1, sm1, sm1_add F G L]; omega

theorem upR_in {f : List (List Int)} (v : VPe f) : ∀ {k i r}, i ≤ k → i < f.length → r ∈ upR f k i → r ≠ [] ∧ r.length ≤ i + 1 ∧ ∀ x ∈ r, x ≤ i
  | 0, i, r, _, _, h => by
    simp only [upR, List.mem_singleton] at h
    subst h; simp
  | k + 1, i, r, hk, hi, h => by
    have hp := v.par hi
    simp only [upR, List.mem_cons] at h
    rcases h with rfl | h
    · simp
    · by_cases hn : g2 f i 0 < 0
      · rw [if_pos hn] at h; simp at h
      · rw [if_neg hn] at h
        simp only [List.mem_map, List.mem_append] at h
        obtain ⟨q, hq, rfl⟩ := h
        have key : q.length ≤ i ∧ ∀ x ∈ q, x ≤ i := by
          rcases hq with hq | hq
          · obtain ⟨_, h2, h3⟩ := upR_in v (k := k) (by omega) (by omega) hq
            exact ⟨by omega, fun x hx => by have := h3 x hx; omega⟩
          · obtain ⟨_, h2, h3⟩ := upR_in v (k := k) (by omega) (by omega) hq
            exact ⟨by omega, fun x hx => by have := h3 x hx; omega⟩
        refine ⟨by simp, by simp only [List.length_cons]; omega, fun x hx => ?_⟩
        simp only [List.mem_cons] at hx
        rcases hx with rfl | hx
        · exact Nat.le_refl _
        · exact key.2 x hx
theorem last_mem {r : List Nat} {x : Nat} (h : r.getLast? = some x) : x ∈ r := List.mem_of_getLast? h
theorem wt_one_left {f : List (List Int)} {i : Nat} {o : List Nat} (h : i ∉ o) : wtP f [i] o = 0 := by
  have : meetB [i] o = false := by
    unfold meetB
    rw [Bool.and_eq_false_iff]
    refine .inl ?_
    rw [beq_eq_false_iff_ne]
    intro e
    exact h (last_mem (show o.getLast? = some i from e.symm))
  rw [wtP, this]; rfl
theorem wt_one_right {f : List (List Int)} {j : Nat} {r : List Nat} (h : j ∉ r) : wtP f r [j] = 0 := by
  have : meetB r [j] = false := by
    unfold meetB
    rw [Bool.and_eq_false_iff]
    refine .inl ?_
    rw [beq_eq_false_iff_ne]
    intro e
    exact h (last_mem (show r.getLast? = some j from e))
  rw [wtP, this]; rfl
theorem two_pow {m n : Nat} (h : m = n + 1) (x : Int) : 2 * (x * 2 ^ n) = x * 2 ^ m := by
  rw [h, Int.pow_succ, Int.mul_comm 2, Int.mul_assoc]
theorem wt_left {f : List (List Int)} {i : Nat} {r o : List Nat} (hr : r ≠ []) (h : i ∉ o) (hl : r.length + 1 + o.length ≤ 12) : 2 * wtP f (i :: r) o = wtP f r o := by
  obtain ⟨b, t, rfl⟩ := List.exists_cons_of_ne_nil hr
  have hm : meetB (i :: b :: t) o = meetB (b :: t) o := by
    unfold meetB
    rw [List.getLast?_cons_cons, List.dropLast_cons_cons, List.all_cons]
    have : o.contains i = false := by simpa using h
    rw [this]; rfl
  have hd : (i :: b :: t).getLastD 0 = (b :: t).getLastD 0 := by simp [List.getLastD]
  unfold wtP
  rw [hm, hd]
  split
  · exact two_pow (by simp only [List.length_cons] at hl ⊢; omega) _
  · rfl
theorem wt_right {f : List (List Int)} {j : Nat} {r o : List Nat} (ho : o ≠ []) (h : j ∉ r) (hl : r.length + (o.length + 1) ≤ 12) : 2 * wtP f r (j :: o) = wtP f r o := by
  obtain ⟨b, t, rfl⟩ := List.exists_cons_of_ne_nil ho
  have hm : meetB r (j :: b :: t) = meetB r (b :: t) := by
    unfold meetB
    rw [List.getLast?_cons_cons]
    congr 1
    rw [Bool.eq_iff_iff, List.all_eq_true, List.all_eq_true]
    refine forall_congr' fun x => ⟨fun k hx => ?_, fun k hx => ?_⟩
    · have := k hx
      simp only [List.contains_cons, Bool.not_eq_true', Bool.or_eq_false_iff] at this ⊢
      exact this.2
    · have := k hx
      have hne : x ≠ j := fun e => h (e ▸ List.dropLast_subset _ hx)
      simp only [List.contains_cons, Bool.not_eq_true', Bool.or_eq_false_iff] at this ⊢
      exact ⟨by simpa using hne, this⟩
  unfold wtP
  rw [hm]
  split
  · exact two_pow (by simp only [List.length_cons] at hl ⊢; omega) _
  · rfl
theorem wt_both {f : List (List Int)} {i : Nat} {r o : List Nat} (hr : r ≠ []) (h : i ∈ o) : wtP f (i :: r) o = 0 := by
  obtain ⟨b, t, rfl⟩ := List.exists_cons_of_ne_nil hr
  have : meetB (i :: b :: t) o = false := by
    unfold meetB
    rw [Bool.and_eq_false_iff]
    refine .inr ?_
    rw [List.dropLast_cons_cons, List.all_cons]
    have : o.contains i = true := by simpa using h
    rw [this]; rfl
  rw [wtP, this]; rfl
theorem wt_self (f : List (List Int)) (i : Nat) : wtP f [i] [i] = 1024 * kK f i i := by
  have : meetB [i] [i] = true := by simp [meetB]
  rw [wtP, this, if_pos rfl]
  show kK f i i * 2 ^ 10 = _
  omega
theorem wt_off {f : List (List Int)} {i : Nat} {o : List Nat} (ho : o ≠ []) (h : i ∉ o) : wtP f [i] (i :: o) = 0 := by
  obtain ⟨b, t, rfl⟩ := List.exists_cons_of_ne_nil ho
  have : meetB [i] (i :: b :: t) = false := by
    unfold meetB
    rw [Bool.and_eq_false_iff]
    refine .inl ?_
    rw [beq_eq_false_iff_ne, List.getLast?_cons_cons]
    intro e
    exact h (last_mem (show (b :: t).getLast? = some i from e.symm))
  rw [wtP, this]; rfl

theorem upR_cons {f : List (List Int)} (v : VPe f) {k i : Nat} (hk : i ≤ k) (hi : i < f.length) : ∃ R, upR f k i = [i] :: R ∧ ∀ r ∈ R, ∃ q, r = i :: q ∧ q ≠ [] ∧ i ∉ q := by
  match k, hk with
  | 0, hk => exact ⟨[], rfl, fun r hr => by simp at hr⟩
  | k + 1, hk =>
    have hp := v.par hi
    refine ⟨_, rfl, fun r hr => ?_⟩
    by_cases hn : g2 f i 0 < 0
    · rw [if_pos hn] at hr; simp at hr
    · rw [if_neg hn] at hr
      simp only [List.mem_map, List.mem_append] at hr
      obtain ⟨q, hq, rfl⟩ := hr
      refine ⟨q, rfl, ?_⟩
      rcases hq with hq | hq
      · obtain ⟨h1, _, h3⟩ := upR_in v (k := k) (by omega) (by omega) hq
        exact ⟨h1, fun hx => by have := h3 i hx; omega⟩
      · obtain ⟨h1, _, h3⟩ := upR_in v (k := k) (by omega) (by omega) hq
        exact ⟨h1, fun hx => by have := h3 i hx; omega⟩
/-- What all paths count. -/
def PthS (f : List (List Int)) (k l i j : Nat) : Int := sm1 (fun r => sm1 (fun o => wtP f r o) (upR f l j)) (upR f k i)
theorem paths_kin {f : List (List Int)} (v : VPe f) : ∀ s k l i j, k + l = s → i ≤ k → j ≤ l → i < f.length → j < f.length → PthS f k l i j = 1024 * kK f i j := by
  intro s
  induction s using Nat.strongRecOn with
  | ind s ih =>
  intro k l i j hs hik hjl hi hj
  have n6 := v.n6
  have big : ∀ {r o}, r ∈ upR f k i → o ∈ upR f l j → r.length + o.length ≤ 12 := fun hr ho => by
    have := (upR_in v hik hi hr).2.1
    have := (upR_in v hjl hj ho).2.1
    omega
  rcases Nat.lt_trichotomy j i with h | e | h
  · -- the first one is the later one
    obtain ⟨k, rfl⟩ : ∃ k', k = k' + 1 := ⟨k - 1, by omega⟩
    have hp := v.par hi
    have hK := kK_off v hi h
    have hno : ∀ o ∈ upR f l j, i ∉ o := fun o ho hx => by have := (upR_in v hjl hj ho).2.2 i hx; omega
    have h0 : sm1 (fun o => wtP f [i] o) (upR f l j) = 0 := sm1_zero fun o ho => wt_one_left (hno o ho)
    unfold PthS
    rw [upR, sm1, h0]
    by_cases hn : g2 f i 0 < 0
    · rw [if_pos hn] at hK ⊢
      rw [sm1]; omega
    · rw [if_neg hn] at hK ⊢
      have a1 := ih (k + l) (by omega) k l (g2 f i 0).toNat j rfl (by omega) hjl (by omega) hj
      have a2 := ih (k + l) (by omega) k l (g2 f i 1).toNat j rfl (by omega) hjl (by omega) hj
      have two : ∀ q, q ≤ k → q + 1 ≤ i → q < f.length → 2 * sm1 (fun r => sm1 (fun o => wtP f (i :: r) o) (upR f l j)) (upR f k q) = PthS f k l q j := fun q h1 h2 h3 => by
        unfold PthS
        rw [sm1_two]
        refine sm1_congr fun r hr => ?_
        rw [sm1_two]
        refine sm1_congr fun o ho => ?_
        have hu := upR_in v h1 h3 hr
        have := (upR_in v hjl hj ho).2.1
        exact wt_left hu.1 (hno o ho) (by omega)
      rw [sm1_map, sm1_app]
      have b1 := two (g2 f i 0).toNat (by omega) (by omega) (by omega)
      have b2 := two (g2 f i 1).toNat (by omega) (by omega) (by omega)
      omega
  · -- both are one
    have e' := e.symm
    subst e'
    obtain ⟨R, hR, hr⟩ := upR_cons v hik hi
    obtain ⟨O, hO, ho⟩ := upR_cons v hjl hi
    unfold PthS
    rw [hR, hO, sm1, sm1, wt_self]
    have z1 : sm1 (fun o => wtP f [i] o) O = 0 := sm1_zero fun o hx => by
      obtain ⟨q, rfl, h1, h2⟩ := ho o hx
      exact wt_off h1 h2
    have z2 : sm1 (fun r => sm1 (fun o => wtP f r o) ([i] :: O)) R = 0 := sm1_zero fun r hx => by
      obtain ⟨q, rfl, h1, h2⟩ := hr r hx
      refine sm1_zero fun o hx2 => wt_both h1 ?_
      simp only [List.mem_cons] at hx2
      rcases hx2 with rfl | hx2
      · simp
      · obtain ⟨q2, rfl, _, _⟩ := ho o hx2
        simp
    rw [z1, z2]; omega
  · -- the second one is the later one
    obtain ⟨l, rfl⟩ : ∃ l', l = l' + 1 := ⟨l - 1, by omega⟩
    have hp := v.par hj
    have hK := kK_off v hj h
    rw [kK_symm f j i] at hK
    have hno : ∀ r ∈ upR f k i, j ∉ r := fun r hr hx => by have := (upR_in v hik hi hr).2.2 j hx; omega
    unfold PthS
    rw [upR]
    have h0 : sm1 (fun r => wtP f r [j]) (upR f k i) = 0 := sm1_zero fun r hr => wt_one_right (hno r hr)
    by_cases hn : g2 f j 0 < 0
    · rw [if_pos hn] at hK ⊢
      have : sm1 (fun r => sm1 (fun o => wtP f r o) [[j]]) (upR f k i) = sm1 (fun r => wtP f r [j]) (upR f k i) := sm1_congr fun r _ => by rw [sm1, sm1]; omega
      rw [this, h0]; omega
    · rw [if_neg hn, kK_symm f _ i, kK_symm f _ i] at hK
      rw [if_neg hn]
      have a1 := ih (k + l) (by omega) k l i (g2 f j 0).toNat rfl hik (by omega) hi (by omega)
      have a2 := ih (k + l) (by omega) k l i (g2 f j 1).toNat rfl hik (by omega) hi (by omega)
      have two : ∀ q, q ≤ l → q + 1 ≤ j → q < f.length → 2 * sm1 (fun r => sm1 (fun o => wtP f r (j :: o)) (upR f l q)) (upR f k i) = PthS f k l i q := fun q h1 h2 h3 => by
        unfold PthS
        rw [sm1_two]
        refine sm1_congr fun r hr => ?_
        rw [sm1_two]
        refine sm1_congr fun o ho => ?_
        have hu := upR_in v h1 h3 ho
        have := (upR_in v hik hi hr).2.1
        exact wt_right hu.1 (hno r hr) (by omega)
      have sp : sm1 (fun r => sm1 (fun o => wtP f r o) ([j] :: ((upR f l (g2 f j 0).toNat ++ upR f l (g2 f j 1).toNat).map (j :: ·)))) (upR f k i) =
          sm1 (fun r => wtP f r [j]) (upR f k i) + (sm1 (fun r => sm1 (fun o => wtP f r (j :: o)) (upR f l (g2 f j 0).toNat)) (upR f k i) + sm1 (fun r => sm1 (fun o => wtP f r (j :: o)) (upR f l (g2 f j 1).toNat)) (upR f k i)) := by
        rw [← sm1_add, ← sm1_add]
        exact sm1_congr fun r _ => by rw [sm1, sm1_map, sm1_app]
      rw [sp, h0]
      have b1 := two (g2 f j 0).toNat (by omega) (by omega) (by omega)
      have b2 := two (g2 f j 1).toNat (by omega) (by omega) (by omega)
      omega
end Go.Proofs.Ytjmfkodbilknlaa

/- Kin by paths, in plain words: the rows up to each top by itself, as the model goes through them. -/
namespace Go.Proofs.Ytjmfkodbilknlaa

/-- The rows up from a person to a top. -/
def chM (f : List (List Int)) : Nat → Nat → Nat → List (List Nat)
  | 0, i, t => if i = t then [[i]] else []
  | k + 1, i, t => if i = t then [[i]] else if g2 f i 0 < 0 then [] else (chM f k (g2 f i 0).toNat t ++ chM f k (g2 f i 1).toNat t).map (i :: ·)
def endsAt (t : Nat) (r : List Nat) : Bool := r.getLast? == some t
theorem ends_cons {t i : Nat} {q : List Nat} (h : q ≠ []) : endsAt t (i :: q) = endsAt t q := by
  obtain ⟨b, s, rfl⟩ := List.exists_cons_of_ne_nil h
  unfold endsAt
  rw [List.getLast?_cons_cons]
theorem ch_filter {f : List (List Int)} (v : VPe f) (t : Nat) : ∀ {k i}, i ≤ k → i < f.length → chM f k i t = (upR f k i).filter (endsAt t)
  | 0, i, _, _ => by
    rw [chM, upR]
    by_cases e : i = t
    · rw [if_pos e]; simp [endsAt, e]
    · rw [if_neg e]; simp [endsAt, e]
  | k + 1, i, hk, hi => by
    have hp := v.par hi
    by_cases e : i = t
    · subst e
      obtain ⟨R, hR, hr⟩ := upR_cons v hk hi
      rw [chM, if_pos rfl, hR, List.filter_cons_of_pos (by simp [endsAt])]
      rw [List.filter_eq_nil_iff.2]
      intro r hm hx
      obtain ⟨q, rfl, h1, h2⟩ := hr r hm
      rw [ends_cons h1] at hx
      exact h2 (last_mem (by simpa [endsAt] using hx))
    · rw [chM, if_neg e, upR, List.filter_cons_of_neg (by simp [endsAt, e])]
      by_cases hn : g2 f i 0 < 0
      · rw [if_pos hn, if_pos hn]; rfl
      · rw [if_neg hn, if_neg hn, ch_filter v t (k := k) (by omega) (by omega), ch_filter v t (k := k) (by omega) (by omega), ← List.filter_append, List.filter_map]
        congr 1
        refine List.filter_congr fun q hq => ?_
        have hne : q ≠ [] := by
          rcases List.mem_append.1 hq with hq | hq
          · exact (upR_in v (by omega) (by omega) hq).1
          · exact (upR_in v (by omega) (by omega) hq).1
        exact (ends_cons hne).symm
theorem sm1_filter {F : List Nat → Int} {p : List Nat → Bool} : ∀ {L}, (∀ r ∈ L, p r = false → F r = 0) → sm1 F (L.filter p) = sm1 F L
  | [], _ => rfl
  | r :: L, h => by
    have ih := sm1_filter (L := L) fun x hx => h x (by simp [hx])
    by_cases e : p r = true
    · rw [List.filter_cons_of_pos e, sm1, sm1, ih]
    · rw [List.filter_cons_of_neg e, sm1, ih, h r (by simp) (by simpa using e)]; omega
/-- A sum over all tops below n. -/
def smT (F : Nat → Int) : Nat → Int
  | 0 => 0
  | n + 1 => smT F n + F n
theorem smT_congr {F G : Nat → Int} : ∀ {n}, (∀ t, t < n → F t = G t) → smT F n = smT G n
  | 0, _ => rfl
  | n + 1, h => by rw [smT, smT, smT_congr fun t ht => h t (by omega), h n (by omega)]
theorem smT_add (F G : Nat → Int) : ∀ n, smT (fun t => F t + G t) n = smT F n + smT G n
  | 0 => rfl
  | n + 1 => by rw [smT, smT, smT, smT_add F G n]; omega
theorem smT_none {F : Nat → Int} : ∀ {n}, (∀ t, t < n → F t = 0) → smT F n = 0
  | 0, _ => rfl
  | n + 1, h => by rw [smT, smT_none fun t ht => h t (by omega), h n (by omega)]; rfl
theorem smT_pick (x : Int) (s : Nat) : ∀ {n}, s < n → smT (fun t => if t = s then x else 0) n = x
  | 0, h => absurd h (by omega)
  | n + 1, h => by
    rw [smT]
    by_cases e : n = s
    · rw [if_pos e, smT_none fun t ht => if_neg (by omega)]; omega
    · rw [if_neg e, smT_pick x s (n := n) (by omega)]; omega
theorem smT_ends {F : List Nat → Int} {n : Nat} : ∀ {L}, (∀ r ∈ L, ∃ t, t < n ∧ r.getLast? = some t) → smT (fun t => sm1 F (L.filter (endsAt t))) n = sm1 F L
  | [], _ => smT_none fun _ _ => rfl
  | r :: L, h => by
    have ih := smT_ends (F := F) (n := n) (L := L) fun x hx => h x (by simp [hx])
    obtain ⟨s, hs, e⟩ := h r (by simp)
    rw [sm1, ← ih, ← smT_pick (F r) s hs, ← smT_add]
    refine smT_congr fun t _ => ?_
    by_cases et : t = s
    · rw [List.filter_cons_of_pos (by rw [endsAt, e, et]; simp), sm1, if_pos et]
    · rw [List.filter_cons_of_neg (by rw [endsAt, e]; simpa using fun h => et h.symm), if_neg et]; omega
/-- What the model adds up for one top. -/
def tpS (f : List (List Int)) (k i j t : Nat) : Int := if i = j ∧ t ≠ i then 0 else sm1 (fun r => sm1 (fun o => wtP f r o) (chM f k j t)) (chM f k i t)
theorem tops_kin {f : List (List Int)} (v : VPe f) {k i j : Nat} (hik : i ≤ k) (hjk : j ≤ k) (hi : i < f.length) (hj : j < f.length) : smT (tpS f k i j) f.length = 1024 * kK f i j := by
  rw [← paths_kin v (k + k) k k i j rfl hik hjk hi hj]
  have hlast : ∀ r ∈ upR f k i, ∃ t, t < f.length ∧ r.getLast? = some t := fun r hr => by
    obtain ⟨h1, _, h3⟩ := upR_in v hik hi hr
    obtain ⟨x, hx⟩ := Option.isSome_iff_exists.1 (List.getLast?_isSome.2 h1)
    exact ⟨x, by have := h3 x (last_mem hx); omega, hx⟩
  have hin : ∀ t, ∀ r ∈ chM f k i t, sm1 (fun o => wtP f r o) (chM f k j t) = sm1 (fun o => wtP f r o) (upR f k j) := fun t r hr => by
    rw [ch_filter v t hik hi, List.mem_filter] at hr
    rw [ch_filter v t hjk hj]
    refine sm1_filter fun o _ he => ?_
    have : meetB r o = false := by
      unfold meetB
      rw [Bool.and_eq_false_iff]
      refine .inl ?_
      rw [beq_eq_false_iff_ne]
      intro e
      have h2 := hr.2
      unfold endsAt at h2 he
      rw [e] at h2
      rw [h2] at he
      exact absurd he (by decide)
    rw [wtP, this]; rfl
  unfold PthS
  rw [← smT_ends hlast]
  refine smT_congr fun t _ => ?_
  unfold tpS
  rw [← ch_filter v t hik hi]
  split
  · rename_i h
    obtain ⟨rfl, ht⟩ := h
    refine (sm1_zero fun r hr => ?_).symm
    rw [← hin t r hr]
    refine sm1_zero fun o ho => ?_
    rw [ch_filter v t hik hi, List.mem_filter] at hr ho
    obtain ⟨R, hR, hq⟩ := upR_cons v hik hi
    rw [hR] at hr ho
    have shape : ∀ x, (x ∈ [i] :: R ∧ endsAt t x = true) → ∃ q, x = i :: q ∧ q ≠ [] := fun x hx => by
      rcases List.mem_cons.1 hx.1 with e | e
      · have h2 := hx.2
        rw [e] at h2
        exact absurd (show i = t by simpa [endsAt] using h2) (fun e => ht e.symm)
      · obtain ⟨q, h1, h2, _⟩ := hq x e
        exact ⟨q, h1, h2⟩
    obtain ⟨q, rfl, h1⟩ := shape r hr
    obtain ⟨q2, rfl, _⟩ := shape o ho
    exact wt_both h1 (by simp)
  · exact sm1_congr fun r hr => hin t r hr
end Go.Proofs.Ytjmfkodbilknlaa

/- Rows up to a top, as lists of whole numbers: plain. -/
namespace Go.Proofs.Ytjmfkodbilknlaa

/-- The model's chains. -/
def chI (f : List (List Int)) : Nat → Nat → Nat → List (List Int)
  | 0, i, t => if i = t then [[(i : Int)]] else []
  | k + 1, i, t => if i = t then [[(i : Int)]] else if g2 f i 0 < 0 then [] else (chI f k (g2 f i 0).toNat t ++ chI f k (g2 f i 1).toNat t).map ((i : Int) :: ·)
def natI (r : List Nat) : List Int := r.map fun (x : Nat) => (x : Int)
theorem chI_nat (f : List (List Int)) (t : Nat) : ∀ k i, chI f k i t = (chM f k i t).map natI
  | 0, i => by rw [chI, chM]; split <;> rfl
  | k + 1, i => by
    rw [chI, chM]
    split
    · rfl
    · split
      · rfl
      · rw [chI_nat f t k, chI_nat f t k, ← List.map_append, List.map_map, List.map_map]; rfl
theorem chI_len (f : List (List Int)) (t : Nat) : ∀ k i, (chI f k i t).length ≤ 2 ^ k
  | 0, i => by rw [chI]; split <;> simp
  | k + 1, i => by
    have hp : 0 < 2 ^ k := Nat.pow_pos (by decide)
    rw [chI, Nat.pow_succ]
    split
    · simp only [List.length_singleton]; omega
    · split
      · simp
      · have h1 := chI_len f t k (g2 f i 0).toNat
        have h2 := chI_len f t k (g2 f i 1).toNat
        rw [List.length_map, List.length_append]; omega
theorem chI_in {f : List (List Int)} (v : VPe f) {t k i : Nat} (hk : i ≤ k) (hi : i < f.length) : ∀ r ∈ chI f k i t, 1 ≤ r.length ∧ r.length ≤ i + 1 ∧ ∀ x ∈ r, 0 ≤ x ∧ x ≤ (i : Int) := fun r hr => by
  rw [chI_nat, ch_filter v t hk hi] at hr
  obtain ⟨q, hq, rfl⟩ := List.mem_map.1 hr
  obtain ⟨h1, h2, h3⟩ := upR_in v hk hi (List.mem_filter.1 hq).1
  have hl : (natI q).length = q.length := by simp [natI]
  refine ⟨by have := List.length_pos_iff.2 h1; omega, by omega, fun x hx => ?_⟩
  obtain ⟨y, hy, rfl⟩ := List.mem_map.1 hx
  have := h3 y hy
  omega
theorem chI_one (f : List (List Int)) (i : Nat) : ∀ k, chI f k i i = [[(i : Int)]]
  | 0 => by rw [chI, if_pos rfl]
  | k + 1 => by rw [chI, if_pos rfl]
theorem chI_none {f : List (List Int)} {i t : Nat} (h : i ≠ t) (hn : g2 f i 0 < 0) : ∀ k, chI f k i t = []
  | 0 => by rw [chI, if_neg h]
  | k + 1 => by rw [chI, if_neg h, if_pos hn]
/-- What the first m parents give. -/
def chP (f : List (List Int)) (k i t : Nat) : Nat → List (List Int)
  | 0 => []
  | m + 1 => chP f k i t m ++ (chI f k (g2 f i m).toNat t).map ((i : Int) :: ·)
theorem chP_two {f : List (List Int)} {k i t : Nat} (h : i ≠ t) (hn : ¬ g2 f i 0 < 0) : chP f k i t 2 = chI f (k + 1) i t := by
  rw [chI, if_neg h, if_neg hn, List.map_append]; simp [chP]
theorem chP_len (f : List (List Int)) {k : Nat} (hk : k ≤ 4) (i t : Nat) : ∀ m, m ≤ 2 → (chP f k i t m).length ≤ 16 * m
  | 0, _ => by simp [chP]
  | m + 1, hm => by
    have h1 := chP_len f hk i t m (by omega)
    have h2 := chI_len f t k (g2 f i m).toNat
    have h3 : 2 ^ k ≤ 2 ^ 4 := Nat.pow_le_pow_right (by decide) hk
    rw [chP, List.length_append, List.length_map]; omega
theorem take_cons_next (list : List (List Int)) (x : Int) {i : Nat} (h : i < list.length) :
    (list.take (i + 1)).map (fun r => x :: r) = (list.take i).map (fun r => x :: r) ++ [x :: gr list i] := by
  rw [List.take_add_one, List.map_append, List.getElem?_eq_getElem h, gr_get h]; rfl
end Go.Proofs.Ytjmfkodbilknlaa

/- Rows up from a person to a top, by the model. -/
namespace Go.Proofs.Ytjmfkodbilknlaa
open Go.RowKit

/-- A table of one row of one number, written out. -/
theorem newT_row (w : World) (x : Int) (hx : -9223372036854775808 ≤ x ∧ x ≤ 9223372036854775807) :
    NewT w [[x]] (.returned (.slice (some ⟨w.heap.size + 1, 0, none⟩) 1 1)) ((w.alloc (.cells #[.int .i64 x] 3)).alloc (.cells #[.slice (some ⟨w.heap.size, 0, none⟩) 1 1] 36)) := by
  have hl := Ints.lit w [x] (by simp) (fun y hy => by simp at hy; subst hy; exact hx)
  have hb := below_alloc (w.alloc (.cells #[.int .i64 x] 3)) (.cells #[.slice (some ⟨w.heap.size, 0, none⟩) 1 1] 36)
  have hl2 : Ints ((w.alloc (.cells #[.int .i64 x] 3)).alloc (.cells #[.slice (some ⟨w.heap.size, 0, none⟩) 1 1] 36)) (some ⟨w.heap.size, 0, none⟩) 1 1 [x] := Ints.keep hl (Keep.below hb)
  have hB := blk_new (w.alloc (.cells #[.int .i64 x] 3)) 36 #[.slice (some ⟨w.heap.size, 0, none⟩) 1 1]
  have hA := blk_below (blk_new w 3 #[.int .i64 x]) hb
  simp only [World.size_alloc] at hB
  refine ⟨_, _, _, w.heap.size + 1, rfl, rfl, ⟨rfl, Nat.le_refl _, by show (1 : Nat) ≤ _; omega, fun _ => ⟨0, fun _ => w.heap.size, fun _ => some ⟨w.heap.size, 0, none⟩, fun _ => 1, rfl, by omega, by simp only [World.size_alloc]; omega, fun k hk => ?_, fun j k h1 h2 => by simp at h2; omega⟩⟩, below_up (below_alloc _ _) hb⟩
  obtain rfl : k = 0 := by simp at hk; omega
  exact ⟨blk_frozen hB _, blk_cell hB rfl, ⟨hl2, fun _ => ⟨0, rfl, Nat.le_refl _, by simp only [World.size_alloc]; omega, fun k _ => blk_frozen hA _⟩⟩, fun _ => Nat.ne_of_lt (Nat.lt_succ_self _)⟩

theorem chains_one (A : Option Addr) (n c : Nat) (i : Nat) (w : World) (hi : i ≤ 6) : Calls Try.prog 35 #[.slice A n c, .int .i64 i, .int .i64 i] w (NewT w [[(i : Int)]]) := by
  have HN := Lib.hid (newT_row w (i : Int) (by omega))
  have hii : ((i : Int) == (i : Int)) = true := by simp
  go_enter Try.func35, Try.ntmps35
  go_wp2
  go_ret
  exact HN.out
set_option maxRecDepth 100000 in
set_option maxHeartbeats 1600000 in
theorem chains_none (A : Option Addr) (n c : Nat) (f : List (List Int)) (i t : Nat) (w : World) (hx : IntRows w A n c f) (v : VPe f) (hi : i < f.length) (h : i ≠ t) (hn : g2 f i 0 < 0) : Calls Try.prog 35 #[.slice A n c, .int .i64 i, .int .i64 t] w (NewT w []) := by
  have hl := hx.len
  have hit : ((i : Int) == (t : Int)) = false := by rw [beq_eq_false_iff_ne]; omega
  obtain ⟨b, o, rfl, hc⟩ := hx.at_ (by omega)
  obtain ⟨R, cc, c1, hR⟩ := hc i (by omega)
  have h2 := v.two hi
  rw [h2] at c1 hR
  obtain ⟨b2, o2, rfl, hc2⟩ := hR.at_ (by omega)
  have c2 := hc2 0 (by omega)
  have hn' : gi (gr f i) 0 < 0 := hn
  have HS0 := Lib.hid (TM.start w)
  have hmx := hx.max
  have C1 := Lib.hid c1
  replace c2 : w.cell? ⟨b2, o2, none⟩ = some (.int .i64 (gi (gr f i) 0)) := c2
  have C2 := Lib.hid c2
  clear hc hc2 hR hn h2 c1 c2
  generalize gi (gr f i) 0 = x at *
  go_enter Try.func35, Try.ntmps35
  go_wp2
  have K := Keep.below HS0.out.up
  have c1 := K _ _ C1.out
  have c2 := K _ _ C2.out
  go_loopw [7, 8] (fun v k_ wr => ∃ vs : List Value, k_ = .int .i64 0 ∧ Hid (TM w v vs [] wr)) (fun _ _ _ => 0)
  case atStart => exact ⟨[], rfl, HS0⟩
  case round =>
    clear c1 c2 K HS0
    obtain ⟨vs, rfl, HT⟩ := hrel
    obtain ⟨Av, cv, rfl⟩ := HT.out.bo.form
    have K := Keep.below HT.out.up
    have c1 := K _ _ C1.out
    have c2 := K _ _ C2.out
    have hx0 : ¬ (0 : Int) ≤ x := by omega
    have hx1 : decide ((0 : Int) ≤ x) = false := decide_eq_false hx0
    have HN := Lib.hid (HT.out.new (by simp))
    clear HT K
    go_wp2
    go_ret
    exact HN.out
set_option maxRecDepth 100000 in
set_option maxHeartbeats 3200000 in
theorem chains_any (A : Option Addr) (n c : Nat) (f : List (List Int)) (v : VPe f) (t : Nat) (ht : t ≤ 6) : ∀ k, k ≤ 5 → ∀ i, i ≤ k → i < f.length → ∀ w, IntRows w A n c f →
    Calls Try.prog 35 #[.slice A n c, .int .i64 i, .int .i64 t] w (NewT w (chI f k i t)) := by
  intro k
  induction k with
  | zero =>
    intro _ i hi hl w hx
    by_cases e : i = t
    · subst e; rw [chI_one]; exact chains_one A n c i w (by omega)
    · have hp := v.par hl
      have hn : g2 f i 0 < 0 := by omega
      rw [chI_none e hn]
      exact chains_none A n c f i t w hx v hl e hn
  | succ k ih =>
    intro hk i hi hl w hx
    by_cases e : i = t
    · subst e; rw [chI_one]; exact chains_one A n c i w (by omega)
    by_cases hn : g2 f i 0 < 0
    · rw [chI_none e hn]; exact chains_none A n c f i t w hx v hl e hn
    · have IH := Lib.hid (ih (by omega))
      have hlen := hx.len
      have hit : ((i : Int) == (t : Int)) = false := by rw [beq_eq_false_iff_ne]; omega
      have hp := v.par hl
      have hmx := hx.max
      have HX := Lib.hid hx
      have HL := Lib.hid hl
      obtain ⟨b, o, rfl, hc⟩ := hx.at_ (by omega)
      obtain ⟨R, cc, c1, hR⟩ := hc i (by omega)
      rw [v.two hl] at c1 hR
      obtain ⟨b2, o2, rfl, hc2⟩ := hR.at_ (by omega)
      have HC2 := Lib.hid hc2
      have C1 := Lib.hid c1
      have PB : Hid (∀ m, m < 2 → 0 ≤ g2 f i m ∧ g2 f i m < i) := Lib.hid (fun m hm => by
        have : m = 0 ∨ m = 1 := by omega
        rcases this with rfl | rfl <;> omega)
      have HTWO := Lib.hid (chP_two (k := k) e hn)
      have HP0 := Lib.hid (show chP f k i t 0 = [] from rfl)
      have VP := Lib.hid v
      have HS0 := Lib.hid (TM.start w)
      have hi5 : i ≤ 5 := by omega
      clear hc hc2 hR hp e hn c1 ih hx
      go_enter Try.func35, Try.ntmps35
      go_wp2
      go_loopw [7, 8] (fun v k_ wr => ∃ (m : Nat) (vs : List Value), m ≤ 2 ∧ k_ = .int .i64 m ∧ Hid (TM w v vs (chP f k i t m) wr)) (fun _ k_ _ => 2 - (intOf k_).toNat)
      case atStart => exact ⟨0, [], by omega, rfl, by rw [HP0.out]; exact HS0⟩
      case round =>
        clear HS0
        obtain ⟨m, vs, hm, rfl, HT⟩ := hrel
        obtain ⟨Av, cv, rfl⟩ := HT.out.bo.form
        have HAB := Lib.hid (chP_len f (k := k) (by omega) i t m hm)
        by_cases hm2 : m < 2
        · have K := Keep.below HT.out.up
          have c1 := K _ _ C1.out
          have c2 := K _ _ (HC2.out 0 (by omega))
          have c3 := K _ _ (HC2.out m hm2)
          replace c2 : wr.cell? ⟨b2, o2, none⟩ = some (.int .i64 (g2 f i 0)) := c2
          replace c3 : wr.cell? ⟨b2, o2 + m, none⟩ = some (.int .i64 (g2 f i m)) := c3
          have hg0 := (PB.out 0 (by omega)).1
          have hgm := PB.out m hm2
          have HXr := Lib.hid (HX.out.keep K)
          have HST := Lib.hid (show chP f k i t (m + 1) = chP f k i t m ++ (chI f k (g2 f i m).toNat t).map (fun r => (i : Int) :: r) from rfl)
          have HC := Lib.hid (IH.out (g2 f i m).toNat (by omega) (by have := HL.out; omega) wr HXr.out)
          rw [Int.toNat_of_nonneg hgm.1] at HC
          have HLN := Lib.hid (show (chI f k (g2 f i m).toNat t).length ≤ 16 by
            have h1 := chI_len f t k (g2 f i m).toNat
            have h3 : 2 ^ k ≤ 2 ^ 4 := Nat.pow_le_pow_right (by decide) (by omega)
            omega)
          have HBD := Lib.hid (chI_in VP.out (t := t) (k := k) (i := (g2 f i m).toNat) (by omega) (by have := HL.out; omega))
          have HRL : Hid (∀ r ∈ chI f k (g2 f i m).toNat t, r.length ≤ 6) := Lib.hid (fun r hr => by have := (HBD.out r hr).2.1; omega)
          clear K HBD HXr
          have hd0 : decide ((0 : Int) ≤ g2 f i 0) = true := decide_eq_true hg0
          generalize chI f k (g2 f i m).toNat t = list at *
          generalize hacc : chP f k i t m = acc at *
          clear hacc
          generalize g2 f i 0 = x0 at *
          generalize g2 f i m = xm at *
          go_wp2_with fail
          refine HC.out.mono ?_
          rintro e w2 ⟨Al, nl, cl, gl, rfl, hnl, ho, hb⟩
          subst hnl
          have HPI := Lib.hid (PI.start HT.out ho hb)
          have hl16 := HLN.out
          clear ho hb HC HT c1 c2 c3
          generalize wr.heap.size = lo at *
          go_wp2
          generalize w2.heap.size = hi at *
          go_loopw [7, 10] (fun v i_ wi => ∃ (q : Nat) (vs : List Value), q ≤ list.length ∧ i_ = .int .i64 q ∧ Hid (PI w lo hi v vs (acc ++ (list.take q).map (fun r => (i : Int) :: r)) gl Al list.length cl list wi)) (fun _ i_ _ => list.length - (intOf i_).toNat)
          case atStart => exact ⟨0, vs, Nat.zero_le _, rfl, Lib.hid (by simpa using HPI.out)⟩
          case round =>
            clear HPI
            obtain ⟨q, vs, hq_, rfl, HPI⟩ := hrel
            obtain ⟨Av, cv, rfl⟩ := HPI.out.tm.bo.form
            by_cases hlt : q < list.length
            · obtain ⟨ol, G, RR, CC, rfl, _, _, hcell, _⟩ := HPI.out.li.at_ (by omega)
              obtain ⟨_, c1, hri, _⟩ := hcell q hlt
              have hgl := World.block_lt_of_cell? _ _ c1
              have hgn : gl ≠ wr.heap.size := Nat.ne_of_lt hgl
              have HRB := Lib.hid (HRL.out _ (gr_mem hlt))
              obtain ⟨Ar, cr, w5, gr5, hrun, hb5, hI5⟩ := row_new wr (i : Int) (RR q) _ (CC q) (gr list q) hri.ints (by have := HRB.out; omega) (by omega)
              have HRUN := Lib.hid hrun
              have HB5 := Lib.hid hb5
              have HI5 := Lib.hid hI5
              have HTK := Lib.hid (take_cons_next list (i : Int) hlt)
              have HAL := Lib.hid (show (acc ++ (list.take q).map (fun r => (i : Int) :: r)).length ≤ 90 by rw [List.length_append, List.length_map, List.length_take]; have := HAB.out; have := HLN.out; omega)
              clear hcell hri hrun hb5 hI5
              generalize (i : Int) :: gr list q = row at *
              generalize (list.take q).map (fun r => (i : Int) :: r) = part at *
              generalize hac2 : acc ++ part = ac2 at *
              have HAC := Lib.hid hac2
              clear hac2
              have HPN := Lib.hid ((HPI.out.tm.next HB5.out).bo.below (below_alloc w5 (.cells #[.slice Ar row.length cr] 36))).own
              have HN := Lib.hid (cell_one_new w5 (.slice Ar row.length cr) 36)
              have hlh : w.heap.size ≤ w5.heap.size := Nat.le_trans HPI.out.tm.up.size HB5.out.size
              obtain ⟨i1, hi1, hy0, hy1, hy2⟩ := info_parts Try.info_row
              go_wp2_with (first
                | (at_builtin; refine Lib.wpList_append_run _ rfl _ _ _ _ rfl _ _ rfl rfl _ _ HRUN.out ?_)
                | (at_builtin; refine wpList_append_own_at _ rfl _ _ 22 rfl w.heap.size 36 i1 (.slice none 0 0) 1 24 Try.underlying22 hi1 hy0 hy1 hy2 rfl (by decide) _ ac2.length vs rfl HPN.out ⟨w5.heap.size, 0, none⟩ 1 1 [.slice Ar row.length cr] rfl rfl (by exact HN.out) ?d2 ?d3 ?d4 ?d5 ?_))
              case d2 => first | (intro u hu; simp at hu; subst hu; rfl) | rfl | simp [Value.oneCell']
              case d3 => have := HAL.out; unfold maxLen; omega
              case d4 => have := HAL.out; omega
              case d5 => first | omega | (simp; omega)
              intro v' w6 hown' hgrow _ hat
              have HPI6 := Lib.hid (HPI.out.push HB5.out HI5.out hown' hgrow (by simpa using hat))
              clear HPN HN hown' hgrow hat HPI HRUN HB5 HI5 c1
              go_wp2
              go_roundw
              case rel => exact ⟨q + 1, _, by omega, by go_num, Lib.hid (by rw [HTK.out, ← List.append_assoc, HAC.out]; exact HPI6.out)⟩
              case measure => simp [intOf]; omega
            · obtain rfl : q = list.length := by omega
              have HTM := Lib.hid (show TM w (.slice Av (chP f k i t (m + 1)).length cv) vs (chP f k i t (m + 1)) wr by have h := HPI.out.tm; rw [List.take_length, ← HST.out] at h; exact h)
              have HLE := Lib.hid (show (acc ++ (list.take list.length).map (fun r => (i : Int) :: r)).length = (chP f k i t (m + 1)).length by rw [List.take_length, ← HST.out])
              rw [HLE.out]
              clear HPI HST HLE
              go_wp2
              go_roundw
              case rel => exact ⟨m + 1, vs, by omega, by go_num, HTM⟩
              case measure => simp [intOf]; omega
        · obtain rfl : m = 2 := by omega
          have HN := Lib.hid (HT.out.new (by have := HAB.out; omega))
          clear HT
          go_wp2
          go_ret
          rw [← HTWO.out]
          exact HN.out
end Go.Proofs.Ytjmfkodbilknlaa

/- Fractions over 65536, by the model: what the paths add up. -/
namespace Go.Proofs.Ytjmfkodbilknlaa
open Go.RowKit

def fL (x : Int) : Value := frV x 65536
theorem frV_L {u d x : Int} (hd : 0 < d) (h : u * 65536 = x * d) : frV u d = fL x := by
  have := fr_eq hd (show (0 : Int) < 65536 by decide) h
  unfold fL frV
  rw [this.1, this.2]
theorem fL_form (x : Int) : ∃ U D, fL x = .agg #[.int .i64 U, .int .i64 D] := ⟨_, _, rfl⟩
theorem fL_K (x : Int) : fL (1024 * x) = fK x := frV_K (by decide) (by omega)
theorem fL_u {x : Int} (h : -1000000000 ≤ x ∧ x ≤ 1000000000) : -1000000000 ≤ frU x 65536 ∧ frU x 65536 ≤ 1000000000 := frU_bd (u := x) (d := 65536) (by decide) h
theorem fL_d (x : Int) : 1 ≤ frD x 65536 ∧ frD x 65536 ≤ 65536 := frD_bd (u := x) (d := 65536) (by decide) (by decide)
theorem fL_plus (x y : Int) : frV (frU x 65536 * frD y 65536 + frU y 65536 * frD x 65536) (frD x 65536 * frD y 65536) = fL (x + y) := by
  have h1 := fL_d x
  have h2 := fL_d y
  refine frV_L (Int.mul_pos (by omega) (by omega)) ?_
  have r1 := fr_ratio x 65536
  have r2 := fr_ratio y 65536
  grind
/-- x over 64, by 1 over p. -/
theorem fL_times {x p z : Int} (hp : 0 < p) (h : x * 1024 = z * p) : frV (frU x 64 * frU 1 p) (frD x 64 * frD 1 p) = fL z := by
  have h1 := fK_d x
  have h2 := frD_bd (u := 1) (d := p) (B := p) hp (Int.le_refl _)
  refine frV_L (Int.mul_pos (by omega) (by omega)) ?_
  have r1 := fr_ratio x 64
  have r2 := fr_ratio 1 p
  grind
theorem plusL_spec (x y : Int) (w : World) (hx : -1000000000 ≤ x ∧ x ≤ 1000000000) (hy : -1000000000 ≤ y ∧ y ≤ 1000000000) : Calls Try.prog 37 #[fL x, fL y] w (Ret (fL (x + y)) w) := by
  have h1 := fL_u hx
  have h2 := fL_u hy
  have h3 := fL_d x
  have h4 := fL_d y
  have h := plusH_any (frU x 65536) (frD x 65536) (frU y 65536) (frD y 65536) w (by omega) (by omega) (by omega) (by omega)
  rw [fL_plus] at h
  exact h
theorem timesL_spec (x p z : Int) (w : World) (hx : -200000 ≤ x ∧ x ≤ 200000) (hp : 1 ≤ p ∧ p ≤ 200000) (hz : x * 1024 = z * p) : Calls Try.prog 38 #[fK x, frV 1 p] w (Ret (fL z) w) := by
  have h1 := fK_u hx
  have h2 := frU_bd (u := 1) (d := p) (B := 1) (by omega) (by omega)
  have h3 := fK_d x
  have h4 := frD_bd (u := 1) (d := p) (B := p) (by omega) (Int.le_refl _)
  have h := timesH_any (frU x 64) (frD x 64) (frU 1 p) (frD 1 p) w (by omega) (by omega) (by omega) (by omega)
  rw [fL_times (by omega) hz] at h
  exact h
end Go.Proofs.Ytjmfkodbilknlaa

/- Rows that meet at their ends alone: the model's test on whole numbers, and the sums over lists. Plain. -/
namespace Go.Proofs.Ytjmfkodbilknlaa

theorem cnI_pos {xs : List Int} {s : Int} : ∀ {k q : Nat}, q < k → gi xs q = s → 0 < cnI xs s k
  | 0, _, h, _ => absurd h (by omega)
  | k + 1, q, h, e => by
    have hb := cnI_bd xs s k
    rw [cnI]
    by_cases ek : gi xs k = s
    · rw [if_pos ek]; omega
    · rw [if_neg ek]
      have : q ≠ k := fun e2 => ek (by rw [← e2]; exact e)
      exact cnI_pos (by omega) e
theorem cn_zero {xs : List Int} {s : Int} : cn xs s ≤ 0 ↔ s ∉ xs := by
  constructor
  · intro h hm
    obtain ⟨q, hq, e⟩ := List.mem_iff_getElem.1 hm
    have := cnI_pos (xs := xs) (s := s) hq (by rw [gi_get hq]; exact e)
    unfold cn at h; omega
  · intro h
    have hb := (cnI_bd xs s xs.length).1
    by_cases e : cnI xs s xs.length = 0
    · unfold cn; omega
    · obtain ⟨q, hq, e2⟩ := cnI_in e
      exact absurd (by rw [← e2]; exact gi_mem hq) h
theorem upR_last {f : List (List Int)} (v : VPe f) {t : Nat} : ∀ {k i r}, i ≤ k → i < f.length → r ∈ upR f k i → r.getLast? = some t → t ∉ r.dropLast
  | 0, i, r, _, _, h, _ => by
    simp only [upR, List.mem_singleton] at h
    subst h; simp
  | k + 1, i, r, hk, hi, h, he => by
    have hp := v.par hi
    simp only [upR, List.mem_cons] at h
    rcases h with rfl | h
    · simp
    · by_cases hn : g2 f i 0 < 0
      · rw [if_pos hn] at h; simp at h
      · rw [if_neg hn] at h
        simp only [List.mem_map, List.mem_append] at h
        obtain ⟨q, hq, rfl⟩ := h
        have key : ∀ p : Nat, p ≤ k → p < i → p < f.length → q ∈ upR f k p → t ∉ (i :: q).dropLast := fun p h1 h2 h3 hm => by
          obtain ⟨hne, _, hle⟩ := upR_in v h1 h3 hm
          obtain ⟨b, s, rfl⟩ := List.exists_cons_of_ne_nil hne
          rw [List.getLast?_cons_cons] at he
          have ih := upR_last v (t := t) h1 h3 hm he
          have := hle t (last_mem he)
          rw [List.dropLast_cons_cons, List.mem_cons]
          rintro (e | e)
          · omega
          · exact ih e
        rcases hq with hq | hq
        · exact key _ (by omega) (by omega) (by omega) hq
        · exact key _ (by omega) (by omega) (by omega) hq
theorem natI_len (r : List Nat) : (natI r).length = r.length := by simp [natI]
theorem natI_mem {r : List Nat} {x : Nat} : (x : Int) ∈ natI r ↔ x ∈ r := by
  unfold natI
  rw [List.mem_map]
  constructor
  · rintro ⟨y, hy, e⟩
    have : y = x := by omega
    rw [← this]; exact hy
  · intro h; exact ⟨x, h, rfl⟩
theorem natI_gi {r : List Nat} {q : Nat} (h : q < r.length) : gi (natI r) q = (r[q] : Int) := by
  rw [gi_get (by rw [natI_len]; exact h)]; simp [natI]
theorem natI_drop (r : List Nat) : (natI r).take ((natI r).length - 1) = natI r.dropLast := by
  rw [natI_len]; unfold natI; rw [← List.map_take, List.dropLast_eq_take]
theorem apt_meet {f : List (List Int)} (v : VPe f) {k i j t : Nat} {r o : List Nat} (hik : i ≤ k) (hjk : j ≤ k) (hi : i < f.length) (hj : j < f.length) (hr : r ∈ chM f k i t) (ho : o ∈ chM f k j t) :
    APt (natI r) (natI o) ↔ meetB r o = true := by
  rw [ch_filter v t hik hi, List.mem_filter] at hr
  rw [ch_filter v t hjk hj, List.mem_filter] at ho
  have er : r.getLast? = some t := by have := hr.2; simpa [endsAt] using this
  have eo : o.getLast? = some t := by have := ho.2; simpa [endsAt] using this
  have hne := (upR_in v hik hi hr.1).1
  have hlen := List.length_pos_iff.2 hne
  have hlt := upR_last v hjk hj ho.1 eo
  have hlast : gi (natI r) ((natI r).length - 1) = (t : Int) := by
    rw [natI_len, natI_gi (by omega)]
    rw [List.getLast?_eq_getElem?, List.getElem?_eq_getElem (by omega)] at er
    injection er with er
    rw [er]
  unfold meetB
  rw [er, eo, Bool.and_eq_true, List.all_eq_true]
  unfold APt
  rw [hlast, natI_drop]
  have hz : cn (natI o.dropLast) (t : Int) = 0 := by
    have h1 := cn_zero.2 (show (t : Int) ∉ natI o.dropLast from fun h => hlt (natI_mem.1 h))
    have h2 := (cnI_bd (natI o.dropLast) (t : Int) (natI o.dropLast).length).1
    unfold cn at *; omega
  constructor
  · rintro ⟨h, _⟩
    refine ⟨by simp, fun x hx => ?_⟩
    obtain ⟨q, hq, e⟩ := List.mem_iff_getElem.1 hx
    rw [List.length_dropLast] at hq
    rw [List.getElem_dropLast] at e
    have := h q (by rw [natI_len]; omega)
    rw [natI_gi (by omega), e, cn_zero, natI_mem] at this
    simpa using this
  · rintro ⟨_, h⟩
    refine ⟨fun q hq => ?_, hz⟩
    rw [natI_len] at hq
    rw [natI_gi (by omega), cn_zero, natI_mem]
    have := h r[q] (List.mem_iff_getElem.2 ⟨q, by rw [List.length_dropLast]; omega, by rw [List.getElem_dropLast]⟩)
    simpa using this
end Go.Proofs.Ytjmfkodbilknlaa

/- What the paths add up, as the model's loops go: plain. -/
namespace Go.Proofs.Ytjmfkodbilknlaa

def sL (F : List Int → Int) (L : List (List Int)) : Nat → Int
  | 0 => 0
  | k + 1 => sL F L k + F (gr L k)
theorem sL_bd {F : List Int → Int} {L : List (List Int)} {B : Int} : ∀ {k : Nat}, (∀ q, q < k → 0 ≤ F (gr L q) ∧ F (gr L q) ≤ B) → 0 ≤ sL F L k ∧ sL F L k ≤ B * k
  | 0, _ => by simp [sL]
  | k + 1, h => by
    have h1 := sL_bd (k := k) fun q hq => h q (by omega)
    have h2 := h k (by omega)
    have h3 : B * ((k + 1 : Nat) : Int) = B * k + B := by rw [show ((k + 1 : Nat) : Int) = k + 1 from rfl, Int.mul_add, Int.mul_one]
    rw [sL, h3]; omega
theorem sL_take (F : List Int → Int) (R : List (List Nat)) : ∀ k, k ≤ R.length → sL F (R.map natI) k = sm1 (fun r => F (natI r)) (R.take k)
  | 0, _ => rfl
  | k + 1, h => by
    rw [sL, sL_take F R k (by omega), List.take_add_one, sm1_app, List.getElem?_eq_getElem (by omega), gr_get (by rw [List.length_map]; omega), List.getElem_map]
    simp [sm1]
theorem sL_all (F : List Int → Int) (R : List (List Nat)) : sL F (R.map natI) (R.map natI).length = sm1 (fun r => F (natI r)) R := by
  rw [List.length_map, sL_take F R _ (Nat.le_refl _), List.take_length]
/-- What two rows with one end count. -/
noncomputable def wI (f : List (List Int)) (t : Nat) (a b : List Int) : Int := if pb (APt a b) = true then kK f t t * 2 ^ (12 - a.length - b.length) else 0
theorem wI_eq {f : List (List Int)} (v : VPe f) {k i j t : Nat} {r o : List Nat} (hik : i ≤ k) (hjk : j ≤ k) (hi : i < f.length) (hj : j < f.length) (hr : r ∈ chM f k i t) (ho : o ∈ chM f k j t) : wI f t (natI r) (natI o) = wtP f r o := by
  have h := apt_meet v hik hjk hi hj hr ho
  have hr2 := hr
  rw [ch_filter v t hik hi, List.mem_filter] at hr2
  have er : r.getLast? = some t := by have := hr2.2; simpa [endsAt] using this
  have ed : r.getLastD 0 = t := by rw [List.getLastD_eq_getLast?, er]; rfl
  unfold wI wtP
  rw [natI_len, natI_len, ed]
  by_cases e : meetB r o = true
  · rw [if_pos e, if_pos (pb_true (h.2 e))]
  · rw [if_neg e, if_neg (by rw [pb_false (fun q => e (h.1 q))]; decide)]
/-- What the model adds up for one top, by its loops. -/
noncomputable def tpI (f : List (List Int)) (k i j t : Nat) : Int := if i = j ∧ t ≠ i then 0 else sL (fun a => sL (fun b => wI f t a b) (chI f k j t) (chI f k j t).length) (chI f k i t) (chI f k i t).length
theorem tpI_eq {f : List (List Int)} (v : VPe f) {k i j t : Nat} (hik : i ≤ k) (hjk : j ≤ k) (hi : i < f.length) (hj : j < f.length) : tpI f k i j t = tpS f k i j t := by
  unfold tpI tpS
  split
  · rfl
  · rw [chI_nat f t k i, chI_nat f t k j, sL_all]
    refine sm1_congr fun r hr => ?_
    rw [sL_all]
    exact sm1_congr fun o ho => wI_eq v hik hjk hi hj hr ho
theorem tpI_sum {f : List (List Int)} (v : VPe f) {k i j : Nat} (hik : i ≤ k) (hjk : j ≤ k) (hi : i < f.length) (hj : j < f.length) : smT (tpI f k i j) f.length = 1024 * kK f i j := by
  rw [← tops_kin v hik hjk hi hj]
  exact smT_congr fun t _ => tpI_eq v hik hjk hi hj
theorem wI_bd (f : List (List Int)) (t : Nat) {a b : List Int} (ha : 1 ≤ a.length) (hb : 1 ≤ b.length) : 0 ≤ wI f t a b ∧ wI f t a b ≤ 65536 := by
  unfold wI
  split
  · have hk := kK_bd f t t
    have h1 : (2 : Int) ^ (12 - a.length - b.length) ≤ 1024 := (show ∀ e, e < 11 → (2 : Int) ^ e ≤ 1024 by decide) _ (by omega)
    have h0 : (0 : Int) < 2 ^ (12 - a.length - b.length) := Int.pow_pos (by decide)
    generalize (2 : Int) ^ (12 - a.length - b.length) = p at *
    refine ⟨Int.mul_nonneg hk.1 (by omega), ?_⟩
    have h3 : kK f t t * p ≤ 64 * 1024 := Int.mul_le_mul (by omega) (by omega) (by omega) (by decide)
    omega
  · omega
end Go.Proofs.Ytjmfkodbilknlaa

/- What the paths add up stays small: plain. -/
namespace Go.Proofs.Ytjmfkodbilknlaa

noncomputable def FB (f : List (List Int)) (t : Nat) (a b : List Int) : Int := wI f t a b
/-- What one row adds up, with all the other ones. -/
noncomputable def FA (f : List (List Int)) (t : Nat) (LB : List (List Int)) (a : List Int) : Int := sL (FB f t a) LB LB.length
/-- Rows of people as they are gone through. -/
structure Rws (L : List (List Int)) : Prop where
  len : L.length ≤ 32
  rows : ∀ r ∈ L, 1 ≤ r.length ∧ r.length ≤ 6
theorem Rws.of {f : List (List Int)} (v : VPe f) {i t : Nat} (hi : i < f.length) : Rws (chI f 5 i t) :=
  ⟨by have := chI_len f t 5 i; omega, fun r hr => by have := v.n6; have h := chI_in v (t := t) (k := 5) (i := i) (by omega) hi r hr; omega⟩
theorem Rws.row {L : List (List Int)} (h : Rws L) {k : Nat} (hk : k < L.length) : 1 ≤ (gr L k).length ∧ (gr L k).length ≤ 6 := h.rows _ (gr_mem hk)
theorem FB_bd (f : List (List Int)) (t : Nat) {a : List Int} {LB : List (List Int)} (hb : Rws LB) (ha : 1 ≤ a.length) {y : Nat} (hy : y ≤ LB.length) : 0 ≤ sL (FB f t a) LB y ∧ sL (FB f t a) LB y ≤ 2097152 := by
  have h := sL_bd (F := FB f t a) (L := LB) (B := 65536) (k := y) fun q hq => wI_bd f t ha (hb.row (by omega)).1
  have := hb.len
  have h3 : (65536 : Int) * y ≤ 65536 * 32 := Int.mul_le_mul_of_nonneg_left (by omega) (by decide)
  omega
theorem FA_bd (f : List (List Int)) (t : Nat) {LA LB : List (List Int)} (ha : Rws LA) (hb : Rws LB) {x : Nat} (hx : x ≤ LA.length) : 0 ≤ sL (FA f t LB) LA x ∧ sL (FA f t LB) LA x ≤ 67108864 := by
  have h := sL_bd (F := FA f t LB) (L := LA) (B := 2097152) (k := x) fun q hq => FB_bd f t hb (ha.row (by omega)).1 (Nat.le_refl _)
  have := ha.len
  have h3 : (2097152 : Int) * x ≤ 2097152 * 32 := Int.mul_le_mul_of_nonneg_left (by omega) (by decide)
  omega
theorem tpI_FA (f : List (List Int)) {i j t : Nat} (h : ¬ (i = j ∧ t ≠ i)) : tpI f 5 i j t = sL (FA f t (chI f 5 j t)) (chI f 5 i t) (chI f 5 i t).length := by
  unfold tpI; rw [if_neg h]; rfl
theorem tpI_skip (f : List (List Int)) {i j t : Nat} (h : i = j ∧ t ≠ i) : tpI f 5 i j t = 0 := by
  unfold tpI; rw [if_pos h]
theorem tpI_bd {f : List (List Int)} (v : VPe f) {i j t : Nat} (hi : i < f.length) (hj : j < f.length) : 0 ≤ tpI f 5 i j t ∧ tpI f 5 i j t ≤ 67108864 := by
  by_cases h : i = j ∧ t ≠ i
  · rw [tpI_skip f h]; omega
  · rw [tpI_FA f h]; exact FA_bd f t (Rws.of v hi) (Rws.of v hj) (Nat.le_refl _)
theorem smT_bd {F : Nat → Int} {B : Int} (hF : ∀ t, 0 ≤ F t ∧ F t ≤ B) : ∀ n : Nat, 0 ≤ smT F n ∧ smT F n ≤ B * n
  | 0 => by simp [smT]
  | n + 1 => by
    have h1 := smT_bd hF n
    have h2 := hF n
    have h3 : B * ((n + 1 : Nat) : Int) = B * n + B := by rw [show ((n + 1 : Nat) : Int) = n + 1 from rfl, Int.mul_add, Int.mul_one]
    rw [smT, h3]; omega
theorem tops_bd {f : List (List Int)} (v : VPe f) {i j : Nat} (hi : i < f.length) (hj : j < f.length) {t : Nat} (ht : t ≤ 6) : 0 ≤ smT (tpI f 5 i j) t ∧ smT (tpI f 5 i j) t ≤ 402653184 := by
  have h := smT_bd (F := tpI f 5 i j) (B := 67108864) (fun s => tpI_bd v hi hj) t
  have h3 : (67108864 : Int) * t ≤ 67108864 * 6 := Int.mul_le_mul_of_nonneg_left (by omega) (by decide)
  omega
theorem wI_pos {f : List (List Int)} {t : Nat} {a b : List Int} (h : APt a b) (ha : 1 ≤ a.length ∧ a.length ≤ 6) (hb : 1 ≤ b.length ∧ b.length ≤ 6) : (2 * kK f t t) * 1024 = wI f t a b * 2 ^ (a.length + b.length - 1) := by
  unfold wI
  rw [if_pos (pb_true h)]
  have e : kK f t t * 2 ^ (12 - a.length - b.length) * 2 ^ (a.length + b.length - 1) = kK f t t * 2048 := by
    rw [Int.mul_assoc, ← Int.pow_add, show 12 - a.length - b.length + (a.length + b.length - 1) = 11 by omega]; rfl
  rw [e]; omega
theorem wI_zero {f : List (List Int)} {t : Nat} {a b : List Int} (h : ¬ APt a b) : wI f t a b = 0 := by
  unfold wI; rw [if_neg (by rw [pb_false h]; decide)]
theorem pow_bd12 : ∀ n, n ≤ 11 → (1 : Int) ≤ 2 ^ n ∧ (2 : Int) ^ n ≤ 2048 := by decide
end Go.Proofs.Ytjmfkodbilknlaa

/- Powers, by the model. -/
namespace Go.Proofs.Ytjmfkodbilknlaa
open Go.RowKit

def pwF : Nat → Int
  | 0 => 1
  | n + 1 => wrap64 (2 * pwF n)
theorem pw_bd : ∀ n, -9223372036854775808 ≤ pwF n ∧ pwF n ≤ 9223372036854775807
  | 0 => by decide
  | n + 1 => by unfold pwF; unfold wrap64; omega
theorem pw5 : ∀ n, n < 6 → pwF n = 2 ^ n := by decide +kernel
set_option maxHeartbeats 400000 in
theorem power_any (n : Nat) (w : World) (hn : n ≤ 17592186044416) : Calls Try.prog 40 #[.int .i64 n] w fun e w' => e = .returned (.int .i64 (pwF n)) ∧ w = w' := by
  go_enter Try.func40, Try.ntmps40
  go_wp2
  go_loop [0, 3] (fun t s => ∃ i k : Nat, i + k = n ∧ t = .int .i64 k ∧ s = .int .i64 (pwF i)) (fun t _ => (intOf t).toNat)
  case atStart => exact ⟨0, n, by omega, rfl, rfl⟩
  case round =>
    obtain ⟨i, k, hik, rfl, rfl⟩ := hrel
    have HS : Hid (pwF (i + 1) = wrap64 (2 * pwF i)) := Lib.hid rfl
    have HI := Lib.hid hik
    have hk1 : k ≤ 17592186044416 := by omega
    clear hik
    by_cases hk : 0 < k
    · have hk' : (0 : Int) < (k : Int) := by omega
      generalize pwF i = v at *
      go_wp2
      go_round
      case rel => exact ⟨i + 1, k - 1, by have := HI.out; omega, by go_num, by rw [HS.out]⟩
      case measure => simp [intOf]; omega
    · obtain rfl : k = 0 := by omega
      go_wp2
      go_ret
      exact ⟨ret_int (congrArg pwF (by have h1 := HI.out; omega)), rfl⟩
end Go.Proofs.Ytjmfkodbilknlaa

/- A region that ends in one frame but for some slots, whatever the order: walked on once. -/
namespace Go.Proofs.Ytjmfkodbilknlaa
open Go.RowKit

/-- A frame with other values in some slots. -/
def frmL (a : Act) : List Nat → List Value → Act
  | d :: ds, u :: us => frmL (a.put (some d) u) ds us
  | _, _ => a
/-- At the end of a region: the frame but for some slots, and F of these and of the world. -/
def PutQ (a : Act) (ds : List Nat) (F : List Value → World → Prop) : Exit → Act → World → Prop
  | .normal, b, v => ∃ us, b = frmL a ds us ∧ F us v
  | _, _, _ => False
theorem PutQ.mk {a b : Act} {ds : List Nat} {F : List Value → World → Prop} {v : World} (us : List Value) (h : b = frmL a ds us) (f : F us v) : PutQ a ds F .normal b v := ⟨us, h, f⟩
theorem region_put {P : Program} {c : Code} {Q : Exit → Act → World → Prop} {a : Act} {w : World} (ds : List Nat) (F : List Value → World → Prop) (h : c.wp P (PutQ a ds F) a w) (k : ∀ us v, F us v → Q .normal (frmL a ds us) v) : c.wp P Q a w :=
  Code.wp_mono (fun e b v h => by
    cases e <;> first | exact (h : False).elim | (obtain ⟨us, rfl, hf⟩ := (h : ∃ us, b = frmL a ds us ∧ F us v); exact k us v hf)) h
end Go.Proofs.Ytjmfkodbilknlaa

/- A region that draws its order, by an invariant: each operation is run once, whatever has come up before it. -/
namespace Go.Proofs.Ytjmfkodbilknlaa
open Go.RowKit

/-- Operation j has come up. -/
def On (L : Array Bool) (j : Nat) : Prop := L.getD j false = true
theorem On.of_set {L : Array Bool} {i j : Nat} (h : On (L.setIfInBounds i true) j) (hne : i ≠ j) : On L j := by
  unfold On at *; rwa [getD_set_ne false hne] at h
theorem On.old {L : Array Bool} {i j : Nat} (h : On L j) : On (L.setIfInBounds i true) j := by
  unfold On at *; exact getD_set_true h
theorem On.not_start {n j : Nat} (h : On (Array.replicate n false) j) : False := by
  unfold On at h
  rcases Nat.lt_or_ge j n with h' | h'
  · simp [h'] at h
  · simp [h'] at h
/-- What an operation waits for. -/
def waitsOn (ops : Array Oper) (i : Nat) : List Nat :=
  match ops[i]? with
  | some o => (o.after.toList.filter (Region.binds .any)).map (·.on)
  | none => []
def earlierB (ops : Array Oper) : Bool := (List.range ops.size).all fun i => (waitsOn ops i).all fun j => decide (j < i)
theorem mem_waits {ops : Array Oper} {i : Nat} {o : Oper} (ho : ops[i]? = some o) {e : Edge} (he : e ∈ o.after) (hb : Region.binds .any e = true) : e.on ∈ waitsOn ops i := by
  unfold waitsOn; rw [ho]; exact List.mem_map.2 ⟨e, List.mem_filter.2 ⟨by simpa using he, hb⟩, rfl⟩
theorem waits_mem {ops : Array Oper} {i j : Nat} {o : Oper} (ho : ops[i]? = some o) (h : j ∈ waitsOn ops i) : ∃ e ∈ o.after, Region.binds .any e = true ∧ e.on = j := by
  unfold waitsOn at h; rw [ho] at h
  obtain ⟨e, he, hj⟩ := List.mem_map.1 h
  obtain ⟨h1, h2⟩ := List.mem_filter.1 he
  exact ⟨e, by simpa using h1, h2, hj⟩

section
variable {P : Program} {ops : Array Oper} {Q : Exit → Act → World → Prop} {I : Array Bool → Act → World → Prop}
/-- The operation i, run in whatever state the invariant allows. -/
def StepI (P : Program) (ops : Array Oper) (Q : Exit → Act → World → Prop) (I : Array Bool → Act → World → Prop) (i : Nat) : Prop :=
  ∀ L a w, I L a w → ¬ On L i → On (L.setIfInBounds i true) i → (∀ j ∈ waitsOn ops i, On L j) → wpOp P ops Q i (fun a' w' => I (L.setIfInBounds i true) a' w') a w
def StepsI (P : Program) (ops : Array Oper) (Q : Exit → Act → World → Prop) (I : Array Bool → Act → World → Prop) (rs : List Nat) : Prop := ∀ i ∈ rs, StepI P ops Q I i
theorem StepsI.nil : StepsI P ops Q I [] := fun _ h => by cases h
theorem StepsI.cons {i : Nat} {o : Oper} {ws rs : List Nat} (ho : ops[i]? = some o) (hw : waitsOn ops i = ws)
    (h : ∀ L a w, I L a w → ¬ On L i → On (L.setIfInBounds i true) i → (∀ j ∈ ws, On L j) → ∀ K' : Act → World → Prop, Shut (∀ a w, I (L.setIfInBounds i true) a w → K' a w) → if Region.wanted o (yielded ops a.tmps) = true then Oper.wp P o a w K' Q else K' (a.put o.dst undef) w)
    (hs : StepsI P ops Q I rs) : StepsI P ops Q I (i :: rs) := fun j hj => by
  rcases List.mem_cons.1 hj with rfl | hj
  · intro L a w hI hn hi hL
    rw [hw] at hL
    exact wpOp_step ho (fun K' hK => h L a w hI hn hi hL K' hK)
  · exact hs j hj

theorem wpAny_inv (hs : ∀ i, i < ops.size → StepI P ops Q I i) (he : earlierB ops = true) (hend : ∀ L a w, (∀ i, i < ops.size → On L i) → I L a w → Q .normal a w) :
    ∀ (fuel : Nat) (L : Array Bool) (a : Act) (w : World), L.size = ops.size → L.toList.countP (fun b => !b) ≤ fuel → I L a w → wpAny P .any ops Q fuel L a w := by
  have hall : ∀ L : Array Bool, L.size = ops.size → Region.ready .any ops L = [] → ∀ i, i < ops.size → On L i := by
    intro L hL hr i
    induction i using Nat.strongRecOn with
    | _ i ih =>
      intro hi
      apply Classical.byContradiction
      intro hn
      have ho : ops[i]? = some ops[i] := Array.getElem?_eq_getElem hi
      have hmem : i ∈ Region.ready .any ops L := by
        rw [mem_ready]
        refine ⟨?_, ops[i], ho, fun e hee hb => ?_⟩
        · have hiL : i < L.size := by omega
          unfold On at hn
          simp only [Array.getD_eq_getD_getElem?, Array.getElem?_eq_getElem hiL, Option.getD_some] at hn ⊢
          cases hx : L[i] with
          | true => exact absurd hx hn
          | false => rfl
        · have hm := mem_waits ho hee hb
          have hlt : e.on < i := by
            unfold earlierB at he
            have h1 := List.all_eq_true.1 he i (List.mem_range.2 hi)
            have h2 := List.all_eq_true.1 h1 _ hm
            simpa using h2
          exact ih e.on hlt (by omega)
      rw [hr] at hmem
      cases hmem
  intro fuel
  induction fuel with
  | zero =>
    intro L a w hL hc hI
    have hon : ∀ i, i < ops.size → On L i := fun i hi => by
      have hiL : i < L.size := by omega
      have h0 : L.toList.countP (fun b => !b) = 0 := by omega
      rw [List.countP_eq_zero] at h0
      have := h0 L[i] (by simp)
      unfold On
      simp only [Array.getD_eq_getD_getElem?, Array.getElem?_eq_getElem hiL, Option.getD_some]
      simpa using this
    refine ⟨?_, hend L a w hon hI⟩
    cases hr : Region.ready .any ops L with
    | nil => rfl
    | cons i rs =>
      have hi : i ∈ Region.ready .any ops L := by rw [hr]; simp
      obtain ⟨h0, o, ho, _⟩ := mem_ready.1 hi
      have hlt : i < ops.size := (Array.getElem?_eq_some_iff.1 ho).1
      have h1 := hon i hlt
      have hiL : i < L.size := by omega
      unfold On at h1
      simp only [Array.getD_eq_getD_getElem?, Array.getElem?_eq_getElem hiL, Option.getD_some] at h0 h1
      rw [h0] at h1; cases h1
  | succ fuel ih =>
    intro L a w hL hc hI
    refine ⟨fun hr => hend L a w (hall L hL hr) hI, fun i hi => ?_⟩
    obtain ⟨h0, o, ho, hw⟩ := mem_ready.1 hi
    have hlt : i < ops.size := (Array.getElem?_eq_some_iff.1 ho).1
    have hiL : i < L.size := by omega
    refine wpOp_mono (fun a' w' h => ih _ a' w' (by simpa using hL) ?_ h) (hs i hlt L a w hI ?_ ?_ (fun j hj => ?_))
    · have hb : L[i] = false := by simpa [Array.getD_eq_getD_getElem?, Array.getElem?_eq_getElem hiL] using h0
      rw [Array.toList_setIfInBounds, List.countP_set (by simpa using hiL)]
      have h1 : 0 < L.toList.countP (fun b => !b) := List.countP_pos_iff.2 ⟨L[i], by simp, by simp [hb]⟩
      have h2 : (if (!L.toList[i]'(by simpa using hiL)) = true then 1 else 0) = 1 := by simp [hb]
      have h3 : (if (!true) = true then 1 else 0) = 0 := by simp
      rw [h2, h3]
      omega
    · unfold On
      simp only [Array.getD_eq_getD_getElem?, Array.getElem?_eq_getElem hiL, Option.getD_some] at h0 ⊢
      rw [h0]; decide
    · unfold On
      simp [hiL]
    · obtain ⟨e, he1, he2, rfl⟩ := waits_mem ho hj
      exact hw e he1 he2

theorem wp_region_inv {id : Nat} {a : Act} {w : World} {rs : List Nat} (I : Array Bool → Act → World → Prop) (hm : P.follows .mixedOrders = true) (h0 : I (Array.replicate ops.size false) a w.drew)
    (hr : List.range ops.size = rs) (he : earlierB ops = true) (hs : StepsI P ops Q I rs) (hend : ∀ L a w, (∀ i, i ∈ rs → On L i) → I L a w → Q .normal a w) : (Code.region id ops true).wp P Q a w :=
  wp_region_any hm (wpAny_inv (I := I) (fun i hi => hs i (by rw [← hr]; exact List.mem_range.2 hi)) he (fun L a w h => hend L a w (fun i hi => h i (by rw [← hr] at hi; exact List.mem_range.1 hi))) ops.size _ a _ (by simp)
    (by rw [Array.toList_replicate]; exact Nat.le_trans List.countP_le_length (by simp)) h0)
end
/-- A frame with other values in some slots, and what is known of these and of the world. -/
def FI (a0 : Act) (ds : List Nat) (J : Array Bool → List Value → World → Prop) (L : Array Bool) (a : Act) (w : World) : Prop := ∃ us, a = frmL a0 ds us ∧ J L us w
theorem wp_region_invF {P : Program} {ops : Array Oper} {Q : Exit → Act → World → Prop} {id : Nat} {a : Act} {w : World} {rs : List Nat} (ds : List Nat) (J : Array Bool → List Value → World → Prop) (hm : P.follows .mixedOrders = true)
    (h0 : ∃ us, a = frmL a ds us ∧ J (Array.replicate ops.size false) us w.drew)
    (hr : List.range ops.size = rs) (he : earlierB ops = true) (hs : StepsI P ops Q (FI a ds J) rs) (hend : ∀ L us w, (∀ i, i ∈ rs → On L i) → J L us w → Q .normal (frmL a ds us) w) : (Code.region id ops true).wp P Q a w :=
  wp_region_inv (FI a ds J) hm h0 hr he hs (fun L a' w h ⟨us, e, hJ⟩ => by subst e; exact hend L us w h hJ)
end Go.Proofs.Ytjmfkodbilknlaa

/- KinByPaths, by the model. -/
namespace Go.Proofs.Ytjmfkodbilknlaa
open Go.RowKit

set_option maxRecDepth 100000 in
set_option maxHeartbeats 2000000 in
theorem KinByPaths_no (A : Option Addr) (n c : Nat) (f : List (List Int)) (i j : Int) (w : World) (hx : IntRows w A n c f) (hno : ¬ KOk f i j) :
    Calls Try.prog 9 #[.slice A n c, .int .i64 i, .int .i64 j] w (Ret (.tuple #[kinF f i j, .bool (pb (KOk f i j))]) w) := by
  have hm := hx.max
  have HLN := Lib.hid hx.len
  have HPF := Lib.hid (PF.start w)
  have HXA := Lib.hid (hx.keep HPF.out.keep)
  clear hx
  have HC := Lib.hid (validFolk_any A n c f _ HXA.out)
  by_cases hv : VPe f
  · rw [pb_true hv] at HC
    have HI := Lib.hid (fun W => inRange_any i 0 ((n : Int) - 1) W)
    rw [inR_blw, ← HLN.out] at HI
    by_cases hi : Blw f.length i
    · rw [pb_true hi] at HI
      have HJ := Lib.hid (fun W => inRange_any j 0 ((n : Int) - 1) W)
      rw [inR_blw, ← HLN.out] at HJ
      by_cases hj : Blw f.length j
      · exact absurd ⟨hv, hi, hj⟩ hno
      · rw [pb_false hj] at HJ
        have HNO := Lib.hid (show kinF f i j = .agg #[.int .i64 0, .int .i64 0] ∧ pb (KOk f i j) = false from (fun h : ¬ KOk f i j => ⟨kinF_no h, pb_false h⟩) (fun h => hj h.j))
        rw [HNO.out.1, HNO.out.2]
        rw [HLN.out] at HI HJ
        clear hv hi hj
        go_enter Try.func9, Try.ntmps9
        go_wp2_with fail
        refine HC.out.mono ?_
        rintro e w1 ⟨rfl, hq⟩
        have HPF := Lib.hid (HPF.out.up (hq.below (B := (w.alloc (.cells #[.int .i64 0, .int .i64 0] 25)).heap.size)))
        clear hq HC
        have c0 := blk_cell HPF.out.box (i := 0) rfl
        have c1 := blk_cell HPF.out.box (i := 1) rfl
        have f0 := blk_frozen HPF.out.box 0
        have f1 := blk_frozen HPF.out.box 1
        go_wp2_with (go_at_call 33; (first | (with_reducible refine (HI.out _).mono ?_) | (with_reducible refine (HJ.out _).mono ?_)); rintro e w' ⟨rfl, rfl⟩)
        clear c0 c1 f0 f1
        have B1 := blk_set (blk_set HPF.out.box 0 (.int .i64 0)) 1 (.int .i64 0)
        have r0 := blk_cell B1 (i := 0) (v := .int .i64 0) rfl
        have r1 := blk_cell B1 (i := 1) (v := .int .i64 0) rfl
        have HBX := Lib.hid ((HPF.out.below.setCell (p := ⟨w.heap.size, 0, none⟩) (Nat.le_refl _) (.int .i64 0)).setCell (p := ⟨w.heap.size, 1, none⟩) (Nat.le_refl _) (.int .i64 0))
        clear B1 HPF
        generalize (w1.setCell ⟨w.heap.size, 0, none⟩ (.int .i64 0)).setCell ⟨w.heap.size, 1, none⟩ (.int .i64 0) = WE at *
        refine bodyPost_ret (v := .tuple #[.agg #[.int .i64 0, .int .i64 0], .bool false]) (by simp [results, Try.results9, go_sem, r0, r1]) rfl ?_
        exact ⟨rfl, HBX.out⟩
    · rw [pb_false hi] at HI
      have HNO := Lib.hid (show kinF f i j = .agg #[.int .i64 0, .int .i64 0] ∧ pb (KOk f i j) = false from (fun h : ¬ KOk f i j => ⟨kinF_no h, pb_false h⟩) (fun h => hi h.i))
      rw [HNO.out.1, HNO.out.2]
      rw [HLN.out] at HI
      clear hv hi
      go_enter Try.func9, Try.ntmps9
      go_wp2_with fail
      refine HC.out.mono ?_
      rintro e w1 ⟨rfl, hq⟩
      have HPF := Lib.hid (HPF.out.up (hq.below (B := (w.alloc (.cells #[.int .i64 0, .int .i64 0] 25)).heap.size)))
      clear hq HC
      have c0 := blk_cell HPF.out.box (i := 0) rfl
      have c1 := blk_cell HPF.out.box (i := 1) rfl
      have f0 := blk_frozen HPF.out.box 0
      have f1 := blk_frozen HPF.out.box 1
      go_wp2_with (go_at_call 33; (with_reducible refine (HI.out _).mono ?_); rintro e w' ⟨rfl, rfl⟩)
      clear c0 c1 f0 f1
      have B1 := blk_set (blk_set HPF.out.box 0 (.int .i64 0)) 1 (.int .i64 0)
      have r0 := blk_cell B1 (i := 0) (v := .int .i64 0) rfl
      have r1 := blk_cell B1 (i := 1) (v := .int .i64 0) rfl
      have HBX := Lib.hid ((HPF.out.below.setCell (p := ⟨w.heap.size, 0, none⟩) (Nat.le_refl _) (.int .i64 0)).setCell (p := ⟨w.heap.size, 1, none⟩) (Nat.le_refl _) (.int .i64 0))
      clear B1 HPF
      generalize (w1.setCell ⟨w.heap.size, 0, none⟩ (.int .i64 0)).setCell ⟨w.heap.size, 1, none⟩ (.int .i64 0) = WE at *
      refine bodyPost_ret (v := .tuple #[.agg #[.int .i64 0, .int .i64 0], .bool false]) (by simp [results, Try.results9, go_sem, r0, r1]) rfl ?_
      exact ⟨rfl, HBX.out⟩
  · rw [pb_false hv] at HC
    have HNO := Lib.hid (show kinF f i j = .agg #[.int .i64 0, .int .i64 0] ∧ pb (KOk f i j) = false from (fun h : ¬ KOk f i j => ⟨kinF_no h, pb_false h⟩) (fun h => hv h.v))
    rw [HNO.out.1, HNO.out.2]
    clear hv
    go_enter Try.func9, Try.ntmps9
    go_wp2_with fail
    refine HC.out.mono ?_
    rintro e w1 ⟨rfl, hq⟩
    have HPF := Lib.hid (HPF.out.up (hq.below (B := (w.alloc (.cells #[.int .i64 0, .int .i64 0] 25)).heap.size)))
    clear hq HC
    have c0 := blk_cell HPF.out.box (i := 0) rfl
    have c1 := blk_cell HPF.out.box (i := 1) rfl
    have f0 := blk_frozen HPF.out.box 0
    have f1 := blk_frozen HPF.out.box 1
    go_wp2
    clear c0 c1 f0 f1
    have B1 := blk_set (blk_set HPF.out.box 0 (.int .i64 0)) 1 (.int .i64 0)
    have r0 := blk_cell B1 (i := 0) (v := .int .i64 0) rfl
    have r1 := blk_cell B1 (i := 1) (v := .int .i64 0) rfl
    have HBX := Lib.hid ((HPF.out.below.setCell (p := ⟨w.heap.size, 0, none⟩) (Nat.le_refl _) (.int .i64 0)).setCell (p := ⟨w.heap.size, 1, none⟩) (Nat.le_refl _) (.int .i64 0))
    clear B1 HPF
    generalize (w1.setCell ⟨w.heap.size, 0, none⟩ (.int .i64 0)).setCell ⟨w.heap.size, 1, none⟩ (.int .i64 0) = WE at *
    refine bodyPost_ret (v := .tuple #[.agg #[.int .i64 0, .int .i64 0], .bool false]) (by simp [results, Try.results9, go_sem, r0, r1]) rfl ?_
    exact ⟨rfl, HBX.out⟩

theorem pw12 : ∀ n, n ≤ 11 → pwF n = 2 ^ n := by decide +kernel
/-- The sum under way: in a box of its own, behind the result's. -/
structure KPs (w : World) (h2 : Nat) (S : Int) (W : World) : Prop where
  pf : PF w W
  lt : w.heap.size < h2
  box : Blk W h2 25 #[.int .i64 (frU S 65536), .int .i64 (frD S 65536)]
theorem KPs.up {w h2 S W W'} (h : KPs w h2 S W) (k : Below W.heap.size W W') : KPs w h2 S W' := ⟨h.pf.up k, h.lt, blk_below h.box k⟩
theorem KPs.store {w h2 S W} (h : KPs w h2 S W) (T : Int) : KPs w h2 T ((W.setCell ⟨h2, 0, none⟩ (.int .i64 (frU T 65536))).setCell ⟨h2, 1, none⟩ (.int .i64 (frD T 65536))) :=
  ⟨⟨blk_other (p := ⟨h2, 1, none⟩) (blk_other (p := ⟨h2, 0, none⟩) h.pf.box (Nat.ne_of_lt h.lt) _) (Nat.ne_of_lt h.lt) _, (h.pf.below.setCell (p := ⟨h2, 0, none⟩) (Nat.le_of_lt h.lt) _).setCell (p := ⟨h2, 1, none⟩) (Nat.le_of_lt h.lt) _⟩, h.lt, blk_set (blk_set h.box 0 _) 1 _⟩
theorem KPs.other {w h2 S W} (_ : KPs w h2 S W) (T : Int) (g : Nat) (hg : g ≠ h2) : ((W.setCell ⟨h2, 0, none⟩ (.int .i64 (frU T 65536))).setCell ⟨h2, 1, none⟩ (.int .i64 (frD T 65536))).heap[g]? = W.heap[g]? :=
  (Below.heap_setCell _ _ _ _ hg).trans (Below.heap_setCell _ _ _ _ hg)
/-- .. and two lists of rows. -/
structure KPl (w : World) (h2 : Nat) (S : Int) (lo hi ga : Nat) (Aa : Option Addr) (ca : Nat) (LA : List (List Int)) (gb : Nat) (Ab : Option Addr) (cb : Nat) (LB : List (List Int)) (W : World) : Prop where
  st : KPs w h2 S W
  hlo : h2 < lo
  a : OwnR lo hi W ga Aa LA.length ca LA
  b : OwnR lo hi W gb Ab LB.length cb LB
theorem KPl.quiet {w h2 S lo hi ga Aa ca LA gb Ab cb LB W} (h : KPl w h2 S lo hi ga Aa ca LA gb Ab cb LB W) (m : Nat) : KPl w h2 S lo hi ga Aa ca LA gb Ab cb LB (W.drewN m) :=
  ⟨h.st.up (Quiet.below ⟨m, rfl⟩), h.hlo, h.a.quiet ⟨m, rfl⟩, h.b.quiet ⟨m, rfl⟩⟩
/-- A term of the sum. -/
structure R17K (w wr : World) (h2 : Nat) (A Ra Rb : Option Addr) (n c t ga oa ca gb ob cb x y ra rb lab lac : Nat) (LA LB : List (List Int)) (a b : List Int) (S z vb vk p : Int) (L : Array Bool) (u78 u79 u80 u81 u82 u83 u84 u85 u86 u87 u88 u89 u90 u91 u92 u93 u94 u95 u96 u97 u98 u99 : Value) (X : Int) (W : World) : Prop where
  st : KPs w h2 X W
  sz : wr.heap.size ≤ W.heap.size
  hp : ∀ g, h2 < g → g < wr.heap.size → W.heap[g]? = wr.heap[g]?
  hX : On L 22 ∨ X = S
  h0 : On L 0 → u78 = .agg #[.int .i64 (frU S 65536), .int .i64 (frD S 65536)]
  h1 : On L 1 → u79 = fK 64
  h2 : On L 2 → u80 = .slice A n c
  h3 : On L 3 → u81 = .int .i64 t
  h4 : On L 4 → u82 = fK vb
  h5 : On L 5 → u83 = fK vk
  h6 : On L 6 → u84 = .slice (some ⟨ga, oa, none⟩) LA.length ca
  h7 : On L 7 → u85 = .int .i64 x
  h8 : On L 8 → u86 = .pointer (some ⟨ga, oa + x, none⟩)
  h9 : On L 9 → u87 = .slice Ra a.length ra
  h10 : On L 10 → u88 = .int .i64 a.length
  h11 : On L 11 → u89 = .slice (some ⟨gb, ob, none⟩) LB.length cb
  h12 : On L 12 → u90 = .int .i64 y
  h13 : On L 13 → u91 = .pointer (some ⟨gb, ob + y, none⟩)
  h14 : On L 14 → u92 = .slice Rb b.length rb
  h15 : On L 15 → u93 = .int .i64 b.length
  h16 : On L 16 → u94 = .int .i64 (lab : Int)
  h17 : On L 17 → u95 = .int .i64 (lac : Int)
  h18 : On L 18 → u96 = .int .i64 p
  h19 : On L 19 → u97 = frV 1 p
  h20 : On L 20 → u98 = fL z
  h21 : On L 21 → u99 = .agg #[.int .i64 (frU (S + z) 65536), .int .i64 (frD (S + z) 65536)]
  h22 : On L 22 → On L 0 ∧ X = S + z
theorem R17K.up {w wr h2 A Ra Rb n c t ga oa ca gb ob cb x y ra rb lab lac LA LB a b S z vb vk p L u78 u79 u80 u81 u82 u83 u84 u85 u86 u87 u88 u89 u90 u91 u92 u93 u94 u95 u96 u97 u98 u99 X W W'} (Hy : R17K w wr h2 A Ra Rb n c t ga oa ca gb ob cb x y ra rb lab lac LA LB a b S z vb vk p L u78 u79 u80 u81 u82 u83 u84 u85 u86 u87 u88 u89 u90 u91 u92 u93 u94 u95 u96 u97 u98 u99 X W) (k : Below W.heap.size W W') : R17K w wr h2 A Ra Rb n c t ga oa ca gb ob cb x y ra rb lab lac LA LB a b S z vb vk p L u78 u79 u80 u81 u82 u83 u84 u85 u86 u87 u88 u89 u90 u91 u92 u93 u94 u95 u96 u97 u98 u99 X W' :=
  ⟨Hy.st.up k, Nat.le_trans Hy.sz k.size, fun g l1 l2 => (k.block g (Nat.lt_of_lt_of_le l2 Hy.sz)).trans (Hy.hp g l1 l2), Hy.hX, Hy.h0, Hy.h1, Hy.h2, Hy.h3, Hy.h4, Hy.h5, Hy.h6, Hy.h7, Hy.h8, Hy.h9, Hy.h10, Hy.h11, Hy.h12, Hy.h13, Hy.h14, Hy.h15, Hy.h16, Hy.h17, Hy.h18, Hy.h19, Hy.h20, Hy.h21, Hy.h22⟩

set_option maxRecDepth 100000 in
set_option maxHeartbeats 16000000 in
theorem KinByPaths_yes (A : Option Addr) (n c : Nat) (f : List (List Int)) (i j : Nat) (w : World) (hx : IntRows w A n c f) (hok : KOk f i j) :
    Calls Try.prog 9 #[.slice A n c, .int .i64 i, .int .i64 j] w (Ret (.tuple #[kinF f i j, .bool true]) w) := by
  have hm := hx.max
  have HLN := Lib.hid hx.len
  have HPF := Lib.hid (PF.start w)
  have HXA := Lib.hid (hx.keep HPF.out.keep)
  have HX := Lib.hid hx
  have HC := Lib.hid (validFolk_any A n c f _ HXA.out)
  have hv := hok.v
  rw [pb_true hv] at HC
  have HI := Lib.hid (fun W => inRange_any i 0 ((n : Int) - 1) W)
  rw [inR_blw, ← HLN.out, pb_true hok.i] at HI
  have HJ := Lib.hid (fun W => inRange_any j 0 ((n : Int) - 1) W)
  rw [inR_blw, ← HLN.out, pb_true hok.j] at HJ
  have hi2 : i < f.length := by have := hok.i.2; omega
  have hj2 : j < f.length := by have := hok.j.2; omega
  have hi5 : i ≤ 5 := by have := hv.n6; omega
  have hj5 : j ≤ 5 := by have := hv.n6; omega
  have hn6 : n ≤ 6 := by have := hv.n6; have := hx.len; omega
  have HE : Hid (kinF f i j = .agg #[.int .i64 (frU (smT (tpI f 5 i j) n) 65536), .int .i64 (frD (smT (tpI f 5 i j) n) 65536)]) := Lib.hid (by
    rw [kinF_yes hok, ← fL_K, ← tpI_sum hv hi5 hj5 hi2 hj2, hx.len]; rfl)
  have HF0 : Hid (∀ W, Calls Try.prog 34 #[.int .i64 0, .int .i64 1] W (Ret (.agg #[.int .i64 (frU 0 65536), .int .i64 (frD 0 65536)]) W)) := Lib.hid (fun W => by
    have h := frac_any 0 1 W (by unfold Mid; omega) (by unfold Mid; omega) (by omega)
    rw [frV_L (x := 0) (by omega) (by omega)] at h; exact h)
  have HF1 : Hid (∀ W, Calls Try.prog 34 #[.int .i64 1, .int .i64 1] W (Ret (fK 64) W)) := Lib.hid (fun W => fracK_spec 1 1 64 W (by omega) (by omega) (by omega))
  have HV := Lib.hid hv
  have HIJ := Lib.hid (And.intro hi2 hj2)
  rw [HLN.out] at HI HJ
  clear hok hv hi2 hj2 hx
  go_enter Try.func9, Try.ntmps9
  go_wp2_with fail
  refine HC.out.mono ?_
  rintro e w1 ⟨rfl, hq⟩
  have hb := hq.below (B := (w.alloc (.cells #[.int .i64 0, .int .i64 0] 25)).heap.size)
  have HPF := Lib.hid (HPF.out.up hb)
  clear hb hq HC HXA
  go_wp2_with (go_at_call 33; (first | (with_reducible refine (HI.out _).mono ?_) | (with_reducible refine (HJ.out _).mono ?_)); rintro e w' ⟨rfl, rfl⟩)
  refine (HF0.out _).mono ?_
  rintro e w2 ⟨rfl, hb⟩
  have HPF := Lib.hid (HPF.out.up hb)
  have hlt2 : w.heap.size < w2.heap.size := blk_lt HPF.out.box
  have HS0 := Lib.hid (show KPs w w2.heap.size (smT (tpI f 5 i j) 0) (w2.alloc (.cells #[.int .i64 (frU 0 65536), .int .i64 (frD 0 65536)] 25)) from
    ⟨HPF.out.up (below_alloc _ _), hlt2, blk_new _ _ _⟩)
  clear hb HPF HI HJ HF0 hlt2
  go_wp2
  generalize w2.alloc (.cells #[.int .i64 (frU 0 65536), .int .i64 (frD 0 65536)] 25) = w3 at *
  generalize w2.heap.size = h2 at *
  go_loopw [9] (fun t_ wr => ∃ t : Nat, t ≤ n ∧ t_ = .int .i64 t ∧ Hid (KPs w h2 (smT (tpI f 5 i j) t) wr)) (fun t_ _ => n - (intOf t_).toNat)
  case atStart => exact ⟨0, Nat.zero_le _, rfl, HS0⟩
  case round =>
    clear HS0
    obtain ⟨t, ht, rfl, HS⟩ := hrel
    by_cases hlt : t < n
    · have HSTEP := Lib.hid (show smT (tpI f 5 i j) (t + 1) = smT (tpI f 5 i j) t + tpI f 5 i j t from rfl)
      by_cases hsk : i = j ∧ t ≠ i
      · have HS2 := Lib.hid (show KPs w h2 (smT (tpI f 5 i j) (t + 1)) wr by rw [HSTEP.out, tpI_skip f hsk, Int.add_zero]; exact HS.out)
        obtain ⟨rfl, hne⟩ := hsk
        have e1 : ((i : Int) == (i : Int)) = true := by simp
        have e2 : ((t : Int) == (i : Int)) = false := by rw [beq_eq_false_iff_ne]; omega
        have e3 : ((t : Int) != (i : Int)) = true := by rw [bne, e2]; rfl
        clear HS HSTEP hne
        go_wp2
        go_roundw
        case rel => exact ⟨t + 1, by omega, by go_num, HS2⟩
        case measure => simp [intOf]; omega
      · have HTP := Lib.hid (tpI_FA f hsk)
        have HSB := Lib.hid (tops_bd HV.out HIJ.out.1 HIJ.out.2 (t := t) (by omega))
        have HA := Lib.hid (chains_any A n c f HV.out t (by omega) 5 (by omega) i (by omega) HIJ.out.1)
        have HB := Lib.hid (chains_any A n c f HV.out t (by omega) 5 (by omega) j (by omega) HIJ.out.2)
        have HRA := Lib.hid (Rws.of HV.out (t := t) HIJ.out.1)
        have HRB := Lib.hid (Rws.of HV.out (t := t) HIJ.out.2)
        have HBR := Lib.hid (fun W => bred_any A n c f HV.out t (by have := HLN.out; omega) W)
        have HBD := Lib.hid (bK_bd f t)
        have HKB := Lib.hid (kK_bK HV.out (i := t) (by have := HLN.out; omega))
        have HXr := Lib.hid (HX.out.keep (Keep.below HS.out.pf.below))
        have e1 : ((i : Int) == (j : Int)) = decide (i = j) := by by_cases e : i = j <;> simp [e]; omega
        have hij : (decide (i = j) = true ∧ ((t : Int) != (i : Int)) = false) ∨ decide (i = j) = false := by
          by_cases e : i = j
          · refine .inl ⟨by simpa using e, ?_⟩
            have : t = i := Decidable.byContradiction fun h => hsk ⟨e, h⟩
            rw [this]; simp
          · exact .inr (by simpa using e)
        have E1 := Lib.hid e1
        clear hsk e1
        rcases hij with ⟨e2, e3⟩ | e2
        all_goals
          have e1 := E1.out.trans e2
          clear e2 E1
          go_wp2_with fail
          refine (HA.out wr HXr.out).mono ?_
          rintro e w4 ⟨Aa, na, ca, ga, rfl, hna, hoa, hb⟩
          subst hna
          have HS4 := Lib.hid (HS.out.up hb)
          have HXr := Lib.hid (HXr.out.keep (Keep.below hb))
          have HOA := Lib.hid hoa
          have HLO := Lib.hid (show h2 < wr.heap.size from blk_lt HS.out.box)
          have HHI := Lib.hid hb.size
          clear hoa hb HA HS
          go_wp2_with fail
          refine (HB.out w4 HXr.out).mono ?_
          rintro e w5 ⟨Ab, nb, cb, gb, rfl, hnb, hob, hb⟩
          subst hnb
          have HKL := Lib.hid (show KPl w h2 (smT (tpI f 5 i j) t + 0) wr.heap.size w5.heap.size ga Aa ca (chI f 5 i t) gb Ab cb (chI f 5 j t) w5 from
            ⟨by rw [Int.add_zero]; exact HS4.out.up hb, HLO.out, (HOA.out.below hb).mono (Nat.le_refl _) hb.size, hob.mono HHI.out (Nat.le_refl _)⟩)
          clear hob hb HB HS4 HXr HOA HLO HHI
          rw [HTP.out] at HSTEP
          generalize wr.heap.size = lo at *
          generalize w5.heap.size = hi at *
          generalize chI f 5 i t = LA at *
          generalize chI f 5 j t = LB at *
          generalize smT (tpI f 5 i j) t = S0 at *
          have hla := HRA.out.len
          have hlb := HRB.out.len
          go_wp2
          go_loopw [12] (fun x_ wx => ∃ x : Nat, x ≤ LA.length ∧ x_ = .int .i64 x ∧ Hid (KPl w h2 (S0 + sL (FA f t LB) LA x) lo hi ga Aa ca LA gb Ab cb LB wx)) (fun x_ _ => LA.length - (intOf x_).toNat)
          case atStart => exact ⟨0, Nat.zero_le _, rfl, HKL⟩
          case round =>
            clear HKL
            obtain ⟨x, hxl, rfl, HKL⟩ := hrel
            by_cases hxlt : x < LA.length
            · have HXB := Lib.hid (FA_bd f t HRA.out HRB.out hxl)
              have HRX := Lib.hid (HRA.out.row hxlt)
              have HXS := Lib.hid (show S0 + sL (FA f t LB) LA (x + 1) = S0 + sL (FA f t LB) LA x + sL (FB f t (gr LA x)) LB LB.length by rw [sL, Int.add_assoc]; rfl)
              have HK3 := Lib.hid (show KPl w h2 (S0 + sL (FA f t LB) LA x + sL (FB f t (gr LA x)) LB 0) lo hi ga Aa ca LA gb Ab cb LB wr by rw [sL, Int.add_zero]; exact HKL.out)
              have HS1 := Lib.hid (show 0 ≤ S0 + sL (FA f t LB) LA x ∧ S0 + sL (FA f t LB) LA x ≤ 500000000 by have h1 := HSB.out; have h2 := HXB.out; omega)
              clear HKL HXB
              generalize S0 + sL (FA f t LB) LA x = S1 at *
              obtain ⟨wA, hwA⟩ : ∃ wA, wA = wr := ⟨_, rfl⟩
              subst hwA
              go_wp2
              go_loopw [13] (fun y_ wy => ∃ y : Nat, y ≤ LB.length ∧ y_ = .int .i64 y ∧ Hid (KPl w h2 (S1 + sL (FB f t (gr LA x)) LB y) lo hi ga Aa ca LA gb Ab cb LB wy)) (fun y_ _ => LB.length - (intOf y_).toNat)
              case atStart => exact ⟨0, Nat.zero_le _, rfl, HK3⟩
              case round =>
                clear HK3
                obtain ⟨y, hyl, rfl, HK3⟩ := hrel
                by_cases hylt : y < LB.length
                · have HYB := Lib.hid (FB_bd f t HRB.out HRX.out.1 hyl)
                  have HRY := Lib.hid (HRB.out.row hylt)
                  have HYS := Lib.hid (show S1 + sL (FB f t (gr LA x)) LB (y + 1) = S1 + sL (FB f t (gr LA x)) LB y + wI f t (gr LA x) (gr LB y) by rw [sL, Int.add_assoc]; rfl)
                  have HS2 := Lib.hid (show 0 ≤ S1 + sL (FB f t (gr LA x)) LB y ∧ S1 + sL (FB f t (gr LA x)) LB y ≤ 600000000 by have h1 := HS1.out; have h2 := HYB.out; omega)
                  have HWB := Lib.hid (wI_bd f t HRX.out.1 HRY.out.1)
                  obtain ⟨oa, GA, RA, RCA, rfl, hgA, hgA2, hcA, _⟩ := HK3.out.a.at_ (by omega)
                  obtain ⟨ob, GB, RB, RCB, rfl, hgB, hgB2, hcB, _⟩ := HK3.out.b.at_ (by omega)
                  obtain ⟨_, cA, hrA, _⟩ := hcA x hxlt
                  obtain ⟨_, cB, hrB, _⟩ := hcB y hylt
                  have HAP := Lib.hid (fun W (k : Quiet wr W) => apart_any (RA x) (RB y) (gr LA x).length (RCA x) (gr LB y).length (RCB y) (gr LA x) (gr LB y) W (hrA.ints.keep (Keep.quiet k)) (hrB.ints.keep (Keep.quiet k)) HRX.out.1 (by have := HRX.out; omega) HRY.out.1 (by have := HRY.out; omega))
                  have CA := Lib.hid cA
                  have CB := Lib.hid cB
                  have hlo := HK3.out.hlo
                  have hba := World.block_lt_of_cell? _ _ cA
                  have hbb := World.block_lt_of_cell? _ _ cB
                  have hGA : Hid (h2 < ga ∧ ga < wr.heap.size) := Lib.hid ⟨Nat.lt_of_lt_of_le hlo hgA, hba⟩
                  have hGB : Hid (h2 < gb ∧ gb < wr.heap.size) := Lib.hid ⟨Nat.lt_of_lt_of_le hlo hgB, hbb⟩
                  have hxi : (x : Int) < (LA.length : Int) := by omega
                  have hyi : (y : Int) < (LB.length : Int) := by omega
                  clear hcA hcB hrA hrB hgA hgA2 hgB hgB2 hlo hba hbb HYB
                  by_cases hap : APt (gr LA x) (gr LB y)
                  · have HZ := Lib.hid (wI_pos (f := f) (t := t) hap HRX.out HRY.out)
                    rw [pb_true hap] at HAP
                    clear hap
                    have hab := HRX.out
                    have hbb := HRY.out
                    have hp := pow_bd12 ((gr LA x).length + (gr LB y).length - 1) (by omega)
                    have HPW0 := Lib.hid (fun W => power_any ((gr LA x).length + (gr LB y).length - 1) W (by omega))
                    rw [pw12 _ (by omega)] at HPW0
                    have HPW : Hid (∀ W, Calls Try.prog 40 #[.int .i64 (((gr LA x).length + (gr LB y).length - 1 : Nat) : Int)] W (Ret (.int .i64 (2 ^ ((gr LA x).length + (gr LB y).length - 1))) W)) := Lib.hid (fun W => (HPW0.out W).mono fun e w' ⟨h1, h2⟩ => ⟨h1, h2 ▸ Below.refl _ _⟩)
                    have HW16 : Hid (IntKind.i64.wrap (((gr LA x).length : Int) + ((gr LB y).length : Int)) = (((gr LA x).length + (gr LB y).length : Nat) : Int)) := Lib.hid (by rw [wrap_in64 (by omega)]; omega)
                    have HW17 : Hid (IntKind.i64.wrap ((((gr LA x).length + (gr LB y).length : Nat) : Int) - 1) = (((gr LA x).length + (gr LB y).length - 1 : Nat) : Int)) := Lib.hid (by rw [wrap_in64 (by omega)]; omega)
                    have hkb := HKB.out
                    have hbd := HBD.out
                    have HP1 : Hid (∀ W, Calls Try.prog 37 #[fK 64, fK (bK f t)] W (Ret (fK (2 * kK f t t)) W)) := Lib.hid (fun W => by rw [hkb]; exact plusK_spec 64 (bK f t) W (by omega) (by omega))
                    have HTM := Lib.hid (fun W => timesL_spec (2 * kK f t t) (2 ^ ((gr LA x).length + (gr LB y).length - 1)) (wI f t (gr LA x) (gr LB y)) W (by omega) (by omega) HZ.out)
                    have HF2 := Lib.hid (fun W => frac_any 1 (2 ^ ((gr LA x).length + (gr LB y).length - 1)) W (by unfold Mid; omega) (by unfold Mid; omega) (by omega))
                    have HP2 : Hid (∀ W, Calls Try.prog 37 #[.agg #[.int .i64 (frU (S1 + sL (FB f t (gr LA x)) LB y) 65536), .int .i64 (frD (S1 + sL (FB f t (gr LA x)) LB y) 65536)], fL (wI f t (gr LA x) (gr LB y))] W (Ret (.agg #[.int .i64 (frU (S1 + sL (FB f t (gr LA x)) LB y + wI f t (gr LA x) (gr LB y)) 65536), .int .i64 (frD (S1 + sL (FB f t (gr LA x)) LB y + wI f t (gr LA x) (gr LB y)) 65536)]) W)) := Lib.hid (fun W => plusL_spec (S1 + sL (FB f t (gr LA x)) LB y) (wI f t (gr LA x) (gr LB y)) W (by have := HS2.out; omega) (by have := HWB.out; omega))
                    have HIM := Lib.hid (fun m => (HK3.out.quiet m).st)
                    clear hab hbb hp HPW0 hkb hbd HZ HRX HRY HWB HS2
                    generalize hSS : S1 + sL (FB f t (gr LA x)) LB y = S at *
                    generalize wI f t (gr LA x) (gr LB y) = z at *
                    generalize (2 : Int) ^ ((gr LA x).length + (gr LB y).length - 1) = p at *
                    generalize (gr LA x).length + (gr LB y).length - 1 = lac at *
                    generalize (gr LA x).length + (gr LB y).length = lab at *
                    generalize gr LA x = a at *
                    generalize gr LB y = b at *
                    generalize RA x = Ra at *
                    generalize RB y = Rb at *
                    generalize RCA x = ra at *
                    generalize RCB y = rb at *
                    generalize 2 * kK f t t = vk at *
                    generalize bK f t = vb at *
                    clear hSS
                    go_wp2
                    go_quiet ((go_at_call 36; (with_reducible refine quiet_fit (HAP.out _ ?_) (fun m => ?_)); exact ⟨_, rfl⟩; exact drewN_to1 _ _ _))
                    go_wp2
                    refine wp_region_invF (rs := [0, 1, 2, 3, 4, 5, 6, 7, 8, 9, 10, 11, 12, 13, 14, 15, 16, 17, 18, 19, 20, 21, 22]) [78, 79, 80, 81, 82, 83, 84, 85, 86, 87, 88, 89, 90, 91, 92, 93, 94, 95, 96, 97, 98, 99] (fun L us W => ∃ u78 u79 u80 u81 u82 u83 u84 u85 u86 u87 u88 u89 u90 u91 u92 u93 u94 u95 u96 u97 u98 u99 X, us = [u78, u79, u80, u81, u82, u83, u84, u85, u86, u87, u88, u89, u90, u91, u92, u93, u94, u95, u96, u97, u98, u99] ∧ R17K w wr h2 A Ra Rb n c t ga oa ca gb ob cb x y ra rb lab lac LA LB a b S z vb vk p L u78 u79 u80 u81 u82 u83 u84 u85 u86 u87 u88 u89 u90 u91 u92 u93 u94 u95 u96 u97 u98 u99 X W) (by kernel_rfl) ?_ (by kernel_rfl) (by kernel_rfl) ?_ ?_
                    · refine ⟨[u78, u79, u80, u81, u82, u83, u84, u85, u86, u87, u88, u89, u90, u91, u92, u93, u94, u95, u96, u97, u98, u99], ?_, u78, u79, u80, u81, u82, u83, u84, u85, u86, u87, u88, u89, u90, u91, u92, u93, u94, u95, u96, u97, u98, u99, S, rfl, ?_⟩
                      · simp only [frmL, Act.put, List.setIfInBounds_toArray, List.set_cons_zero, List.set_cons_succ]
                      exact ⟨(HIM.out _).up (Quiet.below ⟨1, rfl⟩), Nat.le_refl _, fun _ _ _ => rfl, .inr rfl, fun o => o.not_start.elim, fun o => o.not_start.elim, fun o => o.not_start.elim, fun o => o.not_start.elim, fun o => o.not_start.elim, fun o => o.not_start.elim, fun o => o.not_start.elim, fun o => o.not_start.elim, fun o => o.not_start.elim, fun o => o.not_start.elim, fun o => o.not_start.elim, fun o => o.not_start.elim, fun o => o.not_start.elim, fun o => o.not_start.elim, fun o => o.not_start.elim, fun o => o.not_start.elim, fun o => o.not_start.elim, fun o => o.not_start.elim, fun o => o.not_start.elim, fun o => o.not_start.elim, fun o => o.not_start.elim, fun o => o.not_start.elim, fun o => o.not_start.elim⟩
                    · refine StepsI.cons (i := 0) (ws := []) rfl (by kernel_rfl) (fun L a W hI hno hon hw K hK => ?_) ?_
                      · obtain ⟨_, rfl, u78, u79, u80, u81, u82, u83, u84, u85, u86, u87, u88, u89, u90, u91, u92, u93, u94, u95, u96, u97, u98, u99, X, rfl, H⟩ := hI
                        simp only [List.getElem_toArray, List.getElem_cons_zero]
                        obtain rfl := (H.hX.resolve_left (fun o => hno (H.h22 o).1)).symm
                        simp only [frmL, Act.put, List.setIfInBounds_toArray, List.set_cons_zero, List.set_cons_succ]
                        have c0 := blk_cell H.st.box (i := 0) rfl
                        have c1 := blk_cell H.st.box (i := 1) rfl
                        go_simp
                        have HN := H
                        refine hK.out _ _ ⟨[.agg #[.int .i64 (frU S 65536), .int .i64 (frD S 65536)], u79, u80, u81, u82, u83, u84, u85, u86, u87, u88, u89, u90, u91, u92, u93, u94, u95, u96, u97, u98, u99], ?_, .agg #[.int .i64 (frU S 65536), .int .i64 (frD S 65536)], u79, u80, u81, u82, u83, u84, u85, u86, u87, u88, u89, u90, u91, u92, u93, u94, u95, u96, u97, u98, u99, S, rfl, ?_⟩
                        · simp only [frmL, Act.put, List.setIfInBounds_toArray, List.set_cons_zero, List.set_cons_succ]
                        · exact ⟨HN.st, HN.sz, HN.hp, HN.hX.imp On.old id, fun _ => rfl, fun o => HN.h1 (o.of_set (by decide)), fun o => HN.h2 (o.of_set (by decide)), fun o => HN.h3 (o.of_set (by decide)), fun o => HN.h4 (o.of_set (by decide)), fun o => HN.h5 (o.of_set (by decide)), fun o => HN.h6 (o.of_set (by decide)), fun o => HN.h7 (o.of_set (by decide)), fun o => HN.h8 (o.of_set (by decide)), fun o => HN.h9 (o.of_set (by decide)), fun o => HN.h10 (o.of_set (by decide)), fun o => HN.h11 (o.of_set (by decide)), fun o => HN.h12 (o.of_set (by decide)), fun o => HN.h13 (o.of_set (by decide)), fun o => HN.h14 (o.of_set (by decide)), fun o => HN.h15 (o.of_set (by decide)), fun o => HN.h16 (o.of_set (by decide)), fun o => HN.h17 (o.of_set (by decide)), fun o => HN.h18 (o.of_set (by decide)), fun o => HN.h19 (o.of_set (by decide)), fun o => HN.h20 (o.of_set (by decide)), fun o => HN.h21 (o.of_set (by decide)), fun o => (HN.h22 (o.of_set (by decide))).imp On.old id⟩
                      refine StepsI.cons (i := 1) (ws := []) rfl (by kernel_rfl) (fun L a W hI hno hon hw K hK => ?_) ?_
                      · obtain ⟨_, rfl, u78, u79, u80, u81, u82, u83, u84, u85, u86, u87, u88, u89, u90, u91, u92, u93, u94, u95, u96, u97, u98, u99, X, rfl, H⟩ := hI
                        simp only [List.getElem_toArray, List.getElem_cons_zero, List.getElem_cons_succ]
                        simp only [frmL, Act.put, List.setIfInBounds_toArray, List.set_cons_zero, List.set_cons_succ]
                        go_simp
                        go_wp2_with (go_at_call 34; (with_reducible refine (HF1.out _).mono ?_); rintro e w9 ⟨rfl, hb⟩)
                        have HN := H.up hb
                        refine hK.out _ _ ⟨[u78, fK 64, u80, u81, u82, u83, u84, u85, u86, u87, u88, u89, u90, u91, u92, u93, u94, u95, u96, u97, u98, u99], ?_, u78, fK 64, u80, u81, u82, u83, u84, u85, u86, u87, u88, u89, u90, u91, u92, u93, u94, u95, u96, u97, u98, u99, X, rfl, ?_⟩
                        · simp only [frmL, Act.put, List.setIfInBounds_toArray, List.set_cons_zero, List.set_cons_succ]
                        · exact ⟨HN.st, HN.sz, HN.hp, HN.hX.imp On.old id, fun o => HN.h0 (o.of_set (by decide)), fun _ => rfl, fun o => HN.h2 (o.of_set (by decide)), fun o => HN.h3 (o.of_set (by decide)), fun o => HN.h4 (o.of_set (by decide)), fun o => HN.h5 (o.of_set (by decide)), fun o => HN.h6 (o.of_set (by decide)), fun o => HN.h7 (o.of_set (by decide)), fun o => HN.h8 (o.of_set (by decide)), fun o => HN.h9 (o.of_set (by decide)), fun o => HN.h10 (o.of_set (by decide)), fun o => HN.h11 (o.of_set (by decide)), fun o => HN.h12 (o.of_set (by decide)), fun o => HN.h13 (o.of_set (by decide)), fun o => HN.h14 (o.of_set (by decide)), fun o => HN.h15 (o.of_set (by decide)), fun o => HN.h16 (o.of_set (by decide)), fun o => HN.h17 (o.of_set (by decide)), fun o => HN.h18 (o.of_set (by decide)), fun o => HN.h19 (o.of_set (by decide)), fun o => HN.h20 (o.of_set (by decide)), fun o => HN.h21 (o.of_set (by decide)), fun o => (HN.h22 (o.of_set (by decide))).imp On.old id⟩
                      refine StepsI.cons (i := 2) (ws := []) rfl (by kernel_rfl) (fun L a W hI hno hon hw K hK => ?_) ?_
                      · obtain ⟨_, rfl, u78, u79, u80, u81, u82, u83, u84, u85, u86, u87, u88, u89, u90, u91, u92, u93, u94, u95, u96, u97, u98, u99, X, rfl, H⟩ := hI
                        simp only [List.getElem_toArray, List.getElem_cons_zero, List.getElem_cons_succ]
                        simp only [frmL, Act.put, List.setIfInBounds_toArray, List.set_cons_zero, List.set_cons_succ]
                        go_simp
                        have HN := H
                        refine hK.out _ _ ⟨[u78, u79, .slice A n c, u81, u82, u83, u84, u85, u86, u87, u88, u89, u90, u91, u92, u93, u94, u95, u96, u97, u98, u99], ?_, u78, u79, .slice A n c, u81, u82, u83, u84, u85, u86, u87, u88, u89, u90, u91, u92, u93, u94, u95, u96, u97, u98, u99, X, rfl, ?_⟩
                        · simp only [frmL, Act.put, List.setIfInBounds_toArray, List.set_cons_zero, List.set_cons_succ]
                        · exact ⟨HN.st, HN.sz, HN.hp, HN.hX.imp On.old id, fun o => HN.h0 (o.of_set (by decide)), fun o => HN.h1 (o.of_set (by decide)), fun _ => rfl, fun o => HN.h3 (o.of_set (by decide)), fun o => HN.h4 (o.of_set (by decide)), fun o => HN.h5 (o.of_set (by decide)), fun o => HN.h6 (o.of_set (by decide)), fun o => HN.h7 (o.of_set (by decide)), fun o => HN.h8 (o.of_set (by decide)), fun o => HN.h9 (o.of_set (by decide)), fun o => HN.h10 (o.of_set (by decide)), fun o => HN.h11 (o.of_set (by decide)), fun o => HN.h12 (o.of_set (by decide)), fun o => HN.h13 (o.of_set (by decide)), fun o => HN.h14 (o.of_set (by decide)), fun o => HN.h15 (o.of_set (by decide)), fun o => HN.h16 (o.of_set (by decide)), fun o => HN.h17 (o.of_set (by decide)), fun o => HN.h18 (o.of_set (by decide)), fun o => HN.h19 (o.of_set (by decide)), fun o => HN.h20 (o.of_set (by decide)), fun o => HN.h21 (o.of_set (by decide)), fun o => (HN.h22 (o.of_set (by decide))).imp On.old id⟩
                      refine StepsI.cons (i := 3) (ws := []) rfl (by kernel_rfl) (fun L a W hI hno hon hw K hK => ?_) ?_
                      · obtain ⟨_, rfl, u78, u79, u80, u81, u82, u83, u84, u85, u86, u87, u88, u89, u90, u91, u92, u93, u94, u95, u96, u97, u98, u99, X, rfl, H⟩ := hI
                        simp only [List.getElem_toArray, List.getElem_cons_zero, List.getElem_cons_succ]
                        simp only [frmL, Act.put, List.setIfInBounds_toArray, List.set_cons_zero, List.set_cons_succ]
                        go_simp
                        have HN := H
                        refine hK.out _ _ ⟨[u78, u79, u80, .int .i64 t, u82, u83, u84, u85, u86, u87, u88, u89, u90, u91, u92, u93, u94, u95, u96, u97, u98, u99], ?_, u78, u79, u80, .int .i64 t, u82, u83, u84, u85, u86, u87, u88, u89, u90, u91, u92, u93, u94, u95, u96, u97, u98, u99, X, rfl, ?_⟩
                        · simp only [frmL, Act.put, List.setIfInBounds_toArray, List.set_cons_zero, List.set_cons_succ]
                        · exact ⟨HN.st, HN.sz, HN.hp, HN.hX.imp On.old id, fun o => HN.h0 (o.of_set (by decide)), fun o => HN.h1 (o.of_set (by decide)), fun o => HN.h2 (o.of_set (by decide)), fun _ => rfl, fun o => HN.h4 (o.of_set (by decide)), fun o => HN.h5 (o.of_set (by decide)), fun o => HN.h6 (o.of_set (by decide)), fun o => HN.h7 (o.of_set (by decide)), fun o => HN.h8 (o.of_set (by decide)), fun o => HN.h9 (o.of_set (by decide)), fun o => HN.h10 (o.of_set (by decide)), fun o => HN.h11 (o.of_set (by decide)), fun o => HN.h12 (o.of_set (by decide)), fun o => HN.h13 (o.of_set (by decide)), fun o => HN.h14 (o.of_set (by decide)), fun o => HN.h15 (o.of_set (by decide)), fun o => HN.h16 (o.of_set (by decide)), fun o => HN.h17 (o.of_set (by decide)), fun o => HN.h18 (o.of_set (by decide)), fun o => HN.h19 (o.of_set (by decide)), fun o => HN.h20 (o.of_set (by decide)), fun o => HN.h21 (o.of_set (by decide)), fun o => (HN.h22 (o.of_set (by decide))).imp On.old id⟩
                      refine StepsI.cons (i := 4) (ws := [2, 3, 1]) rfl (by kernel_rfl) (fun L a W hI hno hon hw K hK => ?_) ?_
                      · obtain ⟨_, rfl, u78, u79, u80, u81, u82, u83, u84, u85, u86, u87, u88, u89, u90, u91, u92, u93, u94, u95, u96, u97, u98, u99, X, rfl, H⟩ := hI
                        simp only [List.getElem_toArray, List.getElem_cons_zero, List.getElem_cons_succ]
                        obtain rfl := H.h2 (hw 2 (by simp))
                        obtain rfl := H.h3 (hw 3 (by simp))
                        simp only [frmL, Act.put, List.setIfInBounds_toArray, List.set_cons_zero, List.set_cons_succ]
                        go_simp
                        go_wp2_with (go_at_call 39; (with_reducible refine (HBR.out _ (HX.out.keep (Keep.below H.st.pf.below))).mono ?_); rintro e w9 ⟨rfl, hb⟩)
                        have HN := H.up hb
                        refine hK.out _ _ ⟨[u78, u79, .slice A n c, .int .i64 t, fK vb, u83, u84, u85, u86, u87, u88, u89, u90, u91, u92, u93, u94, u95, u96, u97, u98, u99], ?_, u78, u79, .slice A n c, .int .i64 t, fK vb, u83, u84, u85, u86, u87, u88, u89, u90, u91, u92, u93, u94, u95, u96, u97, u98, u99, X, rfl, ?_⟩
                        · simp only [frmL, Act.put, List.setIfInBounds_toArray, List.set_cons_zero, List.set_cons_succ]
                        · exact ⟨HN.st, HN.sz, HN.hp, HN.hX.imp On.old id, fun o => HN.h0 (o.of_set (by decide)), fun o => HN.h1 (o.of_set (by decide)), fun o => HN.h2 (o.of_set (by decide)), fun o => HN.h3 (o.of_set (by decide)), fun _ => rfl, fun o => HN.h5 (o.of_set (by decide)), fun o => HN.h6 (o.of_set (by decide)), fun o => HN.h7 (o.of_set (by decide)), fun o => HN.h8 (o.of_set (by decide)), fun o => HN.h9 (o.of_set (by decide)), fun o => HN.h10 (o.of_set (by decide)), fun o => HN.h11 (o.of_set (by decide)), fun o => HN.h12 (o.of_set (by decide)), fun o => HN.h13 (o.of_set (by decide)), fun o => HN.h14 (o.of_set (by decide)), fun o => HN.h15 (o.of_set (by decide)), fun o => HN.h16 (o.of_set (by decide)), fun o => HN.h17 (o.of_set (by decide)), fun o => HN.h18 (o.of_set (by decide)), fun o => HN.h19 (o.of_set (by decide)), fun o => HN.h20 (o.of_set (by decide)), fun o => HN.h21 (o.of_set (by decide)), fun o => (HN.h22 (o.of_set (by decide))).imp On.old id⟩
                      refine StepsI.cons (i := 5) (ws := [1, 4, 4]) rfl (by kernel_rfl) (fun L a W hI hno hon hw K hK => ?_) ?_
                      · obtain ⟨_, rfl, u78, u79, u80, u81, u82, u83, u84, u85, u86, u87, u88, u89, u90, u91, u92, u93, u94, u95, u96, u97, u98, u99, X, rfl, H⟩ := hI
                        simp only [List.getElem_toArray, List.getElem_cons_zero, List.getElem_cons_succ]
                        obtain rfl := H.h1 (hw 1 (by simp))
                        obtain rfl := H.h4 (hw 4 (by simp))
                        simp only [frmL, Act.put, List.setIfInBounds_toArray, List.set_cons_zero, List.set_cons_succ]
                        go_simp
                        go_wp2_with (go_at_call 37; (with_reducible refine (HP1.out _).mono ?_); rintro e w9 ⟨rfl, hb⟩)
                        have HN := H.up hb
                        refine hK.out _ _ ⟨[u78, fK 64, u80, u81, fK vb, fK vk, u84, u85, u86, u87, u88, u89, u90, u91, u92, u93, u94, u95, u96, u97, u98, u99], ?_, u78, fK 64, u80, u81, fK vb, fK vk, u84, u85, u86, u87, u88, u89, u90, u91, u92, u93, u94, u95, u96, u97, u98, u99, X, rfl, ?_⟩
                        · simp only [frmL, Act.put, List.setIfInBounds_toArray, List.set_cons_zero, List.set_cons_succ]
                        · exact ⟨HN.st, HN.sz, HN.hp, HN.hX.imp On.old id, fun o => HN.h0 (o.of_set (by decide)), fun o => HN.h1 (o.of_set (by decide)), fun o => HN.h2 (o.of_set (by decide)), fun o => HN.h3 (o.of_set (by decide)), fun o => HN.h4 (o.of_set (by decide)), fun _ => rfl, fun o => HN.h6 (o.of_set (by decide)), fun o => HN.h7 (o.of_set (by decide)), fun o => HN.h8 (o.of_set (by decide)), fun o => HN.h9 (o.of_set (by decide)), fun o => HN.h10 (o.of_set (by decide)), fun o => HN.h11 (o.of_set (by decide)), fun o => HN.h12 (o.of_set (by decide)), fun o => HN.h13 (o.of_set (by decide)), fun o => HN.h14 (o.of_set (by decide)), fun o => HN.h15 (o.of_set (by decide)), fun o => HN.h16 (o.of_set (by decide)), fun o => HN.h17 (o.of_set (by decide)), fun o => HN.h18 (o.of_set (by decide)), fun o => HN.h19 (o.of_set (by decide)), fun o => HN.h20 (o.of_set (by decide)), fun o => HN.h21 (o.of_set (by decide)), fun o => (HN.h22 (o.of_set (by decide))).imp On.old id⟩
                      refine StepsI.cons (i := 6) (ws := []) rfl (by kernel_rfl) (fun L a W hI hno hon hw K hK => ?_) ?_
                      · obtain ⟨_, rfl, u78, u79, u80, u81, u82, u83, u84, u85, u86, u87, u88, u89, u90, u91, u92, u93, u94, u95, u96, u97, u98, u99, X, rfl, H⟩ := hI
                        simp only [List.getElem_toArray, List.getElem_cons_zero, List.getElem_cons_succ]
                        simp only [frmL, Act.put, List.setIfInBounds_toArray, List.set_cons_zero, List.set_cons_succ]
                        go_simp
                        have HN := H
                        refine hK.out _ _ ⟨[u78, u79, u80, u81, u82, u83, .slice (some ⟨ga, oa, none⟩) LA.length ca, u85, u86, u87, u88, u89, u90, u91, u92, u93, u94, u95, u96, u97, u98, u99], ?_, u78, u79, u80, u81, u82, u83, .slice (some ⟨ga, oa, none⟩) LA.length ca, u85, u86, u87, u88, u89, u90, u91, u92, u93, u94, u95, u96, u97, u98, u99, X, rfl, ?_⟩
                        · simp only [frmL, Act.put, List.setIfInBounds_toArray, List.set_cons_zero, List.set_cons_succ]
                        · exact ⟨HN.st, HN.sz, HN.hp, HN.hX.imp On.old id, fun o => HN.h0 (o.of_set (by decide)), fun o => HN.h1 (o.of_set (by decide)), fun o => HN.h2 (o.of_set (by decide)), fun o => HN.h3 (o.of_set (by decide)), fun o => HN.h4 (o.of_set (by decide)), fun o => HN.h5 (o.of_set (by decide)), fun _ => rfl, fun o => HN.h7 (o.of_set (by decide)), fun o => HN.h8 (o.of_set (by decide)), fun o => HN.h9 (o.of_set (by decide)), fun o => HN.h10 (o.of_set (by decide)), fun o => HN.h11 (o.of_set (by decide)), fun o => HN.h12 (o.of_set (by decide)), fun o => HN.h13 (o.of_set (by decide)), fun o => HN.h14 (o.of_set (by decide)), fun o => HN.h15 (o.of_set (by decide)), fun o => HN.h16 (o.of_set (by decide)), fun o => HN.h17 (o.of_set (by decide)), fun o => HN.h18 (o.of_set (by decide)), fun o => HN.h19 (o.of_set (by decide)), fun o => HN.h20 (o.of_set (by decide)), fun o => HN.h21 (o.of_set (by decide)), fun o => (HN.h22 (o.of_set (by decide))).imp On.old id⟩
                      refine StepsI.cons (i := 7) (ws := []) rfl (by kernel_rfl) (fun L a W hI hno hon hw K hK => ?_) ?_
                      · obtain ⟨_, rfl, u78, u79, u80, u81, u82, u83, u84, u85, u86, u87, u88, u89, u90, u91, u92, u93, u94, u95, u96, u97, u98, u99, X, rfl, H⟩ := hI
                        simp only [List.getElem_toArray, List.getElem_cons_zero, List.getElem_cons_succ]
                        simp only [frmL, Act.put, List.setIfInBounds_toArray, List.set_cons_zero, List.set_cons_succ]
                        go_simp
                        have HN := H
                        refine hK.out _ _ ⟨[u78, u79, u80, u81, u82, u83, u84, .int .i64 x, u86, u87, u88, u89, u90, u91, u92, u93, u94, u95, u96, u97, u98, u99], ?_, u78, u79, u80, u81, u82, u83, u84, .int .i64 x, u86, u87, u88, u89, u90, u91, u92, u93, u94, u95, u96, u97, u98, u99, X, rfl, ?_⟩
                        · simp only [frmL, Act.put, List.setIfInBounds_toArray, List.set_cons_zero, List.set_cons_succ]
                        · exact ⟨HN.st, HN.sz, HN.hp, HN.hX.imp On.old id, fun o => HN.h0 (o.of_set (by decide)), fun o => HN.h1 (o.of_set (by decide)), fun o => HN.h2 (o.of_set (by decide)), fun o => HN.h3 (o.of_set (by decide)), fun o => HN.h4 (o.of_set (by decide)), fun o => HN.h5 (o.of_set (by decide)), fun o => HN.h6 (o.of_set (by decide)), fun _ => rfl, fun o => HN.h8 (o.of_set (by decide)), fun o => HN.h9 (o.of_set (by decide)), fun o => HN.h10 (o.of_set (by decide)), fun o => HN.h11 (o.of_set (by decide)), fun o => HN.h12 (o.of_set (by decide)), fun o => HN.h13 (o.of_set (by decide)), fun o => HN.h14 (o.of_set (by decide)), fun o => HN.h15 (o.of_set (by decide)), fun o => HN.h16 (o.of_set (by decide)), fun o => HN.h17 (o.of_set (by decide)), fun o => HN.h18 (o.of_set (by decide)), fun o => HN.h19 (o.of_set (by decide)), fun o => HN.h20 (o.of_set (by decide)), fun o => HN.h21 (o.of_set (by decide)), fun o => (HN.h22 (o.of_set (by decide))).imp On.old id⟩
                      refine StepsI.cons (i := 8) (ws := [6, 7]) rfl (by kernel_rfl) (fun L a W hI hno hon hw K hK => ?_) ?_
                      · obtain ⟨_, rfl, u78, u79, u80, u81, u82, u83, u84, u85, u86, u87, u88, u89, u90, u91, u92, u93, u94, u95, u96, u97, u98, u99, X, rfl, H⟩ := hI
                        simp only [List.getElem_toArray, List.getElem_cons_zero, List.getElem_cons_succ]
                        obtain rfl := H.h6 (hw 6 (by simp))
                        obtain rfl := H.h7 (hw 7 (by simp))
                        simp only [frmL, Act.put, List.setIfInBounds_toArray, List.set_cons_zero, List.set_cons_succ]
                        go_simp
                        have HN := H
                        refine hK.out _ _ ⟨[u78, u79, u80, u81, u82, u83, .slice (some ⟨ga, oa, none⟩) LA.length ca, .int .i64 x, .pointer (some ⟨ga, oa + x, none⟩), u87, u88, u89, u90, u91, u92, u93, u94, u95, u96, u97, u98, u99], ?_, u78, u79, u80, u81, u82, u83, .slice (some ⟨ga, oa, none⟩) LA.length ca, .int .i64 x, .pointer (some ⟨ga, oa + x, none⟩), u87, u88, u89, u90, u91, u92, u93, u94, u95, u96, u97, u98, u99, X, rfl, ?_⟩
                        · simp only [frmL, Act.put, List.setIfInBounds_toArray, List.set_cons_zero, List.set_cons_succ]
                        · exact ⟨HN.st, HN.sz, HN.hp, HN.hX.imp On.old id, fun o => HN.h0 (o.of_set (by decide)), fun o => HN.h1 (o.of_set (by decide)), fun o => HN.h2 (o.of_set (by decide)), fun o => HN.h3 (o.of_set (by decide)), fun o => HN.h4 (o.of_set (by decide)), fun o => HN.h5 (o.of_set (by decide)), fun o => HN.h6 (o.of_set (by decide)), fun o => HN.h7 (o.of_set (by decide)), fun _ => rfl, fun o => HN.h9 (o.of_set (by decide)), fun o => HN.h10 (o.of_set (by decide)), fun o => HN.h11 (o.of_set (by decide)), fun o => HN.h12 (o.of_set (by decide)), fun o => HN.h13 (o.of_set (by decide)), fun o => HN.h14 (o.of_set (by decide)), fun o => HN.h15 (o.of_set (by decide)), fun o => HN.h16 (o.of_set (by decide)), fun o => HN.h17 (o.of_set (by decide)), fun o => HN.h18 (o.of_set (by decide)), fun o => HN.h19 (o.of_set (by decide)), fun o => HN.h20 (o.of_set (by decide)), fun o => HN.h21 (o.of_set (by decide)), fun o => (HN.h22 (o.of_set (by decide))).imp On.old id⟩
                      refine StepsI.cons (i := 9) (ws := [8]) rfl (by kernel_rfl) (fun L a W hI hno hon hw K hK => ?_) ?_
                      · obtain ⟨_, rfl, u78, u79, u80, u81, u82, u83, u84, u85, u86, u87, u88, u89, u90, u91, u92, u93, u94, u95, u96, u97, u98, u99, X, rfl, H⟩ := hI
                        simp only [List.getElem_toArray, List.getElem_cons_zero, List.getElem_cons_succ]
                        obtain rfl := H.h8 (hw 8 (by simp))
                        simp only [frmL, Act.put, List.setIfInBounds_toArray, List.set_cons_zero, List.set_cons_succ]
                        have c0 := (World.cell?_of_block (a := ⟨ga, oa + x, none⟩) (H.hp _ hGA.out.1 hGA.out.2)).trans CA.out
                        go_simp
                        have HN := H
                        refine hK.out _ _ ⟨[u78, u79, u80, u81, u82, u83, u84, u85, .pointer (some ⟨ga, oa + x, none⟩), .slice Ra a.length ra, u88, u89, u90, u91, u92, u93, u94, u95, u96, u97, u98, u99], ?_, u78, u79, u80, u81, u82, u83, u84, u85, .pointer (some ⟨ga, oa + x, none⟩), .slice Ra a.length ra, u88, u89, u90, u91, u92, u93, u94, u95, u96, u97, u98, u99, X, rfl, ?_⟩
                        · simp only [frmL, Act.put, List.setIfInBounds_toArray, List.set_cons_zero, List.set_cons_succ]
                        · exact ⟨HN.st, HN.sz, HN.hp, HN.hX.imp On.old id, fun o => HN.h0 (o.of_set (by decide)), fun o => HN.h1 (o.of_set (by decide)), fun o => HN.h2 (o.of_set (by decide)), fun o => HN.h3 (o.of_set (by decide)), fun o => HN.h4 (o.of_set (by decide)), fun o => HN.h5 (o.of_set (by decide)), fun o => HN.h6 (o.of_set (by decide)), fun o => HN.h7 (o.of_set (by decide)), fun o => HN.h8 (o.of_set (by decide)), fun _ => rfl, fun o => HN.h10 (o.of_set (by decide)), fun o => HN.h11 (o.of_set (by decide)), fun o => HN.h12 (o.of_set (by decide)), fun o => HN.h13 (o.of_set (by decide)), fun o => HN.h14 (o.of_set (by decide)), fun o => HN.h15 (o.of_set (by decide)), fun o => HN.h16 (o.of_set (by decide)), fun o => HN.h17 (o.of_set (by decide)), fun o => HN.h18 (o.of_set (by decide)), fun o => HN.h19 (o.of_set (by decide)), fun o => HN.h20 (o.of_set (by decide)), fun o => HN.h21 (o.of_set (by decide)), fun o => (HN.h22 (o.of_set (by decide))).imp On.old id⟩
                      refine StepsI.cons (i := 10) (ws := [9]) rfl (by kernel_rfl) (fun L a W hI hno hon hw K hK => ?_) ?_
                      · obtain ⟨_, rfl, u78, u79, u80, u81, u82, u83, u84, u85, u86, u87, u88, u89, u90, u91, u92, u93, u94, u95, u96, u97, u98, u99, X, rfl, H⟩ := hI
                        simp only [List.getElem_toArray, List.getElem_cons_zero, List.getElem_cons_succ]
                        obtain rfl := H.h9 (hw 9 (by simp))
                        simp only [frmL, Act.put, List.setIfInBounds_toArray, List.set_cons_zero, List.set_cons_succ]
                        go_simp
                        have HN := H
                        refine hK.out _ _ ⟨[u78, u79, u80, u81, u82, u83, u84, u85, u86, .slice Ra a.length ra, .int .i64 a.length, u89, u90, u91, u92, u93, u94, u95, u96, u97, u98, u99], ?_, u78, u79, u80, u81, u82, u83, u84, u85, u86, .slice Ra a.length ra, .int .i64 a.length, u89, u90, u91, u92, u93, u94, u95, u96, u97, u98, u99, X, rfl, ?_⟩
                        · simp only [frmL, Act.put, List.setIfInBounds_toArray, List.set_cons_zero, List.set_cons_succ]
                        · exact ⟨HN.st, HN.sz, HN.hp, HN.hX.imp On.old id, fun o => HN.h0 (o.of_set (by decide)), fun o => HN.h1 (o.of_set (by decide)), fun o => HN.h2 (o.of_set (by decide)), fun o => HN.h3 (o.of_set (by decide)), fun o => HN.h4 (o.of_set (by decide)), fun o => HN.h5 (o.of_set (by decide)), fun o => HN.h6 (o.of_set (by decide)), fun o => HN.h7 (o.of_set (by decide)), fun o => HN.h8 (o.of_set (by decide)), fun o => HN.h9 (o.of_set (by decide)), fun _ => rfl, fun o => HN.h11 (o.of_set (by decide)), fun o => HN.h12 (o.of_set (by decide)), fun o => HN.h13 (o.of_set (by decide)), fun o => HN.h14 (o.of_set (by decide)), fun o => HN.h15 (o.of_set (by decide)), fun o => HN.h16 (o.of_set (by decide)), fun o => HN.h17 (o.of_set (by decide)), fun o => HN.h18 (o.of_set (by decide)), fun o => HN.h19 (o.of_set (by decide)), fun o => HN.h20 (o.of_set (by decide)), fun o => HN.h21 (o.of_set (by decide)), fun o => (HN.h22 (o.of_set (by decide))).imp On.old id⟩
                      refine StepsI.cons (i := 11) (ws := []) rfl (by kernel_rfl) (fun L a W hI hno hon hw K hK => ?_) ?_
                      · obtain ⟨_, rfl, u78, u79, u80, u81, u82, u83, u84, u85, u86, u87, u88, u89, u90, u91, u92, u93, u94, u95, u96, u97, u98, u99, X, rfl, H⟩ := hI
                        simp only [List.getElem_toArray, List.getElem_cons_zero, List.getElem_cons_succ]
                        simp only [frmL, Act.put, List.setIfInBounds_toArray, List.set_cons_zero, List.set_cons_succ]
                        go_simp
                        have HN := H
                        refine hK.out _ _ ⟨[u78, u79, u80, u81, u82, u83, u84, u85, u86, u87, u88, .slice (some ⟨gb, ob, none⟩) LB.length cb, u90, u91, u92, u93, u94, u95, u96, u97, u98, u99], ?_, u78, u79, u80, u81, u82, u83, u84, u85, u86, u87, u88, .slice (some ⟨gb, ob, none⟩) LB.length cb, u90, u91, u92, u93, u94, u95, u96, u97, u98, u99, X, rfl, ?_⟩
                        · simp only [frmL, Act.put, List.setIfInBounds_toArray, List.set_cons_zero, List.set_cons_succ]
                        · exact ⟨HN.st, HN.sz, HN.hp, HN.hX.imp On.old id, fun o => HN.h0 (o.of_set (by decide)), fun o => HN.h1 (o.of_set (by decide)), fun o => HN.h2 (o.of_set (by decide)), fun o => HN.h3 (o.of_set (by decide)), fun o => HN.h4 (o.of_set (by decide)), fun o => HN.h5 (o.of_set (by decide)), fun o => HN.h6 (o.of_set (by decide)), fun o => HN.h7 (o.of_set (by decide)), fun o => HN.h8 (o.of_set (by decide)), fun o => HN.h9 (o.of_set (by decide)), fun o => HN.h10 (o.of_set (by decide)), fun _ => rfl, fun o => HN.h12 (o.of_set (by decide)), fun o => HN.h13 (o.of_set (by decide)), fun o => HN.h14 (o.of_set (by decide)), fun o => HN.h15 (o.of_set (by decide)), fun o => HN.h16 (o.of_set (by decide)), fun o => HN.h17 (o.of_set (by decide)), fun o => HN.h18 (o.of_set (by decide)), fun o => HN.h19 (o.of_set (by decide)), fun o => HN.h20 (o.of_set (by decide)), fun o => HN.h21 (o.of_set (by decide)), fun o => (HN.h22 (o.of_set (by decide))).imp On.old id⟩
                      refine StepsI.cons (i := 12) (ws := []) rfl (by kernel_rfl) (fun L a W hI hno hon hw K hK => ?_) ?_
                      · obtain ⟨_, rfl, u78, u79, u80, u81, u82, u83, u84, u85, u86, u87, u88, u89, u90, u91, u92, u93, u94, u95, u96, u97, u98, u99, X, rfl, H⟩ := hI
                        simp only [List.getElem_toArray, List.getElem_cons_zero, List.getElem_cons_succ]
                        simp only [frmL, Act.put, List.setIfInBounds_toArray, List.set_cons_zero, List.set_cons_succ]
                        go_simp
                        have HN := H
                        refine hK.out _ _ ⟨[u78, u79, u80, u81, u82, u83, u84, u85, u86, u87, u88, u89, .int .i64 y, u91, u92, u93, u94, u95, u96, u97, u98, u99], ?_, u78, u79, u80, u81, u82, u83, u84, u85, u86, u87, u88, u89, .int .i64 y, u91, u92, u93, u94, u95, u96, u97, u98, u99, X, rfl, ?_⟩
                        · simp only [frmL, Act.put, List.setIfInBounds_toArray, List.set_cons_zero, List.set_cons_succ]
                        · exact ⟨HN.st, HN.sz, HN.hp, HN.hX.imp On.old id, fun o => HN.h0 (o.of_set (by decide)), fun o => HN.h1 (o.of_set (by decide)), fun o => HN.h2 (o.of_set (by decide)), fun o => HN.h3 (o.of_set (by decide)), fun o => HN.h4 (o.of_set (by decide)), fun o => HN.h5 (o.of_set (by decide)), fun o => HN.h6 (o.of_set (by decide)), fun o => HN.h7 (o.of_set (by decide)), fun o => HN.h8 (o.of_set (by decide)), fun o => HN.h9 (o.of_set (by decide)), fun o => HN.h10 (o.of_set (by decide)), fun o => HN.h11 (o.of_set (by decide)), fun _ => rfl, fun o => HN.h13 (o.of_set (by decide)), fun o => HN.h14 (o.of_set (by decide)), fun o => HN.h15 (o.of_set (by decide)), fun o => HN.h16 (o.of_set (by decide)), fun o => HN.h17 (o.of_set (by decide)), fun o => HN.h18 (o.of_set (by decide)), fun o => HN.h19 (o.of_set (by decide)), fun o => HN.h20 (o.of_set (by decide)), fun o => HN.h21 (o.of_set (by decide)), fun o => (HN.h22 (o.of_set (by decide))).imp On.old id⟩
                      refine StepsI.cons (i := 13) (ws := [11, 12]) rfl (by kernel_rfl) (fun L a W hI hno hon hw K hK => ?_) ?_
                      · obtain ⟨_, rfl, u78, u79, u80, u81, u82, u83, u84, u85, u86, u87, u88, u89, u90, u91, u92, u93, u94, u95, u96, u97, u98, u99, X, rfl, H⟩ := hI
                        simp only [List.getElem_toArray, List.getElem_cons_zero, List.getElem_cons_succ]
                        obtain rfl := H.h11 (hw 11 (by simp))
                        obtain rfl := H.h12 (hw 12 (by simp))
                        simp only [frmL, Act.put, List.setIfInBounds_toArray, List.set_cons_zero, List.set_cons_succ]
                        go_simp
                        have HN := H
                        refine hK.out _ _ ⟨[u78, u79, u80, u81, u82, u83, u84, u85, u86, u87, u88, .slice (some ⟨gb, ob, none⟩) LB.length cb, .int .i64 y, .pointer (some ⟨gb, ob + y, none⟩), u92, u93, u94, u95, u96, u97, u98, u99], ?_, u78, u79, u80, u81, u82, u83, u84, u85, u86, u87, u88, .slice (some ⟨gb, ob, none⟩) LB.length cb, .int .i64 y, .pointer (some ⟨gb, ob + y, none⟩), u92, u93, u94, u95, u96, u97, u98, u99, X, rfl, ?_⟩
                        · simp only [frmL, Act.put, List.setIfInBounds_toArray, List.set_cons_zero, List.set_cons_succ]
                        · exact ⟨HN.st, HN.sz, HN.hp, HN.hX.imp On.old id, fun o => HN.h0 (o.of_set (by decide)), fun o => HN.h1 (o.of_set (by decide)), fun o => HN.h2 (o.of_set (by decide)), fun o => HN.h3 (o.of_set (by decide)), fun o => HN.h4 (o.of_set (by decide)), fun o => HN.h5 (o.of_set (by decide)), fun o => HN.h6 (o.of_set (by decide)), fun o => HN.h7 (o.of_set (by decide)), fun o => HN.h8 (o.of_set (by decide)), fun o => HN.h9 (o.of_set (by decide)), fun o => HN.h10 (o.of_set (by decide)), fun o => HN.h11 (o.of_set (by decide)), fun o => HN.h12 (o.of_set (by decide)), fun _ => rfl, fun o => HN.h14 (o.of_set (by decide)), fun o => HN.h15 (o.of_set (by decide)), fun o => HN.h16 (o.of_set (by decide)), fun o => HN.h17 (o.of_set (by decide)), fun o => HN.h18 (o.of_set (by decide)), fun o => HN.h19 (o.of_set (by decide)), fun o => HN.h20 (o.of_set (by decide)), fun o => HN.h21 (o.of_set (by decide)), fun o => (HN.h22 (o.of_set (by decide))).imp On.old id⟩
                      refine StepsI.cons (i := 14) (ws := [13]) rfl (by kernel_rfl) (fun L a W hI hno hon hw K hK => ?_) ?_
                      · obtain ⟨_, rfl, u78, u79, u80, u81, u82, u83, u84, u85, u86, u87, u88, u89, u90, u91, u92, u93, u94, u95, u96, u97, u98, u99, X, rfl, H⟩ := hI
                        simp only [List.getElem_toArray, List.getElem_cons_zero, List.getElem_cons_succ]
                        obtain rfl := H.h13 (hw 13 (by simp))
                        simp only [frmL, Act.put, List.setIfInBounds_toArray, List.set_cons_zero, List.set_cons_succ]
                        have c0 := (World.cell?_of_block (a := ⟨gb, ob + y, none⟩) (H.hp _ hGB.out.1 hGB.out.2)).trans CB.out
                        go_simp
                        have HN := H
                        refine hK.out _ _ ⟨[u78, u79, u80, u81, u82, u83, u84, u85, u86, u87, u88, u89, u90, .pointer (some ⟨gb, ob + y, none⟩), .slice Rb b.length rb, u93, u94, u95, u96, u97, u98, u99], ?_, u78, u79, u80, u81, u82, u83, u84, u85, u86, u87, u88, u89, u90, .pointer (some ⟨gb, ob + y, none⟩), .slice Rb b.length rb, u93, u94, u95, u96, u97, u98, u99, X, rfl, ?_⟩
                        · simp only [frmL, Act.put, List.setIfInBounds_toArray, List.set_cons_zero, List.set_cons_succ]
                        · exact ⟨HN.st, HN.sz, HN.hp, HN.hX.imp On.old id, fun o => HN.h0 (o.of_set (by decide)), fun o => HN.h1 (o.of_set (by decide)), fun o => HN.h2 (o.of_set (by decide)), fun o => HN.h3 (o.of_set (by decide)), fun o => HN.h4 (o.of_set (by decide)), fun o => HN.h5 (o.of_set (by decide)), fun o => HN.h6 (o.of_set (by decide)), fun o => HN.h7 (o.of_set (by decide)), fun o => HN.h8 (o.of_set (by decide)), fun o => HN.h9 (o.of_set (by decide)), fun o => HN.h10 (o.of_set (by decide)), fun o => HN.h11 (o.of_set (by decide)), fun o => HN.h12 (o.of_set (by decide)), fun o => HN.h13 (o.of_set (by decide)), fun _ => rfl, fun o => HN.h15 (o.of_set (by decide)), fun o => HN.h16 (o.of_set (by decide)), fun o => HN.h17 (o.of_set (by decide)), fun o => HN.h18 (o.of_set (by decide)), fun o => HN.h19 (o.of_set (by decide)), fun o => HN.h20 (o.of_set (by decide)), fun o => HN.h21 (o.of_set (by decide)), fun o => (HN.h22 (o.of_set (by decide))).imp On.old id⟩
                      refine StepsI.cons (i := 15) (ws := [14]) rfl (by kernel_rfl) (fun L a W hI hno hon hw K hK => ?_) ?_
                      · obtain ⟨_, rfl, u78, u79, u80, u81, u82, u83, u84, u85, u86, u87, u88, u89, u90, u91, u92, u93, u94, u95, u96, u97, u98, u99, X, rfl, H⟩ := hI
                        simp only [List.getElem_toArray, List.getElem_cons_zero, List.getElem_cons_succ]
                        obtain rfl := H.h14 (hw 14 (by simp))
                        simp only [frmL, Act.put, List.setIfInBounds_toArray, List.set_cons_zero, List.set_cons_succ]
                        go_simp
                        have HN := H
                        refine hK.out _ _ ⟨[u78, u79, u80, u81, u82, u83, u84, u85, u86, u87, u88, u89, u90, u91, .slice Rb b.length rb, .int .i64 b.length, u94, u95, u96, u97, u98, u99], ?_, u78, u79, u80, u81, u82, u83, u84, u85, u86, u87, u88, u89, u90, u91, .slice Rb b.length rb, .int .i64 b.length, u94, u95, u96, u97, u98, u99, X, rfl, ?_⟩
                        · simp only [frmL, Act.put, List.setIfInBounds_toArray, List.set_cons_zero, List.set_cons_succ]
                        · exact ⟨HN.st, HN.sz, HN.hp, HN.hX.imp On.old id, fun o => HN.h0 (o.of_set (by decide)), fun o => HN.h1 (o.of_set (by decide)), fun o => HN.h2 (o.of_set (by decide)), fun o => HN.h3 (o.of_set (by decide)), fun o => HN.h4 (o.of_set (by decide)), fun o => HN.h5 (o.of_set (by decide)), fun o => HN.h6 (o.of_set (by decide)), fun o => HN.h7 (o.of_set (by decide)), fun o => HN.h8 (o.of_set (by decide)), fun o => HN.h9 (o.of_set (by decide)), fun o => HN.h10 (o.of_set (by decide)), fun o => HN.h11 (o.of_set (by decide)), fun o => HN.h12 (o.of_set (by decide)), fun o => HN.h13 (o.of_set (by decide)), fun o => HN.h14 (o.of_set (by decide)), fun _ => rfl, fun o => HN.h16 (o.of_set (by decide)), fun o => HN.h17 (o.of_set (by decide)), fun o => HN.h18 (o.of_set (by decide)), fun o => HN.h19 (o.of_set (by decide)), fun o => HN.h20 (o.of_set (by decide)), fun o => HN.h21 (o.of_set (by decide)), fun o => (HN.h22 (o.of_set (by decide))).imp On.old id⟩
                      refine StepsI.cons (i := 16) (ws := [10, 15]) rfl (by kernel_rfl) (fun L a W hI hno hon hw K hK => ?_) ?_
                      · obtain ⟨_, rfl, u78, u79, u80, u81, u82, u83, u84, u85, u86, u87, u88, u89, u90, u91, u92, u93, u94, u95, u96, u97, u98, u99, X, rfl, H⟩ := hI
                        simp only [List.getElem_toArray, List.getElem_cons_zero, List.getElem_cons_succ]
                        obtain rfl := H.h10 (hw 10 (by simp))
                        obtain rfl := H.h15 (hw 15 (by simp))
                        simp only [frmL, Act.put, List.setIfInBounds_toArray, List.set_cons_zero, List.set_cons_succ]
                        have hwr := HW16.out
                        go_simp
                        have HN := H
                        refine hK.out _ _ ⟨[u78, u79, u80, u81, u82, u83, u84, u85, u86, u87, .int .i64 a.length, u89, u90, u91, u92, .int .i64 b.length, .int .i64 (lab : Int), u95, u96, u97, u98, u99], ?_, u78, u79, u80, u81, u82, u83, u84, u85, u86, u87, .int .i64 a.length, u89, u90, u91, u92, .int .i64 b.length, .int .i64 (lab : Int), u95, u96, u97, u98, u99, X, rfl, ?_⟩
                        · simp only [frmL, Act.put, List.setIfInBounds_toArray, List.set_cons_zero, List.set_cons_succ]
                        · exact ⟨HN.st, HN.sz, HN.hp, HN.hX.imp On.old id, fun o => HN.h0 (o.of_set (by decide)), fun o => HN.h1 (o.of_set (by decide)), fun o => HN.h2 (o.of_set (by decide)), fun o => HN.h3 (o.of_set (by decide)), fun o => HN.h4 (o.of_set (by decide)), fun o => HN.h5 (o.of_set (by decide)), fun o => HN.h6 (o.of_set (by decide)), fun o => HN.h7 (o.of_set (by decide)), fun o => HN.h8 (o.of_set (by decide)), fun o => HN.h9 (o.of_set (by decide)), fun o => HN.h10 (o.of_set (by decide)), fun o => HN.h11 (o.of_set (by decide)), fun o => HN.h12 (o.of_set (by decide)), fun o => HN.h13 (o.of_set (by decide)), fun o => HN.h14 (o.of_set (by decide)), fun o => HN.h15 (o.of_set (by decide)), fun _ => rfl, fun o => HN.h17 (o.of_set (by decide)), fun o => HN.h18 (o.of_set (by decide)), fun o => HN.h19 (o.of_set (by decide)), fun o => HN.h20 (o.of_set (by decide)), fun o => HN.h21 (o.of_set (by decide)), fun o => (HN.h22 (o.of_set (by decide))).imp On.old id⟩
                      refine StepsI.cons (i := 17) (ws := [16]) rfl (by kernel_rfl) (fun L a W hI hno hon hw K hK => ?_) ?_
                      · obtain ⟨_, rfl, u78, u79, u80, u81, u82, u83, u84, u85, u86, u87, u88, u89, u90, u91, u92, u93, u94, u95, u96, u97, u98, u99, X, rfl, H⟩ := hI
                        simp only [List.getElem_toArray, List.getElem_cons_zero, List.getElem_cons_succ]
                        obtain rfl := H.h16 (hw 16 (by simp))
                        simp only [frmL, Act.put, List.setIfInBounds_toArray, List.set_cons_zero, List.set_cons_succ]
                        have hwr := HW17.out
                        go_simp
                        have HN := H
                        refine hK.out _ _ ⟨[u78, u79, u80, u81, u82, u83, u84, u85, u86, u87, u88, u89, u90, u91, u92, u93, .int .i64 (lab : Int), .int .i64 (lac : Int), u96, u97, u98, u99], ?_, u78, u79, u80, u81, u82, u83, u84, u85, u86, u87, u88, u89, u90, u91, u92, u93, .int .i64 (lab : Int), .int .i64 (lac : Int), u96, u97, u98, u99, X, rfl, ?_⟩
                        · simp only [frmL, Act.put, List.setIfInBounds_toArray, List.set_cons_zero, List.set_cons_succ]
                        · exact ⟨HN.st, HN.sz, HN.hp, HN.hX.imp On.old id, fun o => HN.h0 (o.of_set (by decide)), fun o => HN.h1 (o.of_set (by decide)), fun o => HN.h2 (o.of_set (by decide)), fun o => HN.h3 (o.of_set (by decide)), fun o => HN.h4 (o.of_set (by decide)), fun o => HN.h5 (o.of_set (by decide)), fun o => HN.h6 (o.of_set (by decide)), fun o => HN.h7 (o.of_set (by decide)), fun o => HN.h8 (o.of_set (by decide)), fun o => HN.h9 (o.of_set (by decide)), fun o => HN.h10 (o.of_set (by decide)), fun o => HN.h11 (o.of_set (by decide)), fun o => HN.h12 (o.of_set (by decide)), fun o => HN.h13 (o.of_set (by decide)), fun o => HN.h14 (o.of_set (by decide)), fun o => HN.h15 (o.of_set (by decide)), fun o => HN.h16 (o.of_set (by decide)), fun _ => rfl, fun o => HN.h18 (o.of_set (by decide)), fun o => HN.h19 (o.of_set (by decide)), fun o => HN.h20 (o.of_set (by decide)), fun o => HN.h21 (o.of_set (by decide)), fun o => (HN.h22 (o.of_set (by decide))).imp On.old id⟩
                      refine StepsI.cons (i := 18) (ws := [17, 5]) rfl (by kernel_rfl) (fun L a W hI hno hon hw K hK => ?_) ?_
                      · obtain ⟨_, rfl, u78, u79, u80, u81, u82, u83, u84, u85, u86, u87, u88, u89, u90, u91, u92, u93, u94, u95, u96, u97, u98, u99, X, rfl, H⟩ := hI
                        simp only [List.getElem_toArray, List.getElem_cons_zero, List.getElem_cons_succ]
                        obtain rfl := H.h17 (hw 17 (by simp))
                        simp only [frmL, Act.put, List.setIfInBounds_toArray, List.set_cons_zero, List.set_cons_succ]
                        go_simp
                        go_wp2_with (go_at_call 40; (with_reducible refine (HPW.out _).mono ?_); rintro e w9 ⟨rfl, hb⟩)
                        have HN := H.up hb
                        refine hK.out _ _ ⟨[u78, u79, u80, u81, u82, u83, u84, u85, u86, u87, u88, u89, u90, u91, u92, u93, u94, .int .i64 (lac : Int), .int .i64 p, u97, u98, u99], ?_, u78, u79, u80, u81, u82, u83, u84, u85, u86, u87, u88, u89, u90, u91, u92, u93, u94, .int .i64 (lac : Int), .int .i64 p, u97, u98, u99, X, rfl, ?_⟩
                        · simp only [frmL, Act.put, List.setIfInBounds_toArray, List.set_cons_zero, List.set_cons_succ]
                        · exact ⟨HN.st, HN.sz, HN.hp, HN.hX.imp On.old id, fun o => HN.h0 (o.of_set (by decide)), fun o => HN.h1 (o.of_set (by decide)), fun o => HN.h2 (o.of_set (by decide)), fun o => HN.h3 (o.of_set (by decide)), fun o => HN.h4 (o.of_set (by decide)), fun o => HN.h5 (o.of_set (by decide)), fun o => HN.h6 (o.of_set (by decide)), fun o => HN.h7 (o.of_set (by decide)), fun o => HN.h8 (o.of_set (by decide)), fun o => HN.h9 (o.of_set (by decide)), fun o => HN.h10 (o.of_set (by decide)), fun o => HN.h11 (o.of_set (by decide)), fun o => HN.h12 (o.of_set (by decide)), fun o => HN.h13 (o.of_set (by decide)), fun o => HN.h14 (o.of_set (by decide)), fun o => HN.h15 (o.of_set (by decide)), fun o => HN.h16 (o.of_set (by decide)), fun o => HN.h17 (o.of_set (by decide)), fun _ => rfl, fun o => HN.h19 (o.of_set (by decide)), fun o => HN.h20 (o.of_set (by decide)), fun o => HN.h21 (o.of_set (by decide)), fun o => (HN.h22 (o.of_set (by decide))).imp On.old id⟩
                      refine StepsI.cons (i := 19) (ws := [18, 18]) rfl (by kernel_rfl) (fun L a W hI hno hon hw K hK => ?_) ?_
                      · obtain ⟨_, rfl, u78, u79, u80, u81, u82, u83, u84, u85, u86, u87, u88, u89, u90, u91, u92, u93, u94, u95, u96, u97, u98, u99, X, rfl, H⟩ := hI
                        simp only [List.getElem_toArray, List.getElem_cons_zero, List.getElem_cons_succ]
                        obtain rfl := H.h18 (hw 18 (by simp))
                        simp only [frmL, Act.put, List.setIfInBounds_toArray, List.set_cons_zero, List.set_cons_succ]
                        go_simp
                        go_wp2_with (go_at_call 34; (with_reducible refine (HF2.out _).mono ?_); rintro e w9 ⟨rfl, hb⟩)
                        have HN := H.up hb
                        refine hK.out _ _ ⟨[u78, u79, u80, u81, u82, u83, u84, u85, u86, u87, u88, u89, u90, u91, u92, u93, u94, u95, .int .i64 p, frV 1 p, u98, u99], ?_, u78, u79, u80, u81, u82, u83, u84, u85, u86, u87, u88, u89, u90, u91, u92, u93, u94, u95, .int .i64 p, frV 1 p, u98, u99, X, rfl, ?_⟩
                        · simp only [frmL, Act.put, List.setIfInBounds_toArray, List.set_cons_zero, List.set_cons_succ]
                        · exact ⟨HN.st, HN.sz, HN.hp, HN.hX.imp On.old id, fun o => HN.h0 (o.of_set (by decide)), fun o => HN.h1 (o.of_set (by decide)), fun o => HN.h2 (o.of_set (by decide)), fun o => HN.h3 (o.of_set (by decide)), fun o => HN.h4 (o.of_set (by decide)), fun o => HN.h5 (o.of_set (by decide)), fun o => HN.h6 (o.of_set (by decide)), fun o => HN.h7 (o.of_set (by decide)), fun o => HN.h8 (o.of_set (by decide)), fun o => HN.h9 (o.of_set (by decide)), fun o => HN.h10 (o.of_set (by decide)), fun o => HN.h11 (o.of_set (by decide)), fun o => HN.h12 (o.of_set (by decide)), fun o => HN.h13 (o.of_set (by decide)), fun o => HN.h14 (o.of_set (by decide)), fun o => HN.h15 (o.of_set (by decide)), fun o => HN.h16 (o.of_set (by decide)), fun o => HN.h17 (o.of_set (by decide)), fun o => HN.h18 (o.of_set (by decide)), fun _ => rfl, fun o => HN.h20 (o.of_set (by decide)), fun o => HN.h21 (o.of_set (by decide)), fun o => (HN.h22 (o.of_set (by decide))).imp On.old id⟩
                      refine StepsI.cons (i := 20) (ws := [5, 19, 19]) rfl (by kernel_rfl) (fun L a W hI hno hon hw K hK => ?_) ?_
                      · obtain ⟨_, rfl, u78, u79, u80, u81, u82, u83, u84, u85, u86, u87, u88, u89, u90, u91, u92, u93, u94, u95, u96, u97, u98, u99, X, rfl, H⟩ := hI
                        simp only [List.getElem_toArray, List.getElem_cons_zero, List.getElem_cons_succ]
                        obtain rfl := H.h5 (hw 5 (by simp))
                        obtain rfl := H.h19 (hw 19 (by simp))
                        simp only [frmL, Act.put, List.setIfInBounds_toArray, List.set_cons_zero, List.set_cons_succ]
                        go_simp
                        go_wp2_with (go_at_call 38; (with_reducible refine (HTM.out _).mono ?_); rintro e w9 ⟨rfl, hb⟩)
                        have HN := H.up hb
                        refine hK.out _ _ ⟨[u78, u79, u80, u81, u82, fK vk, u84, u85, u86, u87, u88, u89, u90, u91, u92, u93, u94, u95, u96, frV 1 p, fL z, u99], ?_, u78, u79, u80, u81, u82, fK vk, u84, u85, u86, u87, u88, u89, u90, u91, u92, u93, u94, u95, u96, frV 1 p, fL z, u99, X, rfl, ?_⟩
                        · simp only [frmL, Act.put, List.setIfInBounds_toArray, List.set_cons_zero, List.set_cons_succ]
                        · exact ⟨HN.st, HN.sz, HN.hp, HN.hX.imp On.old id, fun o => HN.h0 (o.of_set (by decide)), fun o => HN.h1 (o.of_set (by decide)), fun o => HN.h2 (o.of_set (by decide)), fun o => HN.h3 (o.of_set (by decide)), fun o => HN.h4 (o.of_set (by decide)), fun o => HN.h5 (o.of_set (by decide)), fun o => HN.h6 (o.of_set (by decide)), fun o => HN.h7 (o.of_set (by decide)), fun o => HN.h8 (o.of_set (by decide)), fun o => HN.h9 (o.of_set (by decide)), fun o => HN.h10 (o.of_set (by decide)), fun o => HN.h11 (o.of_set (by decide)), fun o => HN.h12 (o.of_set (by decide)), fun o => HN.h13 (o.of_set (by decide)), fun o => HN.h14 (o.of_set (by decide)), fun o => HN.h15 (o.of_set (by decide)), fun o => HN.h16 (o.of_set (by decide)), fun o => HN.h17 (o.of_set (by decide)), fun o => HN.h18 (o.of_set (by decide)), fun o => HN.h19 (o.of_set (by decide)), fun _ => rfl, fun o => HN.h21 (o.of_set (by decide)), fun o => (HN.h22 (o.of_set (by decide))).imp On.old id⟩
                      refine StepsI.cons (i := 21) (ws := [0, 20, 20]) rfl (by kernel_rfl) (fun L a W hI hno hon hw K hK => ?_) ?_
                      · obtain ⟨_, rfl, u78, u79, u80, u81, u82, u83, u84, u85, u86, u87, u88, u89, u90, u91, u92, u93, u94, u95, u96, u97, u98, u99, X, rfl, H⟩ := hI
                        simp only [List.getElem_toArray, List.getElem_cons_zero, List.getElem_cons_succ]
                        obtain rfl := H.h0 (hw 0 (by simp))
                        obtain rfl := H.h20 (hw 20 (by simp))
                        simp only [frmL, Act.put, List.setIfInBounds_toArray, List.set_cons_zero, List.set_cons_succ]
                        go_simp
                        go_wp2_with (go_at_call 37; (with_reducible refine (HP2.out _).mono ?_); rintro e w9 ⟨rfl, hb⟩)
                        have HN := H.up hb
                        refine hK.out _ _ ⟨[.agg #[.int .i64 (frU S 65536), .int .i64 (frD S 65536)], u79, u80, u81, u82, u83, u84, u85, u86, u87, u88, u89, u90, u91, u92, u93, u94, u95, u96, u97, fL z, .agg #[.int .i64 (frU (S + z) 65536), .int .i64 (frD (S + z) 65536)]], ?_, .agg #[.int .i64 (frU S 65536), .int .i64 (frD S 65536)], u79, u80, u81, u82, u83, u84, u85, u86, u87, u88, u89, u90, u91, u92, u93, u94, u95, u96, u97, fL z, .agg #[.int .i64 (frU (S + z) 65536), .int .i64 (frD (S + z) 65536)], X, rfl, ?_⟩
                        · simp only [frmL, Act.put, List.setIfInBounds_toArray, List.set_cons_zero, List.set_cons_succ]
                        · exact ⟨HN.st, HN.sz, HN.hp, HN.hX.imp On.old id, fun o => HN.h0 (o.of_set (by decide)), fun o => HN.h1 (o.of_set (by decide)), fun o => HN.h2 (o.of_set (by decide)), fun o => HN.h3 (o.of_set (by decide)), fun o => HN.h4 (o.of_set (by decide)), fun o => HN.h5 (o.of_set (by decide)), fun o => HN.h6 (o.of_set (by decide)), fun o => HN.h7 (o.of_set (by decide)), fun o => HN.h8 (o.of_set (by decide)), fun o => HN.h9 (o.of_set (by decide)), fun o => HN.h10 (o.of_set (by decide)), fun o => HN.h11 (o.of_set (by decide)), fun o => HN.h12 (o.of_set (by decide)), fun o => HN.h13 (o.of_set (by decide)), fun o => HN.h14 (o.of_set (by decide)), fun o => HN.h15 (o.of_set (by decide)), fun o => HN.h16 (o.of_set (by decide)), fun o => HN.h17 (o.of_set (by decide)), fun o => HN.h18 (o.of_set (by decide)), fun o => HN.h19 (o.of_set (by decide)), fun o => HN.h20 (o.of_set (by decide)), fun _ => rfl, fun o => (HN.h22 (o.of_set (by decide))).imp On.old id⟩
                      refine StepsI.cons (i := 22) (ws := [21, 21, 0, 1, 2, 3, 4, 5, 6, 7, 8, 9, 10, 11, 12, 13, 14, 15, 16, 17, 18, 19, 20, 21]) rfl (by kernel_rfl) (fun L a W hI hno hon hw K hK => ?_) ?_
                      · obtain ⟨_, rfl, u78, u79, u80, u81, u82, u83, u84, u85, u86, u87, u88, u89, u90, u91, u92, u93, u94, u95, u96, u97, u98, u99, X, rfl, H⟩ := hI
                        simp only [List.getElem_toArray, List.getElem_cons_zero, List.getElem_cons_succ]
                        obtain rfl := H.h21 (hw 21 (by simp))
                        simp only [frmL, Act.put, List.setIfInBounds_toArray, List.set_cons_zero, List.set_cons_succ]
                        have hlt := H.st.lt
                        have c0 := blk_cell H.st.box (i := 0) rfl
                        have c1 := blk_cell H.st.box (i := 1) rfl
                        have f0 := blk_frozen H.st.box 0
                        have f1 := blk_frozen H.st.box 1
                        go_simp
                        have HN := H
                        refine hK.out _ _ ⟨[u78, u79, u80, u81, u82, u83, u84, u85, u86, u87, u88, u89, u90, u91, u92, u93, u94, u95, u96, u97, u98, .agg #[.int .i64 (frU (S + z) 65536), .int .i64 (frD (S + z) 65536)]], ?_, u78, u79, u80, u81, u82, u83, u84, u85, u86, u87, u88, u89, u90, u91, u92, u93, u94, u95, u96, u97, u98, .agg #[.int .i64 (frU (S + z) 65536), .int .i64 (frD (S + z) 65536)], S + z, rfl, ?_⟩
                        · simp only [frmL, Act.put, List.setIfInBounds_toArray, List.set_cons_zero, List.set_cons_succ]
                        · exact ⟨H.st.store (S + z), by simpa [World.setCell] using H.sz, fun g l1 l2 => (H.st.other (S + z) g (Nat.ne_of_gt l1)).trans (H.hp g l1 l2), .inl hon, fun o => HN.h0 (o.of_set (by decide)), fun o => HN.h1 (o.of_set (by decide)), fun o => HN.h2 (o.of_set (by decide)), fun o => HN.h3 (o.of_set (by decide)), fun o => HN.h4 (o.of_set (by decide)), fun o => HN.h5 (o.of_set (by decide)), fun o => HN.h6 (o.of_set (by decide)), fun o => HN.h7 (o.of_set (by decide)), fun o => HN.h8 (o.of_set (by decide)), fun o => HN.h9 (o.of_set (by decide)), fun o => HN.h10 (o.of_set (by decide)), fun o => HN.h11 (o.of_set (by decide)), fun o => HN.h12 (o.of_set (by decide)), fun o => HN.h13 (o.of_set (by decide)), fun o => HN.h14 (o.of_set (by decide)), fun o => HN.h15 (o.of_set (by decide)), fun o => HN.h16 (o.of_set (by decide)), fun o => HN.h17 (o.of_set (by decide)), fun o => HN.h18 (o.of_set (by decide)), fun o => HN.h19 (o.of_set (by decide)), fun o => HN.h20 (o.of_set (by decide)), fun o => HN.h21 (o.of_set (by decide)), fun _ => ⟨(hw 0 (by simp)).old, rfl⟩⟩
                      exact StepsI.nil
                    · rintro L us W hL ⟨u78, u79, u80, u81, u82, u83, u84, u85, u86, u87, u88, u89, u90, u91, u92, u93, u94, u95, u96, u97, u98, u99, X, rfl, H⟩
                      obtain ⟨-, rfl⟩ := H.h22 (hL 22 (by decide))
                      simp only [frmL, Act.put, List.setIfInBounds_toArray, List.set_cons_zero, List.set_cons_succ]
                      have HK4 := Lib.hid (show KPl w h2 (S1 + sL (FB f t a) LB (y + 1)) lo hi ga _ ca LA gb _ cb LB W by
                        rw [HYS.out]
                        exact ⟨H.st, HK3.out.hlo, HK3.out.a.of_blocks (fun g l1 _ l3 => H.hp g (Nat.lt_of_lt_of_le HK3.out.hlo l1) l3), HK3.out.b.of_blocks (fun g l1 _ l3 => H.hp g (Nat.lt_of_lt_of_le HK3.out.hlo l1) l3)⟩)
                      clear H hL HK3 HIM HAP
                      go_wp2
                      go_roundw
                      case rel => exact ⟨y + 1, by omega, by go_num, HK4⟩
                      case measure => simp [intOf]; omega
                  · have HK4 := Lib.hid (show KPl w h2 (S1 + sL (FB f t (gr LA x)) LB (y + 1)) lo hi ga _ ca LA gb _ cb LB wr by rw [HYS.out, wI_zero hap, Int.add_zero]; exact HK3.out)
                    rw [pb_false hap] at HAP
                    clear hap HK3
                    generalize gr LA x = a at *
                    generalize gr LB y = b at *
                    have HIM := Lib.hid (fun m => HK4.out.quiet m)
                    clear HK4
                    go_wp2
                    go_quiet ((go_at_call 36; (with_reducible refine quiet_fit (HAP.out _ ?_) (fun m => ?_)); exact ⟨_, rfl⟩; exact drewN_to1 _ _ _))
                    go_wp2
                    go_roundw
                    case rel => exact ⟨y + 1, by omega, by go_num, Lib.hid (HIM.out _)⟩
                    case measure => simp [intOf]; omega
                · obtain rfl : y = LB.length := by omega
                  have HK5 := Lib.hid (show KPl w h2 (S0 + sL (FA f t LB) LA (x + 1)) lo hi ga Aa ca LA gb Ab cb LB wr by rw [HXS.out]; exact HK3.out)
                  clear HK3
                  go_wp2
                  go_roundw
                  case rel => exact ⟨x + 1, by omega, by go_num, HK5⟩
                  case measure => simp [intOf]; omega
            · obtain rfl : x = LA.length := by omega
              have HS6 := Lib.hid (show KPs w h2 (smT (tpI f 5 i j) (t + 1)) wr by rw [HSTEP.out]; exact HKL.out.st)
              clear HKL
              go_wp2
              go_roundw
              case rel => exact ⟨t + 1, by omega, by go_num, HS6⟩
              case measure => simp [intOf]; omega
    · obtain rfl : n = t := by omega
      have d0 := blk_cell HS.out.box (i := 0) rfl
      have d1 := blk_cell HS.out.box (i := 1) rfl
      have HPF := Lib.hid HS.out.pf
      clear HS
      generalize frU (smT (tpI f 5 i j) n) 65536 = U at *
      generalize frD (smT (tpI f 5 i j) n) 65536 = D at *
      have c0 := blk_cell HPF.out.box (i := 0) rfl
      have c1 := blk_cell HPF.out.box (i := 1) rfl
      have f0 := blk_frozen HPF.out.box 0
      have f1 := blk_frozen HPF.out.box 1
      go_wp2
      clear c0 c1 f0 f1
      have B1 := blk_set (blk_set HPF.out.box 0 (.int .i64 U)) 1 (.int .i64 D)
      have r0 := blk_cell B1 (i := 0) (v := .int .i64 U) rfl
      have r1 := blk_cell B1 (i := 1) (v := .int .i64 D) rfl
      have HBX := Lib.hid ((HPF.out.below.setCell (p := ⟨w.heap.size, 0, none⟩) (Nat.le_refl _) (.int .i64 U)).setCell (p := ⟨w.heap.size, 1, none⟩) (Nat.le_refl _) (.int .i64 D))
      clear B1 HPF
      generalize (wr.setCell ⟨w.heap.size, 0, none⟩ (.int .i64 U)).setCell ⟨w.heap.size, 1, none⟩ (.int .i64 D) = WE at *
      refine bodyPost_ret (v := .tuple #[.agg #[.int .i64 U, .int .i64 D], .bool true]) (by simp [results, Try.results9, go_sem, r0, r1]) rfl ?_
      exact ⟨by rw [HE.out], HBX.out⟩

theorem KinByPaths_spec (A : Option Addr) (n c : Nat) (f : List (List Int)) (i j : Int) (w : World) (hx : IntRows w A n c f) (_ : Fit i) (_ : Fit j) :
    Calls Try.prog 9 #[.slice A n c, .int .i64 i, .int .i64 j] w (Ret (.tuple #[kinF f i j, .bool (pb (KOk f i j))]) w) := by
  by_cases h : KOk f i j
  · rw [pb_true h]
    obtain ⟨i, rfl, _⟩ := nat_of h.i
    obtain ⟨j, rfl, _⟩ := nat_of h.j
    exact KinByPaths_yes A n c f i j w hx h
  · exact KinByPaths_no A n c f i j w hx h

end Go.Proofs.Ytjmfkodbilknlaa

/- The people, by the program: valid people and numbers, the people as structs, parents; fractions added and divided, and halved. -/
namespace Go.Proofs.Ytjmfkodbilknlaa
open Go.RowKit

set_option maxHeartbeats 1000000 in
theorem plusKI_any (u d v e : Int) (w : World) (hu : -20000000 ≤ u ∧ u ≤ 20000000) (hv : -20000000 ≤ v ∧ v ≤ 20000000) (hd : 1 ≤ d ∧ d ≤ 20000000) (he : 1 ≤ e ∧ e ≤ 20000000) :
    Calls Try.prog 46 #[.agg #[.int .i64 u, .int .i64 d], .agg #[.int .i64 v, .int .i64 e]] w (Ret (frV (u * e + v * d) (d * e)) w) := by
  obtain ⟨p1, p2⟩ := mulbd (x := u) (y := e) (A := 20000000) (B := 20000000) hu (by omega)
  obtain ⟨p3, p4⟩ := mulbd (x := v) (y := d) (A := 20000000) (B := 20000000) hv (by omega)
  obtain ⟨p5, p6⟩ := mulbd (x := d) (y := e) (A := 20000000) (B := 20000000) (by omega) (by omega)
  obtain ⟨p7, p8⟩ := mulbd (x := u) (y := v) (A := 20000000) (B := 20000000) hu hv
  have p9 : 1 ≤ d * e := by have h : 1 * 1 ≤ d * e := Int.mul_le_mul hd.1 he.1 (by omega) (by omega); omega
  have HC := Lib.hid (fun W => fracOf_any (u * e + v * d) (d * e) W (by unfold Mid; omega) (by unfold Mid; omega) p9)
  have b0 := blk_old (blk_old (blk_new w 25 #[.int .i64 u, .int .i64 d]) (.cells #[.int .i64 v, .int .i64 e] 25)) (.cells #[.int .i64 0, .int .i64 0] 25)
  have b1 := blk_old (blk_new (w.alloc (.cells #[.int .i64 u, .int .i64 d] 25)) 25 #[.int .i64 v, .int .i64 e]) (.cells #[.int .i64 0, .int .i64 0] 25)
  have b2 := blk_new ((w.alloc (.cells #[.int .i64 u, .int .i64 d] 25)).alloc (.cells #[.int .i64 v, .int .i64 e] 25)) 25 #[.int .i64 0, .int .i64 0]
  have HB := Lib.hid (below_up (below_up (below_alloc w (.cells #[.int .i64 u, .int .i64 d] 25)) (below_alloc _ (.cells #[.int .i64 v, .int .i64 e] 25))) (below_alloc _ (.cells #[.int .i64 0, .int .i64 0] 25)))
  have HFV : Hid (frV (u * e + v * d) (d * e) = .agg #[.int .i64 (frU (u * e + v * d) (d * e)), .int .i64 (frD (u * e + v * d) (d * e))]) := Lib.hid rfl
  rw [HFV.out] at HC
  simp only [World.size_alloc] at b1 b2
  have c0 := blk_cell b0 (i := 0) rfl
  have c1 := blk_cell b0 (i := 1) rfl
  have c2 := blk_cell b1 (i := 0) rfl
  have c3 := blk_cell b1 (i := 1) rfl
  have HB2 := Lib.hid b2
  clear b0 b1 b2
  go_enter Try.func46, Try.ntmps46
  go_wp2_with fail
  clear c0 c1 c2 c3
  generalize ((w.alloc (.cells #[.int .i64 u, .int .i64 d] 25)).alloc (.cells #[.int .i64 v, .int .i64 e] 25)).alloc (.cells #[.int .i64 0, .int .i64 0] 25) = w1 at *
  refine (HC.out _).mono ?_
  rintro e w2 ⟨rfl, hb⟩
  have b0 := blk_below HB2.out hb
  have HBW := Lib.hid (below_up HB.out hb)
  clear hb HC HB HB2
  generalize frU (u * e + v * d) (d * e) = U at *
  generalize frD (u * e + v * d) (d * e) = D at *
  have c0 := blk_cell b0 (i := 0) rfl
  have c1 := blk_cell b0 (i := 1) rfl
  have f0 := blk_frozen b0 0
  have f1 := blk_frozen b0 1
  go_wp2
  clear c0 c1 f0 f1
  have B1 := blk_set (blk_set b0 0 (.int .i64 U)) 1 (.int .i64 D)
  have r0 := blk_cell B1 (i := 0) (v := .int .i64 U) rfl
  have r1 := blk_cell B1 (i := 1) (v := .int .i64 D) rfl
  have hle : w.heap.size ≤ w.heap.size + 1 + 1 := by omega
  have HBX := Lib.hid ((HBW.out.setCell (p := ⟨w.heap.size + 1 + 1, 0, none⟩) hle (.int .i64 U)).setCell (p := ⟨w.heap.size + 1 + 1, 1, none⟩) hle (.int .i64 D))
  clear B1 b0 HBW
  generalize (w2.setCell ⟨w.heap.size + 1 + 1, 0, none⟩ (.int .i64 U)).setCell ⟨w.heap.size + 1 + 1, 1, none⟩ (.int .i64 D) = WE at *
  refine bodyPost_ret (v := .agg #[.int .i64 U, .int .i64 D]) (by simp [results, Try.results46, go_sem, r0, r1]) rfl ?_
  exact ⟨by rw [HFV.out], HBX.out⟩
set_option maxRecDepth 100000 in
set_option maxHeartbeats 1600000 in
theorem overKI_any (U1 D1 U2 D2 : Int) (w : World) (h1 : 0 ≤ U1 * D2 ∧ U1 * D2 ≤ 1000000000000000) (h2 : 1 ≤ D1 * U2 ∧ D1 * U2 ≤ 1000000000000000) :
    Calls Try.prog 73 #[.agg #[.int .i64 U1, .int .i64 D1], .agg #[.int .i64 U2, .int .i64 D2]] w (Ret (frV (U1 * D2) (D1 * U2)) w) := by
  have hb1 := below_alloc w (.cells #[.int .i64 U1, .int .i64 D1] 25)
  have hb2 := below_alloc (w.alloc (.cells #[.int .i64 U1, .int .i64 D1] 25)) (.cells #[.int .i64 U2, .int .i64 D2] 25)
  have HB := Lib.hid (below_up hb1 hb2)
  have b1 := blk_old (blk_new w 25 #[.int .i64 U1, .int .i64 D1]) (.cells #[.int .i64 U2, .int .i64 D2] 25)
  have b2 := blk_new (w.alloc (.cells #[.int .i64 U1, .int .i64 D1] 25)) 25 #[.int .i64 U2, .int .i64 D2]
  rw [World.size_alloc] at b2
  have HPF := Lib.hid (PF.start ((w.alloc (.cells #[.int .i64 U1, .int .i64 D1] 25)).alloc (.cells #[.int .i64 U2, .int .i64 D2] 25)))
  have c0 := blk_cell (blk_old b1 (.cells #[.int .i64 0, .int .i64 0] 25)) (i := 0) rfl
  have c1 := blk_cell (blk_old b1 (.cells #[.int .i64 0, .int .i64 0] 25)) (i := 1) rfl
  have c2 := blk_cell (blk_old b2 (.cells #[.int .i64 0, .int .i64 0] 25)) (i := 0) rfl
  have c3 := blk_cell (blk_old b2 (.cells #[.int .i64 0, .int .i64 0] 25)) (i := 1) rfl
  have HSZ : Hid (((w.alloc (.cells #[.int .i64 U1, .int .i64 D1] 25)).alloc (.cells #[.int .i64 U2, .int .i64 D2] 25)).heap.size = w.heap.size + 1 + 1) := Lib.hid (by simp)
  obtain ⟨h11, h12⟩ := h1
  obtain ⟨h21, h22⟩ := h2
  have w1 : IntKind.i64.wrap (U1 * D2) = U1 * D2 := wrap_in64 (by omega)
  have w2 : IntKind.i64.wrap (D1 * U2) = D1 * U2 := wrap_in64 (by omega)
  clear hb1 hb2 b1 b2
  go_enter Try.func73, Try.ntmps73
  have HC := Lib.hid (fun W => fracOf_any (U1 * D2) (D1 * U2) W (by unfold Mid; omega) (by unfold Mid; omega) h21)
  go_wp2_with fail
  clear c0 c1 c2 c3
  generalize (w.alloc (.cells #[.int .i64 U1, .int .i64 D1] 25)).alloc (.cells #[.int .i64 U2, .int .i64 D2] 25) = V at *
  refine (HC.out _).mono ?_
  rintro e w5 ⟨rfl, hb⟩
  have HPF1 := Lib.hid (HPF.out.up hb)
  clear hb HC HPF
  have HFV : Hid (frV (U1 * D2) (D1 * U2) = .agg #[.int .i64 (frU (U1 * D2) (D1 * U2)), .int .i64 (frD (U1 * D2) (D1 * U2))]) := Lib.hid rfl
  rw [HFV.out]
  generalize frU (U1 * D2) (D1 * U2) = U at *
  generalize frD (U1 * D2) (D1 * U2) = D at *
  have c0 := blk_cell HPF1.out.box (i := 0) rfl
  have c1 := blk_cell HPF1.out.box (i := 1) rfl
  have f0 := blk_frozen HPF1.out.box 0
  have f1 := blk_frozen HPF1.out.box 1
  rw [HSZ.out] at c0 c1 f0 f1
  go_wp2
  clear c0 c1 f0 f1
  have hbx := HPF1.out.box
  rw [HSZ.out] at hbx
  have B1 := blk_set (blk_set hbx 0 (.int .i64 U)) 1 (.int .i64 D)
  have r0 := blk_cell B1 (i := 0) (v := .int .i64 U) rfl
  have r1 := blk_cell B1 (i := 1) (v := .int .i64 D) rfl
  have HBX := Lib.hid (((HB.out.trans (HPF1.out.below.mono (by rw [HSZ.out]; omega))).setCell (p := ⟨w.heap.size + 1 + 1, 0, none⟩) (by show w.heap.size ≤ w.heap.size + 1 + 1; omega) (.int .i64 U)).setCell (p := ⟨w.heap.size + 1 + 1, 1, none⟩) (by show w.heap.size ≤ w.heap.size + 1 + 1; omega) (.int .i64 D))
  clear B1 HPF1 hbx
  generalize (w5.setCell ⟨w.heap.size + 1 + 1, 0, none⟩ (.int .i64 U)).setCell ⟨w.heap.size + 1 + 1, 1, none⟩ (.int .i64 D) = WE at *
  refine bodyPost_ret (v := .agg #[.int .i64 U, .int .i64 D]) (by simp [results, Try.results73, go_sem, r0, r1]) rfl ?_
  exact ⟨by rw [HFV.out], HBX.out⟩

theorem fracK_impl (u d x : Int) (w : World) (hu : -200000 ≤ u ∧ u ≤ 200000) (hd : 1 ≤ d ∧ d ≤ 200000) (h : u * 64 = x * d) : Calls Try.prog 44 #[.int .i64 u, .int .i64 d] w (Ret (fK x) w) := by
  have k := fracOf_any u d w (by unfold Mid; omega) (by unfold Mid; omega) hd.1
  rw [frV_K (by omega) h] at k
  exact k
theorem plusK_impl (x y : Int) (w : World) (hx : -200000 ≤ x ∧ x ≤ 200000) (hy : -200000 ≤ y ∧ y ≤ 200000) : Calls Try.prog 46 #[fK x, fK y] w (Ret (fK (x + y)) w) := by
  have h1 := fK_u hx
  have h2 := fK_u hy
  have h3 := fK_d x
  have h4 := fK_d y
  have h := plusKI_any (frU x 64) (frD x 64) (frU y 64) (frD y 64) w (by omega) (by omega) (by omega) (by omega)
  rw [fK_plus] at h
  exact h
/-- Divided by 2 some times. -/
theorem overK_impl (x y u d z e : Int) (w : World) (hx : 0 ≤ x ∧ x ≤ 200000) (hy : 1 ≤ y ∧ y ≤ 200000) (hu : 1 ≤ u ∧ u ≤ 200000) (hd : 1 ≤ d ∧ d ≤ 200000) (he : 1 ≤ e) (hz : x * d * e = z * (y * u)) : Calls Try.prog 73 #[frV x y, frV u d] w (Ret (frV z e) w) := by
  have h1 := frU_le (u := x) (d := y) (B := 200000) (by omega) hx.1 hx.2
  have h2 := frD_bd (u := x) (d := y) (B := 200000) (by omega) hy.2
  have h3 := frU_le (u := u) (d := d) (B := 200000) (by omega) (by omega) hu.2
  have h4 := frD_bd (u := u) (d := d) (B := 200000) (by omega) hd.2
  have h5 := fr_pos (u := u) (d := d) (by omega) (by omega)
  have m1 : 0 * 0 ≤ frU x y * frD u d := Int.mul_le_mul h1.1 (by omega) (by omega) (by omega)
  have m2 : frU x y * frD u d ≤ 200000 * 200000 := Int.mul_le_mul h1.2 h4.2 (by omega) (by omega)
  have m3 : 1 * 1 ≤ frD x y * frU u d := Int.mul_le_mul h2.1 (by omega) (by omega) (by omega)
  have m4 : frD x y * frU u d ≤ 200000 * 200000 := Int.mul_le_mul h2.2 h3.2 (by omega) (by omega)
  have h := overKI_any (frU x y) (frD x y) (frU u d) (frD u d) w (by omega) (by omega)
  have r1 := fr_ratio x y
  have r2 := fr_ratio u d
  have hyu : 0 < y * u := Int.mul_pos (by omega) (by omega)
  obtain ⟨e1, e2⟩ := fr_eq (u := frU x y * frD u d) (d := frD x y * frU u d) (v := z) (e := e) (by omega) (by omega) (by
    generalize frU x y = X at *
    generalize frD x y = Y at *
    generalize frU u d = P at *
    generalize frD u d = Q at *
    have key : X * Q * e * (y * u) = z * (Y * P) * (y * u) := by
      have t1 : X * Q * e * (y * u) = (X * y) * (u * Q) * e := by grind
      have t2 : z * (Y * P) * (y * u) = (z * (y * u)) * (Y * P) := by grind
      rw [t1, t2, r1, ← r2, ← hz]; grind
    exact Int.eq_of_mul_eq_mul_right (by omega) key)
  have hv : frV (frU x y * frD u d) (frD x y * frU u d) = frV z e := by unfold frV; rw [e1, e2]
  rw [hv] at h
  exact h

/-- Valid people, and numbers of them. -/
def AF (f : List (List Int)) (xs : List Int) : Prop := VPe f ∧ ∀ k, k < xs.length → Blw f.length (gi xs k)
set_option maxHeartbeats 1600000 in
theorem areFolk_any (A : Option Addr) (n c : Nat) (f : List (List Int)) (X : Option Addr) (m d : Nat) (xs : List Int) (w : World) (hx : IntRows w A n c f) (hy : Ints w X m d xs) :
    Calls Try.prog 42 #[.slice A n c, .slice X m d] w fun e w' => e = .returned (.bool (pb (AF f xs))) ∧ Quiet w w' := by
  have hm := hx.max
  have hm2 := hy.max
  have HLN := Lib.hid hx.len
  have HLM := Lib.hid hy.len
  have HY := Lib.hid hy
  have HC := Lib.hid (ValidFolk_impl A n c f w hx)
  clear hx hy
  by_cases hv : VPe f
  · rw [pb_true hv] at HC
    have HV := Lib.hid hv
    clear hv
    go_enter Try.func42, Try.ntmps42
    go_wp2_with fail
    refine HC.out.mono ?_
    rintro e w1 ⟨rfl, q0, rfl⟩
    clear HC
    go_wp2
    go_loopw [12] (fun i wr => ∃ k : Nat, k ≤ m ∧ i = .int .i64 k ∧ Hid (∀ i, i < k → Blw f.length (gi xs i)) ∧ Quiet w wr) (fun i _ => m - (intOf i).toNat)
    case atStart => exact ⟨0, Nat.zero_le _, rfl, Lib.hid (fun _ h => absurd h (by omega)), by first | exact ⟨_, rfl⟩ | exact Quiet.two _ _ _⟩
    case round =>
      obtain ⟨k, hk, rfl, HALL, q, rfl⟩ := hrel
      by_cases hlt : k < m
      · obtain ⟨b2, o2, rfl, hc2⟩ := HY.out.at_ (by omega)
        have c2 := hc2 k hlt
        clear hc2
        have HB := Lib.hid (fun W => isBelow_any n (gi xs k) W)
        by_cases hb : Blw (n : Int) (gi xs k)
        · rw [pb_true hb] at HB
          have HK := Lib.hid (show Blw f.length (gi xs k) by rw [HLN.out]; exact hb)
          clear hb
          go_wp2_with (go_at_call 68; refine (HB.out _).mono ?_; rintro e w' ⟨rfl, rfl⟩)
          go_roundw
          case rel => exact ⟨k + 1, by omega, by go_num, Lib.hid (fun j hj => by
            by_cases hjk : j < k
            · exact HALL.out j hjk
            · obtain rfl : j = k := by omega
              exact HK.out), by first | exact ⟨_, rfl⟩ | exact Quiet.two _ _ _⟩
          case measure => simp [intOf]; omega
        · rw [pb_false hb] at HB
          have HN := Lib.hid (pb_false (p := AF f xs) (fun h => hb (by have := h.2 k (by rw [HLM.out]; exact hlt); rw [HLN.out] at this; exact this)))
          clear hb
          go_wp2_with (go_at_call 68; refine (HB.out _).mono ?_; rintro e w' ⟨rfl, rfl⟩)
          go_ret
          exact ⟨ret_bool HN.out.symm, by first | exact ⟨_, rfl⟩ | exact Quiet.two _ _ _⟩
      · obtain rfl : k = m := by omega
        have HP := Lib.hid (pb_true (p := AF f xs) ⟨HV.out, fun i hi => HALL.out i (by rw [HLM.out] at hi; exact hi)⟩)
        go_wp2
        go_ret
        exact ⟨ret_bool HP.out.symm, by first | exact ⟨_, rfl⟩ | exact Quiet.two _ _ _⟩
  · rw [pb_false hv] at HC
    have HN := Lib.hid (pb_false (p := AF f xs) (fun h => hv h.1))
    clear hv
    go_enter Try.func42, Try.ntmps42
    go_wp2_with fail
    refine HC.out.mono ?_
    rintro e w1 ⟨rfl, q0, rfl⟩
    clear HC
    go_wp2
    go_ret
    exact ⟨ret_bool HN.out.symm, by first | exact ⟨_, rfl⟩ | exact Quiet.two _ _ _⟩

/-- A person, as the program has it. -/
def peV (f : List (List Int)) (k : Nat) : Value := .agg #[.int .i64 k, .int .i64 (g2 f k 0), .int .i64 (g2 f k 1)]
/-- The people in block g. -/
structure PE (w : World) (g n : Nat) (f : List (List Int)) : Prop where
  c0 : ∀ k, k < n → w.cell? ⟨g, k * 3, none⟩ = some (.int .i64 k)
  c1 : ∀ k, k < n → w.cell? ⟨g, k * 3 + 1, none⟩ = some (.int .i64 (g2 f k 0))
  c2 : ∀ k, k < n → w.cell? ⟨g, k * 3 + 2, none⟩ = some (.int .i64 (g2 f k 1))
theorem PE.keep {w w' g n f} (h : PE w g n f) (k : Keep w w') : PE w' g n f := ⟨fun i hi => k _ _ (h.c0 i hi), fun i hi => k _ _ (h.c1 i hi), fun i hi => k _ _ (h.c2 i hi)⟩
/-- Numbers under way in block g. -/
structure PUk (wb : World) (g m : Nat) (L : List Int) (W : World) : Prop where
  len : L.length = m
  at_ : ∀ k, k < m → W.cell? ⟨g, k, none⟩ = some (.int .i64 (gi L k)) ∧ W.frozen? ⟨g, k, none⟩ = false
  lo : wb.heap.size ≤ g
  lt : g < W.heap.size
  up : Below wb.heap.size wb W
theorem PUk.next {wb g m L W W'} (h : PUk wb g m L W) (k : Below W.heap.size W W') : PUk wb g m L W' :=
  ⟨h.len, fun i hi => by have e := k.block g h.lt; rw [World.cell?_of_block (w := W) e, World.frozen?_of_block (w := W) e]; exact h.at_ i hi, h.lo, Nat.lt_of_lt_of_le h.lt k.size, below_up h.up k⟩
theorem PUk.set {wb g m L W} (h : PUk wb g m L W) {i : Nat} (hi : i < m) (v : Int) : PUk wb g m (L.set i v) (W.setCell ⟨g, i, none⟩ (.int .i64 v)) := by
  refine ⟨by rw [List.length_set]; exact h.len, fun k hk => ⟨?_, by rw [World.frozen?_setCell]; exact (h.at_ k hk).2⟩, h.lo, by simpa [World.setCell] using h.lt, h.up.setCell (p := ⟨g, i, none⟩) h.lo _⟩
  by_cases e : k = i
  · subst e
    rw [gi_set_eq (by rw [h.len]; exact hk), World.cell?_setCell_same W _ _ (h.at_ k hk).1]
  · rw [gi_set_ne (by rw [h.len]; exact hk) e, World.cell?_setCell_other W _ _ _ (fun e' => by injection e' with _ e' _; omega)]
    exact (h.at_ k hk).1
def peF (f : List (List Int)) (k : Nat) : Int := if k % 3 = 0 then ((k / 3 : Nat) : Int) else g2 f (k / 3) (k % 3 - 1)
theorem peF0 (f : List (List Int)) (k : Nat) : peF f (k * 3) = k := by unfold peF; rw [if_pos (by omega)]; congr 1; omega
theorem peF1 (f : List (List Int)) (k : Nat) : peF f (k * 3 + 1) = g2 f k 0 := by unfold peF; rw [if_neg (by omega), show (k * 3 + 1) / 3 = k by omega, show (k * 3 + 1) % 3 - 1 = 0 by omega]
theorem peF2 (f : List (List Int)) (k : Nat) : peF f (k * 3 + 2) = g2 f k 1 := by unfold peF; rw [if_neg (by omega), show (k * 3 + 2) / 3 = k by omega, show (k * 3 + 2) % 3 - 1 = 1 by omega]
theorem made_zero3 (n k : Nat) (hk : k < n * 3) : (madeCells #[.int .i64 0, .int .i64 0, .int .i64 0] (n * 3))[k]? = some (.int .i64 0) := by
  have h2 : k % 3 = 0 ∨ k % 3 = 1 ∨ k % 3 = 2 := by omega
  rcases h2 with h2 | h2 | h2 <;> simp [madeCells, hk, h2]
theorem PUk.start (w : World) (n : Nat) (h : Nat → Int) : PUk w w.heap.size (n * 3) (mixT h (fun _ => 0) (n * 3) 0) (w.alloc (.cells (madeCells #[.int .i64 0, .int .i64 0, .int .i64 0] (n * 3)) 65)) := by
  have hb := blk_new w 65 (madeCells #[.int .i64 0, .int .i64 0, .int .i64 0] (n * 3))
  refine ⟨mixT_len _ _ _ _, fun k hk => ⟨?_, blk_frozen hb _⟩, Nat.le_refl _, by simp, below_alloc _ _⟩
  rw [gi_mixT hk, if_neg (by omega)]
  exact blk_cell hb (made_zero3 n k hk)
theorem PUk.step {w g n f k W} (h : PUk w g (n * 3) (mixT (peF f) (fun _ => 0) (n * 3) (k * 3)) W) (hk : k < n) :
    PUk w g (n * 3) (mixT (peF f) (fun _ => 0) (n * 3) ((k + 1) * 3)) (((W.setCell ⟨g, k * 3, none⟩ (.int .i64 k)).setCell ⟨g, k * 3 + 1, none⟩ (.int .i64 (g2 f k 0))).setCell ⟨g, k * 3 + 2, none⟩ (.int .i64 (g2 f k 1))) := by
  have h1 := ((h.set (i := k * 3) (by omega) (peF f (k * 3))).set (i := k * 3 + 1) (by omega) (peF f (k * 3 + 1))).set (i := k * 3 + 1 + 1) (by omega) (peF f (k * 3 + 1 + 1))
  rw [mixT_set, mixT_set, mixT_set, show k * 3 + 1 + 1 + 1 = (k + 1) * 3 by omega, peF0, peF1, show k * 3 + 1 + 1 = k * 3 + 2 by omega, peF2] at h1
  exact h1
theorem PUk.done {w g n f W} (h : PUk w g (n * 3) (mixT (peF f) (fun _ => 0) (n * 3) (n * 3)) W) : PE W g n f := by
  have c := fun k (hk : k < n * 3) => (h.at_ k hk).1
  refine ⟨fun k hk => ?_, fun k hk => ?_, fun k hk => ?_⟩
  · rw [c _ (by omega), gi_mixT (by omega), if_pos (by omega), peF0]
  · rw [c _ (by omega), gi_mixT (by omega), if_pos (by omega), peF1]
  · rw [c _ (by omega), gi_mixT (by omega), if_pos (by omega), peF2]
theorem Try.infoPe : (Try.prog.info? 65).map (fun i => (i.zero, i.size, i.bytes)) = some (some (.agg #[.int .i64 0, .int .i64 0, .int .i64 0]), 3, 24) := by kernel_rfl
set_option maxRecDepth 100000 in
set_option maxHeartbeats 2000000 in
theorem peopleOf_any (A : Option Addr) (n c : Nat) (f : List (List Int)) (v : VPe f) (w : World) (hx : IntRows w A n c f) :
    Calls Try.prog 43 #[.slice A n c] w fun e w' => ∃ g, e = .returned (.slice (some ⟨g, 0, none⟩) n n) ∧ PE w' g n f ∧ Below w.heap.size w w' := by
  have hl := hx.len
  have hn1 : 1 ≤ n := by rw [← hl]; exact v.n1
  have hn6 : n ≤ 6 := by rw [← hl]; exact v.n6
  have HX := Lib.hid hx
  have HV := Lib.hid v
  have HLN := Lib.hid hl
  have HP0 := Lib.hid (PUk.start w n (peF f))
  rw [show (mixT (peF f) (fun _ => 0) (n * 3) 0) = mixT (peF f) (fun _ => 0) (n * 3) (0 * 3) by rfl] at HP0
  obtain ⟨i0, hi0, hz0, hz1, hz2⟩ := info_parts Try.infoPe
  have hmk := run_make (P := Try.prog) w 59 65 i0 (.agg #[.int .i64 0, .int .i64 0, .int .i64 0]) Try.underlying59 hi0 hz0 .i64 .i64 (n : Int) (n : Int) (by omega) (Int.le_refl _) (by rw [hz2]; omega) (by omega)
  rw [Int.toNat_natCast, hz1] at hmk
  clear hx v hl
  go_enter Try.func43, Try.ntmps43
  go_wp2
  clear hmk
  generalize w.alloc (.cells (madeCells #[.int .i64 0, .int .i64 0, .int .i64 0] (n * 3)) 65) = W0 at *
  go_loopw [11] (fun i_ wr => ∃ k : Nat, k ≤ n ∧ i_ = .int .i64 k ∧ Hid (PUk w w.heap.size (n * 3) (mixT (peF f) (fun _ => 0) (n * 3) (k * 3)) wr)) (fun i_ _ => n - (intOf i_).toNat)
  case atStart => exact ⟨0, Nat.zero_le _, rfl, HP0⟩
  case round =>
    clear HP0
    obtain ⟨k, hk, rfl, HG⟩ := hrel
    by_cases hlt : k < n
    · have hxk := HX.out.keep (Keep.below HG.out.up)
      obtain ⟨b, o, rfl, hc⟩ := hxk.at_ (by omega)
      obtain ⟨R, cc, c1, hR⟩ := hc k hlt
      have hlen := HV.out.two (i := k) (by rw [HLN.out]; exact hlt)
      rw [hlen] at c1 hR
      obtain ⟨b2, o2, rfl, hc2⟩ := hR.at_ (by omega)
      have c20 := hc2 0 (by omega)
      have c21 := hc2 1 (by omega)
      simp only [Nat.add_zero] at c20
      replace c20 : wr.cell? ⟨b2, o2, none⟩ = some (.int .i64 (g2 f k 0)) := c20
      replace c21 : wr.cell? ⟨b2, o2 + 1, none⟩ = some (.int .i64 (g2 f k 1)) := c21
      have q1 := HG.out.at_ (k * 3) (by omega)
      have q2 := HG.out.at_ (k * 3 + 1) (by omega)
      have q3 := HG.out.at_ (k * 3 + 2) (by omega)
      obtain ⟨q1, z1⟩ := q1
      obtain ⟨q2, z2⟩ := q2
      obtain ⟨q3, z3⟩ := q3
      have HGN := Lib.hid (HG.out.next (Quiet.below (B := wr.heap.size) ⟨1, rfl⟩))
      have HST := Lib.hid (HGN.out.step hlt)
      clear hc hc2 hR hlen hxk HG HGN
      generalize g2 f k 0 = x at *
      generalize g2 f k 1 = y at *
      go_wp2
      go_still_tail 11, (by kernel_rfl)
      go_wp2
      go_roundw
      case rel => exact ⟨k + 1, by omega, by go_num, Lib.hid (by exact HST.out)⟩
      case measure => simp [intOf]; omega
    · obtain rfl : k = n := by omega
      have HD := Lib.hid (And.intro HG.out.done HG.out.up)
      go_wp2
      go_ret
      exact ⟨_, rfl, HD.out.1, HD.out.2⟩

end Go.Proofs.Ytjmfkodbilknlaa

/- Rows of people: is a person among them. -/
namespace Go.Proofs.Ytjmfkodbilknlaa
open Go.RowKit

/-- A row of people, by their numbers. -/
structure Pers (f : List (List Int)) (W : World) (A : Option Addr) (n c : Nat) (r : List Nat) : Prop where
  len : r.length = n
  cap : n ≤ c
  max : n ≤ 1000
  at_ : 0 < n → ∃ b o, A = some ⟨b, o, none⟩ ∧ ∀ k, k < n → W.cell? ⟨b, o + k * 3, none⟩ = some (.int .i64 (r.getD k 0 : Nat)) ∧ W.cell? ⟨b, o + k * 3 + 1, none⟩ = some (.int .i64 (g2 f (r.getD k 0) 0)) ∧ W.cell? ⟨b, o + k * 3 + 2, none⟩ = some (.int .i64 (g2 f (r.getD k 0) 1))
theorem Pers.keep {f W W' A n c r} (h : Pers f W A n c r) (k : Keep W W') : Pers f W' A n c r :=
  ⟨h.len, h.cap, h.max, fun hn => let ⟨b, o, e, hc⟩ := h.at_ hn; ⟨b, o, e, fun j hj => ⟨k _ _ (hc j hj).1, k _ _ (hc j hj).2.1, k _ _ (hc j hj).2.2⟩⟩⟩
theorem getD_memP {l : List Nat} {j : Nat} (h : j < l.length) : l.getD j 0 ∈ l := by simp [List.getD, List.getElem?_eq_getElem h]
set_option maxRecDepth 100000 in
set_option maxHeartbeats 1600000 in
theorem indexQ_any (f : List (List Int)) (A : Option Addr) (n c : Nat) (l : List Nat) (v : Nat) (w : World) (hp : Pers f w A n c l) :
    Calls Try.prog 92 #[.slice A n c, peV f v] w fun e w' => ∃ r : Int, e = .returned (.int .i64 r) ∧ (0 ≤ r ↔ v ∈ l) ∧ -1 ≤ r ∧ r ≤ 1000 ∧ Below w.heap.size w w' := by
  have hm := hp.max
  have HN := Lib.hid hp.len
  have hb := below_alloc w (.cells #[.int .i64 v, .int .i64 (g2 f v 0), .int .i64 (g2 f v 1)] 65)
  have HP := Lib.hid (hp.keep (Keep.below hb))
  have HB := Lib.hid hb
  have HX := Lib.hid (blk_new w 65 #[.int .i64 v, .int .i64 (g2 f v 0), .int .i64 (g2 f v 1)])
  clear hp hb
  unfold peV
  go_enter Try.func92, Try.ntmps92
  go_wp2
  generalize w.alloc (.cells #[.int .i64 v, .int .i64 (g2 f v 0), .int .i64 (g2 f v 1)] 65) = W0 at *
  generalize hg0 : w.heap.size = g0 at *
  have HG := Lib.hid hg0
  clear hg0
  go_loopw [8] (fun i wr => ∃ j : Nat, j ≤ n ∧ i = .int .i64 j ∧ Hid (∀ i, i < j → l.getD i 0 ≠ v) ∧ Quiet W0 wr) (fun i _ => n - (intOf i).toNat)
  case atStart => exact ⟨0, Nat.zero_le _, rfl, Lib.hid (fun _ h => absurd h (by omega)), Quiet.refl _⟩
  case round =>
    obtain ⟨j, hj, rfl, HJ, q, rfl⟩ := hrel
    by_cases hlt : j < n
    · obtain ⟨b, o, rfl, hc⟩ := HP.out.at_ (by omega)
      obtain ⟨c1, c2, c3⟩ := hc j hlt
      have d1 := blk_cell HX.out (i := 0) rfl
      have d2 := blk_cell HX.out (i := 1) rfl
      have d3 := blk_cell HX.out (i := 2) rfl
      have HM := Lib.hid (getD_memP (l := l) (j := j) (by rw [HN.out]; omega))
      clear hc
      generalize hu : l.getD j 0 = u at *
      have HU := Lib.hid hu
      clear hu
      by_cases he : u = v
      · have HV : Hid (v ∈ l) := Lib.hid (he ▸ HM.out)
        have HBQ : Hid (∀ m, Below w.heap.size w (W0.drewN m)) := Lib.hid (by rw [HG.out]; exact fun m => below_drewN HB.out m)
        subst he
        go_wp2
        go_quiet (fail)
        go_wp2
        go_ret
        exact ⟨_, rfl, ⟨fun _ => HV.out, fun _ => by omega⟩, by omega, by omega, by first | exact HBQ.out _ | (rw [World.drewN_drewN]; exact HBQ.out _)⟩
      · have HE := Lib.hid he
        have hne1 : ((v : Int) == (u : Int)) = false := by rw [beq_eq_false_iff_ne]; omega
        have hne2 : ((u : Int) == (v : Int)) = false := by rw [beq_eq_false_iff_ne]; omega
        go_wp2
        go_quiet (fail)
        go_wp2
        go_roundw
        case rel => exact ⟨j + 1, by omega, by go_num, Lib.hid (fun i hi => by
          by_cases hij : i < j
          · exact HJ.out i hij
          · obtain rfl : i = j := by omega
            rw [HU.out]; exact HE.out), by first | exact ⟨_, rfl⟩ | exact Quiet.two _ _ _⟩
        case measure => simp [intOf]; omega
    · obtain rfl : j = n := by omega
      have HBQ : Hid (∀ m, Below w.heap.size w (W0.drewN m)) := Lib.hid (by rw [HG.out]; exact fun m => below_drewN HB.out m)
      go_wp2
      go_ret
      exact ⟨-1, rfl, ⟨fun h => absurd h (by omega), fun h => by
        obtain ⟨i, hi, e⟩ := List.mem_iff_getElem.1 h
        exact absurd (show l.getD i 0 = v by simp [List.getD, List.getElem?_eq_getElem hi, e]) (HJ.out i (by rw [← HN.out]; exact hi))⟩, by omega, by omega, HBQ.out _⟩
theorem containsQ_any (f : List (List Int)) (A : Option Addr) (n c : Nat) (l : List Nat) (v : Nat) (w : World) (hp : Pers f w A n c l) :
    Calls Try.prog 88 #[.slice A n c, peV f v] w fun e w' => e = .returned (.bool (decide (v ∈ l))) ∧ Below w.heap.size w w' := by
  have hb := below_alloc w (.cells #[.int .i64 v, .int .i64 (g2 f v 0), .int .i64 (g2 f v 1)] 65)
  have HB := Lib.hid hb
  have HX := blk_new w 65 #[.int .i64 v, .int .i64 (g2 f v 0), .int .i64 (g2 f v 1)]
  have d1 := blk_cell HX (i := 0) rfl
  have d2 := blk_cell HX (i := 1) rfl
  have d3 := blk_cell HX (i := 2) rfl
  have HC := Lib.hid (fun W (k : Below w.heap.size w W) => indexQ_any f A n c l v W (hp.keep (Keep.below k)))
  clear hp hb HX
  unfold peV at *
  go_enter Try.func88, Try.ntmps88
  go_wp2_with fail
  refine (HC.out _ HB.out).mono ?_
  rintro e w1 ⟨r, rfl, hr, h1, h2, hq⟩
  have HR : Hid (decide (v ∈ l) = decide (0 ≤ r)) := Lib.hid (by simp [hr])
  have HBQ := Lib.hid (below_up HB.out hq)
  clear hr hq d1 d2 d3
  go_wp2
  go_ret
  exact ⟨ret_bool (by rw [HR.out]), HBQ.out⟩
end Go.Proofs.Ytjmfkodbilknlaa

