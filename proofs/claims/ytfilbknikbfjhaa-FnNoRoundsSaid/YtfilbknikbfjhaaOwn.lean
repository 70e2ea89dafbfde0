/- Slices that a call makes by append: of ints, and of slices of ints. -/
import Derived.Test.YtfilbknikbfjhaaA2
namespace Go.Proofs.Ytfilbknikbfjhaa
open Go.RowKit

def iv (x : Int) : Value := .int .i64 x
/-- A slice of ints, made by append, in a block from lo up to less than hi. -/
structure BldI (lo hi : Nat) (w : World) (v : Value) (xs : List Int) : Prop where
  own : w.ownsRow lo 3 1 v xs.length (xs.map iv)
  hi_ : ∀ k, v.ownBlock = some k → k < hi
theorem blk_kept {w w' : World} {base : Nat} {e : TypeId} {size n : Nat} {v : Value} {xs : List Value} (h : w.ownsRow base e size v n xs) (k : ∀ g, v.ownBlock = some g → w'.heap[g]? = w.heap[g]?) : w'.ownsRow base e size v n xs := by
  obtain ⟨h1, h2⟩ := h
  refine ⟨h1, ?_⟩
  rcases h2 with h2 | ⟨g, cap, cur, rfl, hb, hg, r⟩
  · exact .inl h2
  · exact .inr ⟨g, cap, cur, rfl, hb, (k g rfl).trans hg, r⟩
theorem BldI.nil (lo hi : Nat) (w : World) : BldI lo hi w (.slice none 0 0) [] := ⟨World.ownsRow_nil _ _ _ _, fun k h => by simp [Value.ownBlock] at h⟩
theorem BldI.below {lo hi w w' v xs} (h : BldI lo hi w v xs) (k : Below w.heap.size w w') : BldI lo hi w' v xs :=
  ⟨blk_kept h.own fun g hg => k.block g (h.own.lt g hg).2, h.hi_⟩
theorem BldI.mono {lo hi hi' w v xs} (h : BldI lo hi w v xs) (hh : hi ≤ hi') : BldI lo hi' w v xs := ⟨h.own, fun k hk => Nat.lt_of_lt_of_le (h.hi_ k hk) hh⟩
theorem BldI.touch {lo hi lo' hi' w w' v xs} (h : BldI lo hi w v xs) (k : Touch lo' hi' w w') (hd : hi ≤ lo' ∨ hi' ≤ lo) : BldI lo hi w' v xs :=
  ⟨blk_kept h.own fun g hg => k.block g (by have := h.hi_ g hg; have := (h.own.lt g hg).1; omega), h.hi_⟩
theorem getElem_iv {xs : List Int} {k : Nat} (h : k < xs.length) : (xs.map iv)[k]? = some (.int .i64 (gi xs k)) := by
  rw [List.getElem?_map, List.getElem?_eq_getElem h, gi_get h]; rfl
theorem BldI.owns {lo hi w v xs} (h : BldI lo hi w v xs) (hm : xs.length ≤ 17592186044416) (hwf : ∀ x ∈ xs, -9223372036854775808 ≤ x ∧ x ≤ 9223372036854775807) :
    ∃ A n c g, v = .slice A n c ∧ n = xs.length ∧ OwnI lo hi w g A n c xs ∧ ∀ k, v.ownBlock = some k → k = g := by
  have hh := h.hi_
  rcases h.own.2 with ⟨rfl, h0⟩ | ⟨g, cap, cur, rfl, hb, hg, hnc, _, hcs, htake⟩
  · have hx : xs = [] := List.eq_nil_of_length_eq_zero h0
    subst hx
    exact ⟨none, 0, 0, 0, rfl, rfl, OwnI.nil _ _ _ _, fun k hk => by simp [Value.ownBlock] at hk⟩
  · refine ⟨some ⟨g, 0, none⟩, xs.length, cap, g, rfl, rfl, ⟨⟨rfl, hnc, hm, hwf, fun _ => ⟨g, 0, rfl, fun k hk => ?_⟩⟩, fun _ => ⟨0, rfl, hb, hh g rfl, fun k _ => ?_⟩⟩, fun k hk => by simpa [Value.ownBlock] using hk.symm⟩
    · rw [Nat.zero_add, ← getElem_iv hk, ← htake, List.getElem?_take, if_pos (by omega)]
      simp [World.cell?, hg]
    · rw [Nat.zero_add]; simp [World.frozen?, hg]

theorem BldI.make {lo : Nat} {w : World} (hlo : lo ≤ w.heap.size) : BldI lo (w.heap.size + 1) (w.alloc (.cells #[] 3)) (.slice (some ⟨w.heap.size, 0, none⟩) 0 0) [] :=
  ⟨World.ownsRow_made (e := 3) (size := 1) w #[] 0 hlo (Nat.zero_le _) rfl, fun k hk => by simp [Value.ownBlock] at hk; omega⟩

/-- Slices of ints under construction: the outer slice made by append, its cells vs, each row in a block of its own. -/
structure Bld (lo hi : Nat) (w : World) (v : Value) (vs : List Value) (xss : List (List Int)) : Prop where
  own : w.ownsRow lo 27 1 v xss.length vs
  hi_ : ∀ k, v.ownBlock = some k → k < hi
  ex : ∃ (G : Nat → Nat) (R : Nat → Option Addr) (C : Nat → Nat), (∀ k, k < xss.length → vs[k]? = some (.slice (R k) (gr xss k).length (C k)) ∧ OwnI lo hi w (G k) (R k) (gr xss k).length (C k) (gr xss k) ∧ (0 < (gr xss k).length → v.ownBlock ≠ some (G k))) ∧
    ∀ j k, j < k → k < xss.length → 0 < (gr xss j).length → 0 < (gr xss k).length → G j ≠ G k
theorem Bld.nil (lo hi : Nat) (w : World) : Bld lo hi w (.slice none 0 0) [] [] :=
  ⟨World.ownsRow_nil _ _ _ _, fun k h => by simp [Value.ownBlock] at h, fun _ => 0, fun _ => none, fun _ => 0, fun k h => absurd h (by simp), fun _ k _ h => absurd h (by simp)⟩
theorem Bld.make {lo : Nat} {w : World} (hlo : lo ≤ w.heap.size) : Bld lo (w.heap.size + 1) (w.alloc (.cells #[] 27)) (.slice (some ⟨w.heap.size, 0, none⟩) 0 0) [] [] :=
  ⟨World.ownsRow_made (e := 27) (size := 1) w #[] 0 hlo (Nat.zero_le _) rfl, fun k hk => by simp [Value.ownBlock] at hk; omega, fun _ => 0, fun _ => none, fun _ => 0, fun k h => absurd h (by simp), fun _ k _ h => absurd h (by simp)⟩
theorem Bld.mono {lo hi hi' w v vs xss} (h : Bld lo hi w v vs xss) (hh : hi ≤ hi') : Bld lo hi' w v vs xss := by
  obtain ⟨h1, h4, G, R, C, h2, h3⟩ := h
  exact ⟨h1, fun k hk => Nat.lt_of_lt_of_le (h4 k hk) hh, G, R, C, fun k hk => ⟨(h2 k hk).1, (h2 k hk).2.1.mono (Nat.le_refl _) hh, (h2 k hk).2.2⟩, h3⟩
theorem Bld.of_blocks {lo hi w w' v vs xss} (h : Bld lo hi w v vs xss) (e : ∀ g, lo ≤ g → g < hi → g < w.heap.size → w'.heap[g]? = w.heap[g]?) : Bld lo hi w' v vs xss := by
  obtain ⟨h1, h4, G, R, C, h2, h3⟩ := h
  refine ⟨blk_kept h1 fun g hg => e g (h1.lt g hg).1 (h4 g hg) (h1.lt g hg).2, h4, G, R, C, fun k hk => ⟨(h2 k hk).1, (h2 k hk).2.1.of_block fun hp => ?_, (h2 k hk).2.2⟩, h3⟩
  obtain ⟨_, _, a, b, _⟩ := (h2 k hk).2.1.own hp
  exact e _ a b ((h2 k hk).2.1.lt hp)
theorem Bld.below {lo hi w w' v vs xss} (h : Bld lo hi w v vs xss) (k : Below w.heap.size w w') : Bld lo hi w' v vs xss := h.of_blocks fun g _ _ hg => k.block g hg

theorem gr_snoc_lt {xss : List (List Int)} {r : List Int} {k : Nat} (h : k < xss.length) : gr (xss ++ [r]) k = gr xss k := by
  rw [gr_get h, gr_get (by simp; omega), List.getElem_append_left h]
theorem gr_snoc_eq {xss : List (List Int)} {r : List Int} : gr (xss ++ [r]) xss.length = r := by
  rw [gr_get (by simp), List.getElem_append_right (Nat.le_refl _)]; simp

/-- One row more. -/
theorem Bld.push {lo hi : Nat} {w w1 w' : World} {v v' : Value} {vs : List Value} {xss : List (List Int)} {r : List Int} {g : Nat} {A : Option Addr} {c : Nat}
    (h : Bld lo hi w v vs xss) (hk : Below w.heap.size w w1) (hr : OwnI hi w1.heap.size w1 g A r.length c r)
    (hown : w'.ownsRow lo 27 1 v' (xss.length + 1) (vs ++ [.slice A r.length c]))
    (hgrow : w1.grownBy w' v.ownBlock) (hat : v'.ownBlock = v.ownBlock ∨ v'.ownBlock = some w1.heap.size) (hlo : lo ≤ hi) (hhi : hi ≤ w.heap.size) :
    Bld lo w'.heap.size w' v' (vs ++ [.slice A r.length c]) (xss ++ [r]) := by
  obtain ⟨h1, h4, G, R, C, h2, h3⟩ := h
  have hvl : vs.length = xss.length := by have := h1.1; omega
  have hsz := hk.size
  have hsz' := hgrow.size
  have keepI : ∀ {lo hi : Nat} {b : Nat} {B : Option Addr} {n c : Nat} {xs : List Int}, OwnI lo hi w1 b B n c xs → (0 < n → v.ownBlock ≠ some b) → OwnI lo hi w' b B n c xs :=
    fun ho hne => ho.of_block fun hp => hgrow.block _ (ho.lt hp) (fun e => hne hp e.symm)
  have hfar : 0 < r.length → v.ownBlock ≠ some g := fun hp e => by
    have a := h4 g e
    obtain ⟨_, _, b, _⟩ := hr.own hp
    omega
  refine ⟨by rw [List.length_append, List.length_singleton]; exact hown, fun k hk' => ?_, fun k => if k < xss.length then G k else g, fun k => if k < xss.length then R k else A, fun k => if k < xss.length then C k else c, ?_, ?_⟩
  · rcases hat with hat | hat
    · have := h4 k (by rw [← hat]; exact hk'); omega
    · have := (hown.lt k hk').2; omega
  · intro k hk'
    rw [List.length_append, List.length_singleton] at hk'
    by_cases e : k < xss.length
    · simp only [if_pos e, gr_snoc_lt e]
      obtain ⟨q0, a, b⟩ := h2 k e
      refine ⟨by rw [List.getElem?_append_left (by omega)]; exact q0, keepI ((a.below hk).mono (Nat.le_refl _) (by omega)) b, fun hp => ?_⟩
      rcases hat with hat | hat
      · rw [hat]; exact b hp
      · rw [hat]; intro e'; injection e' with e'; obtain ⟨_, _, _, q, _⟩ := a.own hp; omega
    · obtain rfl : k = xss.length := by omega
      simp only [if_neg e, gr_snoc_eq]
      refine ⟨by rw [← hvl, List.getElem?_append_right (Nat.le_refl _)]; simp, keepI (hr.mono hlo hsz') hfar, fun hp => ?_⟩
      rcases hat with hat | hat
      · rw [hat]; exact hfar hp
      · rw [hat]; intro e'; injection e' with e'; obtain ⟨_, _, _, q, _⟩ := hr.own hp; omega
  · intro j k hjk hk' hj0 hk0
    rw [List.length_append, List.length_singleton] at hk'
    have ej : j < xss.length := by omega
    simp only [if_pos ej]
    rw [gr_snoc_lt ej] at hj0
    by_cases e : k < xss.length
    · simp only [if_pos e]
      rw [gr_snoc_lt e] at hk0
      exact h3 j k hjk e hj0 hk0
    · obtain rfl : k = xss.length := by omega
      simp only [if_neg e]
      rw [gr_snoc_eq] at hk0
      obtain ⟨_, _, _, q, _⟩ := (h2 j ej).2.1.own hj0
      obtain ⟨_, _, q', _⟩ := hr.own hk0
      omega

theorem Bld.owns {lo hi w v vs xss} (h : Bld lo hi w v vs xss) (hm : xss.length ≤ 5864062014805) : ∃ A n c g, v = .slice A n c ∧ n = xss.length ∧ OwnR lo hi w g A n c xss := by
  obtain ⟨h1, hh, G, R, C, h2, h3⟩ := h
  rcases h1.2 with ⟨rfl, h0⟩ | ⟨g, cap, cur, rfl, hb, hg, hnc, _, hcs, htake⟩
  · have hx : xss = [] := List.eq_nil_of_length_eq_zero h0
    subst hx
    exact ⟨none, 0, 0, 0, rfl, rfl, OwnR.nil _ _ _ _⟩
  · refine ⟨some ⟨g, 0, none⟩, xss.length, cap, g, rfl, rfl, ⟨rfl, hnc, hm, fun _ => ⟨0, G, R, C, rfl, hb, hh g rfl, fun k hk => ⟨?_, ?_, (h2 k hk).2.1, fun hp e => (h2 k hk).2.2 hp (by rw [e]; rfl)⟩, h3⟩⟩⟩
    · rw [Nat.zero_add]; simp [World.frozen?, hg]
    · rw [Nat.zero_add, ← (h2 k hk).1, ← htake, List.getElem?_take, if_pos (by omega)]
      simp [World.cell?, hg]

theorem pair_own {lo : Nat} {w : World} (x y : Int) (hx : -9223372036854775808 ≤ x ∧ x ≤ 9223372036854775807) (hy : -9223372036854775808 ≤ y ∧ y ≤ 9223372036854775807) (hlo : lo ≤ w.heap.size) :
    OwnI lo (w.heap.size + 1) (w.alloc (.cells #[.int .i64 x, .int .i64 y] 3)) w.heap.size (some ⟨w.heap.size, 0, none⟩) 2 2 [x, y] := by
  have hb := blk_new w 3 #[.int .i64 x, .int .i64 y]
  refine ⟨⟨rfl, Nat.le_refl _, by omega, ?_, fun _ => ⟨_, 0, rfl, fun k hk => ?_⟩⟩, fun _ => ⟨0, rfl, hlo, Nat.lt_succ_self _, fun k _ => blk_frozen hb _⟩⟩
  · intro z hz
    simp only [List.mem_cons, List.not_mem_nil, or_false] at hz
    rcases hz with rfl | rfl
    · exact hx
    · exact hy
  · rw [Nat.zero_add]
    match k, hk with
    | 0, _ => exact blk_cell hb rfl
    | 1, _ => exact blk_cell hb rfl

/-- One pair more. -/
theorem push_pair {lo : Nat} {w w' : World} {v v' : Value} {vs : List Value} {xss : List (List Int)} {x y : Int}
    (h : Bld lo w.heap.size w v vs xss) (hx : -9223372036854775808 ≤ x ∧ x ≤ 9223372036854775807) (hy : -9223372036854775808 ≤ y ∧ y ≤ 9223372036854775807)
    (hown : w'.ownsRow lo 27 1 v' (xss.length + 1) (vs ++ [.slice (some ⟨w.heap.size, 0, none⟩) 2 2]))
    (hgrow : ((w.alloc (.cells #[.int .i64 x, .int .i64 y] 3)).alloc (.cells #[.slice (some ⟨w.heap.size, 0, none⟩) 2 2] 27)).grownBy w' v.ownBlock)
    (hat : v'.ownBlock = v.ownBlock ∨ v'.ownBlock = some (w.heap.size + 1 + 1)) (hlo : lo ≤ w.heap.size) :
    Bld lo w'.heap.size w' v' (vs ++ [.slice (some ⟨w.heap.size, 0, none⟩) 2 2]) (xss ++ [[x, y]]) ∧ Below lo w w' := by
  have hb3 := below_alloc w (.cells #[.int .i64 x, .int .i64 y] 3)
  have hb4 := below_alloc (w.alloc (.cells #[.int .i64 x, .int .i64 y] 3)) (.cells #[.slice (some ⟨w.heap.size, 0, none⟩) 2 2] 27)
  have hb := below_up hb3 hb4
  have ho := (pair_own (lo := w.heap.size) (w := w) x y hx hy (Nat.le_refl _)).below hb4
  refine ⟨h.push (r := [x, y]) hb (ho.mono (Nat.le_refl _) (by simp)) hown hgrow (by simpa using hat) hlo (Nat.le_refl _), ?_⟩
  exact (hb.mono hlo).grown hgrow (by simp; omega) fun k hk => (h.own.lt k hk).1
theorem Bld.form {lo hi w v vs xss} (h : Bld lo hi w v vs xss) : ∃ A c, v = .slice A xss.length c := by
  rcases h.own.2 with ⟨rfl, h0⟩ | ⟨g, cap, cur, rfl, _⟩
  · exact ⟨none, 0, by rw [h0]⟩
  · exact ⟨_, _, rfl⟩
theorem BldI.form {lo hi w v xs} (h : BldI lo hi w v xs) : ∃ A c, v = .slice A xs.length c := by
  rcases h.own.2 with ⟨rfl, h0⟩ | ⟨g, cap, cur, rfl, _⟩
  · exact ⟨none, 0, by rw [h0]⟩
  · exact ⟨_, _, rfl⟩
theorem BldI.of_blocks {lo hi w w' v xs} (h : BldI lo hi w v xs) (e : ∀ g, lo ≤ g → g < hi → g < w.heap.size → w'.heap[g]? = w.heap[g]?) : BldI lo hi w' v xs :=
  ⟨blk_kept h.own fun g hg => e g (h.own.lt g hg).1 (h.hi_ g hg) (h.own.lt g hg).2, h.hi_⟩

end Go.Proofs.Ytfilbknikbfjhaa
