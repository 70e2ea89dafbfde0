/- Texts merged: Turn Math2 B5 Own D1 D3 IB TK2. -/
import Derived.Test.YtcjanlbhgfadpaaQ2
import Derived.Deep.LoopGhost
/- A table turned, by the program: make, make, store. -/
namespace Go.Proofs.Ytcjanlbhgfadpaa
open Go.RowKit

def flip (a : List (List Int)) (n m : Nat) : List (List Int) := (List.range m).map fun j => (List.range n).map fun i => g2 a i j
theorem gr_flip {a : List (List Int)} {n m j : Nat} (h : j < m) : gr (flip a n m) j = (List.range n).map fun i => g2 a i j := by
  rw [gr_get (by simpa [flip] using h)]; simp [flip]
theorem gi_col {a : List (List Int)} {n i j : Nat} (h : i < n) : gi ((List.range n).map fun i => g2 a i j) i = g2 a i j := by
  rw [gi_get (by simpa using h)]; simp

def ttop (B n c : Nat) : Nat → Value := fun j => if j < c then .slice (some ⟨B + 1 + j, 0, none⟩) n n else .slice none 0 0
structure TurnO (w wr : World) (n m c : Nat) (xs : List (List Int)) : Prop where
  below : Below w.heap.size w wr
  size : wr.heap.size = w.heap.size + 1 + c
  top : wr.rowIs w.heap.size 23 m (ttop w.heap.size n c)
  done : ∀ j, j < c → wr.rowIs (w.heap.size + 1 + j) 3 n (fun i => .int .i64 (g2 xs i j))
structure TurnI (w wi : World) (n m c r : Nat) (xs : List (List Int)) : Prop where
  below : Below w.heap.size w wi
  size : wi.heap.size = w.heap.size + 1 + c + 1
  top : wi.rowIs w.heap.size 23 m (ttop w.heap.size n (c + 1))
  done : ∀ j, j < c → wi.rowIs (w.heap.size + 1 + j) 3 n (fun i => .int .i64 (g2 xs i j))
  cur : wi.rowIs (w.heap.size + 1 + c) 3 n (fun i => if i < r then .int .i64 (g2 xs i c) else .int .i64 0)
theorem turnO_start (w : World) (n m : Nat) (xs : List (List Int)) : TurnO w (w.alloc (.cells (madeCells #[.slice none 0 0] m) 23)) n m 0 xs :=
  ⟨below_alloc _ _, by simp, (World.rowIs_made w _ m 23).congr (fun j _ => by simp [ttop]), fun j hj => absurd hj (Nat.not_lt_zero _)⟩
theorem turnI_start {w wr : World} {n m c : Nat} {xs : List (List Int)} (h : TurnO w wr n m c xs) :
    TurnI w ((wr.alloc (.cells (madeCells #[.int .i64 0] n) 3)).setCell ⟨w.heap.size, c, none⟩ (.slice (some ⟨wr.heap.size, 0, none⟩) n n)) n m c 0 xs := by
  have hnew := World.rowIs_made wr (.int .i64 0) n 3
  have hs := h.size
  rw [hs] at hnew ⊢
  refine ⟨(h.below.alloc (by rw [hs]; omega) _).setCell (Nat.le_refl _) _, by simp [hs], ((h.top.alloc _).set c _).congr (fun j _ => ?_), fun j hj => ((h.done j hj).alloc _).setOther (by show w.heap.size + 1 + j ≠ w.heap.size; omega) _,
    (hnew.setOther (by show w.heap.size + 1 + c ≠ w.heap.size; omega) _).congr (fun i _ => by simp)⟩
  unfold ttop
  by_cases e : j = c
  · subst e; simp
  · rw [if_neg e]
    by_cases hlt : j < c
    · rw [if_pos hlt, if_pos (by omega)]
    · rw [if_neg hlt, if_neg (by omega)]
theorem turnI_step {w wi wd : World} {n m c r : Nat} {xs : List (List Int)} (h : TurnI w wi n m c r xs) (hq : Quiet wi wd) :
    TurnI w (wd.setCell ⟨w.heap.size + 1 + c, r, none⟩ (.int .i64 (g2 xs r c))) n m c (r + 1) xs := by
  obtain ⟨q, rfl⟩ := hq
  have hs := h.size
  refine ⟨(below_drewN h.below q).setCell (by show w.heap.size ≤ w.heap.size + 1 + c; omega) _, by simp [World.setCell]; exact hs, (World.rowIs.setOther (w := wi.drewN q) h.top (by show w.heap.size ≠ w.heap.size + 1 + c; omega) _),
    fun j hj => (World.rowIs.setOther (w := wi.drewN q) (h.done j hj) (by show w.heap.size + 1 + j ≠ w.heap.size + 1 + c; omega) _), (World.rowIs.set (w := wi.drewN q) h.cur r _).congr (fun i _ => ?_)⟩
  by_cases e : i = r
  · subst e; simp
  · rw [if_neg e]
    by_cases hlt : i < r
    · rw [if_pos hlt, if_pos (by omega)]
    · rw [if_neg hlt, if_neg (by omega)]
theorem TurnI.drew {w wi : World} {n m c r : Nat} {xs : List (List Int)} (h : TurnI w wi n m c r xs) : TurnI w wi.drew n m c r xs :=
  ⟨h.below.drew, h.size, h.top.drew, fun j hj => (h.done j hj).drew, h.cur.drew⟩
theorem turnI_done {w wi : World} {n m c : Nat} {xs : List (List Int)} (h : TurnI w wi n m c n xs) : TurnO w wi n m (c + 1) xs :=
  ⟨h.below, by rw [h.size]; omega, h.top, fun j hj => by
    by_cases e : j = c
    · subst e
      exact h.cur.congr (fun i hi => by rw [if_pos hi])
    · exact h.done j (by omega)⟩
theorem turnO_own {w wr : World} {n m : Nat} {xs : List (List Int)} (h : TurnO w wr n m m xs) (hn : n ≤ 3) (hm : m ≤ 3) (hbd : ∀ i j, i < n → j < m → -9 ≤ g2 xs i j ∧ g2 xs i j ≤ 9) :
    OwnR w.heap.size wr.heap.size wr w.heap.size (some ⟨w.heap.size, 0, none⟩) m m (flip xs n m) := by
  have hs := h.size
  refine ⟨by simp [flip], Nat.le_refl _, by omega, fun _ => ⟨0, fun k => w.heap.size + 1 + k, fun k => some ⟨w.heap.size + 1 + k, 0, none⟩, fun _ => n, rfl, Nat.le_refl _, h.top.lt, fun k hk => ?_, fun j k hj _ _ _ => by show w.heap.size + 1 + j ≠ w.heap.size + 1 + k; omega⟩⟩
  have hl : ((List.range n).map fun i => g2 xs i k).length = n := by simp
  rw [gr_flip hk, hl]
  refine ⟨by rw [Nat.zero_add]; exact h.top.frozen k, by rw [Nat.zero_add, h.top.cell hk, ttop, if_pos hk], OwnI.of_rowIs hl (by omega) ?_ (by show w.heap.size ≤ w.heap.size + 1 + k; omega) (by show w.heap.size + 1 + k < _; omega) (h.done k hk) (fun i hi => by rw [gi_col hi]), fun _ => by show w.heap.size + 1 + k ≠ w.heap.size; omega⟩
  intro x hx
  obtain ⟨i, hi, rfl⟩ := List.mem_map.1 hx
  have := hbd i k (List.mem_range.1 hi) hk
  omega

def MadeT (w : World) (n m : Nat) (xs : List (List Int)) (e : Ending) (w' : World) : Prop :=
  e = .returned (.slice (some ⟨w.heap.size, 0, none⟩) m m) ∧ OwnR w.heap.size w'.heap.size w' w.heap.size (some ⟨w.heap.size, 0, none⟩) m m (flip xs n m) ∧ Below w.heap.size w w' ∧ w.heap.size < w'.heap.size

end Go.Proofs.Ytcjanlbhgfadpaa

/- The greatest of a row; rests by the greatest of a column and of a row. -/
namespace Go.Proofs.Ytcjanlbhgfadpaa
def mx (xs : List Int) : Nat → Int
  | 0 => gi xs 0
  | k + 1 => max (mx xs k) (gi xs (k + 1))
def mxl (xs : List Int) : Int := mx xs (xs.length - 1)
theorem mx_ge (xs : List Int) : ∀ {k j : Nat}, j ≤ k → gi xs j ≤ mx xs k
  | 0, j, h => by obtain rfl : j = 0 := by omega
                  exact Int.le_refl _
  | k + 1, j, h => by
    simp only [mx]
    by_cases e : j = k + 1
    · subst e; omega
    · have := mx_ge xs (k := k) (j := j) (by omega); omega
theorem mx_at (xs : List Int) : ∀ k, ∃ j, j ≤ k ∧ gi xs j = mx xs k
  | 0 => ⟨0, Nat.le_refl _, rfl⟩
  | k + 1 => by
    obtain ⟨j, hj, e⟩ := mx_at xs k
    by_cases h : gi xs (k + 1) ≤ mx xs k
    · exact ⟨j, by omega, by simp only [mx]; omega⟩
    · exact ⟨k + 1, Nat.le_refl _, by simp only [mx]; omega⟩
theorem mxl_iff {xs : List Int} {j : Nat} (h : j < xs.length) : gi xs j = mxl xs ↔ ∀ k, k < xs.length → gi xs k ≤ gi xs j := by
  constructor
  · intro e k hk
    rw [e]
    exact mx_ge xs (by omega)
  · intro hall
    obtain ⟨i, hi, e⟩ := mx_at xs (xs.length - 1)
    have h1 := hall i (by omega)
    have h2 := mx_ge xs (k := xs.length - 1) (j := j) (by omega)
    unfold mxl
    omega
end Go.Proofs.Ytcjanlbhgfadpaa

/- No rounds, by the model. -/
namespace Go.Proofs.Ytcjanlbhgfadpaa
open Go.RowKit

theorem upTo_ {P : Nat → Prop} {a : Nat} (h : ∀ l, l < a → P l) (z : P a) : ∀ l, l < a + 1 → P l := fun l hl => by
  by_cases hla : l < a
  · exact h l hla
  · obtain rfl : l = a := by omega
    exact z

end Go.Proofs.Ytcjanlbhgfadpaa

/- Slices that a call makes by append: of ints, and of slices of ints. -/
namespace Go.Proofs.Ytcjanlbhgfadpaa
open Go.RowKit

def iv (x : Int) : Value := .int .i64 x
/-- A slice of ints, made by append, in a block from lo up to less than hi. -/
structure BldI (lo hi : Nat) (w : World) (v : Value) (xs : List Int) : Prop where
  own : w.ownsRow lo 3 1 v xs.length (xs.map iv)
  hi_ : ∀ k, v.ownBlock = some k → k < hi
theorem blk_kept {w w' : World} {base : Nat} {e : TypeId} {size n : Nat} {v : Value} {xs : List Value} (h : w.ownsRow base e size v n xs) (k : ∀ g, v.ownBlock = some g → w'.heap[g]? = w.heap[g]?) : w'.ownsRow base e size v n xs := by
  obtain ⟨h1, h2⟩ := h
  refine ⟨h1, ?_⟩
  rcases h2 with h2 | ⟨g, cap, cur, rfl, hb, hg, r⟩
  · exact .inl h2
  · exact .inr ⟨g, cap, cur, rfl, hb, (k g rfl).trans hg, r⟩
theorem BldI.nil (lo hi : Nat) (w : World) : BldI lo hi w (.slice none 0 0) [] := ⟨World.ownsRow_nil _ _ _ _, fun k h => by simp [Value.ownBlock] at h⟩
theorem BldI.below {lo hi w w' v xs} (h : BldI lo hi w v xs) (k : Below w.heap.size w w') : BldI lo hi w' v xs :=
  ⟨blk_kept h.own fun g hg => k.block g (h.own.lt g hg).2, h.hi_⟩
theorem BldI.mono {lo hi hi' w v xs} (h : BldI lo hi w v xs) (hh : hi ≤ hi') : BldI lo hi' w v xs := ⟨h.own, fun k hk => Nat.lt_of_lt_of_le (h.hi_ k hk) hh⟩
theorem BldI.touch {lo hi lo' hi' w w' v xs} (h : BldI lo hi w v xs) (k : Touch lo' hi' w w') (hd : hi ≤ lo' ∨ hi' ≤ lo) : BldI lo hi w' v xs :=
  ⟨blk_kept h.own fun g hg => k.block g (by have := h.hi_ g hg; have := (h.own.lt g hg).1; omega), h.hi_⟩
theorem getElem_iv {xs : List Int} {k : Nat} (h : k < xs.length) : (xs.map iv)[k]? = some (.int .i64 (gi xs k)) := by
  rw [List.getElem?_map, List.getElem?_eq_getElem h, gi_get h]; rfl
theorem BldI.owns {lo hi w v xs} (h : BldI lo hi w v xs) (hm : xs.length ≤ 17592186044416) (hwf : ∀ x ∈ xs, -9223372036854775808 ≤ x ∧ x ≤ 9223372036854775807) :
    ∃ A n c g, v = .slice A n c ∧ n = xs.length ∧ OwnI lo hi w g A n c xs ∧ ∀ k, v.ownBlock = some k → k = g := by
  have hh := h.hi_
  rcases h.own.2 with ⟨rfl, h0⟩ | ⟨g, cap, cur, rfl, hb, hg, hnc, _, hcs, htake⟩
  · have hx : xs = [] := List.eq_nil_of_length_eq_zero h0
    subst hx
    exact ⟨none, 0, 0, 0, rfl, rfl, OwnI.nil _ _ _ _, fun k hk => by simp [Value.ownBlock] at hk⟩
  · refine ⟨some ⟨g, 0, none⟩, xs.length, cap, g, rfl, rfl, ⟨⟨rfl, hnc, hm, hwf, fun _ => ⟨g, 0, rfl, fun k hk => ?_⟩⟩, fun _ => ⟨0, rfl, hb, hh g rfl, fun k _ => ?_⟩⟩, fun k hk => by simpa [Value.ownBlock] using hk.symm⟩
    · rw [Nat.zero_add, ← getElem_iv hk, ← htake, List.getElem?_take, if_pos (by omega)]
      simp [World.cell?, hg]
    · rw [Nat.zero_add]; simp [World.frozen?, hg]

theorem BldI.make {lo : Nat} {w : World} (hlo : lo ≤ w.heap.size) : BldI lo (w.heap.size + 1) (w.alloc (.cells #[] 3)) (.slice (some ⟨w.heap.size, 0, none⟩) 0 0) [] :=
  ⟨World.ownsRow_made (e := 3) (size := 1) w #[] 0 hlo (Nat.zero_le _) rfl, fun k hk => by simp [Value.ownBlock] at hk; omega⟩

/-- Slices of ints under construction: the outer slice made by append, its cells vs, each row in a block of its own. -/
structure Bld (lo hi : Nat) (w : World) (v : Value) (vs : List Value) (xss : List (List Int)) : Prop where
  own : w.ownsRow lo 23 1 v xss.length vs
  hi_ : ∀ k, v.ownBlock = some k → k < hi
  ex : ∃ (G : Nat → Nat) (R : Nat → Option Addr) (C : Nat → Nat), (∀ k, k < xss.length → vs[k]? = some (.slice (R k) (gr xss k).length (C k)) ∧ OwnI lo hi w (G k) (R k) (gr xss k).length (C k) (gr xss k) ∧ (0 < (gr xss k).length → v.ownBlock ≠ some (G k))) ∧
    ∀ j k, j < k → k < xss.length → 0 < (gr xss j).length → 0 < (gr xss k).length → G j ≠ G k
theorem Bld.nil (lo hi : Nat) (w : World) : Bld lo hi w (.slice none 0 0) [] [] :=
  ⟨World.ownsRow_nil _ _ _ _, fun k h => by simp [Value.ownBlock] at h, fun _ => 0, fun _ => none, fun _ => 0, fun k h => absurd h (by simp), fun _ k _ h => absurd h (by simp)⟩
theorem Bld.make {lo : Nat} {w : World} (hlo : lo ≤ w.heap.size) : Bld lo (w.heap.size + 1) (w.alloc (.cells #[] 23)) (.slice (some ⟨w.heap.size, 0, none⟩) 0 0) [] [] :=
  ⟨World.ownsRow_made (e := 23) (size := 1) w #[] 0 hlo (Nat.zero_le _) rfl, fun k hk => by simp [Value.ownBlock] at hk; omega, fun _ => 0, fun _ => none, fun _ => 0, fun k h => absurd h (by simp), fun _ k _ h => absurd h (by simp)⟩
theorem Bld.mono {lo hi hi' w v vs xss} (h : Bld lo hi w v vs xss) (hh : hi ≤ hi') : Bld lo hi' w v vs xss := by
  obtain ⟨h1, h4, G, R, C, h2, h3⟩ := h
  exact ⟨h1, fun k hk => Nat.lt_of_lt_of_le (h4 k hk) hh, G, R, C, fun k hk => ⟨(h2 k hk).1, (h2 k hk).2.1.mono (Nat.le_refl _) hh, (h2 k hk).2.2⟩, h3⟩
theorem Bld.of_blocks {lo hi w w' v vs xss} (h : Bld lo hi w v vs xss) (e : ∀ g, lo ≤ g → g < hi → g < w.heap.size → w'.heap[g]? = w.heap[g]?) : Bld lo hi w' v vs xss := by
  obtain ⟨h1, h4, G, R, C, h2, h3⟩ := h
  refine ⟨blk_kept h1 fun g hg => e g (h1.lt g hg).1 (h4 g hg) (h1.lt g hg).2, h4, G, R, C, fun k hk => ⟨(h2 k hk).1, (h2 k hk).2.1.of_block fun hp => ?_, (h2 k hk).2.2⟩, h3⟩
  obtain ⟨_, _, a, b, _⟩ := (h2 k hk).2.1.own hp
  exact e _ a b ((h2 k hk).2.1.lt hp)
theorem Bld.below {lo hi w w' v vs xss} (h : Bld lo hi w v vs xss) (k : Below w.heap.size w w') : Bld lo hi w' v vs xss := h.of_blocks fun g _ _ hg => k.block g hg

theorem gr_snoc_lt {xss : List (List Int)} {r : List Int} {k : Nat} (h : k < xss.length) : gr (xss ++ [r]) k = gr xss k := by
  rw [gr_get h, gr_get (by simp; omega), List.getElem_append_left h]
theorem gr_snoc_eq {xss : List (List Int)} {r : List Int} : gr (xss ++ [r]) xss.length = r := by
  rw [gr_get (by simp), List.getElem_append_right (Nat.le_refl _)]; simp

/-- One row more. -/
theorem Bld.push {lo hi : Nat} {w w1 w' : World} {v v' : Value} {vs : List Value} {xss : List (List Int)} {r : List Int} {g : Nat} {A : Option Addr} {c : Nat}
    (h : Bld lo hi w v vs xss) (hk : Below w.heap.size w w1) (hr : OwnI hi w1.heap.size w1 g A r.length c r)
    (hown : w'.ownsRow lo 23 1 v' (xss.length + 1) (vs ++ [.slice A r.length c]))
    (hgrow : w1.grownBy w' v.ownBlock) (hat : v'.ownBlock = v.ownBlock ∨ v'.ownBlock = some w1.heap.size) (hlo : lo ≤ hi) (hhi : hi ≤ w.heap.size) :
    Bld lo w'.heap.size w' v' (vs ++ [.slice A r.length c]) (xss ++ [r]) := by
  obtain ⟨h1, h4, G, R, C, h2, h3⟩ := h
  have hvl : vs.length = xss.length := by have := h1.1; omega
  have hsz := hk.size
  have hsz' := hgrow.size
  have keepI : ∀ {lo hi : Nat} {b : Nat} {B : Option Addr} {n c : Nat} {xs : List Int}, OwnI lo hi w1 b B n c xs → (0 < n → v.ownBlock ≠ some b) → OwnI lo hi w' b B n c xs :=
    fun ho hne => ho.of_block fun hp => hgrow.block _ (ho.lt hp) (fun e => hne hp e.symm)
  have hfar : 0 < r.length → v.ownBlock ≠ some g := fun hp e => by
    have a := h4 g e
    obtain ⟨_, _, b, _⟩ := hr.own hp
    omega
  refine ⟨by rw [List.length_append, List.length_singleton]; exact hown, fun k hk' => ?_, fun k => if k < xss.length then G k else g, fun k => if k < xss.length then R k else A, fun k => if k < xss.length then C k else c, ?_, ?_⟩
  · rcases hat with hat | hat
    · have := h4 k (by rw [← hat]; exact hk'); omega
    · have := (hown.lt k hk').2; omega
  · intro k hk'
    rw [List.length_append, List.length_singleton] at hk'
    by_cases e : k < xss.length
    · simp only [if_pos e, gr_snoc_lt e]
      obtain ⟨q0, a, b⟩ := h2 k e
      refine ⟨by rw [List.getElem?_append_left (by omega)]; exact q0, keepI ((a.below hk).mono (Nat.le_refl _) (by omega)) b, fun hp => ?_⟩
      rcases hat with hat | hat
      · rw [hat]; exact b hp
      · rw [hat]; intro e'; injection e' with e'; obtain ⟨_, _, _, q, _⟩ := a.own hp; omega
    · obtain rfl : k = xss.length := by omega
      simp only [if_neg e, gr_snoc_eq]
      refine ⟨by rw [← hvl, List.getElem?_append_right (Nat.le_refl _)]; simp, keepI (hr.mono hlo hsz') hfar, fun hp => ?_⟩
      rcases hat with hat | hat
      · rw [hat]; exact hfar hp
      · rw [hat]; intro e'; injection e' with e'; obtain ⟨_, _, _, q, _⟩ := hr.own hp; omega
  · intro j k hjk hk' hj0 hk0
    rw [List.length_append, List.length_singleton] at hk'
    have ej : j < xss.length := by omega
    simp only [if_pos ej]
    rw [gr_snoc_lt ej] at hj0
    by_cases e : k < xss.length
    · simp only [if_pos e]
      rw [gr_snoc_lt e] at hk0
      exact h3 j k hjk e hj0 hk0
    · obtain rfl : k = xss.length := by omega
      simp only [if_neg e]
      rw [gr_snoc_eq] at hk0
      obtain ⟨_, _, _, q, _⟩ := (h2 j ej).2.1.own hj0
      obtain ⟨_, _, q', _⟩ := hr.own hk0
      omega

theorem Bld.owns {lo hi w v vs xss} (h : Bld lo hi w v vs xss) (hm : xss.length ≤ 5864062014805) : ∃ A n c g, v = .slice A n c ∧ n = xss.length ∧ OwnR lo hi w g A n c xss := by
  obtain ⟨h1, hh, G, R, C, h2, h3⟩ := h
  rcases h1.2 with ⟨rfl, h0⟩ | ⟨g, cap, cur, rfl, hb, hg, hnc, _, hcs, htake⟩
  · have hx : xss = [] := List.eq_nil_of_length_eq_zero h0
    subst hx
    exact ⟨none, 0, 0, 0, rfl, rfl, OwnR.nil _ _ _ _⟩
  · refine ⟨some ⟨g, 0, none⟩, xss.length, cap, g, rfl, rfl, ⟨rfl, hnc, hm, fun _ => ⟨0, G, R, C, rfl, hb, hh g rfl, fun k hk => ⟨?_, ?_, (h2 k hk).2.1, fun hp e => (h2 k hk).2.2 hp (by rw [e]; rfl)⟩, h3⟩⟩⟩
    · rw [Nat.zero_add]; simp [World.frozen?, hg]
    · rw [Nat.zero_add, ← (h2 k hk).1, ← htake, List.getElem?_take, if_pos (by omega)]
      simp [World.cell?, hg]

theorem pair_own {lo : Nat} {w : World} (x y : Int) (hx : -9223372036854775808 ≤ x ∧ x ≤ 9223372036854775807) (hy : -9223372036854775808 ≤ y ∧ y ≤ 9223372036854775807) (hlo : lo ≤ w.heap.size) :
    OwnI lo (w.heap.size + 1) (w.alloc (.cells #[.int .i64 x, .int .i64 y] 3)) w.heap.size (some ⟨w.heap.size, 0, none⟩) 2 2 [x, y] := by
  have hb := blk_new w 3 #[.int .i64 x, .int .i64 y]
  refine ⟨⟨rfl, Nat.le_refl _, by omega, ?_, fun _ => ⟨_, 0, rfl, fun k hk => ?_⟩⟩, fun _ => ⟨0, rfl, hlo, Nat.lt_succ_self _, fun k _ => blk_frozen hb _⟩⟩
  · intro z hz
    simp only [List.mem_cons, List.not_mem_nil, or_false] at hz
    rcases hz with rfl | rfl
    · exact hx
    · exact hy
  · rw [Nat.zero_add]
    match k, hk with
    | 0, _ => exact blk_cell hb rfl
    | 1, _ => exact blk_cell hb rfl

/-- One pair more. -/
theorem push_pair {lo : Nat} {w w' : World} {v v' : Value} {vs : List Value} {xss : List (List Int)} {x y : Int}
    (h : Bld lo w.heap.size w v vs xss) (hx : -9223372036854775808 ≤ x ∧ x ≤ 9223372036854775807) (hy : -9223372036854775808 ≤ y ∧ y ≤ 9223372036854775807)
    (hown : w'.ownsRow lo 23 1 v' (xss.length + 1) (vs ++ [.slice (some ⟨w.heap.size, 0, none⟩) 2 2]))
    (hgrow : ((w.alloc (.cells #[.int .i64 x, .int .i64 y] 3)).alloc (.cells #[.slice (some ⟨w.heap.size, 0, none⟩) 2 2] 23)).grownBy w' v.ownBlock)
    (hat : v'.ownBlock = v.ownBlock ∨ v'.ownBlock = some (w.heap.size + 1 + 1)) (hlo : lo ≤ w.heap.size) :
    Bld lo w'.heap.size w' v' (vs ++ [.slice (some ⟨w.heap.size, 0, none⟩) 2 2]) (xss ++ [[x, y]]) ∧ Below lo w w' := by
  have hb3 := below_alloc w (.cells #[.int .i64 x, .int .i64 y] 3)
  have hb4 := below_alloc (w.alloc (.cells #[.int .i64 x, .int .i64 y] 3)) (.cells #[.slice (some ⟨w.heap.size, 0, none⟩) 2 2] 23)
  have hb := below_up hb3 hb4
  have ho := (pair_own (lo := w.heap.size) (w := w) x y hx hy (Nat.le_refl _)).below hb4
  refine ⟨h.push (r := [x, y]) hb (ho.mono (Nat.le_refl _) (by simp)) hown hgrow (by simpa using hat) hlo (Nat.le_refl _), ?_⟩
  exact (hb.mono hlo).grown hgrow (by simp; omega) fun k hk => (h.own.lt k hk).1
theorem Bld.form {lo hi w v vs xss} (h : Bld lo hi w v vs xss) : ∃ A c, v = .slice A xss.length c := by
  rcases h.own.2 with ⟨rfl, h0⟩ | ⟨g, cap, cur, rfl, _⟩
  · exact ⟨none, 0, by rw [h0]⟩
  · exact ⟨_, _, rfl⟩
theorem BldI.form {lo hi w v xs} (h : BldI lo hi w v xs) : ∃ A c, v = .slice A xs.length c := by
  rcases h.own.2 with ⟨rfl, h0⟩ | ⟨g, cap, cur, rfl, _⟩
  · exact ⟨none, 0, by rw [h0]⟩
  · exact ⟨_, _, rfl⟩
theorem BldI.of_blocks {lo hi w w' v xs} (h : BldI lo hi w v xs) (e : ∀ g, lo ≤ g → g < hi → g < w.heap.size → w'.heap[g]? = w.heap[g]?) : BldI lo hi w' v xs :=
  ⟨blk_kept h.own fun g hg => e g (h.own.lt g hg).1 (h.hi_ g hg) (h.own.lt g hg).2, h.hi_⟩

end Go.Proofs.Ytcjanlbhgfadpaa

/- Pure rests, by the model. -/
namespace Go.Proofs.Ytcjanlbhgfadpaa
open Go.RowKit

/-- It returns rows of its own. -/
def RetR (xss : List (List Int)) (w : World) (e : Ending) (w' : World) : Prop :=
  ∃ A n c g, e = .returned (.slice A n c) ∧ n = xss.length ∧ OwnR w.heap.size w'.heap.size w' g A n c xss ∧ Below w.heap.size w w'

end Go.Proofs.Ytcjanlbhgfadpaa

/- Pure rests, by the program. -/
namespace Go.Proofs.Ytcjanlbhgfadpaa
open Go.RowKit

set_option maxHeartbeats 400000 in
theorem Max_any (A : Option Addr) (n c : Nat) (r : List Int) (w : World) (hx : Ints w A n c r) (h0 : 0 < n) :
    Calls Try.prog 68 #[.slice A n c] w fun e w' => e = .returned (.int .i64 (mxl r)) ∧ Quiet w w' := by
  obtain ⟨lx, cx, mx_, _, hx⟩ := hx
  have Lx := Lib.hid lx
  clear lx
  obtain ⟨b, o, rfl, hc⟩ := hx h0
  have c0 := hc 0 h0
  simp only [Nat.add_zero] at c0
  go_enter Try.func68, Try.ntmps68
  go_wp2
  go_loopw [3, 4] (fun m i wr => ∃ k : Nat, k < n ∧ i = .int .i64 (k + 1 : Nat) ∧ m = .int .i64 (mx r k) ∧ Quiet w wr) (fun _ i _ => n - (intOf i).toNat)
  case atStart => exact ⟨0, h0, rfl, rfl, Quiet.refl _⟩
  case round =>
    obtain ⟨k, hk, rfl, rfl, q, rfl⟩ := hrel
    by_cases hlt : k + 1 < n
    · have c1 := hc (k + 1) hlt
      clear c0 hc
      go_wp2
      go_roundw
      case rel => exact ⟨k + 1, hlt, by go_num, congrArg (Value.int .i64) (by simp only [mx]; split <;> omega), ⟨_, rfl⟩⟩
      case measure => simp [intOf]; omega
    · obtain rfl : n = k + 1 := by omega
      go_wp2
      go_ret
      exact ⟨ret_int (by rw [mxl, Lx.out]; rfl), ⟨_, rfl⟩⟩

theorem RestAt_iff {xs ys : List (List Int)} {n m i j : Nat} (hi : i < n) (hj : j < m) (hl : (gr ys i).length = m) :
    RestAt xs ys n m i j ↔ g2 xs i j = mxl (gr (flip xs n m) j) ∧ g2 ys i j = mxl (gr ys i) := by
  have hc : gi (gr (flip xs n m) j) i = g2 xs i j := by rw [gr_flip hj, gi_col hi]
  have hcl : (gr (flip xs n m) j).length = n := by rw [gr_flip hj]; simp
  rw [← hc, mxl_iff (by rw [hcl]; exact hi), show g2 ys i j = gi (gr ys i) j from rfl, mxl_iff (by rw [hl]; exact hj), hcl, hl]
  constructor
  · rintro ⟨h1, h2⟩
    exact ⟨fun k hk => by rw [hc, gr_flip hj, gi_col hk]; exact h1 k hk, h2⟩
  · rintro ⟨h1, h2⟩
    exact ⟨fun k hk => by have := h1 k hk; rw [hc, gr_flip hj, gi_col hk] at this; exact this, h2⟩

theorem OwnR.row0 {lo hi w b n c xss} (h : OwnR lo hi w b (some ⟨b, 0, none⟩) n c xss) {k : Nat} (hk : k < n) : ∃ R cc, w.cell? ⟨b, k, none⟩ = some (.slice R (gr xss k).length cc) ∧ Ints w R (gr xss k).length cc (gr xss k) := by
  obtain ⟨o, G, R, C, e, _, _, hr, _⟩ := h.at_ (by omega)
  injection e with e
  injection e with _ e _
  subst e
  have := (hr k hk).2.1
  rw [Nat.zero_add] at this
  exact ⟨R k, C k, this, (hr k hk).2.2.1.ints⟩
end Go.Proofs.Ytcjanlbhgfadpaa

/- A number below another one, by the program. -/
namespace Go.Proofs.Ytcjanlbhgfadpaa
open Go.RowKit

def Blw (n x : Int) : Prop := 0 ≤ x ∧ x < n
theorem isBelow_any (n x : Int) (w : World) : Calls Try.prog 50 #[.int .i64 n, .int .i64 x] w fun e w' => e = .returned (.bool (pb (Blw n x))) ∧ w = w' := by
  by_cases h1 : 0 ≤ x
  · by_cases h2 : x < n
    · have h := Lib.hid (pb_true (p := Blw n x) ⟨h1, h2⟩)
      have h2' : decide (x < n) = true := by simpa using h2
      go_enter Try.func50, Try.ntmps50
      go_wp2
      go_ret
      exact ⟨ret_bool (by rw [h.out]), rfl⟩
    · have h := Lib.hid (pb_false (p := Blw n x) (fun h => h2 h.2))
      have h2' : decide (x < n) = false := by simpa using h2
      go_enter Try.func50, Try.ntmps50
      go_wp2
      go_ret
      exact ⟨ret_bool (by rw [h.out]), rfl⟩
  · have h := Lib.hid (pb_false (p := Blw n x) (fun h => h1 h.1))
    go_enter Try.func50, Try.ntmps50
    go_wp2
    go_ret
    exact ⟨ret_bool (by rw [h.out]), rfl⟩
end Go.Proofs.Ytcjanlbhgfadpaa

/- Valid talks, by both programs. -/
namespace Go.Proofs.Ytcjanlbhgfadpaa
open Go.RowKit

theorem V1_iff {xs : List Int} {lo : Int} (h : xs.length = 2) : V1 xs lo ↔ lo ≤ lst xs ∧ mxl xs ≤ 9 := by
  unfold V1 lst mxl InR
  rw [h]
  simp only [mn, mx]
  simp only [Nat.zero_add]
  rw [Int.le_min, Int.max_le]
  exact ⟨fun ⟨_, ⟨a, b⟩, c, d⟩ => ⟨⟨a, c⟩, b, d⟩, fun ⟨⟨a, c⟩, b, d⟩ => ⟨by first | trivial | rfl, ⟨a, b⟩, c, d⟩⟩
set_option maxHeartbeats 400000 in
theorem areTwo_any (A : Option Addr) (n c : Nat) (xs : List Int) (lo : Int) (w : World) (hx : Ints w A n c xs) :
    Calls Try.prog 45 #[.slice A n c, .int .i64 lo] w fun e w' => e = .returned (.bool (pb (V1 xs lo))) ∧ Quiet w w' := by
  have hmx := hx.max
  have HX := Lib.hid hx
  have HL := Lib.hid hx.len
  clear hx
  by_cases h2 : n = 2
  · subst h2
    have HI := Lib.hid (V1_iff (lo := lo) HL.out)
    by_cases h3 : lo ≤ lst xs
    · have h3' : decide (lo ≤ lst xs) = true := by simpa using h3
      have H1 := Lib.hid (Min_any A 2 c xs w HX.out (by omega))
      have H2 := Lib.hid (fun W (h : Quiet w W) => Max_any A 2 c xs W (HX.out.keep (Keep.quiet h)) (by omega))
      generalize lst xs = L at *
      by_cases h4 : mxl xs ≤ 9
      · have HV := Lib.hid (pb_true (HI.out.2 ⟨h3, h4⟩))
        have h4' : decide (mxl xs ≤ 9) = true := by simpa using h4
        generalize mxl xs = M at *
        go_enter Try.func45, Try.ntmps45
        go_wp2_with fail
        refine H1.out.mono ?_
        rintro e w1 ⟨rfl, q, rfl⟩
        go_wp2_with fail
        refine (H2.out _ ⟨_, rfl⟩).mono ?_
        rintro e w1 ⟨rfl, q2, rfl⟩
        go_wp2
        go_ret
        exact ⟨ret_bool HV.out.symm, ⟨_, rfl⟩⟩
      · have HV := Lib.hid (pb_false (fun v => h4 (HI.out.1 v).2))
        have h4' : decide (mxl xs ≤ 9) = false := by simpa using h4
        generalize mxl xs = M at *
        go_enter Try.func45, Try.ntmps45
        go_wp2_with fail
        refine H1.out.mono ?_
        rintro e w1 ⟨rfl, q, rfl⟩
        go_wp2_with fail
        refine (H2.out _ ⟨_, rfl⟩).mono ?_
        rintro e w1 ⟨rfl, q2, rfl⟩
        go_wp2
        go_ret
        exact ⟨ret_bool HV.out.symm, ⟨_, rfl⟩⟩
    · have HV := Lib.hid (pb_false (fun v => h3 (HI.out.1 v).1))
      have h3' : decide (lo ≤ lst xs) = false := by simpa using h3
      have H1 := Lib.hid (Min_any A 2 c xs w HX.out (by omega))
      generalize lst xs = L at *
      go_enter Try.func45, Try.ntmps45
      go_wp2_with fail
      refine H1.out.mono ?_
      rintro e w1 ⟨rfl, q, rfl⟩
      go_wp2
      go_ret
      exact ⟨ret_bool HV.out.symm, ⟨_, rfl⟩⟩
  · have HV := Lib.hid (pb_false (p := V1 xs lo) (fun v => h2 (by rw [← HL.out]; exact v.1)))
    have h2' : ((n : Int) == 2) = false := by simp; omega
    go_enter Try.func45, Try.ntmps45
    go_wp2
    go_ret
    exact ⟨ret_bool HV.out.symm, Quiet.refl _⟩
set_option maxHeartbeats 400000 in
theorem areTwoRows_any (A : Option Addr) (n c : Nat) (a : List (List Int)) (lo : Int) (w : World) (hx : IntRows w A n c a) :
    Calls Try.prog 46 #[.slice A n c, .int .i64 lo] w fun e w' => e = .returned (.bool (pb (V2 a lo))) ∧ Quiet w w' := by
  have hmx := hx.max
  have HL := Lib.hid hx.len
  by_cases h2 : n = 2
  · subst h2
    obtain ⟨b, o, rfl, hc⟩ := hx.at_ (by omega)
    obtain ⟨R0, d0, r0, i0⟩ := hc 0 (by omega)
    obtain ⟨R1, d1, r1, i1⟩ := hc 1 (by omega)
    have h0' := i0.max
    have h1' := i1.max
    simp only [Nat.add_zero] at r0
    have H0 := Lib.hid (areTwo_any R0 _ d0 _ lo w i0)
    have H1 := Lib.hid (fun W (h : Quiet w W) => areTwo_any R1 _ d1 _ lo W (i1.keep (Keep.quiet h)))
    have HA := Lib.hid (show V2 a lo ↔ V1 (gr a 0) lo ∧ V1 (gr a 1) lo from ⟨fun v => v.2, fun v => ⟨HL.out, v⟩⟩)
    clear hc hx i0 i1
    by_cases e0 : V1 (gr a 0) lo
    · rw [pb_true e0] at H0
      by_cases e1 : V1 (gr a 1) lo
      · rw [pb_true e1] at H1
        have HV := Lib.hid (pb_true (HA.out.2 ⟨e0, e1⟩))
        clear e0 e1 HA HL
        generalize gr a 0 = a0 at *
        generalize gr a 1 = a1 at *
        go_enter Try.func46, Try.ntmps46
        go_wp2_with fail
        refine H0.out.mono ?_
        rintro e w1 ⟨rfl, q, rfl⟩
        go_wp2_with fail
        refine (H1.out _ ⟨_, rfl⟩).mono ?_
        rintro e w1 ⟨rfl, q2, rfl⟩
        go_wp2
        go_ret
        exact ⟨ret_bool HV.out.symm, ⟨_, rfl⟩⟩
      · rw [pb_false e1] at H1
        have HV := Lib.hid (pb_false (fun v => e1 (HA.out.1 v).2))
        clear e0 e1 HA HL
        generalize gr a 0 = a0 at *
        generalize gr a 1 = a1 at *
        go_enter Try.func46, Try.ntmps46
        go_wp2_with fail
        refine H0.out.mono ?_
        rintro e w1 ⟨rfl, q, rfl⟩
        go_wp2_with fail
        refine (H1.out _ ⟨_, rfl⟩).mono ?_
        rintro e w1 ⟨rfl, q2, rfl⟩
        go_wp2
        go_ret
        exact ⟨ret_bool HV.out.symm, ⟨_, rfl⟩⟩
    · rw [pb_false e0] at H0
      have HV := Lib.hid (pb_false (fun v => e0 (HA.out.1 v).1))
      clear e0 HA HL
      generalize gr a 0 = a0 at *
      generalize gr a 1 = a1 at *
      go_enter Try.func46, Try.ntmps46
      go_wp2_with fail
      refine H0.out.mono ?_
      rintro e w1 ⟨rfl, q, rfl⟩
      go_wp2
      go_ret
      exact ⟨ret_bool HV.out.symm, ⟨_, rfl⟩⟩
  · have HV := Lib.hid (pb_false (p := V2 a lo) (fun v => h2 (by rw [← HL.out]; exact v.1)))
    have h2' : ((n : Int) == 2) = false := by simp; omega
    clear hx
    go_enter Try.func46, Try.ntmps46
    go_wp2
    go_ret
    exact ⟨ret_bool HV.out.symm, Quiet.refl _⟩
set_option maxHeartbeats 1000000 in
theorem ValidTalk_impl (A1 A2 A3 A4 : Option Addr) (n1 c1 n2 c2 n3 c3 n4 c4 : Nat) (xs : List Int) (ss hs ks : List (List Int)) (w : World) (h : TkR w A1 A2 A3 A4 n1 c1 n2 c2 n3 c3 n4 c4 xs ss hs ks) :
    Calls Try.prog 15 #[.agg #[.slice A1 n1 c1, .slice A2 n2 c2, .slice A3 n3 c3, .slice A4 n4 c4]] w fun e w' => e = .returned (.bool (pb (VTk xs ss hs ks))) ∧ Below w.heap.size w w' := by
  have HT := Lib.hid (TLX.start 26 h)
  have HB := Lib.hid (below_alloc w (.cells #[.slice A1 n1 c1, .slice A2 n2 c2, .slice A3 n3 c3, .slice A4 n4 c4] 26))
  clear h
  by_cases e0 : V1 xs 1
  rotate_left
  · have HV := Lib.hid (pb_false (p := VTk xs ss hs ks) (fun v => e0 v.1))
    go_enter Try.func15, Try.ntmps15
    have q0 := HT.out.c0
    go_wp2_with fail
    clear q0
    generalize w.alloc (.cells #[.slice A1 n1 c1, .slice A2 n2 c2, .slice A3 n3 c3, .slice A4 n4 c4] 26) = W0 at *
    refine (pb_false e0 ▸ areTwo_any _ _ _ _ 1 _ HT.out.r.r1).mono ?_
    rintro e v0 ⟨rfl, hq⟩
    replace HT := Lib.hid (HT.out.up hq.below)
    replace HB := Lib.hid (below_quiet HB.out hq)
    clear hq
    go_wp2
    go_ret
    exact ⟨ret_bool HV.out.symm, HB.out⟩
  by_cases e1 : V2 ss (-9)
  rotate_left
  · have HV := Lib.hid (pb_false (p := VTk xs ss hs ks) (fun v => e1 v.2.1))
    go_enter Try.func15, Try.ntmps15
    have q0 := HT.out.c0
    go_wp2_with fail
    clear q0
    generalize w.alloc (.cells #[.slice A1 n1 c1, .slice A2 n2 c2, .slice A3 n3 c3, .slice A4 n4 c4] 26) = W0 at *
    refine (pb_true e0 ▸ areTwo_any _ _ _ _ 1 _ HT.out.r.r1).mono ?_
    rintro e v0 ⟨rfl, hq⟩
    replace HT := Lib.hid (HT.out.up hq.below)
    replace HB := Lib.hid (below_quiet HB.out hq)
    clear hq
    have q0 := HT.out.c1
    go_wp2_with fail
    clear q0
    refine (pb_false e1 ▸ areTwoRows_any _ _ _ _ (-9) _ HT.out.r.r2).mono ?_
    rintro e v1 ⟨rfl, hq⟩
    replace HT := Lib.hid (HT.out.up hq.below)
    replace HB := Lib.hid (below_quiet HB.out hq)
    clear hq
    go_wp2
    go_ret
    exact ⟨ret_bool HV.out.symm, HB.out⟩
  by_cases e2 : V2 hs (-9)
  rotate_left
  · have HV := Lib.hid (pb_false (p := VTk xs ss hs ks) (fun v => e2 v.2.2.1))
    go_enter Try.func15, Try.ntmps15
    have q0 := HT.out.c0
    go_wp2_with fail
    clear q0
    generalize w.alloc (.cells #[.slice A1 n1 c1, .slice A2 n2 c2, .slice A3 n3 c3, .slice A4 n4 c4] 26) = W0 at *
    refine (pb_true e0 ▸ areTwo_any _ _ _ _ 1 _ HT.out.r.r1).mono ?_
    rintro e v0 ⟨rfl, hq⟩
    replace HT := Lib.hid (HT.out.up hq.below)
    replace HB := Lib.hid (below_quiet HB.out hq)
    clear hq
    have q0 := HT.out.c1
    go_wp2_with fail
    clear q0
    refine (pb_true e1 ▸ areTwoRows_any _ _ _ _ (-9) _ HT.out.r.r2).mono ?_
    rintro e v1 ⟨rfl, hq⟩
    replace HT := Lib.hid (HT.out.up hq.below)
    replace HB := Lib.hid (below_quiet HB.out hq)
    clear hq
    have q0 := HT.out.c2
    go_wp2_with fail
    clear q0
    refine (pb_false e2 ▸ areTwoRows_any _ _ _ _ (-9) _ HT.out.r.r3).mono ?_
    rintro e v2 ⟨rfl, hq⟩
    replace HT := Lib.hid (HT.out.up hq.below)
    replace HB := Lib.hid (below_quiet HB.out hq)
    clear hq
    go_wp2
    go_ret
    exact ⟨ret_bool HV.out.symm, HB.out⟩
  by_cases e3 : V2 ks 0
  rotate_left
  · have HV := Lib.hid (pb_false (p := VTk xs ss hs ks) (fun v => e3 v.2.2.2))
    go_enter Try.func15, Try.ntmps15
    have q0 := HT.out.c0
    go_wp2_with fail
    clear q0
    generalize w.alloc (.cells #[.slice A1 n1 c1, .slice A2 n2 c2, .slice A3 n3 c3, .slice A4 n4 c4] 26) = W0 at *
    refine (pb_true e0 ▸ areTwo_any _ _ _ _ 1 _ HT.out.r.r1).mono ?_
    rintro e v0 ⟨rfl, hq⟩
    replace HT := Lib.hid (HT.out.up hq.below)
    replace HB := Lib.hid (below_quiet HB.out hq)
    clear hq
    have q0 := HT.out.c1
    go_wp2_with fail
    clear q0
    refine (pb_true e1 ▸ areTwoRows_any _ _ _ _ (-9) _ HT.out.r.r2).mono ?_
    rintro e v1 ⟨rfl, hq⟩
    replace HT := Lib.hid (HT.out.up hq.below)
    replace HB := Lib.hid (below_quiet HB.out hq)
    clear hq
    have q0 := HT.out.c2
    go_wp2_with fail
    clear q0
    refine (pb_true e2 ▸ areTwoRows_any _ _ _ _ (-9) _ HT.out.r.r3).mono ?_
    rintro e v2 ⟨rfl, hq⟩
    replace HT := Lib.hid (HT.out.up hq.below)
    replace HB := Lib.hid (below_quiet HB.out hq)
    clear hq
    have q0 := HT.out.c3
    go_wp2_with fail
    clear q0
    refine (pb_false e3 ▸ areTwoRows_any _ _ _ _ 0 _ HT.out.r.r4).mono ?_
    rintro e v3 ⟨rfl, hq⟩
    replace HT := Lib.hid (HT.out.up hq.below)
    replace HB := Lib.hid (below_quiet HB.out hq)
    clear hq
    go_wp2
    go_ret
    exact ⟨ret_bool HV.out.symm, HB.out⟩
  have HV := Lib.hid (pb_true (p := VTk xs ss hs ks) ⟨e0, e1, e2, e3⟩)
  go_enter Try.func15, Try.ntmps15
  have q0 := HT.out.c0
  go_wp2_with fail
  clear q0
  generalize w.alloc (.cells #[.slice A1 n1 c1, .slice A2 n2 c2, .slice A3 n3 c3, .slice A4 n4 c4] 26) = W0 at *
  refine (pb_true e0 ▸ areTwo_any _ _ _ _ 1 _ HT.out.r.r1).mono ?_
  rintro e v0 ⟨rfl, hq⟩
  replace HT := Lib.hid (HT.out.up hq.below)
  replace HB := Lib.hid (below_quiet HB.out hq)
  clear hq
  have q0 := HT.out.c1
  go_wp2_with fail
  clear q0
  refine (pb_true e1 ▸ areTwoRows_any _ _ _ _ (-9) _ HT.out.r.r2).mono ?_
  rintro e v1 ⟨rfl, hq⟩
  replace HT := Lib.hid (HT.out.up hq.below)
  replace HB := Lib.hid (below_quiet HB.out hq)
  clear hq
  have q0 := HT.out.c2
  go_wp2_with fail
  clear q0
  refine (pb_true e2 ▸ areTwoRows_any _ _ _ _ (-9) _ HT.out.r.r3).mono ?_
  rintro e v2 ⟨rfl, hq⟩
  replace HT := Lib.hid (HT.out.up hq.below)
  replace HB := Lib.hid (below_quiet HB.out hq)
  clear hq
  have q0 := HT.out.c3
  go_wp2_with fail
  clear q0
  refine (pb_true e3 ▸ areTwoRows_any _ _ _ _ 0 _ HT.out.r.r4).mono ?_
  rintro e v3 ⟨rfl, hq⟩
  replace HT := Lib.hid (HT.out.up hq.below)
  replace HB := Lib.hid (below_quiet HB.out hq)
  clear hq
  go_wp2
  go_ret
  exact ⟨ret_bool HV.out.symm, HB.out⟩
set_option maxHeartbeats 1000000 in
theorem validPlain_any (A : Option Addr) (n c : Nat) (a : List (List Int)) (lo : Int) (w : World) (hx : IntRows w A n c a) :
    Calls Try.prog 70 #[.slice A n c, .int .i64 lo] w fun e w' => e = .returned (.bool (pb (V2 a lo))) ∧ Quiet w w' := by
  obtain ⟨lx, cx, mx, hx⟩ := hx
  have Lx := Lib.hid lx
  clear lx
  go_enter Try.func70, Try.ntmps70
  go_wp2
  go_loopw [5] (fun i wr => ∃ k : Nat, k ≤ n ∧ i = .int .i64 k ∧ Hid (∀ i, i < k → V1 (gr a i) lo) ∧ Quiet w wr) (fun i _ => n - (intOf i).toNat)
  case atStart => exact ⟨0, Nat.zero_le _, rfl, Lib.hid (fun _ h => absurd h (by omega)), Quiet.refl _⟩
  case round =>
    obtain ⟨k, hk, rfl, HALL, q, rfl⟩ := hrel
    by_cases hlt : k < n
    · obtain ⟨b, o, rfl, hc⟩ := hx (by omega)
      obtain ⟨R, cc, c1, hR⟩ := hc k hlt
      have hL1 : (gr a k).length ≤ 17592186044416 := hR.max
      have HNO := Lib.hid (show ¬ V1 (gr a k) lo → pb (V2 a lo) = false from fun h => pb_false fun v => h (by
        have h2 := v.1
        rw [Lx.out] at h2
        have : k = 0 ∨ k = 1 := by omega
        rcases this with rfl | rfl
        · exact v.2.1
        · exact v.2.2))
      clear hx hc
      by_cases hlen : (gr a k).length = 2
      · have hlen' : (((gr a k).length : Int) != 2) = false := by simp [hlen]
        obtain ⟨b2, o2, rfl, hc2⟩ := hR.at_ (by omega)
        have d0 := hc2 0 (by omega)
        have d1 := hc2 1 (by omega)
        simp only [Nat.add_zero] at d0
        clear hc2 hR
        rw [hlen] at c1 hL1 hlen'
        by_cases h0 : InR (gi (gr a k) 0) lo 9
        · by_cases h1 : InR (gi (gr a k) 1) lo 9
          · have HK := Lib.hid (show V1 (gr a k) lo from ⟨hlen, h0, h1⟩)
            have H0 := Lib.hid (fun W => pb_true h0 ▸ inRange_any (gi (gr a k) 0) lo 9 W)
            have H1 := Lib.hid (fun W => pb_true h1 ▸ inRange_any (gi (gr a k) 1) lo 9 W)
            clear hlen h0 h1
            generalize gi (gr a k) 0 = x0 at *
            generalize gi (gr a k) 1 = x1 at *
            go_wp2_with (go_at_call 52; (first | (refine (H0.out _).mono ?_; rintro e w' ⟨rfl, rfl⟩; clear H0) | (refine (H1.out _).mono ?_; rintro e w' ⟨rfl, rfl⟩)))
            go_roundw
            case rel => exact ⟨k + 1, by omega, by go_num, Lib.hid (fun j hj => by
              by_cases hjk : j < k
              · exact HALL.out j hjk
              · obtain rfl : j = k := by omega
                exact HK.out), ⟨_, rfl⟩⟩
            case measure => simp [intOf]; omega
          · have HV := Lib.hid (HNO.out (fun v => h1 v.2.2))
            have H0 := Lib.hid (fun W => pb_true h0 ▸ inRange_any (gi (gr a k) 0) lo 9 W)
            have H1 := Lib.hid (fun W => pb_false h1 ▸ inRange_any (gi (gr a k) 1) lo 9 W)
            clear hlen h0 h1
            generalize gi (gr a k) 0 = x0 at *
            generalize gi (gr a k) 1 = x1 at *
            go_wp2_with (go_at_call 52; (first | (refine (H0.out _).mono ?_; rintro e w' ⟨rfl, rfl⟩; clear H0) | (refine (H1.out _).mono ?_; rintro e w' ⟨rfl, rfl⟩)))
            go_ret
            exact ⟨ret_bool HV.out.symm, ⟨_, rfl⟩⟩
        · have HV := Lib.hid (HNO.out (fun v => h0 v.2.1))
          have H0 := Lib.hid (fun W => pb_false h0 ▸ inRange_any (gi (gr a k) 0) lo 9 W)
          clear hlen h0
          generalize gi (gr a k) 0 = x0 at *
          generalize gi (gr a k) 1 = x1 at *
          go_wp2_with (go_at_call 52; refine (H0.out _).mono ?_; rintro e w' ⟨rfl, rfl⟩)
          go_ret
          exact ⟨ret_bool HV.out.symm, ⟨_, rfl⟩⟩
      · have HV := Lib.hid (HNO.out (fun v => hlen v.1))
        have hlen' : (((gr a k).length : Int) != 2) = true := by simp; omega
        clear hlen
        go_wp2
        go_ret
        exact ⟨ret_bool HV.out.symm, ⟨_, rfl⟩⟩
    · obtain rfl : k = n := by omega
      by_cases h2 : k = 2
      · subst h2
        have HV := Lib.hid (pb_true (p := V2 a lo) ⟨Lx.out, HALL.out 0 (by omega), HALL.out 1 (by omega)⟩)
        go_wp2
        go_ret
        exact ⟨ret_bool HV.out.symm, ⟨_, rfl⟩⟩
      · have HV := Lib.hid (pb_false (p := V2 a lo) fun v => h2 (by rw [← Lx.out]; exact v.1))
        have h2' : ((k : Int) == 2) = false := by simp; omega
        go_wp2
        go_ret
        exact ⟨ret_bool HV.out.symm, ⟨_, rfl⟩⟩
theorem V1_shares {xs : List Int} (h : xs.length = 2) : V1 xs 1 ↔ VS xs 2 ∧ gi xs 0 ≤ 9 ∧ gi xs 1 ≤ 9 ∧ 0 < gi xs 0 ∧ 0 < gi xs 1 := by
  unfold V1 VS InR
  rw [h]
  constructor
  · rintro ⟨_, ⟨a, b⟩, c, d⟩
    refine ⟨⟨rfl, fun j hj => ?_, ?_⟩, by omega, by omega, by omega, by omega⟩
    · have : j = 0 ∨ j = 1 := by omega
      rcases this with rfl | rfl <;> omega
    · unfold tot; rw [h]; simp only [sm]; omega
  · rintro ⟨_, a, b, c, d⟩
    omega
set_option maxHeartbeats 2000000 in
theorem validTalk_any (A1 A2 A3 A4 : Option Addr) (n1 c1 n2 c2 n3 c3 n4 c4 : Nat) (xs : List Int) (ss hs ks : List (List Int)) (w : World) (h : TkR w A1 A2 A3 A4 n1 c1 n2 c2 n3 c3 n4 c4 xs ss hs ks) :
    Calls Try.prog 47 #[.agg #[.slice A1 n1 c1, .slice A2 n2 c2, .slice A3 n3 c3, .slice A4 n4 c4]] w fun e w' => e = .returned (.bool (pb (VTk xs ss hs ks))) ∧ Below w.heap.size w w' := by
  have HT := Lib.hid (TLX.start 26 h)
  have HB := Lib.hid (below_alloc w (.cells #[.slice A1 n1 c1, .slice A2 n2 c2, .slice A3 n3 c3, .slice A4 n4 c4] 26))
  have HL := Lib.hid h.r1.len
  have hmx := h.r1.max
  clear h
  by_cases hv : VS xs 2
  rotate_left
  · have HV := Lib.hid (pb_false (p := VTk xs ss hs ks) (fun v => hv ((V1_shares v.1.1).1 v.1).1))
    have q0 := HT.out.c0
    go_enter Try.func47, Try.ntmps47
    go_wp2_with fail
    clear q0
    generalize w.alloc (.cells #[.slice A1 n1 c1, .slice A2 n2 c2, .slice A3 n3 c3, .slice A4 n4 c4] 26) = W0 at *
    refine (pb_false hv ▸ validShares_any _ _ _ _ 2 _ HT.out.r.r1 (by omega)).mono ?_
    rintro e w1 ⟨rfl, hq⟩
    have HB2 := Lib.hid (below_quiet HB.out hq)
    clear hq
    go_wp2
    go_ret
    exact ⟨ret_bool HV.out.symm, HB2.out⟩
  obtain rfl : n1 = 2 := by have := hv.1; rw [HL.out] at this; omega
  have HI := Lib.hid (V1_shares HL.out)
  obtain ⟨b, o, rfl, hc⟩ := HT.out.r.r1.at_ (by omega)
  have HC := Lib.hid hc
  clear hc
  by_cases e0 : gi xs 0 ≤ 9
  rotate_left
  · have HV := Lib.hid (pb_false (p := VTk xs ss hs ks) (fun v => e0 (HI.out.1 v.1).2.1))
    have g0 : decide (gi xs 0 ≤ 9) = false := by simpa using e0
    have q0 := HT.out.c0
    go_enter Try.func47, Try.ntmps47
    go_wp2_with fail
    clear q0
    generalize w.alloc (.cells #[.slice (some ⟨b, o, none⟩) 2 c1, .slice A2 n2 c2, .slice A3 n3 c3, .slice A4 n4 c4] 26) = W0 at *
    refine (pb_true hv ▸ validShares_any _ _ _ _ 2 _ HT.out.r.r1 (by omega)).mono ?_
    rintro e w1 ⟨rfl, hq⟩
    have d0 := Keep.quiet hq _ _ (HC.out 0 (by omega))
    have d1 := Keep.quiet hq _ _ (HC.out 1 (by omega))
    simp only [Nat.add_zero] at d0
    replace HT := Lib.hid (HT.out.up hq.below)
    replace HB := Lib.hid (below_quiet HB.out hq)
    clear hq HC
    have q0 := HT.out.c0
    generalize gi xs 0 = x0 at *
    generalize gi xs 1 = x1 at *
    go_wp2
    go_ret
    exact ⟨ret_bool HV.out.symm, HB.out⟩
  have g0 : decide (gi xs 0 ≤ 9) = true := by simpa using e0
  by_cases e1 : gi xs 1 ≤ 9
  rotate_left
  · have HV := Lib.hid (pb_false (p := VTk xs ss hs ks) (fun v => e1 (HI.out.1 v.1).2.2.1))
    have g1 : decide (gi xs 1 ≤ 9) = false := by simpa using e1
    have q0 := HT.out.c0
    go_enter Try.func47, Try.ntmps47
    go_wp2_with fail
    clear q0
    generalize w.alloc (.cells #[.slice (some ⟨b, o, none⟩) 2 c1, .slice A2 n2 c2, .slice A3 n3 c3, .slice A4 n4 c4] 26) = W0 at *
    refine (pb_true hv ▸ validShares_any _ _ _ _ 2 _ HT.out.r.r1 (by omega)).mono ?_
    rintro e w1 ⟨rfl, hq⟩
    have d0 := Keep.quiet hq _ _ (HC.out 0 (by omega))
    have d1 := Keep.quiet hq _ _ (HC.out 1 (by omega))
    simp only [Nat.add_zero] at d0
    replace HT := Lib.hid (HT.out.up hq.below)
    replace HB := Lib.hid (below_quiet HB.out hq)
    clear hq HC
    have q0 := HT.out.c0
    generalize gi xs 0 = x0 at *
    generalize gi xs 1 = x1 at *
    go_wp2
    go_ret
    exact ⟨ret_bool HV.out.symm, HB.out⟩
  have g1 : decide (gi xs 1 ≤ 9) = true := by simpa using e1
  by_cases e2 : 0 < gi xs 0
  rotate_left
  · have HV := Lib.hid (pb_false (p := VTk xs ss hs ks) (fun v => e2 (HI.out.1 v.1).2.2.2.1))
    have g2 : decide (0 < gi xs 0) = false := by simpa using e2
    have q0 := HT.out.c0
    go_enter Try.func47, Try.ntmps47
    go_wp2_with fail
    clear q0
    generalize w.alloc (.cells #[.slice (some ⟨b, o, none⟩) 2 c1, .slice A2 n2 c2, .slice A3 n3 c3, .slice A4 n4 c4] 26) = W0 at *
    refine (pb_true hv ▸ validShares_any _ _ _ _ 2 _ HT.out.r.r1 (by omega)).mono ?_
    rintro e w1 ⟨rfl, hq⟩
    have d0 := Keep.quiet hq _ _ (HC.out 0 (by omega))
    have d1 := Keep.quiet hq _ _ (HC.out 1 (by omega))
    simp only [Nat.add_zero] at d0
    replace HT := Lib.hid (HT.out.up hq.below)
    replace HB := Lib.hid (below_quiet HB.out hq)
    clear hq HC
    have q0 := HT.out.c0
    generalize gi xs 0 = x0 at *
    generalize gi xs 1 = x1 at *
    go_wp2
    go_ret
    exact ⟨ret_bool HV.out.symm, HB.out⟩
  have g2 : decide (0 < gi xs 0) = true := by simpa using e2
  by_cases e3 : 0 < gi xs 1
  rotate_left
  · have HV := Lib.hid (pb_false (p := VTk xs ss hs ks) (fun v => e3 (HI.out.1 v.1).2.2.2.2))
    have g3 : decide (0 < gi xs 1) = false := by simpa using e3
    have q0 := HT.out.c0
    go_enter Try.func47, Try.ntmps47
    go_wp2_with fail
    clear q0
    generalize w.alloc (.cells #[.slice (some ⟨b, o, none⟩) 2 c1, .slice A2 n2 c2, .slice A3 n3 c3, .slice A4 n4 c4] 26) = W0 at *
    refine (pb_true hv ▸ validShares_any _ _ _ _ 2 _ HT.out.r.r1 (by omega)).mono ?_
    rintro e w1 ⟨rfl, hq⟩
    have d0 := Keep.quiet hq _ _ (HC.out 0 (by omega))
    have d1 := Keep.quiet hq _ _ (HC.out 1 (by omega))
    simp only [Nat.add_zero] at d0
    replace HT := Lib.hid (HT.out.up hq.below)
    replace HB := Lib.hid (below_quiet HB.out hq)
    clear hq HC
    have q0 := HT.out.c0
    generalize gi xs 0 = x0 at *
    generalize gi xs 1 = x1 at *
    go_wp2
    go_ret
    exact ⟨ret_bool HV.out.symm, HB.out⟩
  have g3 : decide (0 < gi xs 1) = true := by simpa using e3
  by_cases f0 : V2 ss (-9)
  rotate_left
  · have HV := Lib.hid (pb_false (p := VTk xs ss hs ks) (fun v => f0 v.2.1))
    have q0 := HT.out.c0
    go_enter Try.func47, Try.ntmps47
    go_wp2_with fail
    clear q0
    generalize w.alloc (.cells #[.slice (some ⟨b, o, none⟩) 2 c1, .slice A2 n2 c2, .slice A3 n3 c3, .slice A4 n4 c4] 26) = W0 at *
    refine (pb_true hv ▸ validShares_any _ _ _ _ 2 _ HT.out.r.r1 (by omega)).mono ?_
    rintro e w1 ⟨rfl, hq⟩
    have d0 := Keep.quiet hq _ _ (HC.out 0 (by omega))
    have d1 := Keep.quiet hq _ _ (HC.out 1 (by omega))
    simp only [Nat.add_zero] at d0
    replace HT := Lib.hid (HT.out.up hq.below)
    replace HB := Lib.hid (below_quiet HB.out hq)
    clear hq HC
    have q0 := HT.out.c0
    have q1 := HT.out.c1
    generalize gi xs 0 = x0 at *
    generalize gi xs 1 = x1 at *
    go_wp2_with fail
    clear q0 q1 d0 d1
    refine (pb_false f0 ▸ validPlain_any _ _ _ _ (-9) _ HT.out.r.r2).mono ?_
    rintro e v0 ⟨rfl, hq⟩
    replace HT := Lib.hid (HT.out.up hq.below)
    replace HB := Lib.hid (below_quiet HB.out hq)
    clear hq
    go_wp2
    go_ret
    exact ⟨ret_bool HV.out.symm, HB.out⟩
  by_cases f1 : V2 hs (-9)
  rotate_left
  · have HV := Lib.hid (pb_false (p := VTk xs ss hs ks) (fun v => f1 v.2.2.1))
    have q0 := HT.out.c0
    go_enter Try.func47, Try.ntmps47
    go_wp2_with fail
    clear q0
    generalize w.alloc (.cells #[.slice (some ⟨b, o, none⟩) 2 c1, .slice A2 n2 c2, .slice A3 n3 c3, .slice A4 n4 c4] 26) = W0 at *
    refine (pb_true hv ▸ validShares_any _ _ _ _ 2 _ HT.out.r.r1 (by omega)).mono ?_
    rintro e w1 ⟨rfl, hq⟩
    have d0 := Keep.quiet hq _ _ (HC.out 0 (by omega))
    have d1 := Keep.quiet hq _ _ (HC.out 1 (by omega))
    simp only [Nat.add_zero] at d0
    replace HT := Lib.hid (HT.out.up hq.below)
    replace HB := Lib.hid (below_quiet HB.out hq)
    clear hq HC
    have q0 := HT.out.c0
    have q1 := HT.out.c1
    generalize gi xs 0 = x0 at *
    generalize gi xs 1 = x1 at *
    go_wp2_with fail
    clear q0 q1 d0 d1
    refine (pb_true f0 ▸ validPlain_any _ _ _ _ (-9) _ HT.out.r.r2).mono ?_
    rintro e v0 ⟨rfl, hq⟩
    replace HT := Lib.hid (HT.out.up hq.below)
    replace HB := Lib.hid (below_quiet HB.out hq)
    clear hq
    have q1 := HT.out.c2
    go_wp2_with fail
    clear q1
    refine (pb_false f1 ▸ validPlain_any _ _ _ _ (-9) _ HT.out.r.r3).mono ?_
    rintro e v1 ⟨rfl, hq⟩
    replace HT := Lib.hid (HT.out.up hq.below)
    replace HB := Lib.hid (below_quiet HB.out hq)
    clear hq
    go_wp2
    go_ret
    exact ⟨ret_bool HV.out.symm, HB.out⟩
  by_cases f2 : V2 ks 0
  rotate_left
  · have HV := Lib.hid (pb_false (p := VTk xs ss hs ks) (fun v => f2 v.2.2.2))
    have q0 := HT.out.c0
    go_enter Try.func47, Try.ntmps47
    go_wp2_with fail
    clear q0
    generalize w.alloc (.cells #[.slice (some ⟨b, o, none⟩) 2 c1, .slice A2 n2 c2, .slice A3 n3 c3, .slice A4 n4 c4] 26) = W0 at *
    refine (pb_true hv ▸ validShares_any _ _ _ _ 2 _ HT.out.r.r1 (by omega)).mono ?_
    rintro e w1 ⟨rfl, hq⟩
    have d0 := Keep.quiet hq _ _ (HC.out 0 (by omega))
    have d1 := Keep.quiet hq _ _ (HC.out 1 (by omega))
    simp only [Nat.add_zero] at d0
    replace HT := Lib.hid (HT.out.up hq.below)
    replace HB := Lib.hid (below_quiet HB.out hq)
    clear hq HC
    have q0 := HT.out.c0
    have q1 := HT.out.c1
    generalize gi xs 0 = x0 at *
    generalize gi xs 1 = x1 at *
    go_wp2_with fail
    clear q0 q1 d0 d1
    refine (pb_true f0 ▸ validPlain_any _ _ _ _ (-9) _ HT.out.r.r2).mono ?_
    rintro e v0 ⟨rfl, hq⟩
    replace HT := Lib.hid (HT.out.up hq.below)
    replace HB := Lib.hid (below_quiet HB.out hq)
    clear hq
    have q1 := HT.out.c2
    go_wp2_with fail
    clear q1
    refine (pb_true f1 ▸ validPlain_any _ _ _ _ (-9) _ HT.out.r.r3).mono ?_
    rintro e v1 ⟨rfl, hq⟩
    replace HT := Lib.hid (HT.out.up hq.below)
    replace HB := Lib.hid (below_quiet HB.out hq)
    clear hq
    have q1 := HT.out.c3
    go_wp2_with fail
    clear q1
    refine (pb_false f2 ▸ validPlain_any _ _ _ _ 0 _ HT.out.r.r4).mono ?_
    rintro e v2 ⟨rfl, hq⟩
    replace HT := Lib.hid (HT.out.up hq.below)
    replace HB := Lib.hid (below_quiet HB.out hq)
    clear hq
    go_wp2
    go_ret
    exact ⟨ret_bool HV.out.symm, HB.out⟩
  have HV := Lib.hid (pb_true (p := VTk xs ss hs ks) ⟨HI.out.2 ⟨hv, e0, e1, e2, e3⟩, f0, f1, f2⟩)
  have q0 := HT.out.c0
  go_enter Try.func47, Try.ntmps47
  go_wp2_with fail
  clear q0
  generalize w.alloc (.cells #[.slice (some ⟨b, o, none⟩) 2 c1, .slice A2 n2 c2, .slice A3 n3 c3, .slice A4 n4 c4] 26) = W0 at *
  refine (pb_true hv ▸ validShares_any _ _ _ _ 2 _ HT.out.r.r1 (by omega)).mono ?_
  rintro e w1 ⟨rfl, hq⟩
  have d0 := Keep.quiet hq _ _ (HC.out 0 (by omega))
  have d1 := Keep.quiet hq _ _ (HC.out 1 (by omega))
  simp only [Nat.add_zero] at d0
  replace HT := Lib.hid (HT.out.up hq.below)
  replace HB := Lib.hid (below_quiet HB.out hq)
  clear hq HC
  have q0 := HT.out.c0
  have q1 := HT.out.c1
  generalize gi xs 0 = x0 at *
  generalize gi xs 1 = x1 at *
  go_wp2_with fail
  clear q0 q1 d0 d1
  refine (pb_true f0 ▸ validPlain_any _ _ _ _ (-9) _ HT.out.r.r2).mono ?_
  rintro e v0 ⟨rfl, hq⟩
  replace HT := Lib.hid (HT.out.up hq.below)
  replace HB := Lib.hid (below_quiet HB.out hq)
  clear hq
  have q1 := HT.out.c2
  go_wp2_with fail
  clear q1
  refine (pb_true f1 ▸ validPlain_any _ _ _ _ (-9) _ HT.out.r.r3).mono ?_
  rintro e v1 ⟨rfl, hq⟩
  replace HT := Lib.hid (HT.out.up hq.below)
  replace HB := Lib.hid (below_quiet HB.out hq)
  clear hq
  have q1 := HT.out.c3
  go_wp2_with fail
  clear q1
  refine (pb_true f2 ▸ validPlain_any _ _ _ _ 0 _ HT.out.r.r4).mono ?_
  rintro e v2 ⟨rfl, hq⟩
  replace HT := Lib.hid (HT.out.up hq.below)
  replace HB := Lib.hid (below_quiet HB.out hq)
  clear hq
  go_wp2
  go_ret
  exact ⟨ret_bool HV.out.symm, HB.out⟩
theorem ValidTalk_spec (A1 A2 A3 A4 : Option Addr) (n1 c1 n2 c2 n3 c3 n4 c4 : Nat) (xs : List Int) (ss hs ks : List (List Int)) (w : World) (h : TkR w A1 A2 A3 A4 n1 c1 n2 c2 n3 c3 n4 c4 xs ss hs ks) :
    Calls Try.prog 16 #[.agg #[.slice A1 n1 c1, .slice A2 n2 c2, .slice A3 n3 c3, .slice A4 n4 c4]] w fun e w' => e = .returned (.bool (pb (VTk xs ss hs ks))) ∧ Below w.heap.size w w' := by
  go_enter Try.func16, Try.ntmps16
  go_wp2_with fail
  have hb0 := below_alloc w (.cells #[.slice A1 n1 c1, .slice A2 n2 c2, .slice A3 n3 c3, .slice A4 n4 c4] 26)
  have q0 := (TLX.start 26 h).c0
  have q1 := (TLX.start 26 h).c1
  have q2 := (TLX.start 26 h).c2
  have q3 := (TLX.start 26 h).c3
  have HB := Lib.hid hb0
  have H := Lib.hid (h.keep (Keep.below hb0))
  clear h hb0
  generalize w.alloc (.cells #[.slice A1 n1 c1, .slice A2 n2 c2, .slice A3 n3 c3, .slice A4 n4 c4] 26) = W0 at *
  refine (validTalk_any A1 A2 A3 A4 n1 c1 n2 c2 n3 c3 n4 c4 xs ss hs ks W0 H.out).mono ?_
  rintro e w1 ⟨rfl, hb⟩
  have HB2 := Lib.hid (below_up HB.out hb)
  clear hb q0 q1 q2 q3
  go_wp2
  go_ret
  exact ⟨rfl, HB2.out⟩

end Go.Proofs.Ytcjanlbhgfadpaa

