/- Texts merged: F1 EqF Y8a Math2 Pl1 Math19 Z1 Z2 Z3 W1 W2 W3 K1 K4 Math25 Y1 FU Mix W4 W5 B3 B5 D1 D3 C1. -/
import Derived.Test.YtjkmgpiiamffgaaQ4
import Derived.Deep.RegionLaw
/- The harness of the exact laws, for slices of fractions. -/
namespace Go.Proofs.Ytjkmgpiiamffgaa
open Go.RowKit

/-- A slice of fractions whose cells read as ints, two each. -/
structure Frs (w : World) (A : Option Addr) (n c : Nat) (L : List Int) : Prop where
  len : L.length = 2 * n
  cap : n ≤ c
  max : n ≤ 1000
  at_ : 0 < n → ∃ b o, A = some ⟨b, o, none⟩ ∧ ∀ k, k < 2 * n → w.cell? ⟨b, o + k, none⟩ = some (.int .i64 (gi L k))
theorem Frs.keep {w w' : World} {A n c L} (h : Frs w A n c L) (k : Keep w w') : Frs w' A n c L :=
  ⟨h.len, h.cap, h.max, fun hn => let ⟨b, o, e, hc⟩ := h.at_ hn; ⟨b, o, e, fun i hi => k _ _ (hc i hi)⟩⟩
structure OwnF (lo hi : Nat) (w : World) (b : Nat) (A : Option Addr) (n c : Nat) (L : List Int) : Prop where
  frs : Frs w A n c L
  own : 0 < n → ∃ o, A = some ⟨b, o, none⟩ ∧ lo ≤ b ∧ b < hi ∧ ∀ k, k < 2 * n → w.frozen? ⟨b, o + k, none⟩ = false
theorem OwnF.lt {lo hi w b A n c L} (h : OwnF lo hi w b A n c L) (hn : 0 < n) : b < w.heap.size := by
  obtain ⟨b', o', e, hc⟩ := h.frs.at_ hn
  obtain ⟨o, e', _⟩ := h.own hn
  rw [e] at e'
  injection e' with e'
  injection e' with e1 _ _
  rw [← e1]
  exact World.block_lt_of_cell? w _ (hc 0 (by omega))
theorem OwnF.of_block {lo hi w w' b A n c L} (h : OwnF lo hi w b A n c L) (e : 0 < n → w'.heap[b]? = w.heap[b]?) : OwnF lo hi w' b A n c L := by
  refine ⟨⟨h.frs.len, h.frs.cap, h.frs.max, fun hn => ?_⟩, fun hn => ?_⟩
  · obtain ⟨b', o', e1, hc⟩ := h.frs.at_ hn
    obtain ⟨o, e2, _⟩ := h.own hn
    rw [e1] at e2
    injection e2 with e2
    injection e2 with e2 _ _
    subst e2
    exact ⟨b', o', e1, fun k hk => by rw [World.cell?_of_block (w := w) (e hn)]; exact hc k hk⟩
  · obtain ⟨o, e2, hB, hB2, hf⟩ := h.own hn
    exact ⟨o, e2, hB, hB2, fun k hk => by rw [World.frozen?_of_block (w := w) (e hn)]; exact hf k hk⟩
theorem OwnF.mono {lo hi lo' hi' w b A n c L} (h : OwnF lo hi w b A n c L) (hB : lo' ≤ lo) (hB' : hi ≤ hi') : OwnF lo' hi' w b A n c L :=
  ⟨h.frs, fun hn => let ⟨o, e, h1, h2, h3⟩ := h.own hn; ⟨o, e, Nat.le_trans hB h1, Nat.lt_of_lt_of_le h2 hB', h3⟩⟩
theorem OwnF.below {lo hi w w' b A n c L} (h : OwnF lo hi w b A n c L) (k : Below w.heap.size w w') : OwnF lo hi w' b A n c L := h.of_block fun hn => k.block _ (h.lt hn)
theorem OwnF.touch {lo hi lo' hi' w w' b A n c L} (h : OwnF lo hi w b A n c L) (k : Touch lo' hi' w w') (hd : hi ≤ lo' ∨ hi' ≤ lo) : OwnF lo hi w' b A n c L :=
  h.of_block fun hn => k.block _ (by obtain ⟨_, _, h1, h2, _⟩ := h.own hn; omega)
theorem OwnF.one {lo hi g w w' b A n c L} (h : OwnF lo hi w b A n c L) (k : One g w w') (hne : b ≠ g) : OwnF lo hi w' b A n c L := h.of_block fun _ => k.block b hne
theorem OwnF.nil (lo hi : Nat) (w : World) (b : Nat) : OwnF lo hi w b none 0 0 [] :=
  ⟨⟨rfl, Nat.le_refl _, by omega, fun h => absurd h (by omega)⟩, fun h => absurd h (by omega)⟩
theorem OwnF.set {lo hi w b o n c L} (h : OwnF lo hi w b (some ⟨b, o, none⟩) n c L) {i : Nat} (hi' : i < 2 * n) (v : Int) :
    OwnF lo hi (w.setCell ⟨b, o + i, none⟩ (.int .i64 v)) b (some ⟨b, o, none⟩) n c (L.set i v) := by
  have hl := h.frs.len
  obtain ⟨o', e, h1, h2, hf⟩ := h.own (by omega)
  injection e with e
  injection e with _ e _
  subst e
  obtain ⟨b', o', e, hc⟩ := h.frs.at_ (by omega)
  injection e with e
  injection e with e1 e2 _
  subst e1
  subst e2
  refine ⟨⟨by rw [List.length_set]; exact hl, h.frs.cap, h.frs.max, fun _ => ⟨b, o, rfl, fun k hk => ?_⟩⟩, fun _ => ⟨o, rfl, h1, h2, fun k hk => ?_⟩⟩
  · by_cases e : k = i
    · subst e
      rw [gi_set_eq (by omega), World.cell?_setCell_same w _ _ (hc k hk)]
    · rw [gi_set_ne (by omega) e, World.cell?_setCell_other w _ _ _ (fun e' => by injection e' with _ e' _; omega)]
      exact hc k hk
  · rw [World.frozen?_setCell]; exact hf k hk
/-- A new slice of fractions. -/
def NewF (w : World) (L : List Int) (e : Ending) (w' : World) : Prop :=
  ∃ Av n c gg, e = .returned (.slice Av n c) ∧ L.length = 2 * n ∧ OwnF w.heap.size w'.heap.size w' gg Av n c L ∧ Below w.heap.size w w'
theorem NewF.ge {w w' : World} {L : List Int} {e : Ending} (h : NewF w L e w') :
    ∃ Av c gg, e = .returned (.slice Av (L.length / 2) c) ∧ OwnF w.heap.size w'.heap.size w' gg Av (L.length / 2) c L ∧ w.heap.size ≤ gg ∧ Below w.heap.size w w' := by
  obtain ⟨Av, n, c, gg, rfl, hn, ho, hb⟩ := h
  obtain rfl : n = L.length / 2 := by omega
  by_cases h0 : 0 < L.length / 2
  · obtain ⟨o, e, h1, h2, hf⟩ := ho.own h0
    exact ⟨Av, c, gg, rfl, ho, h1, hb⟩
  · exact ⟨Av, c, w.heap.size, rfl, ⟨ho.frs, fun hn => absurd hn h0⟩, Nat.le_refl _, hb⟩

theorem NewF.geN {w w' : World} {L : List Int} {e : Ending} {N : Nat} (h : NewF w L e w') (hN : L.length = 2 * N) :
    ∃ Av c gg, e = .returned (.slice Av N c) ∧ OwnF w.heap.size w'.heap.size w' gg Av N c L ∧ w.heap.size ≤ gg ∧ Below w.heap.size w w' := by
  have := h.ge
  rw [show L.length / 2 = N by omega] at this
  exact this


def MarkedF (lo hi : Nat) (w : World) (b : Nat) (A : Option Addr) (n c : Nat) (k : Int) (e : Ending) (w' : World) : Prop :=
  e = .returned (.int .i64 (k + (2 * n : Nat))) ∧ OwnF lo hi w' b A n c (seqI k (2 * n)) ∧ (n = 0 → w = w') ∧ One b w w'


end Go.Proofs.Ytjkmgpiiamffgaa

/- Lists of fractions compared. -/
namespace Go.Proofs.Ytjkmgpiiamffgaa
open Go.RowKit

end Go.Proofs.Ytjkmgpiiamffgaa

/- A region that ends in one frame, whatever the order: walked on once. -/
namespace Go.Proofs.Ytjkmgpiiamffgaa
open Go.RowKit

/-- At the end of a region: one frame, and F of the world. -/
def OnceQ (b : Act) (F : World → Prop) : Exit → Act → World → Prop
  | .normal, b', v => b' = b ∧ F v
  | _, _, _ => False
theorem OnceQ.mk {b b' : Act} {F : World → Prop} {v : World} (h : b' = b) (f : F v) : OnceQ b F .normal b' v := ⟨h, f⟩
/-- A region that ends in one frame, whatever the order: what follows is walked once. -/
theorem region_once {P : Program} {c : Code} {Q : Exit → Act → World → Prop} {a : Act} {w : World} (F : World → Prop) {b : Act} (h : c.wp P (OnceQ b F) a w) (k : ∀ v, F v → Q .normal b v) : c.wp P Q a w :=
  Code.wp_mono (fun e b' v h => by
    cases e <;> first | exact (h : False).elim | (obtain ⟨rfl, hf⟩ := (h : b' = b ∧ F v); exact k v hf)) h
end Go.Proofs.Ytjkmgpiiamffgaa

/- The greatest of a row; rests by the greatest of a column and of a row. -/
namespace Go.Proofs.Ytjkmgpiiamffgaa
def mx (xs : List Int) : Nat → Int
  | 0 => gi xs 0
  | k + 1 => max (mx xs k) (gi xs (k + 1))
def mxl (xs : List Int) : Int := mx xs (xs.length - 1)
theorem mx_ge (xs : List Int) : ∀ {k j : Nat}, j ≤ k → gi xs j ≤ mx xs k
  | 0, j, h => by obtain rfl : j = 0 := by omega
                  exact Int.le_refl _
  | k + 1, j, h => by
    simp only [mx]
    by_cases e : j = k + 1
    · subst e; omega
    · have := mx_ge xs (k := k) (j := j) (by omega); omega
theorem mx_at (xs : List Int) : ∀ k, ∃ j, j ≤ k ∧ gi xs j = mx xs k
  | 0 => ⟨0, Nat.le_refl _, rfl⟩
  | k + 1 => by
    obtain ⟨j, hj, e⟩ := mx_at xs k
    by_cases h : gi xs (k + 1) ≤ mx xs k
    · exact ⟨j, by omega, by simp only [mx]; omega⟩
    · exact ⟨k + 1, Nat.le_refl _, by simp only [mx]; omega⟩
theorem mxl_iff {xs : List Int} {j : Nat} (h : j < xs.length) : gi xs j = mxl xs ↔ ∀ k, k < xs.length → gi xs k ≤ gi xs j := by
  constructor
  · intro e k hk
    rw [e]
    exact mx_ge xs (by omega)
  · intro hall
    obtain ⟨i, hi, e⟩ := mx_at xs (xs.length - 1)
    have h1 := hall i (by omega)
    have h2 := mx_ge xs (k := xs.length - 1) (j := j) (by omega)
    unfold mxl
    omega
end Go.Proofs.Ytjkmgpiiamffgaa

/- Fractions of whole numbers; one alone is a share; the pure rests. Plain. -/
namespace Go.Proofs.Ytjkmgpiiamffgaa

theorem fr_one (u : Int) : frU u 1 = u ∧ frD u 1 = 1 := by
  have g : gcdI u 1 = 1 := by unfold gcdI; simp
  unfold frU frD; rw [g]; simp
theorem frV_one (u : Int) : frV u 1 = .agg #[.int .i64 u, .int .i64 1] := by unfold frV; rw [(fr_one u).1, (fr_one u).2]
theorem onl_VS {n i : Nat} (hi : i < n) : VS (onl n i) n :=
  ⟨by rw [onl_len], fun j hj => by rw [onl_len] at hj; have := onl_bd (n := n) (i := i) hj; exact ⟨this.1, by omega⟩, by rw [tot_onl hi]; omega⟩
theorem rowRests_mem {a b : List (List Int)} {n m i : Nat} {r : List Int} : ∀ {j : Nat}, r ∈ rowRests a b n m i j ↔ ∃ l, l < j ∧ r = [(i : Int), (l : Int)] ∧ RestAt a b n m i l
  | 0 => by simp [rowRests]
  | j + 1 => by
    rw [rowRests, List.mem_append, rowRests_mem]
    constructor
    · rintro (⟨l, h1, h2⟩ | h)
      · exact ⟨l, by omega, h2⟩
      · split at h
        · rename_i hp
          simp only [List.mem_singleton] at h
          exact ⟨j, by omega, h, pb_iff.1 hp⟩
        · simp at h
    · rintro ⟨l, h1, h2, h3⟩
      by_cases e : l = j
      · subst e
        right
        rw [if_pos (pb_true h3), h2]; simp
      · exact .inl ⟨l, by omega, h2, h3⟩
theorem allRests_mem {a b : List (List Int)} {n m : Nat} {r : List Int} : ∀ {i : Nat}, r ∈ allRests a b n m i ↔ ∃ k l, k < i ∧ l < m ∧ r = [(k : Int), (l : Int)] ∧ RestAt a b n m k l
  | 0 => by simp [allRests]
  | i + 1 => by
    rw [allRests, List.mem_append, allRests_mem, rowRests_mem]
    constructor
    · rintro (⟨k, l, h1, h2⟩ | ⟨l, h2⟩)
      · exact ⟨k, l, by omega, h2⟩
      · exact ⟨i, l, by omega, h2⟩
    · rintro ⟨k, l, h1, h2⟩
      by_cases e : k = i
      · subst e; exact .inr ⟨l, h2⟩
      · exact .inl ⟨k, l, by omega, h2⟩
end Go.Proofs.Ytjkmgpiiamffgaa

/- Sums of a row with shares. -/
namespace Go.Proofs.Ytjkmgpiiamffgaa

/-- What row i has against shares: the terms, and the sum of the first j of them. -/
def dotr (a : List (List Int)) (w : List Int) (i : Nat) : Nat → Int
  | 0 => 0
  | j + 1 => dotr a w i j + g2 a i j * gi w j
def termL (a : List (List Int)) (w : List Int) (i : Nat) : Nat → List Int
  | 0 => []
  | j + 1 => termL a w i j ++ [g2 a i j * gi w j]
theorem termL_len (a : List (List Int)) (w : List Int) (i : Nat) : ∀ j, (termL a w i j).length = j
  | 0 => rfl
  | j + 1 => by rw [termL, List.length_append, termL_len a w i j]; rfl
theorem termL_tot (a : List (List Int)) (w : List Int) (i : Nat) : ∀ j, tot (termL a w i j) = dotr a w i j
  | 0 => rfl
  | j + 1 => by rw [termL, tot_snoc, termL_tot a w i j, dotr]
theorem termL_bd {a : List (List Int)} {w : List Int} {i m : Nat} (ha : ∀ j, j < m → -9 ≤ g2 a i j ∧ g2 a i j ≤ 9) (hw : ∀ j, j < m → 0 ≤ gi w j ∧ gi w j ≤ 1000) :
    ∀ {j}, j ≤ m → ∀ t ∈ termL a w i j, -9000 ≤ t ∧ t ≤ 9000
  | 0, _, t, h => by simp [termL] at h
  | j + 1, hj, t, h => by
    rw [termL, List.mem_append] at h
    rcases h with h | h
    · exact termL_bd ha hw (j := j) (by omega) t h
    · simp only [List.mem_singleton] at h; subst h
      exact mul_bd3 (hw j (by omega)) (ha j (by omega))
theorem dotr_bd {a : List (List Int)} {w : List Int} {i m : Nat} (ha : ∀ j, j < m → -9 ≤ g2 a i j ∧ g2 a i j ≤ 9) (hw : ∀ j, j < m → 0 ≤ gi w j ∧ gi w j ≤ 1000) :
    ∀ {j}, j ≤ m → -9000 * (j : Int) ≤ dotr a w i j ∧ dotr a w i j ≤ 9000 * (j : Int)
  | 0, _ => by simp [dotr]
  | j + 1, hj => by
    have h1 := dotr_bd ha hw (j := j) (by omega)
    have h2 := mul_bd3 (hw j (by omega)) (ha j (by omega))
    simp only [dotr]
    omega
/-- .. against one strategy alone: a number of the table. -/
theorem dotr_onl (a : List (List Int)) (n i k : Nat) : ∀ {j}, j ≤ n → dotr a (onl n k) i j = if k < j then g2 a i k else 0
  | 0, _ => by simp [dotr]
  | j + 1, h => by
    rw [dotr, dotr_onl a n i k (j := j) (by omega), gi_onl (by omega)]
    by_cases e : j = k
    · subst e; rw [if_neg (by omega), if_pos rfl, if_pos (by omega)]; simp
    · rw [if_neg e]
      by_cases h2 : k < j
      · rw [if_pos h2, if_pos (by omega)]; simp
      · rw [if_neg h2, if_neg (by omega)]; simp
theorem dotr_alone (a : List (List Int)) (n i k : Nat) (hk : k < n) : dotr a (onl n k) i n = g2 a i k := by
  rw [dotr_onl a n i k (Nat.le_refl n), if_pos hk]
theorem payR_row (a : List (List Int)) (w : List Int) (n i k : Nat) (hk : k < n) : ∀ j, payR a (onl n i) w k j = if k = i then dotr a w i j else 0
  | 0 => by simp [payR, dotr]
  | j + 1 => by
    rw [payR, payR_row a w n i k hk j, gi_onl hk, dotr]
    by_cases e : k = i
    · subst e; rw [if_pos rfl, if_pos rfl, if_pos rfl, Int.one_mul, Int.mul_comm (gi w j)]
    · rw [if_neg e, if_neg e, if_neg e]; simp
theorem payU_row (a : List (List Int)) (w : List Int) (n m i : Nat) : ∀ {k}, k ≤ n → payU a (onl n i) w m k = if i < k then dotr a w i m else 0
  | 0, _ => by simp [payU]
  | k + 1, h => by
    rw [payU, payU_row a w n m i (k := k) (by omega), payR_row a w n i k (by omega)]
    by_cases e : k = i
    · subst e; rw [if_neg (by omega), if_pos rfl, if_pos (by omega)]; simp
    · rw [if_neg e]
      by_cases h2 : i < k
      · rw [if_pos h2, if_pos (by omega)]; simp
      · rw [if_neg h2, if_neg (by omega)]; simp
/-- The model's sum with one strategy alone is that of its row. -/
theorem payU_alone (a : List (List Int)) (w : List Int) (n m i : Nat) (hi : i < n) : payU a (onl n i) w m n = dotr a w i m := by
  rw [payU_row a w n m i (Nat.le_refl n), if_pos hi]
end Go.Proofs.Ytjkmgpiiamffgaa

/- Squares, by both programs. -/
namespace Go.Proofs.Ytjkmgpiiamffgaa
open Go.RowKit

/-- A valid table with as many rows as columns. -/
def VQ (a : List (List Int)) : Prop := VT a ∧ a.length = (gr a 0).length

set_option maxHeartbeats 400000 in
theorem validSquare_any (A : Option Addr) (n c : Nat) (a : List (List Int)) (w : World) (hx : IntRows w A n c a) :
    Calls Try.prog 76 #[.slice A n c] w fun e w' => e = .returned (.bool (pb (VQ a))) ∧ Quiet w w' := by
  have hl := hx.len
  by_cases hv : VT a
  · have h1 := hv.n1
    obtain ⟨b, o, rfl, hc⟩ := hx.at_ (by omega)
    obtain ⟨R, cc, h0, -⟩ := hc 0 (by omega)
    simp only [Nat.add_zero] at h0
    have H0 := Lib.hid h0
    have HC := Lib.hid (pb_true hv ▸ validTable_any _ n c a w hx)
    have hn : 0 < n := by omega
    by_cases hs : a.length = (gr a 0).length
    · rw [pb_true (p := VQ a) ⟨hv, hs⟩]
      have hm : (gr a 0).length = n := by omega
      rw [hm] at H0
      clear hm hs hc h0 hv hx h1 hl
      go_enter Try.func76, Try.ntmps76
      go_wp2_with fail
      refine HC.out.mono ?_
      rintro e w1 ⟨rfl, hq⟩
      have h0 := Keep.quiet hq _ _ H0.out
      go_wp2
      go_ret
      exact ⟨rfl, hq⟩
    · rw [pb_false (p := VQ a) (fun h => hs h.2)]
      have hm : ¬ n = (gr a 0).length := by omega
      clear hs hc h0 hv hx h1 hl
      generalize (gr a 0).length = m at *
      have hz : ((n : Int) == (m : Int)) = false := by rw [beq_eq_false_iff_ne]; omega
      go_enter Try.func76, Try.ntmps76
      go_wp2_with fail
      refine HC.out.mono ?_
      rintro e w1 ⟨rfl, hq⟩
      have h0 := Keep.quiet hq _ _ H0.out
      go_wp2
      go_ret
      exact ⟨rfl, hq⟩
  · rw [pb_false (p := VQ a) (fun h => hv h.1)]
    have HC := Lib.hid (pb_false hv ▸ validTable_any A n c a w hx)
    clear hv hx hl
    go_enter Try.func76, Try.ntmps76
    go_wp2_with fail
    refine HC.out.mono ?_
    rintro e w1 ⟨rfl, hq⟩
    go_wp2
    go_ret
    exact ⟨rfl, hq⟩

set_option maxHeartbeats 400000 in
theorem ValidSquare_impl (A : Option Addr) (n c : Nat) (a : List (List Int)) (w : World) (hx : IntRows w A n c a) :
    Calls Try.prog 99 #[.slice A n c] w fun e w' => e = .returned (.bool (pb (VQ a))) ∧ Quiet w w' := by
  have hl := hx.len
  by_cases hv : VT a
  · have h1 := hv.n1
    obtain ⟨b, o, rfl, hc⟩ := hx.at_ (by omega)
    obtain ⟨R, cc, h0, -⟩ := hc 0 (by omega)
    simp only [Nat.add_zero] at h0
    have H0 := Lib.hid h0
    have HC := Lib.hid (pb_true hv ▸ ValidTable_impl _ n c a w hx)
    have hn : 0 < n := by omega
    by_cases hs : a.length = (gr a 0).length
    · rw [pb_true (p := VQ a) ⟨hv, hs⟩]
      have hm : (gr a 0).length = n := by omega
      rw [hm] at H0
      clear hm hs hc h0 hv hx h1 hl
      go_enter Try.func99, Try.ntmps99
      go_wp2_with fail
      refine HC.out.mono ?_
      rintro e w1 ⟨rfl, hq⟩
      have h0 := Keep.quiet hq _ _ H0.out
      go_wp2
      go_ret
      exact ⟨rfl, hq⟩
    · rw [pb_false (p := VQ a) (fun h => hs h.2)]
      have hm : ¬ n = (gr a 0).length := by omega
      clear hs hc h0 hv hx h1 hl
      generalize (gr a 0).length = m at *
      have hz : ((n : Int) == (m : Int)) = false := by rw [beq_eq_false_iff_ne]; omega
      go_enter Try.func99, Try.ntmps99
      go_wp2_with fail
      refine HC.out.mono ?_
      rintro e w1 ⟨rfl, hq⟩
      have h0 := Keep.quiet hq _ _ H0.out
      go_wp2
      go_ret
      exact ⟨rfl, hq⟩
  · rw [pb_false (p := VQ a) (fun h => hv h.1)]
    have HC := Lib.hid (pb_false hv ▸ ValidTable_impl A n c a w hx)
    clear hv hx hl
    go_enter Try.func99, Try.ntmps99
    go_wp2_with fail
    refine HC.out.mono ?_
    rintro e w1 ⟨rfl, hq⟩
    go_wp2
    go_ret
    exact ⟨rfl, hq⟩
end Go.Proofs.Ytjkmgpiiamffgaa

/- When one strategy holds against another one, by the model. -/
namespace Go.Proofs.Ytjkmgpiiamffgaa
open Go.RowKit

/-- Strategy i holds against j: more against i, or as much, and more against j. -/
def HoldP (a : List (List Int)) (i j : Nat) : Prop := g2 a j i < g2 a i i ∨ g2 a i i = g2 a j i ∧ g2 a j j < g2 a i j

end Go.Proofs.Ytjkmgpiiamffgaa

/- Stable strategies, by the model. -/
namespace Go.Proofs.Ytjkmgpiiamffgaa
open Go.RowKit

/-- Strategy i holds against all others before number l. -/
def StP (a : List (List Int)) (i l : Nat) : Prop := ∀ j, j < l → i = j ∨ HoldP a i j
theorem StP.zero (a : List (List Int)) (i : Nat) : StP a i 0 := fun _ h => absurd h (by omega)
theorem StP.succ {a : List (List Int)} {i l : Nat} : StP a i (l + 1) ↔ StP a i l ∧ (i = l ∨ HoldP a i l) := by
  constructor
  · exact fun h => ⟨fun j hj => h j (by omega), h l (by omega)⟩
  · rintro ⟨h1, h2⟩ j hj
    by_cases e : j = l
    · subst e; exact h2
    · exact h1 j (by omega)
/-- The strategies before number k that hold against all n. -/
noncomputable def stL (a : List (List Int)) (n : Nat) : Nat → List Int
  | 0 => []
  | k + 1 => stL a n k ++ (if pb (StP a k n) = true then [(k : Int)] else [])
theorem stL_yes {a : List (List Int)} {n k : Nat} (h : StP a k n) : stL a n (k + 1) = stL a n k ++ [(k : Int)] := by rw [stL, if_pos (pb_true h)]
theorem stL_no {a : List (List Int)} {n k : Nat} (h : ¬ StP a k n) : stL a n (k + 1) = stL a n k := by rw [stL, if_neg (by rw [pb_false h]; decide), List.append_nil]
theorem stL_len (a : List (List Int)) (n : Nat) : ∀ k, (stL a n k).length ≤ k
  | 0 => by simp [stL]
  | k + 1 => by
    have := stL_len a n k
    rw [stL, List.length_append]
    split <;> simp <;> omega
theorem stL_bd (a : List (List Int)) (n : Nat) : ∀ k, ∀ y ∈ stL a n k, 0 ≤ y ∧ y < (k : Int)
  | 0, y, h => by simp [stL] at h
  | k + 1, y, h => by
    rw [stL, List.mem_append] at h
    rcases h with h | h
    · have := stL_bd a n k y h; omega
    · split at h
      · simp only [List.mem_singleton] at h; omega
      · simp at h
/-- What StableOf answers. -/
noncomputable def stF (a : List (List Int)) : List Int := if pb (VQ a) = true then stL a a.length a.length else []
theorem NewI.quiet {w w1 w' : World} {ys : List Int} {e : Ending} (h : Quiet w w1) (k : NewI w1 ys e w') : NewI w ys e w' := by
  obtain ⟨m, rfl⟩ := h
  obtain ⟨A, n, c, g, e1, e2, ho, hb⟩ := k
  exact ⟨A, n, c, g, e1, e2, ho, ⟨hb.os, hb.tape, hb.output, hb.size, hb.block⟩⟩
theorem IU.quiet {wb v ys w w'} (h : IU wb v ys w) (k : Quiet w w') : IU wb v ys w' := h.next k.below

end Go.Proofs.Ytjkmgpiiamffgaa

/- Rows that are appended to in their places of a made slice; a part of a table, by the program. -/
namespace Go.Proofs.Ytjkmgpiiamffgaa
open Go.RowKit

/-- A made slice of k rows, of which the first i are done, row i is under way, and the others are nil. -/
structure PU (wb : World) (k H i : Nat) (vs : Nat → Value) (xss : List (List Int)) (v : Value) (ys : List Int) (w : World) : Prop where
  top : w.rowIs wb.heap.size 30 k vs
  cur : i < k → vs i = v
  rest : ∀ p, i < p → p < k → vs p = .slice none 0 0
  ex : ∃ (G : Nat → Nat) (R : Nat → Option Addr) (C : Nat → Nat), (∀ p, p < i → vs p = .slice (R p) (gr xss p).length (C p) ∧ OwnI (wb.heap.size + 1) H w (G p) (R p) (gr xss p).length (C p) (gr xss p)) ∧
    ∀ j p, j < p → p < i → 0 < (gr xss j).length → 0 < (gr xss p).length → G j ≠ G p
  len : xss.length = i
  bi : BldI H w.heap.size w v ys
  lh : wb.heap.size + 1 ≤ H
  hs : H ≤ w.heap.size
  up : Below wb.heap.size wb w
theorem PU.start (wb : World) (k : Nat) : PU wb k (wb.heap.size + 1) 0 (fun _ => .slice none 0 0) [] (.slice none 0 0) [] (wb.alloc (.cells (madeCells #[.slice none 0 0] k) 30)) :=
  ⟨World.rowIs_made wb (.slice none 0 0) k 30, fun _ => rfl, fun _ _ _ => rfl, ⟨fun _ => 0, fun _ => none, fun _ => 0, fun p hp => absurd hp (by omega), fun j p _ hp => absurd hp (by omega)⟩, rfl, BldI.nil _ _ _, Nat.le_refl _, by simp, below_alloc _ _⟩
theorem PU.below {wb k H i vs xss v ys w w'} (h : PU wb k H i vs xss v ys w) (q : Below w.heap.size w w') : PU wb k H i vs xss v ys w' := by
  obtain ⟨G, R, C, h1, h2⟩ := h.ex
  have hz := q.size
  have hhs := h.hs
  exact ⟨h.top.of_block (q.block _ h.top.lt), h.cur, h.rest, ⟨G, R, C, fun p hp => ⟨(h1 p hp).1, (h1 p hp).2.below q⟩, h2⟩, h.len, (h.bi.below q).mono hz, h.lh, by omega, below_up h.up q⟩
theorem PU.qu {wb k H i vs xss v ys w w'} (h : PU wb k H i vs xss v ys w) (q : Quiet w w') : PU wb k H i vs xss v ys w' := h.below q.below
theorem PU.cell {wb k H i vs xss v ys w} (h : PU wb k H i vs xss v ys w) (hi : i < k) : w.cell? ⟨wb.heap.size, i, none⟩ = some v := by rw [h.top.cell hi, h.cur hi]
/-- Behind the append, before the store. -/
theorem PU.mid {wb k H i vs xss v ys w w2 w1} (h : PU wb k H i vs xss v ys w) (hb : Below w.heap.size w w2) (hgrow : w2.grownBy w1 v.ownBlock) :
    (∀ g, g < H → w1.heap[g]? = w.heap[g]?) ∧ Below wb.heap.size wb w1 ∧ w.heap.size ≤ w1.heap.size := by
  have hu : ∀ g, v.ownBlock = some g → H ≤ g := fun g hg => (h.bi.own.lt g hg).1
  have hz := hb.size
  have hz2 := hgrow.size
  have hhs := h.hs
  have hlh := h.lh
  have hbl : ∀ g, g < H → w1.heap[g]? = w.heap[g]? := fun g hg => (hgrow.block g (by omega) (fun e => by have := hu g e.symm; omega)).trans (hb.block g (by omega))
  refine ⟨hbl, ?_, by omega⟩
  exact (below_up h.up hb).grown hgrow (by have := h.up.size; omega) fun g hg => by have := hu g hg; omega
theorem PU.mid_cell {wb k H i vs xss v ys w w2 w1} (h : PU wb k H i vs xss v ys w) (hi : i < k) (hb : Below w.heap.size w w2) (hgrow : w2.grownBy w1 v.ownBlock) :
    w1.cell? ⟨wb.heap.size, i, none⟩ = some v ∧ w1.frozen? ⟨wb.heap.size, i, none⟩ = false := by
  have hlh := h.lh
  have h1 := h.top.of_block ((h.mid hb hgrow).1 _ (by omega))
  exact ⟨by rw [h1.cell hi, h.cur hi], h1.frozen i⟩
theorem PU.push {wb k H i vs xss v ys w w2 w1 x} {gg cap : Nat} (h : PU wb k H i vs xss v ys w) (_ : i < k) (hb : Below w.heap.size w w2)
    (hown : w1.ownsRow H 3 1 (.slice (some ⟨gg, 0, none⟩) (ys.length + 1) cap) (ys.length + 1) (ys.map iv ++ [iv x])) (hgrow : w2.grownBy w1 v.ownBlock) (hlt : gg < w1.heap.size) :
    PU wb k H i (fun j => if j = i then .slice (some ⟨gg, 0, none⟩) (ys.length + 1) cap else vs j) xss (.slice (some ⟨gg, 0, none⟩) (ys.length + 1) cap) (ys ++ [x])
      (w1.setCell ⟨wb.heap.size, i, none⟩ (.slice (some ⟨gg, 0, none⟩) (ys.length + 1) cap)) := by
  obtain ⟨hbl, hup, hsz⟩ := h.mid hb hgrow
  obtain ⟨G, R, C, h1, h2⟩ := h.ex
  have hlh := h.lh
  have hhs := h.hs
  have hset : ∀ g, g ≠ wb.heap.size → (w1.setCell ⟨wb.heap.size, i, none⟩ (.slice (some ⟨gg, 0, none⟩) (ys.length + 1) cap)).heap[g]? = w1.heap[g]? := fun g hg => Below.heap_setCell _ _ _ _ hg
  have hgl := (hown.lt gg rfl).1
  have hss : (w1.setCell ⟨wb.heap.size, i, none⟩ (.slice (some ⟨gg, 0, none⟩) (ys.length + 1) cap)).heap.size = w1.heap.size := by simp [World.setCell]
  refine ⟨(h.top.of_block (hbl _ (by omega))).set i _, fun _ => by simp, fun p hp hpk => ?_, ⟨G, R, C, fun p hp => ⟨?_, (h1 p hp).2.of_block fun hn => ?_⟩, h2⟩, h.len, ⟨?_, fun g hg => ?_⟩, hlh, by omega, hup.setCell (p := ⟨wb.heap.size, i, none⟩) (Nat.le_refl _) _⟩
  · show (if p = i then _ else vs p) = _
    rw [if_neg (by omega)]; exact h.rest p hp hpk
  · show (if p = i then _ else vs p) = _
    rw [if_neg (by omega)]; exact (h1 p hp).1
  · obtain ⟨_, _, q1, q2, _⟩ := (h1 p hp).2.own hn
    exact (hset _ (by omega)).trans (hbl _ q2)
  · rw [List.length_append, List.length_singleton, List.map_append]
    exact blk_kept hown fun g hg => hset g (by
      have : gg = g := by simpa [Value.ownBlock] using hg
      omega)
  · have : gg = g := by simpa [Value.ownBlock] using hg
    omega
theorem PU.next {wb k H i vs xss ys w} {A : Option Addr} {c : Nat} (h : PU wb k H i vs xss (.slice A ys.length c) ys w) (hi : i < k) (hm : ys.length ≤ 100) (hb : ∀ y ∈ ys, -1000000000000000 ≤ y ∧ y ≤ 1000000000000000) :
    PU wb k w.heap.size (i + 1) vs (xss ++ [ys]) (.slice none 0 0) [] w := by
  obtain ⟨G, R, C, h1, h2⟩ := h.ex
  have hl := h.len
  have hlh := h.lh
  have hhs := h.hs
  obtain ⟨A', n', c', g, e, hn, ho, _⟩ := h.bi.owns (by omega) (fun t ht => by have := hb t ht; omega)
  injection e with e1 e2 e3
  subst e1
  subst e2
  subst e3
  refine ⟨h.top, fun hk => h.rest _ (by omega) hk, fun p hp hpk => h.rest p (by omega) hpk, ⟨fun p => if p < i then G p else g, fun p => if p < i then R p else A, fun p => if p < i then C p else c, fun p hp => ?_, fun j p hj hp hj0 hp0 => ?_⟩, by rw [List.length_append, List.length_singleton, hl], BldI.nil _ _ _, by omega, Nat.le_refl _, h.up⟩
  · by_cases e : p < i
    · simp only [if_pos e]
      rw [gr_snoc_lt (by omega)]
      exact ⟨(h1 p e).1, (h1 p e).2.mono (Nat.le_refl _) hhs⟩
    · obtain rfl : p = xss.length := by omega
      simp only [if_neg e]
      rw [gr_snoc_eq]
      exact ⟨by rw [hl]; exact h.cur hi, ho.mono hlh (Nat.le_refl _)⟩
  · have ej : j < i := by omega
    simp only [if_pos ej]
    rw [gr_snoc_lt (by omega)] at hj0
    by_cases e : p < i
    · simp only [if_pos e]
      rw [gr_snoc_lt (by omega)] at hp0
      exact h2 j p hj e hj0 hp0
    · obtain rfl : p = xss.length := by omega
      simp only [if_neg e]
      rw [gr_snoc_eq] at hp0
      obtain ⟨_, _, _, q, _⟩ := (h1 j ej).2.own hj0
      obtain ⟨_, _, q', _⟩ := ho.own hp0
      omega
theorem PU.done {wb k H vs xss v ys w} (h : PU wb k H k vs xss v ys w) (hm : k ≤ 1000) : OwnR wb.heap.size w.heap.size w wb.heap.size (some ⟨wb.heap.size, 0, none⟩) k k xss := by
  obtain ⟨G, R, C, h1, h2⟩ := h.ex
  refine ⟨h.len, Nat.le_refl _, by omega, fun _ => ⟨0, G, R, C, rfl, Nat.le_refl _, h.top.lt, fun p hp => ⟨by rw [Nat.zero_add]; exact h.top.frozen p, by rw [Nat.zero_add, h.top.cell hp, (h1 p hp).1], (h1 p hp).2.mono (by omega) h.hs, fun hn e => ?_⟩, h2⟩⟩
  obtain ⟨_, _, q, _⟩ := (h1 p hp).2.own hn
  omega

end Go.Proofs.Ytjkmgpiiamffgaa

/- A row without the number of one column, by the program. -/
namespace Go.Proofs.Ytjkmgpiiamffgaa
open Go.RowKit

theorem addr_add (b o i : Nat) : (⟨b, o, none⟩ : Addr).add i = ⟨b, o + i, none⟩ := by unfold Addr.add; split <;> simp_all
theorem rowW_parts {xs : List Int} {j : Nat} : ∀ {n : Nat}, n ≤ xs.length → rowW xs j n = xs.take (min j n) ++ (xs.take n).drop (j + 1)
  | 0, _ => by simp [rowW]
  | n + 1, h => by
    have ih := rowW_parts (xs := xs) (j := j) (n := n) (by omega)
    have ht : xs.take (n + 1) = xs.take n ++ [gi xs n] := by rw [List.take_succ_eq_append_getElem (by omega), gi_get (by omega)]
    by_cases e : n = j
    · subst e
      rw [rowW_at, ih, ht, show min n (n + 1) = n by omega, show min n n = n by omega]
      congr 1
      rw [List.drop_eq_nil_of_le (by simp; omega), List.drop_eq_nil_of_le (by simp; omega)]
    · rw [rowW_ne e, ih, ht]
      by_cases hlt : n < j
      · rw [show min j n = n by omega, show min j (n + 1) = n + 1 by omega, ht, show (xs.take n).drop (j + 1) = [] from List.drop_eq_nil_of_le (by rw [List.length_take]; omega), List.drop_eq_nil_of_le (by simp; omega)]
        simp
      · rw [show min j n = j by omega, show min j (n + 1) = j by omega, List.drop_append_of_le_length (by simp; omega), List.append_assoc]
theorem rowW_cut {xs : List Int} {j : Nat} (h : j < xs.length) : rowW xs j xs.length = xs.take j ++ xs.drop (j + 1) := by
  rw [rowW_parts (Nat.le_refl _), List.take_length, show min j xs.length = j by omega]
theorem news_take {w : World} {b o n : Nat} {xs : List Int} (hl : xs.length = n) (hc : ∀ k, k < n → w.cell? ⟨b, o + k, none⟩ = some (.int .i64 (gi xs k))) (j : Nat) :
    ∀ i u, ((xs.take j).map iv)[i]? = some u → w.cell? ((⟨b, o, none⟩ : Addr).add i) = some u := fun i u h => by
  rw [List.getElem?_map] at h
  obtain ⟨x, hx, rfl⟩ := Option.map_eq_some_iff.1 h
  obtain ⟨h1, h2⟩ := List.getElem?_eq_some_iff.1 hx
  rw [List.length_take] at h1
  rw [addr_add, hc i (by omega), gi_get (by omega)]
  rw [List.getElem_take] at h2
  rw [h2]; rfl
theorem news_drop {w : World} {b o n : Nat} {xs : List Int} (hl : xs.length = n) (hc : ∀ k, k < n → w.cell? ⟨b, o + k, none⟩ = some (.int .i64 (gi xs k))) (j : Nat) :
    ∀ i u, ((xs.drop j).map iv)[i]? = some u → w.cell? ((⟨b, o + j, none⟩ : Addr).add i) = some u := fun i u h => by
  rw [List.getElem?_map] at h
  obtain ⟨x, hx, rfl⟩ := Option.map_eq_some_iff.1 h
  obtain ⟨h1, h2⟩ := List.getElem?_eq_some_iff.1 hx
  rw [List.length_drop] at h1
  rw [addr_add, Nat.add_assoc, hc (j + i) (by omega), gi_get (by omega)]
  rw [List.getElem_drop] at h2
  rw [h2]; rfl
theorem ones_map (xs : List Int) : ∀ u ∈ xs.map iv, u.oneCell' = true := fun u hu => by
  obtain ⟨x, _, rfl⟩ := List.mem_map.1 hu; rfl
/-- Some numbers more, appended without a new array for them. -/
theorem IU.pushs {wb v v' ys zs w w'} (h : IU wb v ys w) (hown : w'.ownsRow wb.heap.size 3 1 v' (ys.length + zs.length) (ys.map iv ++ zs.map iv))
    (hgrow : w.grownBy w' v.ownBlock) : IU wb v' (ys ++ zs) w' := by
  have hu : ∀ k, v.ownBlock = some k → wb.heap.size ≤ k := fun k hk => (h.bi.own.lt k hk).1
  refine ⟨⟨by rw [List.length_append, List.map_append]; exact hown, fun k _ => ?_⟩, h.up.grown hgrow h.up.size fun k hk => hu k hk⟩
  rename_i hk
  exact (hown.lt k hk).2
theorem IU.made (wb : World) (cap : Nat) (hm : cap ≤ 100) : IU wb (.slice (some ⟨wb.heap.size, 0, none⟩) 0 cap) [] (wb.alloc (.cells (Array.replicate cap (.int .i64 0)) 3)) :=
  ⟨⟨World.ownsRow_made (e := 3) (size := 1) wb _ cap (Nat.le_refl _) (by unfold maxLen; omega) (by simp), fun k hk => by simp [Value.ownBlock] at hk; simp; omega⟩, below_alloc _ _⟩

end Go.Proofs.Ytjkmgpiiamffgaa

/- Cofactors and determinants, by the program. -/
namespace Go.Proofs.Ytjkmgpiiamffgaa
open Go.RowKit
open V (sumN detN rowC colC cofN minorN skip sgn)

theorem TM.nil (wb : World) : TM wb (.slice none 0 0) [] [] wb := ⟨Bld.nil _ _ _, Below.refl _ _⟩
theorem TM.push {wb v v' vs xss w w1 w' r} {A : Option Addr} {c g : Nat} (h : TM wb v vs xss w) (hk : Below w.heap.size w w1) (hr : OwnI w.heap.size w1.heap.size w1 g A r.length c r)
    (hown : w'.ownsRow wb.heap.size 30 1 v' (xss.length + 1) (vs ++ [.slice A r.length c])) (hgrow : (w1.alloc (.cells #[.slice A r.length c] 30)).grownBy w' v.ownBlock)
    (hat : v'.ownBlock = v.ownBlock ∨ v'.ownBlock = some (w1.heap.size + 1)) : TM wb v' (vs ++ [.slice A r.length c]) (xss ++ [r]) w' := by
  have hv : ∀ k, v.ownBlock = some k → wb.heap.size ≤ k := fun k hk => (h.bo.own.lt k hk).1
  have hb := below_alloc w1 (.cells #[.slice A r.length c] 30)
  have hz := h.up.size
  have hz1 := hk.size
  refine ⟨Bld.push (hi := w.heap.size) h.bo (below_up hk hb) ((hr.below hb).mono (Nat.le_refl _) (by simp)) hown hgrow (by simpa using hat) hz (Nat.le_refl _), ?_⟩
  exact (below_up h.up (below_up hk hb)).grown hgrow (by simp; omega) fun k hk => hv k hk
theorem TM.next {wb v vs xss w w'} (h : TM wb v vs xss w) (k : Below w.heap.size w w') : TM wb v vs xss w' := ⟨(h.bo.below k).mono k.size, below_up h.up k⟩

theorem cofN_odd {k : Nat} {f : Nat → Nat → Int} {i j : Nat} (h : (i + j) % 2 = 1) : cofN k f i j = -(detN (k - 1) (minorN f i j)) := by
  rw [cofN, sgn, if_pos h]; omega
theorem cofN_even {k : Nat} {f : Nat → Nat → Int} {i j : Nat} (h : ¬ (i + j) % 2 = 1) : cofN k f i j = detN (k - 1) (minorN f i j) := by
  rw [cofN, sgn, if_neg h]; omega

/-- The terms of a determinant. -/
def detT (n : Nat) (f : Nat → Nat → Int) (j : Nat) : List Int := (List.range j).map fun j => f 0 j * cofN n f 0 j
theorem detT_succ (n : Nat) (f : Nat → Nat → Int) (j : Nat) : detT n f (j + 1) = detT n f j ++ [f 0 j * cofN n f 0 j] := by simp [detT, List.range_succ]
theorem detT_len (n : Nat) (f : Nat → Nat → Int) (j : Nat) : (detT n f j).length = j := by simp [detT]
theorem detT_tot (k : Nat) (f : Nat → Nat → Int) : ∀ j, tot (detT (k + 1) f j) = detS k f j
  | 0 => rfl
  | j + 1 => by
    rw [detT_succ, tot_snoc, detT_tot k f j, detS_succ, cofN, Nat.zero_add, Nat.add_sub_cancel]
    grind
theorem detT_bd {n : Nat} {f : Nat → Nat → Int} (hn : n ≤ 3) (h : Ab n f) {j : Nat} (hj : j ≤ n) : ∀ x ∈ detT n f j, -10000000 ≤ x ∧ x ≤ 10000000 := fun x hx => by
  obtain ⟨i, hi, rfl⟩ := List.mem_map.1 hx
  have hi := List.mem_range.1 hi
  have h1 := mulbd (h 0 i (by omega) (by omega)) (cof_bd hn h (i := 0) (j := i) (by omega) (by omega))
  omega
theorem sumOk_of {xs : List Int} (hl : xs.length ≤ 100) (h : ∀ x ∈ xs, -10000000 ≤ x ∧ x ≤ 10000000) : SumOk xs := ⟨by omega, fun j hj => by have := h _ (gi_mem hj); omega⟩
theorem IU.ints {wb ys w} {A : Option Addr} {c : Nat} (h : IU wb (.slice A ys.length c) ys w) (hm : ys.length ≤ 100) (hb : ∀ y ∈ ys, -1000000000000000 ≤ y ∧ y ≤ 1000000000000000) : Ints w A ys.length c ys := by
  obtain ⟨A', n, c', g, e, _, ho, _⟩ := h.new hm hb
  injection e with e
  injection e with e1 e2 e3
  subst e1
  subst e2
  subst e3
  exact ho.ints

end Go.Proofs.Ytjkmgpiiamffgaa

/- What strategies have against shares, told by a closure; which hold: by the program. -/
namespace Go.Proofs.Ytjkmgpiiamffgaa
open Go.RowKit

theorem VS.bds {w : List Int} {n : Nat} (h : VS w n) : ∀ j, j < n → 0 ≤ gi w j ∧ gi w j ≤ 1000 := fun j hj => h.2.1 j (by have := h.1; omega)
theorem onl_bds (n k : Nat) : ∀ j, j < n → 0 ≤ gi (onl n k) j ∧ gi (onl n k) j ≤ 1000 := fun j hj => by have := onl_bd (n := n) (i := k) hj; omega
/-- Where the closure finds the table and the shares. -/
structure PA (a : List (List Int)) (w : List Int) (n : Nat) (pa pw b o c cw : Nat) (rb ro cc : Nat → Nat) (Y : Option Addr) (W : World) : Prop where
  tab : Tab W b o rb ro cc n n a
  sh : Ints W Y n cw w
  bd : ∀ j, j < n → 0 ≤ gi w j ∧ gi w j ≤ 1000
  ca : W.cell? ⟨pa, 0, none⟩ = some (.slice (some ⟨b, o, none⟩) n c)
  cs : W.cell? ⟨pw, 0, none⟩ = some (.slice Y n cw)
theorem PA.keep {a w n pa pw b o c cw rb ro cc Y W W'} (h : PA a w n pa pw b o c cw rb ro cc Y W) (k : Keep W W') : PA a w n pa pw b o c cw rb ro cc Y W' :=
  ⟨h.tab.keep k, h.sh.keep k, h.bd, k _ _ h.ca, k _ _ h.cs⟩

set_option maxRecDepth 100000 in
set_option maxHeartbeats 1600000 in
theorem payAt_any (a : List (List Int)) (w : List Int) (n pa pw b o c cw : Nat) (rb ro cc : Nat → Nat) (Y : Option Addr) (W : World) (h : PA a w n pa pw b o c cw rb ro cc Y W) (i : Nat) (hi : i < n) :
    Calls Try.prog 107 #[.int .i64 i, .pointer (some ⟨pa, 0, none⟩), .pointer (some ⟨pw, 0, none⟩)] W (Ret (.int .i64 (dotr a w i n)) W) := by
  have H := Lib.hid h
  have hn1 := h.tab.n1
  have hn3 := h.tab.n3
  have q1 := h.ca
  have q2 := h.cs
  have q3 := h.tab.row i hi
  have HB := Lib.hid (fun j (hj : j < n) => h.tab.bd i j hi hj)
  obtain ⟨by_, oy, rfl, hcy⟩ := h.sh.at_ (by omega)
  have HY := Lib.hid hcy
  have HS0 := Lib.hid (IU.nil W)
  have HZ : Hid (termL a w i 0 = []) := Lib.hid rfl
  clear h hcy
  go_enter Try.func107, Try.ntmps107
  go_wp2
  clear q1 q2 q3
  go_loopw [5, 13] (fun v i_ wr => ∃ k : Nat, k ≤ n ∧ i_ = .int .i64 k ∧ Hid (IU W v (termL a w i k) wr)) (fun _ i_ _ => n - (intOf i_).toNat)
  case atStart => exact ⟨0, Nat.zero_le _, rfl, Lib.hid (by rw [HZ.out]; exact HS0.out)⟩
  case round =>
    clear HS0 HZ
    obtain ⟨k, hk, rfl, HI⟩ := hrel
    obtain ⟨Av, cv, rfl⟩ := HI.out.bi.form
    by_cases hlt : k < n
    · have c1 := Keep.below HI.out.up _ _ (H.out.tab.cell i k hi hlt)
      have c2 := Keep.below HI.out.up _ _ H.out.cs
      have c3 := Keep.below HI.out.up _ _ (HY.out k hlt)
      obtain ⟨z1, z2⟩ := HB.out k hlt
      obtain ⟨x1, x2⟩ := H.out.bd k hlt
      obtain ⟨p1, p2⟩ := mul_bd3 ⟨x1, x2⟩ ⟨z1, z2⟩
      have HCS : Hid (termL a w i (k + 1) = termL a w i k ++ [g2 a i k * gi w k]) := Lib.hid rfl
      have HML := Lib.hid (termL_len a w i k)
      have hb := below_alloc wr (.cells #[iv (g2 a i k * gi w k)] 3)
      have HB4 := Lib.hid (HI.out.bi.below hb).own
      have HN := Lib.hid (cell_one_new wr (iv (g2 a i k * gi w k)) 3)
      have hwz := HI.out.up.size
      clear hb
      generalize termL a w i k = ys at *
      generalize g2 a i k = g at *
      generalize gi w k = s at *
      obtain ⟨i0, hi0, hz0, hz1, hz2⟩ := info_parts Try.info_int
      go_wp2_with (at_builtin; refine wpList_append_own_at _ rfl _ _ 30 rfl W.heap.size 3 i0 (.int .i64 0) 1 8 Try.underlying30 hi0 hz0 hz1 hz2 rfl (by decide) _ ys.length (ys.map iv) rfl HB4.out ⟨wr.heap.size, 0, none⟩ 1 1 [iv (g * s)] rfl rfl ?c1 ?c2 ?c3 ?c4 ?c5 ?_)
      case c1 => exact HN.out
      case c2 => intro u hu; simp at hu; subst hu; rfl
      case c3 => have := HML.out; unfold maxLen; omega
      case c4 => have := HML.out; omega
      case c5 => simp; omega
      intro v' w5 hown' hgrow _ hat
      have HI5 := Lib.hid (HI.out.push hown' hgrow (by simpa using hat))
      clear HB4 HN hown' hgrow hat HI c1 c2 c3
      go_wp2
      go_roundw
      case rel => exact ⟨k + 1, by omega, by go_num, Lib.hid (by rw [HCS.out]; exact HI5.out)⟩
      case measure => simp [intOf]; omega
    · obtain rfl : k = n := by omega
      have HL := Lib.hid (termL_len a w i k)
      have HTB := Lib.hid (termL_bd HB.out H.out.bd (Nat.le_refl k))
      have HSM := Lib.hid (show SumOk (termL a w i k) from ⟨by rw [HL.out]; omega, fun j hj => by have := HTB.out _ (gi_mem hj); omega⟩)
      have HTT := Lib.hid (termL_tot a w i k)
      have HIN := Lib.hid (HI.out.ints (by rw [HL.out]; omega) (fun y hy => by have := HTB.out y hy; omega))
      have HUP := Lib.hid HI.out.up
      have HC := Lib.hid (HTT.out ▸ sumOf_any _ _ _ _ wr HIN.out HSM.out)
      clear HI
      go_wp2_with fail
      refine HC.out.mono ?_
      rintro e w2 ⟨rfl, hq⟩
      have HB2 := Lib.hid (below_quiet HUP.out hq)
      clear hq HC
      go_wp2
      go_ret
      exact ⟨rfl, HB2.out⟩

/-- The closure of two boxes. -/
def MadeP (a : List (List Int)) (w : List Int) (n b o c cw : Nat) (rb ro cc : Nat → Nat) (Y : Option Addr) (W : World) (e : Ending) (W' : World) : Prop :=
  ∃ pa pw, e = .returned (.func (.func 107) #[] #[.pointer (some ⟨pa, 0, none⟩), .pointer (some ⟨pw, 0, none⟩)]) ∧ PA a w n pa pw b o c cw rb ro cc Y W' ∧ Below W.heap.size W W'

set_option maxRecDepth 100000 in
set_option maxHeartbeats 400000 in
theorem payAgainst_far (a : List (List Int)) (w : List Int) (n b o c cw : Nat) (rb ro cc : Nat → Nat) (Y : Option Addr) (W : World) (ht : Tab W b o rb ro cc n n a) (hw : Ints W Y n cw w) (hb : ∀ j, j < n → 0 ≤ gi w j ∧ gi w j ≤ 1000) :
    Calls Try.prog 98 #[.slice (some ⟨b, o, none⟩) n c, .slice Y n cw] W (fun e W' => ∃ pa pw, e = .returned (.func (.func 107) #[] #[.pointer (some ⟨pa, 0, none⟩), .pointer (some ⟨pw, 0, none⟩)]) ∧ (PA a w n pa pw b o c cw rb ro cc Y W' ∧ Below W.heap.size W W') ∧ W.heap.size ≤ pa ∧ W.heap.size ≤ pw) := by
  have hmf : ∀ (fn : Fn) (first cap : Array Value) (w : World), (Instr.makeFunc fn first cap).run Try.prog w = .ok (.func fn first cap) w := fun _ _ _ _ => rfl
  have h1 := below_alloc W (.cells #[.slice (some ⟨b, o, none⟩) n c] 23)
  have h2 := below_alloc (W.alloc (.cells #[.slice (some ⟨b, o, none⟩) n c] 23)) (.cells #[.slice Y n cw] 30)
  have hbb := below_up h1 h2
  have HP := Lib.hid (show PA a w n W.heap.size (W.alloc (.cells #[.slice (some ⟨b, o, none⟩) n c] 23)).heap.size b o c cw rb ro cc Y ((W.alloc (.cells #[.slice (some ⟨b, o, none⟩) n c] 23)).alloc (.cells #[.slice Y n cw] 30)) from
    ⟨ht.keep (Keep.below hbb), hw.keep (Keep.below hbb), hb, Keep.below h2 _ _ (blk_cell (blk_new _ _ _) rfl), blk_cell (blk_new _ _ _) rfl⟩)
  have HBB := Lib.hid hbb
  clear h1 h2 hbb ht hw hb
  go_enter Try.func98, Try.ntmps98
  go_wp2
  go_ret
  exact ⟨_, _, rfl, ⟨by have h := HP.out; rw [World.size_alloc] at h; exact h, HBB.out⟩, Nat.le_refl _, Nat.le_succ _⟩
theorem payAgainst_any (a : List (List Int)) (w : List Int) (n b o c cw : Nat) (rb ro cc : Nat → Nat) (Y : Option Addr) (W : World) (ht : Tab W b o rb ro cc n n a) (hw : Ints W Y n cw w) (hb : ∀ j, j < n → 0 ≤ gi w j ∧ gi w j ≤ 1000) :
    Calls Try.prog 98 #[.slice (some ⟨b, o, none⟩) n c, .slice Y n cw] W (MadeP a w n b o c cw rb ro cc Y W) :=
  (payAgainst_far a w n b o c cw rb ro cc Y W ht hw hb).mono fun _ _ ⟨pa, pw, he, ⟨h1, h2⟩, _⟩ => ⟨pa, pw, he, h1, h2⟩
end Go.Proofs.Ytjkmgpiiamffgaa

/- Rests, by both programs. -/
namespace Go.Proofs.Ytjkmgpiiamffgaa
open Go.RowKit

/-- No strategy has more than one with a share. -/
def RestP (a : List (List Int)) (w : List Int) (n : Nat) : Prop := ∀ i, i < n → 0 < gi w i → ∀ k, k < n → dotr a w k n ≤ dotr a w i n
structure RQ (a : List (List Int)) (w : List Int) : Prop where
  q : VQ a
  s : VS w a.length
  r : RestP a w a.length


/-- The greatest of the first k values. -/
def mxd (f : Nat → Int) : Nat → Int
  | 0 => 0
  | k + 1 => if k = 0 ∨ mxd f k < f k then f k else mxd f k
theorem mxd_up {f : Nat → Int} {k : Nat} (h : k = 0 ∨ mxd f k < f k) : mxd f (k + 1) = f k := by rw [mxd, if_pos h]
theorem mxd_same {f : Nat → Int} {k : Nat} (h : ¬ (k = 0 ∨ mxd f k < f k)) : mxd f (k + 1) = mxd f k := by rw [mxd, if_neg h]
theorem mxd_ge (f : Nat → Int) : ∀ {k i}, i < k → f i ≤ mxd f k
  | 0, _, h => absurd h (by omega)
  | k + 1, i, h => by
    by_cases hu : k = 0 ∨ mxd f k < f k
    · rw [mxd_up hu]
      by_cases e : i = k
      · subst e; exact Int.le_refl _
      · have := mxd_ge f (k := k) (i := i) (by omega)
        omega
    · rw [mxd_same hu]
      by_cases e : i = k
      · subst e; omega
      · exact mxd_ge f (by omega)
theorem mxd_at (f : Nat → Int) : ∀ {k}, 0 < k → ∃ i, i < k ∧ mxd f k = f i
  | 0, h => absurd h (by omega)
  | k + 1, _ => by
    by_cases hu : k = 0 ∨ mxd f k < f k
    · exact ⟨k, by omega, mxd_up hu⟩
    · obtain ⟨i, hi, e⟩ := mxd_at f (k := k) (by omega)
      exact ⟨i, by omega, (mxd_same hu).trans e⟩
/-- At rest all that is there has the most. -/
theorem rest_most (a : List (List Int)) (w : List Int) (n : Nat) (hn : 0 < n) : RestP a w n ↔ ∀ i, i < n → 0 < gi w i → dotr a w i n = mxd (fun i => dotr a w i n) n := by
  constructor
  · intro h i hi hp
    obtain ⟨k, hk, e⟩ := mxd_at (fun i => dotr a w i n) hn
    have h1 := h i hi hp k hk
    have h2 := mxd_ge (fun i => dotr a w i n) hi
    have e' : mxd (fun i => dotr a w i n) n = dotr a w k n := e
    have h2' : dotr a w i n ≤ mxd (fun i => dotr a w i n) n := h2
    omega
  · intro h i hi hp k hk
    rw [h i hi hp]
    exact mxd_ge (fun i => dotr a w i n) hk
theorem mxd_bd {f : Nat → Int} {B : Int} (hB : 0 ≤ B) : ∀ {k}, (∀ i, i < k → -B ≤ f i ∧ f i ≤ B) → -B ≤ mxd f k ∧ mxd f k ≤ B
  | 0, _ => by simp only [mxd]; omega
  | k + 1, h => by
    by_cases hu : k = 0 ∨ mxd f k < f k
    · rw [mxd_up hu]; exact h k (by omega)
    · rw [mxd_same hu]; exact mxd_bd hB fun i hi => h i (by omega)

end Go.Proofs.Ytjkmgpiiamffgaa

/- At rest no one has more than the mean, and each one with a share has it. Plain. -/
namespace Go.Proofs.Ytjkmgpiiamffgaa

theorem payR_dot' (a : List (List Int)) (x y : List Int) (i : Nat) : ∀ j, payR a x y i j = gi x i * dotr a y i j
  | 0 => by simp [payR, dotr]
  | j + 1 => by
    rw [payR, dotr, payR_dot' a x y i j, Int.mul_add]
    congr 1
    grind
theorem payU_next (a : List (List Int)) (x y : List Int) (m k : Nat) : payU a x y m (k + 1) = payU a x y m k + gi x k * dotr a y k m := by
  rw [payU, payR_dot']
theorem payU_same {a : List (List Int)} {x : List Int} {n : Nat} {M : Int} : ∀ {k}, (∀ i, i < k → 0 ≤ gi x i) → (∀ i, i < k → 0 < gi x i → dotr a x i n = M) → payU a x x n k = M * sm x k
  | 0, _, _ => by simp [payU, sm]
  | k + 1, h0, h => by
    rw [payU_next, sm, payU_same (fun i hi => h0 i (by omega)) (fun i hi => h i (by omega)), Int.mul_add]
    congr 1
    by_cases e : 0 < gi x k
    · rw [h k (by omega) e, Int.mul_comm]
    · have : gi x k = 0 := by have := h0 k (by omega); omega
      rw [this]; simp
theorem sm_one {x : List Int} : ∀ {k}, (∀ j, j < k → 0 ≤ gi x j) → 0 < sm x k → ∃ j, j < k ∧ 0 < gi x j
  | 0, _, h => by simp [sm] at h
  | k + 1, h0, h => by
    by_cases e : 0 < gi x k
    · exact ⟨k, by omega, e⟩
    · rw [sm] at h
      obtain ⟨j, hj, hp⟩ := sm_one (k := k) (fun j hj => h0 j (by omega)) (by have := h0 k (by omega); omega)
      exact ⟨j, by omega, hp⟩
/-- Strategy i has no more than the mean, and has it if it has a share. -/
def MeanOk (a : List (List Int)) (x : List Int) (n : Nat) (i : Nat) : Prop := ¬ payU a x x n n < dotr a x i n * tot x ∧ (0 < gi x i → dotr a x i n * tot x = payU a x x n n)
theorem rest_mean {a : List (List Int)} {x : List Int} {n : Nat} (hx : VS x n) : RestP a x n ↔ ∀ i, i < n → MeanOk a x n i := by
  have hl : x.length = n := by have := hx.1; omega
  have h0 : ∀ j, j < n → 0 ≤ gi x j := fun j hj => (VS.bds hx j hj).1
  have ht : tot x = sm x n := by unfold tot; rw [hl]
  have hp : 0 < tot x := hx.2.2
  constructor
  · intro h
    obtain ⟨j, hj, hjp⟩ := sm_one h0 (by rw [← ht]; exact hp)
    have hP : payU a x x n n = dotr a x j n * tot x := by
      rw [ht]
      exact payU_same h0 fun i hi hip => by have := h i hi hip j hj; have := h j hj hjp i hi; omega
    intro i hi
    refine ⟨?_, fun hip => ?_⟩
    · rw [hP]
      have := Int.mul_le_mul_of_nonneg_right (h j hj hjp i hi) (Int.le_of_lt hp)
      omega
    · rw [hP]
      have e : dotr a x i n = dotr a x j n := by have := h i hi hip j hj; have := h j hj hjp i hi; omega
      rw [e]
  · intro h i hi hip k hk
    have h1 := (h i hi).2 hip
    have h2 := (h k hk).1
    rw [← h1] at h2
    exact Int.le_of_mul_le_mul_right (by omega) hp
/-- The fractions that the law compares. -/
theorem mean_frac {P d T : Int} (hT : 0 < T) : (lessB (frU P (T * T)) (frD P (T * T)) (frU d T) (frD d T) = decide (P < d * T)) ∧ ((frU d T = frU P (T * T) ∧ frD d T = frD P (T * T)) ↔ d * T = P) := by
  have hTT : 0 < T * T := Int.mul_pos hT hT
  have e1 : d * (T * T) = d * T * T := by rw [Int.mul_assoc]
  constructor
  · unfold lessB
    rw [decide_eq_decide, fr_lt hTT hT, e1]
    exact ⟨fun h => Int.lt_of_mul_lt_mul_right h (Int.le_of_lt hT), fun h => Int.mul_lt_mul_of_pos_right h hT⟩
  · constructor
    · rintro ⟨h1, h2⟩
      have k1 := fr_lt (u := d) (d := T) (v := P) (e := T * T) hT hTT
      have k2 := fr_lt (u := P) (d := T * T) (v := d) (e := T) hTT hT
      rw [h1, h2] at k1 k2
      have n1 : ¬ d * (T * T) < P * T := fun h => by have := k1.2 h; omega
      have n2 : ¬ P * T < d * (T * T) := fun h => by have := k2.2 h; omega
      rw [e1] at n1 n2
      exact Int.eq_of_mul_eq_mul_right (by omega) (show d * T * T = P * T by omega)
    · intro h
      exact fr_eq hT hTT (by rw [e1, h])
end Go.Proofs.Ytjkmgpiiamffgaa

/- Small functions of the laws. -/
namespace Go.Proofs.Ytjkmgpiiamffgaa
open Go.RowKit

set_option maxHeartbeats 400000 in
theorem divisor_any (a b : Int) (w : World) (ha : Mid a) (hb : Mid b) :
    Calls Try.prog 66 #[.int .i64 a, .int .i64 b] w fun e w' => e = .returned (.int .i64 (gcdI a b)) ∧ Quiet w w' := by
  have HA := Lib.hid ha
  have HB := Lib.hid hb
  clear ha hb
  go_enter Try.func66, Try.ntmps66
  go_wp2
  go_loopw [0, 1] (fun s t wr => ∃ x y : Int, s = .int .i64 x ∧ t = .int .i64 y ∧ Hid (Mid x) ∧ Hid (Mid y) ∧ Hid (gcdI x y = gcdI a b) ∧ Quiet w wr) (fun _ t _ => (intOf t).natAbs)
  case atStart => exact ⟨a, b, rfl, rfl, HA, HB, Lib.hid rfl, Quiet.refl _⟩
  case round =>
    obtain ⟨x, y, rfl, rfl, HX, HY, HG, q, rfl⟩ := hrel
    obtain ⟨x1, x2⟩ := HX.out
    obtain ⟨y1, y2⟩ := HY.out
    by_cases hy : y = 0
    · subst hy
      have hg := Lib.hid (gcdI_zero x)
      go_wp2
      all_goals go_ret
      all_goals exact ⟨ret_int (by rw [← HG.out, hg.out]; omega), ⟨_, rfl⟩⟩
    · have hy' : (y != 0) = true := by simpa using hy
      have HM := Lib.hid (HX.out.tmod (y := y))
      have HS := Lib.hid (gcdI_step x y)
      have HT := Lib.hid (tmod_abs (a := x) hy)
      go_wp2
      go_roundw
      case rel => exact ⟨y, x.tmod y, rfl, rfl, HY, HM, Lib.hid (HS.out.trans HG.out), ⟨_, rfl⟩⟩
      case measure => have := HT.out; simpa [intOf] using this

set_option maxHeartbeats 400000 in
theorem lessOf_any (u d v e : Int) (w : World) (hu : -1000000000 ≤ u ∧ u ≤ 1000000000) (hv : -1000000000 ≤ v ∧ v ≤ 1000000000) (hd : 0 ≤ d ∧ d ≤ 1000000000) (he : 0 ≤ e ∧ e ≤ 1000000000) :
    Calls Try.prog 24 #[.agg #[.int .i64 u, .int .i64 d], .agg #[.int .i64 v, .int .i64 e]] w (Ret (.bool (lessB u d v e)) w) := by
  obtain ⟨p1, p2⟩ := less_bd hu he
  obtain ⟨p3, p4⟩ := less_bd hv hd
  have b0 := blk_old (blk_new w 27 #[.int .i64 u, .int .i64 d]) (.cells #[.int .i64 v, .int .i64 e] 27)
  have b1 := blk_new (w.alloc (.cells #[.int .i64 u, .int .i64 d] 27)) 27 #[.int .i64 v, .int .i64 e]
  have HB := Lib.hid (below_up (below_alloc w (.cells #[.int .i64 u, .int .i64 d] 27)) (below_alloc _ (.cells #[.int .i64 v, .int .i64 e] 27)))
  rw [World.size_alloc] at b1
  have c0 := blk_cell b0 (i := 0) rfl
  have c1 := blk_cell b0 (i := 1) rfl
  have c2 := blk_cell b1 (i := 0) rfl
  have c3 := blk_cell b1 (i := 1) rfl
  go_enter Try.func24, Try.ntmps24
  go_wp2
  go_ret
  exact ⟨rfl, HB.out⟩
set_option maxHeartbeats 1000000 in
theorem fracOfL_any (u d : Int) (w : World) (hu : Mid u) (hd : Mid d) (h1 : 1 ≤ d) :
    Calls Try.prog 17 #[.int .i64 u, .int .i64 d] w (Ret (frV u d) w) := by
  have HQ := Lib.hid (fun W => divisor_any u d W hu hd)
  have hg1 := gcdI_pos (a := u) (b := d) (by omega)
  have hg2 := gcdI_le (a := u) (b := d) (by omega)
  obtain ⟨u1, u2⟩ := hu
  obtain ⟨d1, d2⟩ := hd
  have hB := Lib.hid (below_alloc w (.cells #[.int .i64 0, .int .i64 0] 27))
  go_enter Try.func17, Try.ntmps17
  go_wp2_with fail
  refine (HQ.out _).mono ?_
  rintro e w2 ⟨rfl, hq⟩
  have HFU : Hid (frU u d = u.tdiv (gcdI u d)) := Lib.hid rfl
  have HFD : Hid (frD u d = d / gcdI u d) := Lib.hid (by unfold frD; rw [Int.tdiv_eq_ediv_of_nonneg (by omega)])
  have b0 := blk_quiet (blk_new w 27 #[.int .i64 0, .int .i64 0]) hq
  have HBW := Lib.hid (below_quiet hB.out hq)
  clear hq hB HQ
  generalize gcdI u d = g at *
  have c0 := blk_cell b0 (i := 0) rfl
  have c1 := blk_cell b0 (i := 1) rfl
  have f0 := blk_frozen b0 0
  have f1 := blk_frozen b0 1
  have g0 : (g == 0) = false := by simp; omega
  go_wp2
  go_region
  all_goals clear c0 c1 f0 f1
  all_goals go_wp2
  have B1 := blk_set (blk_set b0 0 (.int .i64 (u.tdiv g))) 1 (.int .i64 (d / g))
  have r0 := blk_cell B1 (i := 0) (v := .int .i64 (u.tdiv g)) rfl
  have r1 := blk_cell B1 (i := 1) (v := .int .i64 (d / g)) rfl
  have HBX := Lib.hid ((HBW.out.setCell (p := ⟨w.heap.size, 0, none⟩) (Nat.le_refl _) (.int .i64 (u.tdiv g))).setCell (p := ⟨w.heap.size, 1, none⟩) (Nat.le_refl _) (.int .i64 (d / g))).drew
  replace r0 : ((w2.setCell ⟨w.heap.size, 0, none⟩ (.int .i64 (u.tdiv g))).setCell ⟨w.heap.size, 1, none⟩ (.int .i64 (d / g))).drew.cell? ⟨w.heap.size, 0, none⟩ = some (.int .i64 (u.tdiv g)) := r0
  replace r1 : ((w2.setCell ⟨w.heap.size, 0, none⟩ (.int .i64 (u.tdiv g))).setCell ⟨w.heap.size, 1, none⟩ (.int .i64 (d / g))).drew.cell? ⟨w.heap.size, 1, none⟩ = some (.int .i64 (d / g)) := r1
  clear B1 b0 HBW
  generalize ((w2.setCell ⟨w.heap.size, 0, none⟩ (.int .i64 (u.tdiv g))).setCell ⟨w.heap.size, 1, none⟩ (.int .i64 (d / g))).drew = W3 at *
  refine bodyPost_ret (v := .agg #[.int .i64 (u.tdiv g), .int .i64 (d / g)]) (by simp [results, Try.results17, go_sem, r0, r1]) rfl ?_
  exact ⟨by rw [frV, HFU.out, HFD.out], HBX.out⟩
set_option maxHeartbeats 1000000 in
theorem timesOf_any (u d v e : Int) (w : World) (hu : -1000000 ≤ u ∧ u ≤ 1000000) (hv : -1000000 ≤ v ∧ v ≤ 1000000) (hd : 1 ≤ d ∧ d ≤ 1000000) (he : 1 ≤ e ∧ e ≤ 1000000) :
    Calls Try.prog 16 #[.agg #[.int .i64 u, .int .i64 d], .agg #[.int .i64 v, .int .i64 e]] w (Ret (frV (u * v) (d * e)) w) := by
  obtain ⟨p1, p2⟩ := mulbd (x := u) (y := e) (A := 1000000) (B := 1000000) hu (by omega)
  obtain ⟨p3, p4⟩ := mulbd (x := v) (y := d) (A := 1000000) (B := 1000000) hv (by omega)
  obtain ⟨p5, p6⟩ := mulbd (x := d) (y := e) (A := 1000000) (B := 1000000) (by omega) (by omega)
  obtain ⟨p7, p8⟩ := mulbd (x := u) (y := v) (A := 1000000) (B := 1000000) hu hv
  have p9 : 1 ≤ d * e := by have h : 1 * 1 ≤ d * e := Int.mul_le_mul hd.1 he.1 (by omega) (by omega); omega
  have HC := Lib.hid (fun W => fracOfL_any (u * v) (d * e) W (by unfold Mid; omega) (by unfold Mid; omega) p9)
  have b0 := blk_old (blk_old (blk_new w 27 #[.int .i64 u, .int .i64 d]) (.cells #[.int .i64 v, .int .i64 e] 27)) (.cells #[.int .i64 0, .int .i64 0] 27)
  have b1 := blk_old (blk_new (w.alloc (.cells #[.int .i64 u, .int .i64 d] 27)) 27 #[.int .i64 v, .int .i64 e]) (.cells #[.int .i64 0, .int .i64 0] 27)
  have b2 := blk_new ((w.alloc (.cells #[.int .i64 u, .int .i64 d] 27)).alloc (.cells #[.int .i64 v, .int .i64 e] 27)) 27 #[.int .i64 0, .int .i64 0]
  have HB := Lib.hid (below_up (below_up (below_alloc w (.cells #[.int .i64 u, .int .i64 d] 27)) (below_alloc _ (.cells #[.int .i64 v, .int .i64 e] 27))) (below_alloc _ (.cells #[.int .i64 0, .int .i64 0] 27)))
  have HFV : Hid (frV (u * v) (d * e) = .agg #[.int .i64 (frU (u * v) (d * e)), .int .i64 (frD (u * v) (d * e))]) := Lib.hid rfl
  rw [HFV.out] at HC
  simp only [World.size_alloc] at b1 b2
  have c0 := blk_cell b0 (i := 0) rfl
  have c1 := blk_cell b0 (i := 1) rfl
  have c2 := blk_cell b1 (i := 0) rfl
  have c3 := blk_cell b1 (i := 1) rfl
  have HB2 := Lib.hid b2
  clear b0 b1 b2
  go_enter Try.func16, Try.ntmps16
  go_wp2_with fail
  clear c0 c1 c2 c3
  generalize ((w.alloc (.cells #[.int .i64 u, .int .i64 d] 27)).alloc (.cells #[.int .i64 v, .int .i64 e] 27)).alloc (.cells #[.int .i64 0, .int .i64 0] 27) = w1 at *
  refine (HC.out _).mono ?_
  rintro e w2 ⟨rfl, hb⟩
  have b0 := blk_below HB2.out hb
  have HBW := Lib.hid (below_up HB.out hb)
  clear hb HC HB HB2
  generalize frU (u * v) (d * e) = U at *
  generalize frD (u * v) (d * e) = D at *
  have c0 := blk_cell b0 (i := 0) rfl
  have c1 := blk_cell b0 (i := 1) rfl
  have f0 := blk_frozen b0 0
  have f1 := blk_frozen b0 1
  go_wp2
  clear c0 c1 f0 f1
  have B1 := blk_set (blk_set b0 0 (.int .i64 U)) 1 (.int .i64 D)
  have r0 := blk_cell B1 (i := 0) (v := .int .i64 U) rfl
  have r1 := blk_cell B1 (i := 1) (v := .int .i64 D) rfl
  have hle : w.heap.size ≤ w.heap.size + 1 + 1 := by omega
  have HBX := Lib.hid ((HBW.out.setCell (p := ⟨w.heap.size + 1 + 1, 0, none⟩) hle (.int .i64 U)).setCell (p := ⟨w.heap.size + 1 + 1, 1, none⟩) hle (.int .i64 D))
  clear B1 b0 HBW
  generalize (w2.setCell ⟨w.heap.size + 1 + 1, 0, none⟩ (.int .i64 U)).setCell ⟨w.heap.size + 1 + 1, 1, none⟩ (.int .i64 D) = WE at *
  refine bodyPost_ret (v := .agg #[.int .i64 U, .int .i64 D]) (by simp [results, Try.results16, go_sem, r0, r1]) rfl ?_
  exact ⟨by rw [HFV.out], HBX.out⟩
/-- Whether a list has a number. -/
def HasN (xs : List Int) (x : Int) : Prop := ∃ k, k < xs.length ∧ gi xs k = x
set_option maxHeartbeats 400000 in
theorem isIn_any (A : Option Addr) (n c : Nat) (xs : List Int) (x : Int) (w : World) (hx : Ints w A n c xs) :
    Calls Try.prog 32 #[.slice A n c, .int .i64 x] w fun e w' => e = .returned (.bool (pb (HasN xs x))) ∧ Quiet w w' := by
  have hl := hx.max
  have HX := Lib.hid hx
  have HL := Lib.hid hx.len
  clear hx
  go_enter Try.func32, Try.ntmps32
  go_wp2
  go_loopw [5] (fun i wr => ∃ k : Nat, k ≤ n ∧ i = .int .i64 k ∧ Hid (∀ j, j < k → gi xs j ≠ x) ∧ Quiet w wr) (fun i _ => n - (intOf i).toNat)
  case atStart => exact ⟨0, Nat.zero_le _, rfl, Lib.hid (fun _ h => absurd h (by omega)), Quiet.refl _⟩
  case round =>
    obtain ⟨k, hk, rfl, HN, q, rfl⟩ := hrel
    by_cases hlt : k < n
    · obtain ⟨b, o, rfl, hc⟩ := HX.out.at_ (by omega)
      have c1 := hc k hlt
      clear hc
      by_cases he : gi xs k = x
      · have HR := Lib.hid (pb_true (p := HasN xs x) ⟨k, by rw [HL.out]; exact hlt, he⟩)
        have hd : (gi xs k == x) = true := by simpa using he
        clear he
        go_wp2
        go_ret
        exact ⟨ret_bool HR.out.symm, ⟨_, rfl⟩⟩
      · have HE := Lib.hid he
        have hd : (gi xs k == x) = false := by simpa using he
        clear he
        go_wp2
        go_roundw
        case rel => exact ⟨k + 1, by omega, by go_num, Lib.hid (fun j hj => by
          by_cases hjk : j < k
          · exact HN.out j hjk
          · obtain rfl : j = k := by omega
            exact HE.out), ⟨_, rfl⟩⟩
        case measure => simp [intOf]; omega
    · obtain rfl : k = n := by omega
      have HR := Lib.hid (pb_false (p := HasN xs x) (fun ⟨j, hj, e⟩ => HN.out j (by rw [← HL.out]; exact hj) e))
      go_wp2
      go_ret
      exact ⟨ret_bool HR.out.symm, ⟨_, rfl⟩⟩
set_option maxHeartbeats 400000 in
theorem equalInts_any (A B : Option Addr) (n c m d : Nat) (xs ys : List Int) (w : World) (hx : Ints w A n c xs) (hy : Ints w B m d ys) :
    Calls Try.prog 30 #[.slice A n c, .slice B m d] w fun e w' => e = .returned (.bool (eqI xs ys)) ∧ Quiet w w' := by
  obtain ⟨lx, cx, mx, _, hx⟩ := hx
  obtain ⟨ly, cy, my, _, hy⟩ := hy
  have Lx := Lib.hid lx
  have Ly := Lib.hid ly
  clear lx ly
  by_cases hnm : n = m
  · subst hnm
    go_enter Try.func30, Try.ntmps30
    go_wp2
    go_loopw [5] (fun i wr => ∃ k : Nat, k ≤ n ∧ i = .int .i64 k ∧ (∀ j, j < k → gi xs j = gi ys j) ∧ Quiet w wr) (fun i _ => n - (intOf i).toNat)
    case atStart => exact ⟨0, Nat.zero_le _, rfl, fun _ h => absurd h (by omega), Quiet.refl _⟩
    case round =>
      obtain ⟨k, hk, rfl, hall, q, rfl⟩ := hrel
      have HALL := Lib.hid hall
      clear hall
      by_cases hlt : k < n
      · obtain ⟨b, o, rfl, hcx⟩ := hx (by omega)
        obtain ⟨b2, o2, rfl, hcy⟩ := hy (by omega)
        have c1 := hcx k hlt
        have c2 := hcy k hlt
        clear hx hy hcx hcy
        by_cases he : gi xs k = gi ys k
        · have he' : (gi xs k != gi ys k) = false := by simp [he]
          have HE := Lib.hid he
          clear he
          go_wp2
          go_quiet (fail)
          go_wp2
          go_roundw
          case rel => exact ⟨k + 1, by omega, by go_num, fun j hj => by
            by_cases hjk : j < k
            · exact HALL.out j hjk
            · obtain rfl : j = k := by omega
              exact HE.out, ⟨_, rfl⟩⟩
          case measure => simp [intOf]; omega
        · have he' : (gi xs k != gi ys k) = true := by simpa using he
          go_wp2
          go_quiet (fail)
          go_wp2
          go_ret
          exact ⟨ret_bool (eqI_no he).symm, Quiet.two _ _ _⟩
      · obtain rfl : k = n := by omega
        go_wp2
        go_ret
        exact ⟨ret_bool (eqI_yes (by rw [Lx.out, Ly.out]) fun j hj => HALL.out j (by rw [Lx.out] at hj; exact hj)).symm, ⟨_, rfl⟩⟩
  · go_enter Try.func30, Try.ntmps30
    go_wp2
    go_ret
    exact ⟨ret_bool (eqI_len (by rw [Lx.out, Ly.out]; exact hnm)).symm, Quiet.refl _⟩

end Go.Proofs.Ytjkmgpiiamffgaa

/- Fractions under way: a slice made by append. -/
namespace Go.Proofs.Ytjkmgpiiamffgaa
open Go.RowKit

theorem gi_append_lt {L M : List Int} {k : Nat} (h : k < L.length) : gi (L ++ M) k = gi L k := by
  rw [gi_get (by rw [List.length_append]; omega), gi_get h, List.getElem_append_left h]
theorem gi_append_ge {L M : List Int} {k : Nat} (h : k < M.length) : gi (L ++ M) (L.length + k) = gi M k := by
  rw [gi_get (by rw [List.length_append]; omega), gi_get h, List.getElem_append_right (by omega)]
  simp
/-- Fractions under way: a slice made by append. -/
structure FU (wb : World) (v : Value) (n : Nat) (L : List Int) (w : World) : Prop where
  own : w.ownsRow wb.heap.size 27 2 v n (L.map iv)
  hi_ : ∀ k, v.ownBlock = some k → k < w.heap.size
  up : Below wb.heap.size wb w
theorem FU.start (wb : World) : FU wb (.slice (some ⟨wb.heap.size, 0, none⟩) 0 0) 0 [] (wb.alloc (.cells #[] 27)) :=
  ⟨World.ownsRow_made (e := 27) (size := 2) wb #[] 0 (Nat.le_refl _) (Nat.zero_le _) rfl, fun k hk => by simp [Value.ownBlock] at hk; simp; omega, below_alloc _ _⟩
theorem FU.next {wb v n L w w'} (h : FU wb v n L w) (k : Below w.heap.size w w') : FU wb v n L w' :=
  ⟨blk_kept h.own fun g hg => k.block g (h.hi_ g hg), fun g hg => Nat.lt_of_lt_of_le (h.hi_ g hg) k.size, below_up h.up k⟩
theorem FU.form {wb v n L w} (h : FU wb v n L w) : ∃ A c, v = .slice A n c := by
  rcases h.own.2 with ⟨rfl, h0⟩ | ⟨g, cap, cur, rfl, _⟩
  · exact ⟨none, 0, by rw [h0]⟩
  · exact ⟨_, _, rfl⟩
theorem FU.len {wb v n L w} (h : FU wb v n L w) : L.length = 2 * n := by have := h.own.1; rw [List.length_map] at this; omega
theorem FU.push {wb v v' n L w w' u d} (h : FU wb v n L w) (hown : w'.ownsRow wb.heap.size 27 2 v' (n + 1) (L.map iv ++ [iv u, iv d]))
    (hgrow : (w.alloc (.cells #[iv u, iv d] 27)).grownBy w' v.ownBlock) (hat : v'.ownBlock = v.ownBlock ∨ v'.ownBlock = some (w.heap.size + 1)) : FU wb v' (n + 1) (L ++ [u, d]) w' := by
  have hsz := hgrow.size
  simp only [World.size_alloc] at hsz
  have hu : ∀ k, v.ownBlock = some k → wb.heap.size ≤ k := fun k hk => (h.own.lt k hk).1
  have hbelow : ∀ k, k < wb.heap.size → w'.heap[k]? = w.heap[k]? := fun k hk => by
    have := h.up.size
    exact (hgrow.block k (by simp; omega) (fun e => by have := hu k e.symm; omega)).trans (Below.heap_alloc _ _ _ (by omega))
  refine ⟨by rw [List.map_append]; exact hown, fun k hk => ?_, ?_⟩
  · rcases hat with hat | hat
    · have := h.hi_ k (by rw [← hat]; exact hk); omega
    · have := (hown.lt k hk).2; omega
  · exact ⟨hgrow.os.trans h.up.os, hgrow.tape.trans h.up.tape, hgrow.output.trans h.up.output, by have := h.up.size; omega, fun k hk => (hbelow k hk).trans (h.up.block k hk)⟩
theorem FU.new {wb n L w} {A : Option Addr} {c : Nat} (h : FU wb (.slice A n c) n L w) (hm : n ≤ 1000) : NewF wb L (.returned (.slice A n c)) w := by
  have hl := h.len
  have hh := h.hi_
  rcases h.own.2 with ⟨e, h0⟩ | ⟨g, cap, cur, e, hb, hg, hnc, _, hcs, htake⟩
  · injection e with e1 e2 e3
    subst e1
    subst e3
    subst h0
    have : L = [] := List.eq_nil_of_length_eq_zero (by omega)
    subst this
    exact ⟨none, 0, 0, 0, rfl, rfl, OwnF.nil _ _ _ _, h.up⟩
  · injection e with e1 e2 e3
    subst e1
    subst e3
    refine ⟨_, n, c, g, rfl, hl, ⟨⟨hl, hnc, hm, fun _ => ⟨g, 0, rfl, fun k hk => ?_⟩⟩, fun _ => ⟨0, rfl, hb, hh g rfl, fun k _ => ?_⟩⟩, h.up⟩
    · rw [Nat.zero_add, ← getElem_iv (by omega : k < L.length), ← htake, List.getElem?_take, if_pos (by omega)]
      simp [World.cell?, hg]
    · rw [Nat.zero_add]; simp [World.frozen?, hg]
theorem cells_two_new (w : World) (u d : Int) : ∀ j v, [iv u, iv d][j]? = some v → (w.alloc (.cells #[iv u, iv d] 27)).cell? ((⟨w.heap.size, 0, none⟩ : Addr).add j) = some v := fun j v h => by
  have hadd : (⟨w.heap.size, 0, none⟩ : Addr).add j = ⟨w.heap.size, j, none⟩ := by unfold Addr.add; split <;> simp_all
  rw [hadd]
  exact blk_cell (blk_new w _ _) (by simpa using h)
theorem NewF.empty {w w' : World} {ys : List Int} (h : Below w.heap.size w w') (hy : ys = []) : NewF w ys (.returned (.slice none 0 0)) w' := by
  subst hy; exact ⟨none, 0, 0, 0, rfl, rfl, OwnF.nil _ _ _ _, h⟩
theorem NewF.from {w w1 w2 : World} {ys : List Int} {e : Ending} (h : Below w.heap.size w w1) (k : NewF w1 ys e w2) : NewF w ys e w2 := by
  obtain ⟨A, n, c, g, he, hn, ho, hb⟩ := k
  exact ⟨A, n, c, g, he, hn, ho.mono h.size (Nat.le_refl _), below_up h hb⟩
theorem Try.infoF : (Try.prog.info? 27).map (fun i => (i.zero, i.size, i.bytes)) = some (some (.agg #[.int .i64 0, .int .i64 0]), 2, 16) := by kernel_rfl

end Go.Proofs.Ytjkmgpiiamffgaa

/- A list that a call owns; numbers of which the first have turned. -/
namespace Go.Proofs.Ytjkmgpiiamffgaa
open Go.RowKit

/-- A list that a call owns, in block g from its beginning on. -/
structure NX (w : World) (n g : Nat) (L : List Int) (W : World) : Prop where
  own : OwnI w.heap.size W.heap.size W g (some ⟨g, 0, none⟩) n n L
  up : Below w.heap.size w W
  lo : w.heap.size ≤ g
theorem NX.next {w n g L W W'} (h : NX w n g L W) (k : Below W.heap.size W W') : NX w n g L W' := ⟨(h.own.below k).mono (Nat.le_refl _) k.size, below_up h.up k, h.lo⟩
theorem NX.cell {w n g L W} (h : NX w n g L W) {i : Nat} (hi : i < n) : W.cell? ⟨g, i, none⟩ = some (.int .i64 (gi L i)) := by
  obtain ⟨b, o, e, hc⟩ := h.own.ints.at_ (by omega)
  injection e with e
  injection e with e1 e2
  subst e1
  subst e2
  have := hc i hi
  rw [Nat.zero_add] at this
  exact this
theorem NX.frozen {w n g L W} (h : NX w n g L W) {i : Nat} (hi : i < n) : W.frozen? ⟨g, i, none⟩ = false := by
  obtain ⟨o, e, _, _, hf⟩ := h.own.own (by omega)
  injection e with e
  injection e with _ e2
  subst e2
  have := hf i hi
  rw [Nat.zero_add] at this
  exact this
theorem NX.set {w n g L W} (h : NX w n g L W) {i : Nat} (hi : i < n) {v : Int} (hv : -9223372036854775808 ≤ v ∧ v ≤ 9223372036854775807) : NX w n g (L.set i v) (W.setCell ⟨g, i, none⟩ (.int .i64 v)) := by
  have h1 := h.own.set hi hv
  rw [Nat.zero_add] at h1
  exact ⟨h1.mono (Nat.le_refl _) (by simp [World.setCell]), h.up.setCell (p := ⟨g, i, none⟩) h.lo _, h.lo⟩
/-- Numbers of which the first k have turned. -/
def mixT (f h : Nat → Int) (n k : Nat) : List Int := (List.range n).map fun i => if i < k then f i else h i
theorem mixT_len (f h : Nat → Int) (n k : Nat) : (mixT f h n k).length = n := by simp [mixT]
theorem gi_mixT {f h : Nat → Int} {n k i : Nat} (hi : i < n) : gi (mixT f h n k) i = if i < k then f i else h i := by
  rw [gi_get (by rw [mixT_len]; exact hi)]; simp [mixT]
theorem mixT_set {f h : Nat → Int} {n k : Nat} : (mixT f h n k).set k (f k) = mixT f h n (k + 1) := gi_ext (by rw [List.length_set, mixT_len, mixT_len]) fun i hi => by
  rw [List.length_set, mixT_len] at hi
  rw [gi_mixT hi]
  by_cases e : i = k
  · subst e; rw [gi_set_eq (by rw [mixT_len]; exact hi), if_pos (by omega)]
  · rw [gi_set_ne (by rw [mixT_len]; exact hi) e, gi_mixT hi]
    by_cases h2 : i < k
    · rw [if_pos h2, if_pos (by omega)]
    · rw [if_neg h2, if_neg (by omega)]
theorem mixT_zero (f h : Nat → Int) (n : Nat) : mixT f h n 0 = (List.range n).map h := gi_ext (by rw [mixT_len]; simp) fun i hi => by
  rw [mixT_len] at hi
  rw [gi_mixT hi, if_neg (by omega), gi_get (by simpa using hi)]; simp
theorem mixT_all (f h : Nat → Int) (n : Nat) : mixT f h n n = (List.range n).map f := gi_ext (by rw [mixT_len]; simp) fun i hi => by
  rw [mixT_len] at hi
  rw [gi_mixT hi, if_pos hi, gi_get (by simpa using hi)]; simp
theorem list_range (x : List Int) : (List.range x.length).map (gi x) = x := gi_ext (by simp) fun i hi => by
  have hi' : i < x.length := by simpa using hi
  rw [gi_get hi]; simp
theorem gi_range {f : Nat → Int} {n i : Nat} (h : i < n) : gi ((List.range n).map f) i = f i := by rw [gi_get (by simpa using h)]; simp

end Go.Proofs.Ytjkmgpiiamffgaa

/- All cofactors of a square, by the program. -/
namespace Go.Proofs.Ytjkmgpiiamffgaa
open Go.RowKit
open V (sumN detN rowC colC cofN minorN skip sgn)

def cofR (n : Nat) (f : Nat → Nat → Int) (i j : Nat) : List Int := (List.range j).map fun j => cofN n f i j
def cofM (n : Nat) (f : Nat → Nat → Int) (i : Nat) : List (List Int) := (List.range i).map fun i => cofR n f i n
theorem cofR_succ (n : Nat) (f : Nat → Nat → Int) (i j : Nat) : cofR n f i (j + 1) = cofR n f i j ++ [cofN n f i j] := by simp [cofR, List.range_succ]
theorem cofM_succ (n : Nat) (f : Nat → Nat → Int) (i : Nat) : cofM n f (i + 1) = cofM n f i ++ [cofR n f i n] := by simp [cofM, List.range_succ]
theorem cofR_len (n : Nat) (f : Nat → Nat → Int) (i j : Nat) : (cofR n f i j).length = j := by simp [cofR]
theorem cofM_len (n : Nat) (f : Nat → Nat → Int) (i : Nat) : (cofM n f i).length = i := by simp [cofM]
theorem gi_cofR {n : Nat} {f : Nat → Nat → Int} {i j q : Nat} (h : q < j) : gi (cofR n f i j) q = cofN n f i q := by rw [gi_get (by rw [cofR_len]; exact h)]; simp [cofR]
theorem gr_cofM {n : Nat} {f : Nat → Nat → Int} {i p : Nat} (h : p < i) : gr (cofM n f i) p = cofR n f p n := by rw [gr_get (by rw [cofM_len]; exact h)]; simp [cofM]
theorem cofM_sq (n : Nat) (f : Nat → Nat → Int) : Sq n (cofM n f n) (cofN n f) := ⟨cofM_len _ _ _, fun p hp => by rw [gr_cofM hp, cofR_len], fun p q hp hq => by unfold g2; rw [gr_cofM hp, gi_cofR hq]⟩
theorem cofR_bd {n : Nat} {f : Nat → Nat → Int} (hn : n ≤ 3) (h : Ab n f) {i : Nat} (hi : i < n) {j : Nat} (hj : j ≤ n) : ∀ x ∈ cofR n f i j, -118098 ≤ x ∧ x ≤ 118098 := fun x hx => by
  obtain ⟨q, hq, rfl⟩ := List.mem_map.1 hx
  have := List.mem_range.1 hq
  exact cof_bd hn h hi (by omega)

end Go.Proofs.Ytjkmgpiiamffgaa

/- The sums of rows; a square turned: by the program. -/
namespace Go.Proofs.Ytjkmgpiiamffgaa
open Go.RowKit
open V (sumN detN rowC colC cofN minorN skip sgn)

/-- The sums of the first i of n rows, and 0 for the others. -/
def rsT (xss : List (List Int)) (n i : Nat) : List Int := (List.range n).map fun p => if p < i then tot (gr xss p) else 0
def rsL (xss : List (List Int)) (n : Nat) : List Int := (List.range n).map fun p => tot (gr xss p)
theorem rsT_len (xss : List (List Int)) (n i : Nat) : (rsT xss n i).length = n := by simp [rsT]
theorem gi_rsT {xss : List (List Int)} {n i p : Nat} (h : p < n) : gi (rsT xss n i) p = if p < i then tot (gr xss p) else 0 := by rw [gi_get (by rw [rsT_len]; exact h)]; simp [rsT]
theorem rsL_len (xss : List (List Int)) (n : Nat) : (rsL xss n).length = n := by simp [rsL]
theorem gi_rsL {xss : List (List Int)} {n p : Nat} (h : p < n) : gi (rsL xss n) p = tot (gr xss p) := by rw [gi_get (by rw [rsL_len]; exact h)]; simp [rsL]
theorem rsT_zero (xss : List (List Int)) (n : Nat) : rsT xss n 0 = List.replicate n 0 := gi_ext (by rw [rsT_len]; simp) fun p hp => by rw [rsT_len] at hp; rw [gi_rsT hp, gi_repl hp, if_neg (by omega)]
theorem rsT_all (xss : List (List Int)) (n : Nat) : rsT xss n n = rsL xss n := gi_ext (by rw [rsT_len, rsL_len]) fun p hp => by rw [rsT_len] at hp; rw [gi_rsT hp, gi_rsL hp, if_pos hp]
theorem rsT_set {xss : List (List Int)} {n i : Nat} : (rsT xss n i).set i (tot (gr xss i)) = rsT xss n (i + 1) := gi_ext (by rw [List.length_set, rsT_len, rsT_len]) fun p hp => by
  rw [List.length_set, rsT_len] at hp
  rw [gi_set_at (by rw [rsT_len]; exact hp), gi_rsT hp, gi_rsT hp]
  by_cases e : i = p
  · subst e; rw [if_pos rfl, if_pos (by omega)]
  · rw [if_neg e]; split <;> split <;> first | rfl | omega

theorem SU.next {w n ys wr wr'} (h : SU w n ys wr) (k : Below wr.heap.size wr wr') : SU w n ys wr' :=
  ⟨h.own.below k, below_up h.up k, Nat.le_trans h.sz k.size⟩

/-- A square with numbers of any size in memory, every cell. -/
structure TabX (w : World) (b o : Nat) (rb ro cc : Nat → Nat) (n : Nat) (xs : List (List Int)) : Prop where
  row : ∀ i, i < n → w.cell? ⟨b, o + i, none⟩ = some (.slice (some ⟨rb i, ro i, none⟩) n (cc i))
  cell : ∀ i j, i < n → j < n → w.cell? ⟨rb i, ro i + j, none⟩ = some (.int .i64 (g2 xs i j))
  bd : ∀ i j, i < n → j < n → -1000000000000000 ≤ g2 xs i j ∧ g2 xs i j ≤ 1000000000000000
theorem TabX.keep {w w' : World} {b o rb ro cc n xs} (h : TabX w b o rb ro cc n xs) (k : Keep w w') : TabX w' b o rb ro cc n xs :=
  ⟨fun i hi => k _ _ (h.row i hi), fun i j hi hj => k _ _ (h.cell i j hi hj), h.bd⟩
theorem IntRows.tabX {w A n c xs f} (h : IntRows w A n c xs) (q : Sq n xs f) (h0 : 0 < n) (hb : ∀ i j, i < n → j < n → -1000000000000000 ≤ f i j ∧ f i j ≤ 1000000000000000) : ∃ b o rb ro cc, A = some ⟨b, o, none⟩ ∧ TabX w b o rb ro cc n xs := by
  obtain ⟨b, o, rfl, hr⟩ := h.at_ h0
  have each : ∀ i, i < n → ∃ y : Nat × Nat × Nat, w.cell? ⟨b, o + i, none⟩ = some (.slice (some ⟨y.1, y.2.1, none⟩) n y.2.2) ∧ ∀ j, j < n → w.cell? ⟨y.1, y.2.1 + j, none⟩ = some (.int .i64 (g2 xs i j)) := by
    intro i hi
    obtain ⟨R, c', h1, h2⟩ := hr i hi
    have hrow := q.row i hi
    obtain ⟨b2, o2, rfl, hc⟩ := h2.at_ (by omega)
    exact ⟨(b2, o2, c'), by rw [← hrow]; rw [hrow] at h1 ⊢; exact h1, fun j hj => hc j (by omega)⟩
  obtain ⟨y, hy⟩ := Go.Deep.choose_lt each
  exact ⟨b, o, fun i => (y i).1, fun i => (y i).2.1, fun i => (y i).2.2, rfl, fun i hi => (hy i hi).1, fun i j hi hj => (hy i hi).2 j hj, fun i j hi hj => by rw [q.eq i j hi hj]; exact hb i j hi hj⟩
theorem turnO_ownX {w wr : World} {n m : Nat} {xs : List (List Int)} (h : TurnO w wr n m m xs) (hn : n ≤ 3) (hm : m ≤ 3) (hbd : ∀ i j, i < n → j < m → -1000000000000000 ≤ g2 xs i j ∧ g2 xs i j ≤ 1000000000000000) :
    OwnR w.heap.size wr.heap.size wr w.heap.size (some ⟨w.heap.size, 0, none⟩) m m (flip xs n m) := by
  have hs := h.size
  refine ⟨by simp [flip], Nat.le_refl _, by omega, fun _ => ⟨0, fun k => w.heap.size + 1 + k, fun k => some ⟨w.heap.size + 1 + k, 0, none⟩, fun _ => n, rfl, Nat.le_refl _, h.top.lt, fun k hk => ?_, fun j k hj _ _ _ => by show w.heap.size + 1 + j ≠ w.heap.size + 1 + k; omega⟩⟩
  have hl : ((List.range n).map fun i => g2 xs i k).length = n := by simp
  rw [gr_flip hk, hl]
  refine ⟨by rw [Nat.zero_add]; exact h.top.frozen k, by rw [Nat.zero_add, h.top.cell hk, ttop, if_pos hk], OwnI.of_rowIs hl (by omega) ?_ (by show w.heap.size ≤ w.heap.size + 1 + k; omega) (by show w.heap.size + 1 + k < _; omega) (h.done k hk) (fun i hi => by rw [gi_col hi]), fun _ => by show w.heap.size + 1 + k ≠ w.heap.size; omega⟩
  intro x hx
  obtain ⟨i, hi, rfl⟩ := List.mem_map.1 hx
  have := hbd i k (List.mem_range.1 hi) hk
  omega

set_option maxHeartbeats 1000000 in
theorem turnedX_any (b o : Nat) (rb ro cc : Nat → Nat) (n c : Nat) (xs : List (List Int)) (w : World) (h : TabX w b o rb ro cc n xs) (hn1 : 0 < n) (hn3 : n ≤ 3) :
    Calls Try.prog 84 #[.slice (some ⟨b, o, none⟩) n c] w (MadeT w n n xs) := by
  have HT := Lib.hid h
  have r0 := h.row 0 (by omega)
  simp only [Nat.add_zero] at r0
  clear h
  have hmk := run_make_row' (P := Try.prog) 23 30 (.slice none 0 0) 24 Try.underlying23 Try.info30 rfl .i64 .i64 n (by omega) (by omega)
  go_enter Try.func84, Try.ntmps84
  go_wp2
  clear hmk
  go_loopw [13] (fun s wr => ∃ k : Nat, k ≤ n ∧ s = .int .i64 k ∧ Hid (TurnO w wr n n k xs)) (fun s _ => n - (intOf s).toNat)
  case atStart => exact ⟨0, Nat.zero_le _, rfl, Lib.hid (turnO_start w n n xs)⟩
  case round =>
    obtain ⟨k, hk, rfl, HO⟩ := hrel
    by_cases hlt : k < n
    · have hmk2 := run_make_row' (P := Try.prog) 30 3 (.int .i64 0) 8 Try.underlying30 Try.info3 rfl .i64 .i64 n (by omega) (by omega)
      have c1 := (HO.out.top.alloc (.cells (madeCells #[.int .i64 0] n) 3)).cell hlt
      simp only [ttop, if_neg (Nat.lt_irrefl k)] at c1
      have c2 := (HO.out.top.alloc (.cells (madeCells #[.int .i64 0] n) 3)).frozen k
      have HI := Lib.hid (turnI_start HO.out)
      clear HO
      go_wp2
      clear hmk2 c1 c2
      go_loopw [24] (fun s wi => ∃ r : Nat, r ≤ n ∧ s = .int .i64 r ∧ Hid (TurnI w wi n n k r xs)) (fun s _ => n - (intOf s).toNat)
      case atStart => exact ⟨0, Nat.zero_le _, rfl, HI⟩
      case round =>
        clear HI
        obtain ⟨r, hr, rfl, HI⟩ := hrel
        by_cases hrn : r < n
        · have c1 := HI.out.top.cell hlt
          simp only [ttop, if_pos (Nat.lt_succ_self k)] at c1
          have hsrc := (HT.out.keep (Keep.below HI.out.below)).row r hrn
          have hel := (HT.out.keep (Keep.below HI.out.below)).cell r k hrn hlt
          have c3 := HI.out.cur.cell hrn
          simp only [if_neg (Nat.lt_irrefl r)] at c3
          have c4 := HI.out.cur.frozen r
          have HN := Lib.hid ((turnI_step HI.out (Quiet.refl _)).drew)
          go_wp2
          go_region
          all_goals
            clear c1 hsrc hel c3 c4 HI
            go_wp2
            go_roundw
            case rel => exact ⟨r + 1, by omega, by go_num, HN⟩
            case measure => simp [intOf]; omega
        · go_wp2
          go_roundw
          case rel => exact ⟨k + 1, by omega, by go_num, Lib.hid (turnI_done (by have h := HI.out; rw [show r = n by omega] at h; exact h))⟩
          case measure => simp [intOf]; omega
    · go_wp2
      go_ret
      obtain rfl : k = n := by omega
      exact ⟨rfl, turnO_ownX HO.out hn3 hn3 HT.out.bd, HO.out.below, HO.out.top.lt⟩

/-- The sums of cofactors, of rows and of columns. -/
theorem rsL_cofM (n : Nat) (f : Nat → Nat → Int) : rsL (cofM n f n) n = cofL n f n := gi_ext (by rw [rsL_len, cofL_len]) fun p hp => by
  rw [rsL_len] at hp
  rw [gi_rsL hp, gr_cofM hp, gi_cofL hp]
  unfold tot rowC
  rw [cofR_len, sm_sum]
  exact sumN_congr fun q hq => gi_cofR hq
theorem rsL_flip {n : Nat} (hn : n ≤ 3) (f : Nat → Nat → Int) : rsL (flip (cofM n f n) n n) n = cofL n (trN f) n := gi_ext (by rw [rsL_len, cofL_len]) fun q hq => by
  rw [rsL_len] at hq
  rw [gi_rsL hq, gi_cofL hq, rowC_tr hn, gr_flip hq]
  unfold tot colC
  rw [sm_sum, List.length_map, List.length_range]
  exact sumN_congr fun p hp => by rw [gi_col hp]; exact (cofM_sq n f).eq p q hp hq
end Go.Proofs.Ytjkmgpiiamffgaa

/- Valid games, by both programs. -/
namespace Go.Proofs.Ytjkmgpiiamffgaa
open Go.RowKit

set_option maxHeartbeats 400000 in
theorem validGame_any_a (A B : Option Addr) (n c m d : Nat) (xs ys : List (List Int)) (w : World) (hx : IntRows w A n c xs) (hy : IntRows w B m d ys) (h1 : ¬ VT xs) :
    Calls Try.prog 85 #[.agg #[.slice A n c, .slice B m d]] w (Ret (.bool (pb (VG xs ys))) w) := by
  have hb0 := below_alloc w (.cells #[.slice A n c, .slice B m d] 54)
  have b0 := blk_new w 54 #[.slice A n c, .slice B m d]
  have ca := blk_cell b0 (i := 0) (v := .slice A n c) rfl
  have cb := blk_cell b0 (i := 1) (v := .slice B m d) rfl
  have hx1 := hx.keep (Keep.below hb0)
  have hy1 := hy.keep (Keep.below hb0)
  have HB := Lib.hid hb0
  have HX := Lib.hid hx1
  have HY := Lib.hid hy1
  have lx := hx.cap
  have mx := hx.max
  have ly := hy.cap
  have my := hy.max
  clear hb0 b0 hx hy hx1 hy1
  have HV := Lib.hid (pb_false (p := VG xs ys) fun v => h1 v.ta)
  have p1 := pb_false h1
  clear h1
  go_enter Try.func85, Try.ntmps85
  go_wp2
  generalize w.alloc (.cells #[.slice A n c, .slice B m d] 54) = W1 at *
  have QX := Lib.hid (fun W (hW : Quiet W1 W) => (p1 ▸ validTable_any _ _ _ _ W (HX.out.keep (Keep.quiet hW))))
  go_quiet ((go_at_call 101; (with_reducible refine quiet_fit (QX.out _ ?_) (fun m => ?_)); exact ⟨_, rfl⟩; exact drewN_to1 _ _ _))
  go_wp2
  go_ret
  exact ⟨ret_bool HV.out.symm, below_drewN HB.out _⟩

set_option maxHeartbeats 400000 in
theorem validGame_any_b (A B : Option Addr) (n c m d : Nat) (xs ys : List (List Int)) (w : World) (hx : IntRows w A n c xs) (hy : IntRows w B m d ys) (h1 : VT xs) (h2 : ¬ VT ys) :
    Calls Try.prog 85 #[.agg #[.slice A n c, .slice B m d]] w (Ret (.bool (pb (VG xs ys))) w) := by
  have hb0 := below_alloc w (.cells #[.slice A n c, .slice B m d] 54)
  have b0 := blk_new w 54 #[.slice A n c, .slice B m d]
  have ca := blk_cell b0 (i := 0) (v := .slice A n c) rfl
  have cb := blk_cell b0 (i := 1) (v := .slice B m d) rfl
  have hx1 := hx.keep (Keep.below hb0)
  have hy1 := hy.keep (Keep.below hb0)
  have HB := Lib.hid hb0
  have HX := Lib.hid hx1
  have HY := Lib.hid hy1
  have lx := hx.cap
  have mx := hx.max
  have ly := hy.cap
  have my := hy.max
  clear hb0 b0 hx hy hx1 hy1
  have HV := Lib.hid (pb_false (p := VG xs ys) fun v => h2 v.tb)
  have p1 := pb_true h1
  have p2 := pb_false h2
  clear h1 h2
  go_enter Try.func85, Try.ntmps85
  go_wp2
  generalize w.alloc (.cells #[.slice A n c, .slice B m d] 54) = W1 at *
  have QX := Lib.hid (fun W (hW : Quiet W1 W) => (p1 ▸ validTable_any _ _ _ _ W (HX.out.keep (Keep.quiet hW))))
  have QY := Lib.hid (fun W (hW : Quiet W1 W) => (p2 ▸ validTable_any _ _ _ _ W (HY.out.keep (Keep.quiet hW))))
  go_quiet ((go_at_call 101; (first | (with_reducible refine quiet_fit (QX.out _ ?_) (fun m => ?_)) | (with_reducible refine quiet_fit (QY.out _ ?_) (fun m => ?_))); exact ⟨_, rfl⟩; exact drewN_to1 _ _ _))
  go_wp2
  go_ret
  exact ⟨ret_bool HV.out.symm, below_drewN HB.out _⟩

set_option maxHeartbeats 400000 in
theorem validGame_any_c (A B : Option Addr) (n c m d : Nat) (xs ys : List (List Int)) (w : World) (hx : IntRows w A n c xs) (hy : IntRows w B m d ys) (h1 : VT xs) (h2 : VT ys) (h3 : n ≠ m) :
    Calls Try.prog 85 #[.agg #[.slice A n c, .slice B m d]] w (Ret (.bool (pb (VG xs ys))) w) := by
  have hb0 := below_alloc w (.cells #[.slice A n c, .slice B m d] 54)
  have b0 := blk_new w 54 #[.slice A n c, .slice B m d]
  have ca := blk_cell b0 (i := 0) (v := .slice A n c) rfl
  have cb := blk_cell b0 (i := 1) (v := .slice B m d) rfl
  have hx1 := hx.keep (Keep.below hb0)
  have hy1 := hy.keep (Keep.below hb0)
  have HB := Lib.hid hb0
  have HX := Lib.hid hx1
  have HY := Lib.hid hy1
  have lx := hx.cap
  have mx := hx.max
  have ly := hy.cap
  have my := hy.max
  clear hb0 b0 hx hy hx1 hy1
  have HV := Lib.hid (pb_false (p := VG xs ys) fun v => h3 (by have := v.n; rw [HX.out.len, HY.out.len] at this; exact this))
  have h3' : ((n : Int) == (m : Int)) = false := by simp; omega
  have p1 := pb_true h1
  have p2 := pb_true h2
  clear h1 h2 h3
  go_enter Try.func85, Try.ntmps85
  go_wp2
  generalize w.alloc (.cells #[.slice A n c, .slice B m d] 54) = W1 at *
  have QX := Lib.hid (fun W (hW : Quiet W1 W) => (p1 ▸ validTable_any _ _ _ _ W (HX.out.keep (Keep.quiet hW))))
  have QY := Lib.hid (fun W (hW : Quiet W1 W) => (p2 ▸ validTable_any _ _ _ _ W (HY.out.keep (Keep.quiet hW))))
  go_quiet ((go_at_call 101; (first | (with_reducible refine quiet_fit (QX.out _ ?_) (fun m => ?_)) | (with_reducible refine quiet_fit (QY.out _ ?_) (fun m => ?_))); exact ⟨_, rfl⟩; exact drewN_to1 _ _ _))
  go_wp2
  go_ret
  exact ⟨ret_bool HV.out.symm, below_drewN HB.out _⟩

set_option maxHeartbeats 400000 in
theorem validGame_any_d (A B : Option Addr) (n c m d : Nat) (xs ys : List (List Int)) (w : World) (hx : IntRows w A n c xs) (hy : IntRows w B m d ys) (h1 : VT xs) (h2 : VT ys) (h3 : n = m) (h4 : (gr xs 0).length ≠ (gr ys 0).length) :
    Calls Try.prog 85 #[.agg #[.slice A n c, .slice B m d]] w (Ret (.bool (pb (VG xs ys))) w) := by
  have hb0 := below_alloc w (.cells #[.slice A n c, .slice B m d] 54)
  have b0 := blk_new w 54 #[.slice A n c, .slice B m d]
  have ca := blk_cell b0 (i := 0) (v := .slice A n c) rfl
  have cb := blk_cell b0 (i := 1) (v := .slice B m d) rfl
  have hx1 := hx.keep (Keep.below hb0)
  have hy1 := hy.keep (Keep.below hb0)
  have HB := Lib.hid hb0
  have HX := Lib.hid hx1
  have HY := Lib.hid hy1
  have lx := hx.cap
  have mx := hx.max
  have ly := hy.cap
  have my := hy.max
  clear hb0 b0 hx hy hx1 hy1
  have HV := Lib.hid (pb_false (p := VG xs ys) fun v => h4 v.m)
  have h4' : (((gr xs 0).length : Int) == ((gr ys 0).length : Int)) = false := by simp; omega
  have hn0 : 0 < n := by have := h1.n1; rw [HX.out.len] at this; omega
  have p1 := pb_true h1
  have p2 := pb_true h2
  obtain rfl : m = n := h3.symm
  clear h1 h2 h4
  go_enter Try.func85, Try.ntmps85
  go_wp2
  generalize w.alloc (.cells #[.slice A m c, .slice B m d] 54) = W1 at *
  obtain ⟨b, o, rfl, hc⟩ := HX.out.at_ hn0
  obtain ⟨R0, cc0, c0, hR0⟩ := hc 0 hn0
  obtain ⟨b2, o2, rfl, hc2⟩ := HY.out.at_ hn0
  obtain ⟨R2, cc2, c2, hR2⟩ := hc2 0 hn0
  simp only [Nat.add_zero] at c0 c2
  have hL0 : (gr xs 0).length ≤ 17592186044416 := hR0.max
  have hL2 : (gr ys 0).length ≤ 17592186044416 := hR2.max
  clear hc hc2 hR0 hR2
  have QX := Lib.hid (fun W (hW : Quiet W1 W) => (p1 ▸ validTable_any _ _ _ _ W (HX.out.keep (Keep.quiet hW))))
  have QY := Lib.hid (fun W (hW : Quiet W1 W) => (p2 ▸ validTable_any _ _ _ _ W (HY.out.keep (Keep.quiet hW))))
  go_quiet ((go_at_call 101; (first | (with_reducible refine quiet_fit (QX.out _ ?_) (fun m => ?_)) | (with_reducible refine quiet_fit (QY.out _ ?_) (fun m => ?_))); exact ⟨_, rfl⟩; exact drewN_to1 _ _ _))
  go_wp2
  go_ret
  exact ⟨ret_bool HV.out.symm, below_drewN HB.out _⟩

set_option maxHeartbeats 400000 in
theorem validGame_any_e (A B : Option Addr) (n c m d : Nat) (xs ys : List (List Int)) (w : World) (hx : IntRows w A n c xs) (hy : IntRows w B m d ys) (h1 : VT xs) (h2 : VT ys) (h3 : n = m) (h4 : (gr xs 0).length = (gr ys 0).length) :
    Calls Try.prog 85 #[.agg #[.slice A n c, .slice B m d]] w (Ret (.bool (pb (VG xs ys))) w) := by
  have hb0 := below_alloc w (.cells #[.slice A n c, .slice B m d] 54)
  have b0 := blk_new w 54 #[.slice A n c, .slice B m d]
  have ca := blk_cell b0 (i := 0) (v := .slice A n c) rfl
  have cb := blk_cell b0 (i := 1) (v := .slice B m d) rfl
  have hx1 := hx.keep (Keep.below hb0)
  have hy1 := hy.keep (Keep.below hb0)
  have HB := Lib.hid hb0
  have HX := Lib.hid hx1
  have HY := Lib.hid hy1
  have lx := hx.cap
  have mx := hx.max
  have ly := hy.cap
  have my := hy.max
  clear hb0 b0 hx hy hx1 hy1
  have HV := Lib.hid (pb_true (p := VG xs ys) ⟨h1, h2, by rw [HX.out.len, HY.out.len, h3], h4⟩)
  have h4' : (((gr xs 0).length : Int) == ((gr ys 0).length : Int)) = true := by simp [h4]
  have hn0 : 0 < n := by have := h1.n1; rw [HX.out.len] at this; omega
  have p1 := pb_true h1
  have p2 := pb_true h2
  obtain rfl : m = n := h3.symm
  clear h1 h2 h4
  go_enter Try.func85, Try.ntmps85
  go_wp2
  generalize w.alloc (.cells #[.slice A m c, .slice B m d] 54) = W1 at *
  obtain ⟨b, o, rfl, hc⟩ := HX.out.at_ hn0
  obtain ⟨R0, cc0, c0, hR0⟩ := hc 0 hn0
  obtain ⟨b2, o2, rfl, hc2⟩ := HY.out.at_ hn0
  obtain ⟨R2, cc2, c2, hR2⟩ := hc2 0 hn0
  simp only [Nat.add_zero] at c0 c2
  have hL0 : (gr xs 0).length ≤ 17592186044416 := hR0.max
  have hL2 : (gr ys 0).length ≤ 17592186044416 := hR2.max
  clear hc hc2 hR0 hR2
  have QX := Lib.hid (fun W (hW : Quiet W1 W) => (p1 ▸ validTable_any _ _ _ _ W (HX.out.keep (Keep.quiet hW))))
  have QY := Lib.hid (fun W (hW : Quiet W1 W) => (p2 ▸ validTable_any _ _ _ _ W (HY.out.keep (Keep.quiet hW))))
  go_quiet ((go_at_call 101; (first | (with_reducible refine quiet_fit (QX.out _ ?_) (fun m => ?_)) | (with_reducible refine quiet_fit (QY.out _ ?_) (fun m => ?_))); exact ⟨_, rfl⟩; exact drewN_to1 _ _ _))
  go_wp2
  go_ret
  exact ⟨ret_bool HV.out.symm, below_drewN HB.out _⟩

theorem validGame_any (A B : Option Addr) (n c m d : Nat) (xs ys : List (List Int)) (w : World) (hx : IntRows w A n c xs) (hy : IntRows w B m d ys) :
    Calls Try.prog 85 #[.agg #[.slice A n c, .slice B m d]] w (Ret (.bool (pb (VG xs ys))) w) := by
  by_cases h1 : VT xs
  · by_cases h2 : VT ys
    · by_cases h3 : n = m
      · by_cases h4 : (gr xs 0).length = (gr ys 0).length
        · exact validGame_any_e _ _ _ _ _ _ _ _ _ hx hy h1 h2 h3 h4
        · exact validGame_any_d _ _ _ _ _ _ _ _ _ hx hy h1 h2 h3 h4
      · exact validGame_any_c _ _ _ _ _ _ _ _ _ hx hy h1 h2 h3
    · exact validGame_any_b _ _ _ _ _ _ _ _ _ hx hy h1 h2
  · exact validGame_any_a _ _ _ _ _ _ _ _ _ hx hy h1

set_option maxHeartbeats 400000 in
theorem ValidGame_impl_a (A B : Option Addr) (n c m d : Nat) (xs ys : List (List Int)) (w : World) (hx : IntRows w A n c xs) (hy : IntRows w B m d ys) (h1 : ¬ VT xs) :
    Calls Try.prog 81 #[.agg #[.slice A n c, .slice B m d]] w (Ret (.bool (pb (VG xs ys))) w) := by
  have hb0 := below_alloc w (.cells #[.slice A n c, .slice B m d] 54)
  have b0 := blk_new w 54 #[.slice A n c, .slice B m d]
  have ca := blk_cell b0 (i := 0) (v := .slice A n c) rfl
  have cb := blk_cell b0 (i := 1) (v := .slice B m d) rfl
  have hx1 := hx.keep (Keep.below hb0)
  have hy1 := hy.keep (Keep.below hb0)
  have HB := Lib.hid hb0
  have HX := Lib.hid hx1
  have HY := Lib.hid hy1
  have lx := hx.cap
  have mx := hx.max
  have ly := hy.cap
  have my := hy.max
  clear hb0 b0 hx hy hx1 hy1
  have HV := Lib.hid (pb_false (p := VG xs ys) fun v => h1 v.ta)
  have p1 := pb_false h1
  clear h1
  go_enter Try.func81, Try.ntmps81
  go_wp2
  generalize w.alloc (.cells #[.slice A n c, .slice B m d] 54) = W1 at *
  have QX := Lib.hid (fun W (hW : Quiet W1 W) => (p1 ▸ ValidTable_impl _ _ _ _ W (HX.out.keep (Keep.quiet hW))))
  go_quiet ((go_at_call 104; (with_reducible refine quiet_fit (QX.out _ ?_) (fun m => ?_)); exact ⟨_, rfl⟩; exact drewN_to1 _ _ _))
  go_wp2
  go_ret
  exact ⟨ret_bool HV.out.symm, below_drewN HB.out _⟩

set_option maxHeartbeats 400000 in
theorem ValidGame_impl_b (A B : Option Addr) (n c m d : Nat) (xs ys : List (List Int)) (w : World) (hx : IntRows w A n c xs) (hy : IntRows w B m d ys) (h1 : VT xs) (h2 : ¬ VT ys) :
    Calls Try.prog 81 #[.agg #[.slice A n c, .slice B m d]] w (Ret (.bool (pb (VG xs ys))) w) := by
  have hb0 := below_alloc w (.cells #[.slice A n c, .slice B m d] 54)
  have b0 := blk_new w 54 #[.slice A n c, .slice B m d]
  have ca := blk_cell b0 (i := 0) (v := .slice A n c) rfl
  have cb := blk_cell b0 (i := 1) (v := .slice B m d) rfl
  have hx1 := hx.keep (Keep.below hb0)
  have hy1 := hy.keep (Keep.below hb0)
  have HB := Lib.hid hb0
  have HX := Lib.hid hx1
  have HY := Lib.hid hy1
  have lx := hx.cap
  have mx := hx.max
  have ly := hy.cap
  have my := hy.max
  clear hb0 b0 hx hy hx1 hy1
  have HV := Lib.hid (pb_false (p := VG xs ys) fun v => h2 v.tb)
  have p1 := pb_true h1
  have p2 := pb_false h2
  clear h1 h2
  go_enter Try.func81, Try.ntmps81
  go_wp2
  generalize w.alloc (.cells #[.slice A n c, .slice B m d] 54) = W1 at *
  have QX := Lib.hid (fun W (hW : Quiet W1 W) => (p1 ▸ ValidTable_impl _ _ _ _ W (HX.out.keep (Keep.quiet hW))))
  have QY := Lib.hid (fun W (hW : Quiet W1 W) => (p2 ▸ ValidTable_impl _ _ _ _ W (HY.out.keep (Keep.quiet hW))))
  go_quiet ((go_at_call 104; (first | (with_reducible refine quiet_fit (QX.out _ ?_) (fun m => ?_)) | (with_reducible refine quiet_fit (QY.out _ ?_) (fun m => ?_))); exact ⟨_, rfl⟩; exact drewN_to1 _ _ _))
  go_wp2
  go_ret
  exact ⟨ret_bool HV.out.symm, below_drewN HB.out _⟩

set_option maxHeartbeats 400000 in
theorem ValidGame_impl_c (A B : Option Addr) (n c m d : Nat) (xs ys : List (List Int)) (w : World) (hx : IntRows w A n c xs) (hy : IntRows w B m d ys) (h1 : VT xs) (h2 : VT ys) (h3 : n ≠ m) :
    Calls Try.prog 81 #[.agg #[.slice A n c, .slice B m d]] w (Ret (.bool (pb (VG xs ys))) w) := by
  have hb0 := below_alloc w (.cells #[.slice A n c, .slice B m d] 54)
  have b0 := blk_new w 54 #[.slice A n c, .slice B m d]
  have ca := blk_cell b0 (i := 0) (v := .slice A n c) rfl
  have cb := blk_cell b0 (i := 1) (v := .slice B m d) rfl
  have hx1 := hx.keep (Keep.below hb0)
  have hy1 := hy.keep (Keep.below hb0)
  have HB := Lib.hid hb0
  have HX := Lib.hid hx1
  have HY := Lib.hid hy1
  have lx := hx.cap
  have mx := hx.max
  have ly := hy.cap
  have my := hy.max
  clear hb0 b0 hx hy hx1 hy1
  have HV := Lib.hid (pb_false (p := VG xs ys) fun v => h3 (by have := v.n; rw [HX.out.len, HY.out.len] at this; exact this))
  have h3' : ((n : Int) == (m : Int)) = false := by simp; omega
  have p1 := pb_true h1
  have p2 := pb_true h2
  clear h1 h2 h3
  go_enter Try.func81, Try.ntmps81
  go_wp2
  generalize w.alloc (.cells #[.slice A n c, .slice B m d] 54) = W1 at *
  have QX := Lib.hid (fun W (hW : Quiet W1 W) => (p1 ▸ ValidTable_impl _ _ _ _ W (HX.out.keep (Keep.quiet hW))))
  have QY := Lib.hid (fun W (hW : Quiet W1 W) => (p2 ▸ ValidTable_impl _ _ _ _ W (HY.out.keep (Keep.quiet hW))))
  go_quiet ((go_at_call 104; (first | (with_reducible refine quiet_fit (QX.out _ ?_) (fun m => ?_)) | (with_reducible refine quiet_fit (QY.out _ ?_) (fun m => ?_))); exact ⟨_, rfl⟩; exact drewN_to1 _ _ _))
  go_wp2
  go_ret
  exact ⟨ret_bool HV.out.symm, below_drewN HB.out _⟩

set_option maxHeartbeats 400000 in
theorem ValidGame_impl_d (A B : Option Addr) (n c m d : Nat) (xs ys : List (List Int)) (w : World) (hx : IntRows w A n c xs) (hy : IntRows w B m d ys) (h1 : VT xs) (h2 : VT ys) (h3 : n = m) (h4 : (gr xs 0).length ≠ (gr ys 0).length) :
    Calls Try.prog 81 #[.agg #[.slice A n c, .slice B m d]] w (Ret (.bool (pb (VG xs ys))) w) := by
  have hb0 := below_alloc w (.cells #[.slice A n c, .slice B m d] 54)
  have b0 := blk_new w 54 #[.slice A n c, .slice B m d]
  have ca := blk_cell b0 (i := 0) (v := .slice A n c) rfl
  have cb := blk_cell b0 (i := 1) (v := .slice B m d) rfl
  have hx1 := hx.keep (Keep.below hb0)
  have hy1 := hy.keep (Keep.below hb0)
  have HB := Lib.hid hb0
  have HX := Lib.hid hx1
  have HY := Lib.hid hy1
  have lx := hx.cap
  have mx := hx.max
  have ly := hy.cap
  have my := hy.max
  clear hb0 b0 hx hy hx1 hy1
  have HV := Lib.hid (pb_false (p := VG xs ys) fun v => h4 v.m)
  have h4' : (((gr xs 0).length : Int) == ((gr ys 0).length : Int)) = false := by simp; omega
  have hn0 : 0 < n := by have := h1.n1; rw [HX.out.len] at this; omega
  have p1 := pb_true h1
  have p2 := pb_true h2
  obtain rfl : m = n := h3.symm
  clear h1 h2 h4
  go_enter Try.func81, Try.ntmps81
  go_wp2
  generalize w.alloc (.cells #[.slice A m c, .slice B m d] 54) = W1 at *
  obtain ⟨b, o, rfl, hc⟩ := HX.out.at_ hn0
  obtain ⟨R0, cc0, c0, hR0⟩ := hc 0 hn0
  obtain ⟨b2, o2, rfl, hc2⟩ := HY.out.at_ hn0
  obtain ⟨R2, cc2, c2, hR2⟩ := hc2 0 hn0
  simp only [Nat.add_zero] at c0 c2
  have hL0 : (gr xs 0).length ≤ 17592186044416 := hR0.max
  have hL2 : (gr ys 0).length ≤ 17592186044416 := hR2.max
  clear hc hc2 hR0 hR2
  have QX := Lib.hid (fun W (hW : Quiet W1 W) => (p1 ▸ ValidTable_impl _ _ _ _ W (HX.out.keep (Keep.quiet hW))))
  have QY := Lib.hid (fun W (hW : Quiet W1 W) => (p2 ▸ ValidTable_impl _ _ _ _ W (HY.out.keep (Keep.quiet hW))))
  go_quiet ((go_at_call 104; (first | (with_reducible refine quiet_fit (QX.out _ ?_) (fun m => ?_)) | (with_reducible refine quiet_fit (QY.out _ ?_) (fun m => ?_))); exact ⟨_, rfl⟩; exact drewN_to1 _ _ _))
  go_wp2
  go_ret
  exact ⟨ret_bool HV.out.symm, below_drewN HB.out _⟩

set_option maxHeartbeats 400000 in
theorem ValidGame_impl_e (A B : Option Addr) (n c m d : Nat) (xs ys : List (List Int)) (w : World) (hx : IntRows w A n c xs) (hy : IntRows w B m d ys) (h1 : VT xs) (h2 : VT ys) (h3 : n = m) (h4 : (gr xs 0).length = (gr ys 0).length) :
    Calls Try.prog 81 #[.agg #[.slice A n c, .slice B m d]] w (Ret (.bool (pb (VG xs ys))) w) := by
  have hb0 := below_alloc w (.cells #[.slice A n c, .slice B m d] 54)
  have b0 := blk_new w 54 #[.slice A n c, .slice B m d]
  have ca := blk_cell b0 (i := 0) (v := .slice A n c) rfl
  have cb := blk_cell b0 (i := 1) (v := .slice B m d) rfl
  have hx1 := hx.keep (Keep.below hb0)
  have hy1 := hy.keep (Keep.below hb0)
  have HB := Lib.hid hb0
  have HX := Lib.hid hx1
  have HY := Lib.hid hy1
  have lx := hx.cap
  have mx := hx.max
  have ly := hy.cap
  have my := hy.max
  clear hb0 b0 hx hy hx1 hy1
  have HV := Lib.hid (pb_true (p := VG xs ys) ⟨h1, h2, by rw [HX.out.len, HY.out.len, h3], h4⟩)
  have h4' : (((gr xs 0).length : Int) == ((gr ys 0).length : Int)) = true := by simp [h4]
  have hn0 : 0 < n := by have := h1.n1; rw [HX.out.len] at this; omega
  have p1 := pb_true h1
  have p2 := pb_true h2
  obtain rfl : m = n := h3.symm
  clear h1 h2 h4
  go_enter Try.func81, Try.ntmps81
  go_wp2
  generalize w.alloc (.cells #[.slice A m c, .slice B m d] 54) = W1 at *
  obtain ⟨b, o, rfl, hc⟩ := HX.out.at_ hn0
  obtain ⟨R0, cc0, c0, hR0⟩ := hc 0 hn0
  obtain ⟨b2, o2, rfl, hc2⟩ := HY.out.at_ hn0
  obtain ⟨R2, cc2, c2, hR2⟩ := hc2 0 hn0
  simp only [Nat.add_zero] at c0 c2
  have hL0 : (gr xs 0).length ≤ 17592186044416 := hR0.max
  have hL2 : (gr ys 0).length ≤ 17592186044416 := hR2.max
  clear hc hc2 hR0 hR2
  have QX := Lib.hid (fun W (hW : Quiet W1 W) => (p1 ▸ ValidTable_impl _ _ _ _ W (HX.out.keep (Keep.quiet hW))))
  have QY := Lib.hid (fun W (hW : Quiet W1 W) => (p2 ▸ ValidTable_impl _ _ _ _ W (HY.out.keep (Keep.quiet hW))))
  go_quiet ((go_at_call 104; (first | (with_reducible refine quiet_fit (QX.out _ ?_) (fun m => ?_)) | (with_reducible refine quiet_fit (QY.out _ ?_) (fun m => ?_))); exact ⟨_, rfl⟩; exact drewN_to1 _ _ _))
  go_wp2
  go_ret
  exact ⟨ret_bool HV.out.symm, below_drewN HB.out _⟩

theorem ValidGame_impl (A B : Option Addr) (n c m d : Nat) (xs ys : List (List Int)) (w : World) (hx : IntRows w A n c xs) (hy : IntRows w B m d ys) :
    Calls Try.prog 81 #[.agg #[.slice A n c, .slice B m d]] w (Ret (.bool (pb (VG xs ys))) w) := by
  by_cases h1 : VT xs
  · by_cases h2 : VT ys
    · by_cases h3 : n = m
      · by_cases h4 : (gr xs 0).length = (gr ys 0).length
        · exact ValidGame_impl_e _ _ _ _ _ _ _ _ _ hx hy h1 h2 h3 h4
        · exact ValidGame_impl_d _ _ _ _ _ _ _ _ _ hx hy h1 h2 h3 h4
      · exact ValidGame_impl_c _ _ _ _ _ _ _ _ _ hx hy h1 h2 h3
    · exact ValidGame_impl_b _ _ _ _ _ _ _ _ _ hx hy h1 h2
  · exact ValidGame_impl_a _ _ _ _ _ _ _ _ _ hx hy h1

end Go.Proofs.Ytjkmgpiiamffgaa

/- No rounds, by the model. -/
namespace Go.Proofs.Ytjkmgpiiamffgaa
open Go.RowKit

theorem upTo_ {P : Nat → Prop} {a : Nat} (h : ∀ l, l < a → P l) (z : P a) : ∀ l, l < a + 1 → P l := fun l hl => by
  by_cases hla : l < a
  · exact h l hla
  · obtain rfl : l = a := by omega
    exact z

end Go.Proofs.Ytjkmgpiiamffgaa

/- Pure rests, by the model. -/
namespace Go.Proofs.Ytjkmgpiiamffgaa
open Go.RowKit

/-- It returns rows of its own. -/
def RetR (xss : List (List Int)) (w : World) (e : Ending) (w' : World) : Prop :=
  ∃ A n c g, e = .returned (.slice A n c) ∧ n = xss.length ∧ OwnR w.heap.size w'.heap.size w' g A n c xss ∧ Below w.heap.size w w'

end Go.Proofs.Ytjkmgpiiamffgaa

/- Pure rests, by the program. -/
namespace Go.Proofs.Ytjkmgpiiamffgaa
open Go.RowKit

set_option maxHeartbeats 400000 in
theorem Max_any (A : Option Addr) (n c : Nat) (r : List Int) (w : World) (hx : Ints w A n c r) (h0 : 0 < n) :
    Calls Try.prog 87 #[.slice A n c] w fun e w' => e = .returned (.int .i64 (mxl r)) ∧ Quiet w w' := by
  obtain ⟨lx, cx, mx_, _, hx⟩ := hx
  have Lx := Lib.hid lx
  clear lx
  obtain ⟨b, o, rfl, hc⟩ := hx h0
  have c0 := hc 0 h0
  simp only [Nat.add_zero] at c0
  go_enter Try.func87, Try.ntmps87
  go_wp2
  go_loopw [3, 4] (fun m i wr => ∃ k : Nat, k < n ∧ i = .int .i64 (k + 1 : Nat) ∧ m = .int .i64 (mx r k) ∧ Quiet w wr) (fun _ i _ => n - (intOf i).toNat)
  case atStart => exact ⟨0, h0, rfl, rfl, Quiet.refl _⟩
  case round =>
    obtain ⟨k, hk, rfl, rfl, q, rfl⟩ := hrel
    by_cases hlt : k + 1 < n
    · have c1 := hc (k + 1) hlt
      clear c0 hc
      go_wp2
      go_roundw
      case rel => exact ⟨k + 1, hlt, by go_num, congrArg (Value.int .i64) (by simp only [mx]; split <;> omega), ⟨_, rfl⟩⟩
      case measure => simp [intOf]; omega
    · obtain rfl : n = k + 1 := by omega
      go_wp2
      go_ret
      exact ⟨ret_int (by rw [mxl, Lx.out]; rfl), ⟨_, rfl⟩⟩

theorem RestAt_iff {xs ys : List (List Int)} {n m i j : Nat} (hi : i < n) (hj : j < m) (hl : (gr ys i).length = m) :
    RestAt xs ys n m i j ↔ g2 xs i j = mxl (gr (flip xs n m) j) ∧ g2 ys i j = mxl (gr ys i) := by
  have hc : gi (gr (flip xs n m) j) i = g2 xs i j := by rw [gr_flip hj, gi_col hi]
  have hcl : (gr (flip xs n m) j).length = n := by rw [gr_flip hj]; simp
  rw [← hc, mxl_iff (by rw [hcl]; exact hi), show g2 ys i j = gi (gr ys i) j from rfl, mxl_iff (by rw [hl]; exact hj), hcl, hl]
  constructor
  · rintro ⟨h1, h2⟩
    exact ⟨fun k hk => by rw [hc, gr_flip hj, gi_col hk]; exact h1 k hk, h2⟩
  · rintro ⟨h1, h2⟩
    exact ⟨fun k hk => by have := h1 k hk; rw [hc, gr_flip hj, gi_col hk] at this; exact this, h2⟩

theorem OwnR.row0 {lo hi w b n c xss} (h : OwnR lo hi w b (some ⟨b, 0, none⟩) n c xss) {k : Nat} (hk : k < n) : ∃ R cc, w.cell? ⟨b, k, none⟩ = some (.slice R (gr xss k).length cc) ∧ Ints w R (gr xss k).length cc (gr xss k) := by
  obtain ⟨o, G, R, C, e, _, _, hr, _⟩ := h.at_ (by omega)
  injection e with e
  injection e with _ e _
  subst e
  have := (hr k hk).2.1
  rw [Nat.zero_add] at this
  exact ⟨R k, C k, this, (hr k hk).2.2.1.ints⟩
end Go.Proofs.Ytjkmgpiiamffgaa

/- The least of a row; the safe row. -/
namespace Go.Proofs.Ytjkmgpiiamffgaa
open Go.RowKit

set_option maxHeartbeats 400000 in
theorem Min_any (A : Option Addr) (n c : Nat) (r : List Int) (w : World) (hx : Ints w A n c r) (h0 : 0 < n) :
    Calls Try.prog 109 #[.slice A n c] w fun e w' => e = .returned (.int .i64 (lst r)) ∧ Quiet w w' := by
  obtain ⟨lx, cx, mx, _, hx⟩ := hx
  have Lx := Lib.hid lx
  clear lx
  obtain ⟨b, o, rfl, hc⟩ := hx h0
  have c0 := hc 0 h0
  simp only [Nat.add_zero] at c0
  go_enter Try.func109, Try.ntmps109
  go_wp2
  go_loopw [3, 4] (fun m i wr => ∃ k : Nat, k < n ∧ i = .int .i64 (k + 1 : Nat) ∧ m = .int .i64 (mn r k) ∧ Quiet w wr) (fun _ i _ => n - (intOf i).toNat)
  case atStart => exact ⟨0, h0, rfl, rfl, Quiet.refl _⟩
  case round =>
    obtain ⟨k, hk, rfl, rfl, q, rfl⟩ := hrel
    by_cases hlt : k + 1 < n
    · have c1 := hc (k + 1) hlt
      clear c0 hc
      go_wp2
      go_roundw
      case rel => exact ⟨k + 1, hlt, by go_num, congrArg (Value.int .i64) (by simp only [mn]; split <;> omega), ⟨_, rfl⟩⟩
      case measure => simp [intOf]; omega
    · obtain rfl : n = k + 1 := by omega
      go_wp2
      go_ret
      exact ⟨ret_int (by rw [lst, Lx.out]; rfl), ⟨_, rfl⟩⟩

/-- What a valid table's rows are, each with its length. -/
theorem VT.len {a : List (List Int)} (v : VT a) {i : Nat} (hi : i < a.length) : (gr a i).length = (gr a 0).length := (v.rows i hi).1

noncomputable def srAt (a : List (List Int)) : Int := if pb (VT a) = true then (bst a a.length : Int) else 0
noncomputable def srNum (a : List (List Int)) : Int := if pb (VT a) = true then lst (gr a (bst a a.length)) else 0
end Go.Proofs.Ytjkmgpiiamffgaa

