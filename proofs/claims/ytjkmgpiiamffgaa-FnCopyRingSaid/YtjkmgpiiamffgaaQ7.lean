/- Texts merged: K8 K9 K10 K11 Y8 UG Y7 Math31 U0 U1 U2 U3 U4. -/
import Derived.Test.YtjkmgpiiamffgaaQ6
import Derived.Laws.CopyOwn
/- The next shares, by both programs. -/
namespace Go.Proofs.Ytjkmgpiiamffgaa
open Go.RowKit

/-- What the next shares are to each other. -/
def nxV (a : List (List Int)) (x : List Int) (n i : Nat) : Int := gi x i * dotr a x i n
def nxL (a : List (List Int)) (x : List Int) (n k : Nat) : List Int := (List.range k).map (nxV a x n)
theorem nxL_succ (a : List (List Int)) (x : List Int) (n k : Nat) : nxL a x n (k + 1) = nxL a x n k ++ [nxV a x n k] := by simp [nxL, List.range_succ]
theorem nxL_len (a : List (List Int)) (x : List Int) (n k : Nat) : (nxL a x n k).length = k := by simp [nxL]
theorem gi_nxL {a : List (List Int)} {x : List Int} {n k i : Nat} (h : i < k) : gi (nxL a x n k) i = nxV a x n i := gi_range h
theorem VQ.len2' {a : List (List Int)} {n : Nat} (v : VQ a) (hl : a.length = n) : (gr a 0).length = n := by have := v.2; omega
theorem dotr_pos {a : List (List Int)} {x : List Int} {i n : Nat} (ha : ∀ j, j < n → 1 ≤ g2 a i j) (hx : ∀ j, j < n → 0 ≤ gi x j) : ∀ {k}, k ≤ n → sm x k ≤ dotr a x i k
  | 0, _ => Int.le_refl _
  | k + 1, h => by
    have h1 := dotr_pos ha hx (k := k) (by omega)
    have h2 := ha k (by omega)
    have h3 := hx k (by omega)
    have h4 : 1 * gi x k ≤ g2 a i k * gi x k := Int.mul_le_mul_of_nonneg_right h2 h3
    simp only [sm, dotr]
    omega
/-- A field and shares. -/
structure FS (a : List (List Int)) (x : List Int) (n : Nat) : Prop where
  f : VF a
  s : VS x (n : Int)
  l : a.length = n
theorem FS.n3 {a x n} (h : FS a x n) : 1 ≤ n ∧ n ≤ 3 := by have := h.f.q.1.n1; have := h.f.q.1.n3; have := h.l; omega
theorem FS.xl {a x n} (h : FS a x n) : x.length = n := by have := h.s.1; omega
theorem FS.x {a x n} (h : FS a x n) : ∀ j, j < n → 0 ≤ gi x j ∧ gi x j ≤ 1000 := VS.bds h.s
theorem FS.a {a x n} (h : FS a x n) {i j : Nat} (hi : i < n) (hj : j < n) : 1 ≤ g2 a i j ∧ g2 a i j ≤ 9 := by
  have hl := h.l
  have h1 := h.f.p i j (by omega) (by omega)
  have h2 := h.f.q.1.bd (i := i) (j := j) (by omega) (by have := h.f.q.2; omega)
  omega
theorem FS.dot {a x n} (h : FS a x n) {i : Nat} (hi : i < n) : 1 ≤ dotr a x i n ∧ dotr a x i n ≤ 27000 := by
  have h0 := h.n3
  have h1 := dotr_pos (a := a) (x := x) (i := i) (n := n) (fun j hj => (h.a hi hj).1) (fun j hj => (h.x j hj).1) (Nat.le_refl n)
  have h2 := dotr_bd (a := a) (w := x) (i := i) (m := n) (fun j hj => by have := h.a hi hj; omega) h.x (Nat.le_refl n)
  have h3 := h.s.2.2
  unfold tot at h3
  rw [h.xl] at h3
  omega
theorem FS.nx {a x n} (h : FS a x n) {i : Nat} (hi : i < n) : 0 ≤ nxV a x n i ∧ nxV a x n i ≤ 27000000 ∧ (0 < gi x i → 0 < nxV a x n i) := by
  have h1 := h.dot hi
  have h2 := h.x i hi
  unfold nxV
  have h3 : 0 * dotr a x i n ≤ gi x i * dotr a x i n := Int.mul_le_mul_of_nonneg_right h2.1 (by omega)
  have h4 : gi x i * dotr a x i n ≤ 1000 * 27000 := Int.mul_le_mul h2.2 h1.2 (by omega) (by omega)
  exact ⟨by omega, by omega, fun h => Int.mul_pos h (by omega)⟩
theorem sm_has {x : List Int} : ∀ {k}, (∀ j, j < k → 0 ≤ gi x j) → 0 < sm x k → ∃ j, j < k ∧ 0 < gi x j
  | 0, _, h => by simp [sm] at h
  | k + 1, hp, h => by
    by_cases e : 0 < gi x k
    · exact ⟨k, by omega, e⟩
    · have h1 := hp k (by omega)
      obtain ⟨j, hj, hp'⟩ := sm_has (x := x) (k := k) (fun j hj => hp j (by omega)) (by simp only [sm] at h; omega)
      exact ⟨j, by omega, hp'⟩
theorem FS.clr {a x n} (h : FS a x n) : ClrP (nxL a x n n) ∧ 0 < gcdL (nxL a x n n) n := by
  have h0 := h.s.2.2
  unfold tot at h0
  rw [h.xl] at h0
  obtain ⟨j, hj, hp⟩ := sm_has (fun j hj => (h.x j hj).1) h0
  have hc : ClrP (nxL a x n n) := by
    refine ⟨⟨j, by rw [nxL_len]; exact hj, ?_⟩, .inl fun p hp => ?_⟩
    · rw [gi_nxL hj]; have := (h.nx hj).2.2 hp; omega
    · rw [nxL_len] at hp; rw [gi_nxL hp]; exact (h.nx hp).1
  exact ⟨hc, (clr_yes (nxL_len a x n n) hc).1⟩
theorem FS.mid {a x n} (h : FS a x n) : ∀ p, p < (nxL a x n n).length → Mid (gi (nxL a x n n) p) := fun p hp => by
  rw [nxL_len] at hp
  rw [gi_nxL hp]
  have := h.nx hp
  unfold Mid
  omega
/-- What NextShares answers. -/
noncomputable def nsF (a : List (List Int)) (x : List Int) : List Int := if pb (VF a ∧ VS x a.length) = true then clrL (nxL a x a.length a.length) (gcdL (nxL a x a.length a.length) a.length) a.length else []
theorem nsF_yes {a : List (List Int)} {x : List Int} {n : Nat} (h : FS a x n) : nsF a x = clrL (nxL a x n n) (gcdL (nxL a x n n) n) n := by
  unfold nsF; rw [if_pos (pb_true ⟨h.f, by rw [h.l]; exact h.s⟩), h.l]
theorem nsF_no {a : List (List Int)} {x : List Int} (h : ¬ (VF a ∧ VS x a.length)) : nsF a x = [] := by unfold nsF; rw [if_neg (by rw [pb_false h]; decide)]
theorem FS.of {a : List (List Int)} {x : List Int} {n : Nat} (hl : a.length = n) (hf : VF a) (hs : VS x (n : Int)) : FS a x n := ⟨hf, hs, hl⟩
theorem nsF_le (a : List (List Int)) (x : List Int) : (nsF a x).length ≤ 100 := by
  by_cases h : VF a ∧ VS x a.length
  · have hf : FS a x a.length := ⟨h.1, h.2, rfl⟩
    have := hf.n3
    rw [nsF_yes hf, clrL_len]; omega
  · rw [nsF_no h]; simp

end Go.Proofs.Ytjkmgpiiamffgaa

/- NextShares, by both programs. -/
namespace Go.Proofs.Ytjkmgpiiamffgaa
open Go.RowKit

theorem NewI.empty {w w' : World} {ys : List Int} (h : Below w.heap.size w w') (hy : ys = []) : NewI w ys (.returned (.slice none 0 0)) w' := by
  subst hy; exact ⟨none, 0, 0, 0, rfl, rfl, OwnI.nil _ _ _ _, h⟩
theorem NewI.from {w w1 w2 : World} {ys : List Int} {e : Ending} (h : Below w.heap.size w w1) (k : NewI w1 ys e w2) : NewI w ys e w2 := by
  obtain ⟨A, n, c, g, he, hn, ho, hb⟩ := k
  exact ⟨A, n, c, g, he, hn, ho.mono h.size (Nat.le_refl _), below_up h hb⟩


end Go.Proofs.Ytjkmgpiiamffgaa

/- NextShares, by the program. -/
namespace Go.Proofs.Ytjkmgpiiamffgaa
open Go.RowKit

/-- The next shares on their way, beside the closure's boxes. -/
structure NL (n g pa pw b o c cw : Nat) (Y : Option Addr) (w : World) (L : List Int) (W : World) : Prop where
  nx : NX w n g L W
  ca : W.cell? ⟨pa, 0, none⟩ = some (.slice (some ⟨b, o, none⟩) n c)
  cs : W.cell? ⟨pw, 0, none⟩ = some (.slice Y n cw)
  ha : pa ≠ g
  hs : pw ≠ g
theorem NL.next {n g pa pw b o c cw Y w L W W'} (h : NL n g pa pw b o c cw Y w L W) (k : Below W.heap.size W W') : NL n g pa pw b o c cw Y w L W' :=
  ⟨h.nx.next k, Keep.below k _ _ h.ca, Keep.below k _ _ h.cs, h.ha, h.hs⟩
theorem NL.set {n g pa pw b o c cw Y w L W} (h : NL n g pa pw b o c cw Y w L W) {i : Nat} (hi : i < n) {v : Int} (hv : -9223372036854775808 ≤ v ∧ v ≤ 9223372036854775807) :
    NL n g pa pw b o c cw Y w (L.set i v) (W.setCell ⟨g, i, none⟩ (.int .i64 v)) :=
  ⟨h.nx.set hi hv, by rw [World.cell?_setCell_other _ _ _ _ (by intro e; have := congrArg Addr.block e; first | exact h.ha this | exact h.ha this.symm)]; exact h.ca, by rw [World.cell?_setCell_other _ _ _ _ (by intro e; have := congrArg Addr.block e; first | exact h.hs this | exact h.hs this.symm)]; exact h.cs, h.ha, h.hs⟩
theorem NL.pa {n g pa pw b o c cw Y w L W} {a : List (List Int)} {x : List Int} {rb ro cc : Nat → Nat} (h : NL n g pa pw b o c cw Y w L W) (ht : Tab w b o rb ro cc n n a) (hx : Ints w Y n cw x) (hb : ∀ j, j < n → 0 ≤ gi x j ∧ gi x j ≤ 1000) :
    PA a x n pa pw b o c cw rb ro cc Y W := ⟨ht.keep (Keep.below h.nx.up), hx.keep (Keep.below h.nx.up), hb, h.ca, h.cs⟩

end Go.Proofs.Ytjkmgpiiamffgaa

/- Growth, by the model: a slice of fractions made by append. -/
namespace Go.Proofs.Ytjkmgpiiamffgaa
open Go.RowKit

theorem payR_dot (a : List (List Int)) (x y : List Int) (i : Nat) : ∀ j, payR a x y i j = gi x i * dotr a y i j
  | 0 => by simp [payR, dotr]
  | j + 1 => by
    rw [payR, dotr, payR_dot a x y i j, Int.mul_add]
    have : gi x i * gi y j * g2 a i j = gi x i * (g2 a i j * gi y j) := by rw [Int.mul_assoc, Int.mul_comm (gi y j)]
    omega
theorem payU_ge {a : List (List Int)} {x : List Int} {n : Nat} (hx : ∀ j, j < n → 0 ≤ gi x j) (hd : ∀ i, i < n → 1 ≤ dotr a x i n) : ∀ {k}, k ≤ n → sm x k ≤ payU a x x n k
  | 0, _ => Int.le_refl _
  | k + 1, h => by
    have h1 := payU_ge hx hd (k := k) (by omega)
    have h2 : gi x k * 1 ≤ gi x k * dotr a x k n := Int.mul_le_mul_of_nonneg_left (hd k (by omega)) (hx k (by omega))
    rw [payU, payR_dot, sm]
    omega
/-- What a strategy grows by, above and below the line. -/
def gU (a : List (List Int)) (x : List Int) (n i : Nat) : Int := dotr a x i n * tot x
def gP (a : List (List Int)) (x : List Int) (n : Nat) : Int := payU a x x n n
def grL (a : List (List Int)) (x : List Int) (n : Nat) : Nat → List Int
  | 0 => []
  | i + 1 => grL a x n i ++ [frU (gU a x n i) (gP a x n), frD (gU a x n i) (gP a x n)]
theorem grL_len (a : List (List Int)) (x : List Int) (n : Nat) : ∀ i, (grL a x n i).length = 2 * i
  | 0 => rfl
  | i + 1 => by rw [grL, List.length_append, grL_len a x n i]; simp; omega
theorem gi_grL (a : List (List Int)) (x : List Int) (n : Nat) : ∀ {k i}, i < k → gi (grL a x n k) (i * 2) = frU (gU a x n i) (gP a x n) ∧ gi (grL a x n k) (i * 2 + 1) = frD (gU a x n i) (gP a x n)
  | 0, _, h => absurd h (by omega)
  | k + 1, i, h => by
    have hl := grL_len a x n k
    rw [grL]
    by_cases e : i = k
    · subst e
      have h0 := gi_append_ge (L := grL a x n i) (M := [frU (gU a x n i) (gP a x n), frD (gU a x n i) (gP a x n)]) (k := 0) (by simp)
      have h1 := gi_append_ge (L := grL a x n i) (M := [frU (gU a x n i) (gP a x n), frD (gU a x n i) (gP a x n)]) (k := 1) (by simp)
      rw [hl] at h0 h1
      rw [show i * 2 = 2 * i + 0 by omega, h0, show 2 * i + 0 + 1 = 2 * i + 1 by omega, h1]
      exact ⟨rfl, rfl⟩
    · rw [gi_append_lt (by omega), gi_append_lt (by omega)]
      exact gi_grL a x n (by omega)
theorem FS.gu {a x n} (h : FS a x n) {i : Nat} (hi : i < n) : 1 ≤ gU a x n i ∧ gU a x n i ≤ 81000000 := by
  have h1 := h.dot hi
  have h2 := h.s.bd (by have := h.n3; omega)
  unfold gU
  have h3 : 1 * 1 ≤ dotr a x i n * tot x := Int.mul_le_mul h1.1 (by omega) (by omega) (by omega)
  have h4 : dotr a x i n * tot x ≤ 27000 * 3000 := Int.mul_le_mul h1.2 h2.2 (by omega) (by omega)
  omega
theorem FS.pb {a x n} (h : FS a x n) : PB a x x n n := ⟨fun i j hi hj => by have := h.a hi hj; omega, h.x, h.x⟩
theorem FS.gp {a x n} (h : FS a x n) : 1 ≤ gP a x n ∧ gP a x n ≤ 81000000 := by
  have h0 := h.n3
  have h1 := payU_ge (a := a) (x := x) (n := n) (fun j hj => (h.x j hj).1) (fun i hi => (h.dot hi).1) (Nat.le_refl n)
  have h2 := payU_bd h.pb h0.2 (Nat.le_refl n)
  have h3 := h.s.2.2
  unfold tot at h3
  rw [h.xl] at h3
  unfold gP
  omega
noncomputable def grF (a : List (List Int)) (x : List Int) : List Int := if pb (VF a ∧ VS x a.length) = true then grL a x a.length a.length else []
theorem grF_yes {a : List (List Int)} {x : List Int} {n : Nat} (h : FS a x n) : grF a x = grL a x n n := by
  unfold grF; rw [if_pos (pb_true ⟨h.f, by rw [h.l]; exact h.s⟩), h.l]
theorem grF_no {a : List (List Int)} {x : List Int} (h : ¬ (VF a ∧ VS x a.length)) : grF a x = [] := by unfold grF; rw [if_neg (by rw [pb_false h]; decide)]
theorem grF_le (a : List (List Int)) (x : List Int) : (grF a x).length ≤ 100 ∧ 2 * ((grF a x).length / 2) = (grF a x).length := by
  by_cases h : VF a ∧ VS x a.length
  · have hf : FS a x a.length := ⟨h.1, h.2, rfl⟩
    have := hf.n3
    rw [grF_yes hf, grL_len]; omega
  · rw [grF_no h]; simp

theorem grF_two (a : List (List Int)) (x : List Int) : ∃ N, (grF a x).length = 2 * N ∧ N ≤ 50 := ⟨(grF a x).length / 2, (grF_le a x).2.symm, by have := (grF_le a x).1; omega⟩

end Go.Proofs.Ytjkmgpiiamffgaa

/- Fractions compared by the laws, and the sum of the shares' growth. -/
namespace Go.Proofs.Ytjkmgpiiamffgaa
open Go.RowKit

theorem fr_mul' {u d v e : Int} (hd : 0 < d) (he : 0 < e) : frU (frU u d * frU v e) (frD u d * frD v e) = frU (u * v) (d * e) ∧ frD (frU u d * frU v e) (frD u d * frD v e) = frD (u * v) (d * e) := by
  refine fr_eq (Int.mul_pos (frD_pos hd) (frD_pos he)) (Int.mul_pos hd he) ?_
  have h1 := fr_ratio u d
  have h2 := fr_ratio v e
  generalize frU u d = a at *
  generalize frD u d = b at *
  generalize frU v e = c at *
  generalize frD v e = f at *
  grind
/-- One strategy's part of the mean. -/
theorem gr_part {a : List (List Int)} {x : List Int} {n : Nat} (h : FS a x n) {i : Nat} :
    frU (frU (gi x i) (tot x) * frU (gU a x n i) (gP a x n)) (frD (gi x i) (tot x) * frD (gU a x n i) (gP a x n)) = frU (gi x i * dotr a x i n) (gP a x n) ∧
    frD (frU (gi x i) (tot x) * frU (gU a x n i) (gP a x n)) (frD (gi x i) (tot x) * frD (gU a x n i) (gP a x n)) = frD (gi x i * dotr a x i n) (gP a x n) := by
  have hS : 0 < tot x := h.s.2.2
  have hP := h.gp.1
  obtain ⟨e1, e2⟩ := fr_mul' (u := gi x i) (d := tot x) (v := gU a x n i) (e := gP a x n) hS (by omega)
  rw [e1, e2]
  have hU : gU a x n i = dotr a x i n * tot x := rfl
  rw [hU]
  generalize gP a x n = P at *
  generalize tot x = T at *
  exact fr_eq (Int.mul_pos hS (by omega)) (by omega) (by grind)
/-- Two fractions over the same number. -/
theorem fr_sum {S R P : Int} (hP : 0 < P) :
    frU (frU S P * frD R P + frU R P * frD S P) (frD S P * frD R P) = frU (S + R) P ∧ frD (frU S P * frD R P + frU R P * frD S P) (frD S P * frD R P) = frD (S + R) P := by
  have k1 := frU_mul S P
  have k2 := frD_mul S P
  have k3 := frU_mul R P
  have k4 := frD_mul R P
  have q1 := gcdI_pos (a := S) (b := P) (by omega)
  have q2 := gcdI_pos (a := R) (b := P) (by omega)
  refine fr_eq (Int.mul_pos (frD_pos hP) (frD_pos hP)) hP ?_
  generalize gcdI S P = g1 at *
  generalize gcdI R P = g2 at *
  generalize frU S P = s at *
  generalize frD S P = sd at *
  generalize frU R P = r at *
  generalize frD R P = rd at *
  have hc : 0 < g1 * g2 := Int.mul_pos q1 q2
  refine Int.eq_of_mul_eq_mul_right (show g1 * g2 ≠ 0 by omega) ?_
  have e1 : (s * rd + r * sd) * P * (g1 * g2) = ((s * g1) * (rd * g2) + (r * g2) * (sd * g1)) * P := by clear k1 k2 k3 k4; grind
  have e2 : (S + R) * (sd * rd) * (g1 * g2) = (S + R) * ((sd * g1) * (rd * g2)) := by clear k1 k2 k3 k4; grind
  rw [e1, e2, k1, k2, k3, k4]
  clear e1 e2 k1 k2 k3 k4
  grind
theorem fr_whole {P : Int} (hP : 0 < P) : frU P P = 1 ∧ frD P P = 1 := by
  obtain ⟨e1, e2⟩ := fr_eq (u := P) (d := P) (v := 1) (e := 1) hP (by omega) (by omega)
  obtain ⟨f1, f2⟩ := fr_one 1
  rw [e1, e2, f1, f2]; exact ⟨rfl, rfl⟩
/-- At rest a growth is at most one, and one where there is a share. -/
theorem gr_rest {a : List (List Int)} {x : List Int} {n : Nat} (h : FS a x n) (hr : RestP a x n) {i : Nat} (hi : i < n) :
    lessB 1 1 (frU (gU a x n i) (gP a x n)) (frD (gU a x n i) (gP a x n)) = false ∧ (0 < gi x i → frU (gU a x n i) (gP a x n) = 1 ∧ frD (gU a x n i) (gP a x n) = 1) := by
  have hm := (rest_mean h.s).1 hr i hi
  have hP := h.gp.1
  have hl := fr_lt (u := 1) (d := 1) (v := gU a x n i) (e := gP a x n) (by omega) (by omega)
  rw [(fr_one 1).1, (fr_one 1).2] at hl
  refine ⟨?_, fun hp => ?_⟩
  · unfold lessB
    rw [decide_eq_false_iff_not, hl]
    have := hm.1
    unfold gU gP
    omega
  · have he : gU a x n i = gP a x n := hm.2 hp
    rw [he]
    exact fr_whole (by omega)
theorem gr_bd {a : List (List Int)} {x : List Int} {n : Nat} (h : FS a x n) {i : Nat} (hi : i < n) : 0 ≤ gi x i * dotr a x i n ∧ gi x i * dotr a x i n ≤ 27000000 := by
  have h1 := h.dot hi
  have h2 := h.x i hi
  have h3 : 0 * dotr a x i n ≤ gi x i * dotr a x i n := Int.mul_le_mul_of_nonneg_right h2.1 (by omega)
  have h4 : gi x i * dotr a x i n ≤ 1000 * 27000 := Int.mul_le_mul h2.2 h1.2 (by omega) (by omega)
  omega
end Go.Proofs.Ytjkmgpiiamffgaa

/- A region that draws its order and makes memory: whatever the order, what follows is walked once. -/
namespace Go.Proofs.Ytjkmgpiiamffgaa
open Go.RowKit

/-- Objects laid one behind the other. -/
def pushAll (w : World) : List Obj → World
  | [] => w
  | o :: os => pushAll (w.alloc o) os
theorem push_below (w : World) : ∀ os, Below w.heap.size w (pushAll w os)
  | [] => Below.refl _ _
  | o :: os => below_up (below_alloc w o) (push_below (w.alloc o) os)
theorem push_drew (w : World) (os : List Obj) : Below w.heap.size w (pushAll w os).drew := (push_below w os).drew
theorem push_keep (w : World) (os : List Obj) : Keep w (pushAll w os).drew := Keep.below (push_drew w os)
theorem push_keep0 (w : World) (os : List Obj) : Keep w (pushAll w os) := Keep.below (push_below w os)
theorem blk_push0 {t : TypeId} {cs : Array Value} : ∀ (os : List Obj) (w : World) (j : Nat), os[j]? = some (.cells cs t) → Blk (pushAll w os) (w.heap.size + j) t cs
  | [], _, _, h => by simp at h
  | o :: os, w, 0, h => by
    simp at h
    subst h
    exact blk_below (blk_new w t cs) (push_below _ os)
  | o :: os, w, j + 1, h => by
    have h2 := blk_push0 os (w.alloc o) j (by simpa using h)
    rw [World.size_alloc, Nat.add_assoc, Nat.add_comm 1 j] at h2
    exact h2
theorem blk_push {t : TypeId} {cs : Array Value} (os : List Obj) (w : World) (j : Nat) (h : os[j]? = some (.cells cs t)) : Blk (pushAll w os).drew (w.heap.size + j) t cs := blk_quiet (blk_push0 os w j h) ⟨1, rfl⟩
/-- A table of two rows of two numbers, wherever its blocks lie. -/
theorem rows_of {W : World} {a b c : Nat} {x y z t : Int} (hx : -1000 ≤ x ∧ x ≤ 1000) (hy : -1000 ≤ y ∧ y ≤ 1000) (hz : -1000 ≤ z ∧ z ≤ 1000) (ht : -1000 ≤ t ∧ t ≤ 1000)
    (ha : Blk W a 3 #[.int .i64 x, .int .i64 y]) (hb : Blk W b 3 #[.int .i64 z, .int .i64 t]) (hc : Blk W c 30 #[.slice (some ⟨a, 0, none⟩) 2 2, .slice (some ⟨b, 0, none⟩) 2 2]) :
    IntRows W (some ⟨c, 0, none⟩) 2 2 [[x, y], [z, t]] := by
  have i1 := (own_two (lo := 0) (hi := a + 1) ha (Nat.zero_le _) (by omega) (by omega) (by omega)).ints
  have i2 := (own_two (lo := 0) (hi := b + 1) hb (Nat.zero_le _) (by omega) (by omega) (by omega)).ints
  refine ⟨rfl, Nat.le_refl _, by omega, fun _ => ⟨c, 0, rfl, fun k hk => ?_⟩⟩
  have h : k = 0 ∨ k = 1 := by omega
  rcases h with rfl | rfl
  · exact ⟨some ⟨a, 0, none⟩, 2, blk_cell hc (i := 0) rfl, i1⟩
  · exact ⟨some ⟨b, 0, none⟩, 2, blk_cell hc (i := 1) rfl, i2⟩

/-- Cells of older blocks stay where a new block of two is stored to. -/
theorem set2_keep {W : World} {B l : Nat} {U V : Value} (hl : B ≤ l) {p : Addr} {u : Value} (hp : p.block < B) (h : W.cell? p = some u) : ((W.setCell ⟨l, 0, none⟩ U).setCell ⟨l, 1, none⟩ V).cell? p = some u := by
  rw [World.cell?_setCell_other _ _ _ _ (by intro e; have := congrArg Addr.block e; simp at this; omega), World.cell?_setCell_other _ _ _ _ (by intro e; have := congrArg Addr.block e; simp at this; omega)]; exact h
theorem kc1 {w : World} {a0 : Obj} {p : Addr} {u : Value} (h : w.cell? p = some u) : (w.alloc a0).drew.cell? p = some u := push_keep w [a0] p u h
theorem kd1 {w : World} {a0 : Obj} {p : Addr} {u : Value} (h : w.cell? p = some u) : (w.alloc a0).cell? p = some u := push_keep0 w [a0] p u h
theorem kc2 {w : World} {a0 a1 : Obj} {p : Addr} {u : Value} (h : w.cell? p = some u) : ((w.alloc a0).alloc a1).drew.cell? p = some u := push_keep w [a0, a1] p u h
theorem kd2 {w : World} {a0 a1 : Obj} {p : Addr} {u : Value} (h : w.cell? p = some u) : ((w.alloc a0).alloc a1).cell? p = some u := push_keep0 w [a0, a1] p u h
theorem kc3 {w : World} {a0 a1 a2 : Obj} {p : Addr} {u : Value} (h : w.cell? p = some u) : (((w.alloc a0).alloc a1).alloc a2).drew.cell? p = some u := push_keep w [a0, a1, a2] p u h
theorem kd3 {w : World} {a0 a1 a2 : Obj} {p : Addr} {u : Value} (h : w.cell? p = some u) : (((w.alloc a0).alloc a1).alloc a2).cell? p = some u := push_keep0 w [a0, a1, a2] p u h
theorem kc4 {w : World} {a0 a1 a2 a3 : Obj} {p : Addr} {u : Value} (h : w.cell? p = some u) : ((((w.alloc a0).alloc a1).alloc a2).alloc a3).drew.cell? p = some u := push_keep w [a0, a1, a2, a3] p u h
theorem kd4 {w : World} {a0 a1 a2 a3 : Obj} {p : Addr} {u : Value} (h : w.cell? p = some u) : ((((w.alloc a0).alloc a1).alloc a2).alloc a3).cell? p = some u := push_keep0 w [a0, a1, a2, a3] p u h
theorem kc5 {w : World} {a0 a1 a2 a3 a4 : Obj} {p : Addr} {u : Value} (h : w.cell? p = some u) : (((((w.alloc a0).alloc a1).alloc a2).alloc a3).alloc a4).drew.cell? p = some u := push_keep w [a0, a1, a2, a3, a4] p u h
theorem kd5 {w : World} {a0 a1 a2 a3 a4 : Obj} {p : Addr} {u : Value} (h : w.cell? p = some u) : (((((w.alloc a0).alloc a1).alloc a2).alloc a3).alloc a4).cell? p = some u := push_keep0 w [a0, a1, a2, a3, a4] p u h
end Go.Proofs.Ytjkmgpiiamffgaa

/- Fractions with greater numbers, by the laws. -/
namespace Go.Proofs.Ytjkmgpiiamffgaa
open Go.RowKit

def Big (x : Int) : Prop := -100000000000000000 ≤ x ∧ x ≤ 100000000000000000
theorem Big.tmod {x y : Int} (h : Big x) : Big (x.tmod y) := by
  unfold Big at *
  have h1 := Int.natAbs_tmod x y
  have h2 : x.natAbs % y.natAbs ≤ x.natAbs := Nat.mod_le _ _
  omega
set_option maxHeartbeats 400000 in
theorem divisorG_any (a b : Int) (w : World) (ha : Big a) (hb : Big b) :
    Calls Try.prog 66 #[.int .i64 a, .int .i64 b] w fun e w' => e = .returned (.int .i64 (gcdI a b)) ∧ Quiet w w' := by
  have HA := Lib.hid ha
  have HB := Lib.hid hb
  clear ha hb
  go_enter Try.func66, Try.ntmps66
  go_wp2
  go_loopw [0, 1] (fun s t wr => ∃ x y : Int, s = .int .i64 x ∧ t = .int .i64 y ∧ Hid (Big x) ∧ Hid (Big y) ∧ Hid (gcdI x y = gcdI a b) ∧ Quiet w wr) (fun _ t _ => (intOf t).natAbs)
  case atStart => exact ⟨a, b, rfl, rfl, HA, HB, Lib.hid rfl, Quiet.refl _⟩
  case round =>
    obtain ⟨x, y, rfl, rfl, HX, HY, HG, q, rfl⟩ := hrel
    obtain ⟨x1, x2⟩ := HX.out
    obtain ⟨y1, y2⟩ := HY.out
    by_cases hy : y = 0
    · subst hy
      have hg := Lib.hid (gcdI_zero x)
      go_wp2
      all_goals go_ret
      all_goals exact ⟨ret_int (by rw [← HG.out, hg.out]; omega), ⟨_, rfl⟩⟩
    · have hy' : (y != 0) = true := by simpa using hy
      have HM := Lib.hid (HX.out.tmod (y := y))
      have HS := Lib.hid (gcdI_step x y)
      have HT := Lib.hid (tmod_abs (a := x) hy)
      go_wp2
      go_roundw
      case rel => exact ⟨y, x.tmod y, rfl, rfl, HY, HM, Lib.hid (HS.out.trans HG.out), ⟨_, rfl⟩⟩
      case measure => have := HT.out; simpa [intOf] using this

set_option maxHeartbeats 1000000 in
theorem fracOfG_any (u d : Int) (w : World) (hu : Big u) (hd : Big d) (h1 : 1 ≤ d) :
    Calls Try.prog 17 #[.int .i64 u, .int .i64 d] w (Ret (frV u d) w) := by
  have HQ := Lib.hid (fun W => divisorG_any u d W hu hd)
  have hg1 := gcdI_pos (a := u) (b := d) (by omega)
  have hg2 := gcdI_le (a := u) (b := d) (by omega)
  obtain ⟨u1, u2⟩ := hu
  obtain ⟨d1, d2⟩ := hd
  have hB := Lib.hid (below_alloc w (.cells #[.int .i64 0, .int .i64 0] 27))
  go_enter Try.func17, Try.ntmps17
  go_wp2_with fail
  refine (HQ.out _).mono ?_
  rintro e w2 ⟨rfl, hq⟩
  have HFU : Hid (frU u d = u.tdiv (gcdI u d)) := Lib.hid rfl
  have HFD : Hid (frD u d = d / gcdI u d) := Lib.hid (by unfold frD; rw [Int.tdiv_eq_ediv_of_nonneg (by omega)])
  have b0 := blk_quiet (blk_new w 27 #[.int .i64 0, .int .i64 0]) hq
  have HBW := Lib.hid (below_quiet hB.out hq)
  clear hq hB HQ
  generalize gcdI u d = g at *
  have c0 := blk_cell b0 (i := 0) rfl
  have c1 := blk_cell b0 (i := 1) rfl
  have f0 := blk_frozen b0 0
  have f1 := blk_frozen b0 1
  have g0 : (g == 0) = false := by simp; omega
  go_wp2
  go_region
  all_goals clear c0 c1 f0 f1
  all_goals go_wp2
  have B1 := blk_set (blk_set b0 0 (.int .i64 (u.tdiv g))) 1 (.int .i64 (d / g))
  have r0 := blk_cell B1 (i := 0) (v := .int .i64 (u.tdiv g)) rfl
  have r1 := blk_cell B1 (i := 1) (v := .int .i64 (d / g)) rfl
  have HBX := Lib.hid ((HBW.out.setCell (p := ⟨w.heap.size, 0, none⟩) (Nat.le_refl _) (.int .i64 (u.tdiv g))).setCell (p := ⟨w.heap.size, 1, none⟩) (Nat.le_refl _) (.int .i64 (d / g))).drew
  replace r0 : ((w2.setCell ⟨w.heap.size, 0, none⟩ (.int .i64 (u.tdiv g))).setCell ⟨w.heap.size, 1, none⟩ (.int .i64 (d / g))).drew.cell? ⟨w.heap.size, 0, none⟩ = some (.int .i64 (u.tdiv g)) := r0
  replace r1 : ((w2.setCell ⟨w.heap.size, 0, none⟩ (.int .i64 (u.tdiv g))).setCell ⟨w.heap.size, 1, none⟩ (.int .i64 (d / g))).drew.cell? ⟨w.heap.size, 1, none⟩ = some (.int .i64 (d / g)) := r1
  clear B1 b0 HBW
  generalize ((w2.setCell ⟨w.heap.size, 0, none⟩ (.int .i64 (u.tdiv g))).setCell ⟨w.heap.size, 1, none⟩ (.int .i64 (d / g))).drew = W3 at *
  refine bodyPost_ret (v := .agg #[.int .i64 (u.tdiv g), .int .i64 (d / g)]) (by simp [results, Try.results17, go_sem, r0, r1]) rfl ?_
  exact ⟨by rw [frV, HFU.out, HFD.out], HBX.out⟩
set_option maxHeartbeats 100000000 in
theorem timesOfG_any (u d v e : Int) (w : World) (hu : -100000000 ≤ u ∧ u ≤ 100000000) (hv : -100000000 ≤ v ∧ v ≤ 100000000) (hd : 1 ≤ d ∧ d ≤ 100000000) (he : 1 ≤ e ∧ e ≤ 100000000) :
    Calls Try.prog 16 #[.agg #[.int .i64 u, .int .i64 d], .agg #[.int .i64 v, .int .i64 e]] w (Ret (frV (u * v) (d * e)) w) := by
  obtain ⟨p1, p2⟩ := mulbd (x := u) (y := e) (A := 100000000) (B := 100000000) hu (by omega)
  obtain ⟨p3, p4⟩ := mulbd (x := v) (y := d) (A := 100000000) (B := 100000000) hv (by omega)
  obtain ⟨p5, p6⟩ := mulbd (x := d) (y := e) (A := 100000000) (B := 100000000) (by omega) (by omega)
  obtain ⟨p7, p8⟩ := mulbd (x := u) (y := v) (A := 100000000) (B := 100000000) hu hv
  have p9 : 1 ≤ d * e := by have h : 1 * 1 ≤ d * e := Int.mul_le_mul hd.1 he.1 (by omega) (by omega); omega
  have HC := Lib.hid (fun W => fracOfG_any (u * v) (d * e) W (by unfold Big; omega) (by unfold Big; omega) p9)
  have b0 := blk_old (blk_old (blk_new w 27 #[.int .i64 u, .int .i64 d]) (.cells #[.int .i64 v, .int .i64 e] 27)) (.cells #[.int .i64 0, .int .i64 0] 27)
  have b1 := blk_old (blk_new (w.alloc (.cells #[.int .i64 u, .int .i64 d] 27)) 27 #[.int .i64 v, .int .i64 e]) (.cells #[.int .i64 0, .int .i64 0] 27)
  have b2 := blk_new ((w.alloc (.cells #[.int .i64 u, .int .i64 d] 27)).alloc (.cells #[.int .i64 v, .int .i64 e] 27)) 27 #[.int .i64 0, .int .i64 0]
  have HB := Lib.hid (below_up (below_up (below_alloc w (.cells #[.int .i64 u, .int .i64 d] 27)) (below_alloc _ (.cells #[.int .i64 v, .int .i64 e] 27))) (below_alloc _ (.cells #[.int .i64 0, .int .i64 0] 27)))
  have HFV : Hid (frV (u * v) (d * e) = .agg #[.int .i64 (frU (u * v) (d * e)), .int .i64 (frD (u * v) (d * e))]) := Lib.hid rfl
  rw [HFV.out] at HC
  simp only [World.size_alloc] at b1 b2
  have c0 := blk_cell b0 (i := 0) rfl
  have c1 := blk_cell b0 (i := 1) rfl
  have c2 := blk_cell b1 (i := 0) rfl
  have c3 := blk_cell b1 (i := 1) rfl
  have HB2 := Lib.hid b2
  clear b0 b1 b2
  go_enter Try.func16, Try.ntmps16
  go_wp2_with fail
  clear c0 c1 c2 c3
  generalize ((w.alloc (.cells #[.int .i64 u, .int .i64 d] 27)).alloc (.cells #[.int .i64 v, .int .i64 e] 27)).alloc (.cells #[.int .i64 0, .int .i64 0] 27) = w1 at *
  refine (HC.out _).mono ?_
  rintro e w2 ⟨rfl, hb⟩
  have b0 := blk_below HB2.out hb
  have HBW := Lib.hid (below_up HB.out hb)
  clear hb HC HB HB2
  generalize frU (u * v) (d * e) = U at *
  generalize frD (u * v) (d * e) = D at *
  have c0 := blk_cell b0 (i := 0) rfl
  have c1 := blk_cell b0 (i := 1) rfl
  have f0 := blk_frozen b0 0
  have f1 := blk_frozen b0 1
  go_wp2
  clear c0 c1 f0 f1
  have B1 := blk_set (blk_set b0 0 (.int .i64 U)) 1 (.int .i64 D)
  have r0 := blk_cell B1 (i := 0) (v := .int .i64 U) rfl
  have r1 := blk_cell B1 (i := 1) (v := .int .i64 D) rfl
  have hle : w.heap.size ≤ w.heap.size + 1 + 1 := by omega
  have HBX := Lib.hid ((HBW.out.setCell (p := ⟨w.heap.size + 1 + 1, 0, none⟩) hle (.int .i64 U)).setCell (p := ⟨w.heap.size + 1 + 1, 1, none⟩) hle (.int .i64 D))
  clear B1 b0 HBW
  generalize (w2.setCell ⟨w.heap.size + 1 + 1, 0, none⟩ (.int .i64 U)).setCell ⟨w.heap.size + 1 + 1, 1, none⟩ (.int .i64 D) = WE at *
  refine bodyPost_ret (v := .agg #[.int .i64 U, .int .i64 D]) (by simp [results, Try.results16, go_sem, r0, r1]) rfl ?_
  exact ⟨by rw [HFV.out], HBX.out⟩
end Go.Proofs.Ytjkmgpiiamffgaa

/- Small crowds, in plain Lean: the numbers of the steps, their sums, and chances. -/
namespace Go.Proofs.Ytjkmgpiiamffgaa

/-- The product of the first k numbers; of the last t up to m. -/
def upP (g : Nat → Int) : Nat → Int
  | 0 => 1
  | k + 1 => upP g k * g (k + 1)
def dnP (f : Nat → Int) (m : Nat) : Nat → Int
  | 0 => 1
  | t + 1 => dnP f m t * f (m - t)
/-- The numbers whose sums the chance is of. -/
def numP (f g : Nat → Int) (m k : Nat) : Int := upP g k * dnP f m (m - k)
def numL (f g : Nat → Int) (m : Nat) : List Int := (List.range (m + 1)).map (numP f g m)
theorem numL_len (f g : Nat → Int) (m : Nat) : (numL f g m).length = m + 1 := by simp [numL]
theorem gi_numL {f g : Nat → Int} {m k : Nat} (h : k ≤ m) : gi (numL f g m) k = numP f g m k := by
  rw [gi_get (by rw [numL_len]; omega)]; simp [numL]
theorem dnP_top (f : Nat → Int) (m : Nat) : ∀ t, t ≤ m → dnP f (m + 1) (t + 1) = f (m + 1) * dnP f m t
  | 0, _ => by simp [dnP]
  | t + 1, h => by
    rw [dnP, dnP_top f m t (by omega), dnP, Int.mul_assoc]
    congr 3
    omega
theorem up_dn (f : Nat → Int) (m : Nat) : ∀ t, t ≤ m → upP f m = upP f (m - t) * dnP f m t
  | 0, _ => by simp [dnP]
  | t + 1, h => by
    rw [up_dn f m t (by omega), dnP]
    have e : m - t = (m - (t + 1)) + 1 := by omega
    rw [e, upP, ← e]
    grind
/-- The sum of the first i of the numbers of k steps. -/
def SS (f g : Nat → Int) (i k : Nat) : Int := sm (numL f g k) (min i (k + 1))
theorem sm_numL {f g : Nat → Int} {m : Nat} : ∀ {k}, k ≤ m + 1 → sm (numL f g (m + 1)) k = sm (numL f g m) k * f (m + 1)
  | 0, _ => by simp [sm]
  | k + 1, h => by
    rw [sm, sm, sm_numL (by omega), gi_numL (by omega), gi_numL (by omega), numP, numP]
    have e : m + 1 - k = (m - k) + 1 := by omega
    rw [e, dnP_top f m (m - k) (by omega)]
    grind
theorem SS_zero (f g : Nat → Int) (i : Nat) : SS f g i 0 = if 0 < i then 1 else 0 := by
  unfold SS
  by_cases h : 0 < i
  · rw [show min i (0 + 1) = 1 by omega, if_pos h, sm, gi_numL (Nat.le_refl 0)]; simp [sm, numP, upP, dnP]
  · rw [show min i (0 + 1) = 0 by omega, if_neg h]; rfl
theorem SS_succ (f g : Nat → Int) (i k : Nat) : SS f g i (k + 1) = SS f g i k * f (k + 1) + if k + 1 < i then upP g (k + 1) else 0 := by
  unfold SS
  by_cases h : k + 1 < i
  · rw [if_pos h, show min i (k + 1 + 1) = (k + 1) + 1 by omega, show min i (k + 1) = k + 1 by omega, sm, sm_numL (by omega), gi_numL (Nat.le_refl _), numP]
    rw [show k + 1 - (k + 1) = 0 by omega]
    simp [dnP]
  · rw [if_neg h, show min i (k + 1 + 1) = min i (k + 1) by omega, sm_numL (by omega)]
    simp
theorem SS_all (f g : Nat → Int) (m : Nat) : SS f g (m + 1) m = tot (numL f g m) := by
  unfold SS tot
  rw [numL_len, Nat.min_self]

/-- What players have: 1 to 45 each. -/
structure FG (f g : Nat → Int) (m : Nat) : Prop where
  m5 : m ≤ 5
  f : ∀ j, 1 ≤ j → j ≤ m → 1 ≤ f j ∧ f j ≤ 45
  g : ∀ j, 1 ≤ j → j ≤ m → 1 ≤ g j ∧ g j ≤ 45
theorem FG.less {f g m k} (h : FG f g m) (hk : k ≤ m) : FG f g k := ⟨by have := h.m5; omega, fun j a b => h.f j a (by omega), fun j a b => h.g j a (by omega)⟩
theorem FG.flip {f g m} (h : FG f g m) : FG g f m := ⟨h.m5, h.g, h.f⟩
def p45 : Nat → Int
  | 0 => 1
  | k + 1 => p45 k * 45
theorem p45_add (a : Nat) : ∀ b, p45 a * p45 b = p45 (a + b)
  | 0 => by simp [p45]
  | b + 1 => by rw [p45, ← Int.mul_assoc, p45_add a b]; rfl
theorem p45_pos : ∀ k, 1 ≤ p45 k
  | 0 => Int.le_refl _
  | k + 1 => by have := p45_pos k; rw [p45]; omega
theorem p45_mono : ∀ {k m}, k ≤ m → p45 k ≤ p45 m
  | k, 0, h => by obtain rfl : k = 0 := by omega
                  exact Int.le_refl _
  | k, m + 1, h => by
    by_cases e : k = m + 1
    · subst e; exact Int.le_refl _
    · have h1 := p45_mono (k := k) (m := m) (by omega)
      have h2 := p45_pos m
      rw [p45]; omega
theorem p45_5 {k : Nat} (h : k ≤ 5) : p45 k ≤ 184528125 := by
  have := p45_mono h
  have e : p45 5 = 184528125 := by decide
  omega
theorem upP_bd {g : Nat → Int} : ∀ {k}, (∀ j, 1 ≤ j → j ≤ k → 1 ≤ g j ∧ g j ≤ 45) → 1 ≤ upP g k ∧ upP g k ≤ p45 k
  | 0, _ => ⟨Int.le_refl _, Int.le_refl _⟩
  | k + 1, h => by
    have h1 := upP_bd (k := k) fun j a b => h j a (by omega)
    have h2 := h (k + 1) (by omega) (by omega)
    have h3 : 1 * 1 ≤ upP g k * g (k + 1) := Int.mul_le_mul h1.1 h2.1 (by omega) (by omega)
    have h4 : upP g k * g (k + 1) ≤ p45 k * 45 := Int.mul_le_mul h1.2 h2.2 (by omega) (by have := p45_pos k; omega)
    rw [upP, p45]
    omega
theorem dnP_bd {f : Nat → Int} {m : Nat} : ∀ {t}, t ≤ m → (∀ j, 1 ≤ j → j ≤ m → 1 ≤ f j ∧ f j ≤ 45) → 1 ≤ dnP f m t ∧ dnP f m t ≤ p45 t
  | 0, _, _ => ⟨Int.le_refl _, Int.le_refl _⟩
  | t + 1, ht, h => by
    have h1 := dnP_bd (t := t) (by omega) h
    have h2 := h (m - t) (by omega) (by omega)
    have h3 : 1 * 1 ≤ dnP f m t * f (m - t) := Int.mul_le_mul h1.1 h2.1 (by omega) (by omega)
    have h4 : dnP f m t * f (m - t) ≤ p45 t * 45 := Int.mul_le_mul h1.2 h2.2 (by omega) (by have := p45_pos t; omega)
    rw [dnP, p45]
    omega
theorem numP_bd {f g : Nat → Int} {m k : Nat} (h : FG f g m) (hk : k ≤ m) : 1 ≤ numP f g m k ∧ numP f g m k ≤ 184528125 := by
  have h1 := upP_bd (g := g) (k := k) fun j a b => h.g j a (by omega)
  have h2 := dnP_bd (f := f) (m := m) (t := m - k) (by omega) h.f
  have h3 : 1 * 1 ≤ upP g k * dnP f m (m - k) := Int.mul_le_mul h1.1 h2.1 (by omega) (by omega)
  have h4 : upP g k * dnP f m (m - k) ≤ p45 k * p45 (m - k) := Int.mul_le_mul h1.2 h2.2 (by omega) (by have := p45_pos k; omega)
  rw [p45_add] at h4
  have h5 := p45_5 (k := k + (m - k)) (by have := h.m5; omega)
  unfold numP
  omega
theorem up_bd {g : Nat → Int} {m k : Nat} (h : ∀ j, 1 ≤ j → j ≤ m → 1 ≤ g j ∧ g j ≤ 45) (hm : m ≤ 5) (hk : k ≤ m) : 1 ≤ upP g k ∧ upP g k ≤ 184528125 := by
  have h1 := upP_bd (g := g) (k := k) fun j a b => h j a (by omega)
  have h2 := p45_5 (k := k) (by omega)
  omega
theorem sm_num_bd {f g : Nat → Int} {m k : Nat} (h : FG f g m) (hk : k ≤ m + 1) : (k : Int) ≤ sm (numL f g m) k ∧ sm (numL f g m) k ≤ 1107168750 := by
  have h1 := sm_bd (xs := numL f g m) (k := k) (lo := 1) (hi := 184528125) fun j hj => by rw [gi_numL (by omega)]; exact numP_bd h (by omega)
  have := h.m5
  omega
theorem SS_bd {f g : Nat → Int} {i k : Nat} (h : FG f g k) : 0 ≤ SS f g i k ∧ SS f g i k ≤ 1107168750 := by
  have := sm_num_bd h (k := min i (k + 1)) (by omega)
  unfold SS
  omega
theorem tot_num_bd {f g : Nat → Int} {m : Nat} (h : FG f g m) : 1 ≤ tot (numL f g m) ∧ tot (numL f g m) ≤ 1107168750 := by
  have := sm_num_bd h (k := m + 1) (Nat.le_refl _)
  unfold tot
  rw [numL_len]
  omega
/-- The sums of two fractions in lowest terms, and their product and quotient. -/
theorem fr_add {u d v e : Int} (hd : 0 < d) (he : 0 < e) :
    frU (frU u d * frD v e + frU v e * frD u d) (frD u d * frD v e) = frU (u * e + v * d) (d * e) ∧ frD (frU u d * frD v e + frU v e * frD u d) (frD u d * frD v e) = frD (u * e + v * d) (d * e) := by
  have h1 := frD_pos (u := u) hd
  have h2 := frD_pos (u := v) he
  refine fr_eq (Int.mul_pos h1 h2) (Int.mul_pos hd he) ?_
  have r1 := fr_ratio u d
  have r2 := fr_ratio v e
  grind
theorem fr_tim {u d v e : Int} (hd : 0 < d) (he : 0 < e) :
    frU (frU u d * frU v e) (frD u d * frD v e) = frU (u * v) (d * e) ∧ frD (frU u d * frU v e) (frD u d * frD v e) = frD (u * v) (d * e) := by
  have h1 := frD_pos (u := u) hd
  have h2 := frD_pos (u := v) he
  refine fr_eq (Int.mul_pos h1 h2) (Int.mul_pos hd he) ?_
  have r1 := fr_ratio u d
  have r2 := fr_ratio v e
  grind
theorem fr_pos {u d : Int} (hd : 0 < d) (hu : 0 < u) : 0 < frU u d := by
  have h1 := frD_pos (u := u) hd
  have r1 := fr_ratio u d
  have h2 : 0 < u * frD u d := Int.mul_pos hu h1
  apply Classical.byContradiction
  intro hn
  have h3 : frU u d * d ≤ 0 := Int.mul_nonpos_of_nonpos_of_nonneg (by omega) (by omega)
  omega
theorem fr_turn {u d : Int} (hd : 0 < d) (hu : 0 < u) : frU (frD u d) (frU u d) = frU d u ∧ frD (frD u d) (frU u d) = frD d u := by
  refine fr_eq (fr_pos hd hu) hu ?_
  have r1 := fr_ratio u d
  grind
theorem frU_le {u d B : Int} (hd : 0 < d) (h0 : 0 ≤ u) (h : u ≤ B) : 0 ≤ frU u d ∧ frU u d ≤ B := by
  have h1 := frU_bd (u := u) (d := d) (B := B) hd (by omega)
  have h2 := frD_pos (u := u) hd
  have r1 := fr_ratio u d
  have h3 : 0 ≤ u * frD u d := Int.mul_nonneg h0 (by omega)
  refine ⟨?_, h1.2⟩
  apply Classical.byContradiction
  intro hn
  have h4 : frU u d * d < 0 := Int.mul_neg_of_neg_of_pos (by omega) hd
  omega
end Go.Proofs.Ytjkmgpiiamffgaa

/- Fractions of greater numbers, by the model and by the laws. -/
namespace Go.Proofs.Ytjkmgpiiamffgaa
open Go.RowKit

def Hug (x : Int) : Prop := -4000000000000000000 ≤ x ∧ x ≤ 4000000000000000000
theorem Hug.tmod {x y : Int} (h : Hug x) : Hug (x.tmod y) := by
  unfold Hug at *
  have h1 := Int.natAbs_tmod x y
  have h2 : x.natAbs % y.natAbs ≤ x.natAbs := Nat.mod_le _ _
  omega
theorem hmul {x y : Int} (hx : -1200000000 ≤ x ∧ x ≤ 1200000000) (hy : -1200000000 ≤ y ∧ y ≤ 1200000000) : -1440000000000000000 ≤ x * y ∧ x * y ≤ 1440000000000000000 := mulbd (A := 1200000000) (B := 1200000000) hx hy
set_option maxHeartbeats 400000 in
theorem gcdH_any (a b : Int) (w : World) (ha : Hug a) (hb : Hug b) :
    Calls Try.prog 95 #[.int .i64 a, .int .i64 b] w fun e w' => e = .returned (.int .i64 (gcdI a b)) ∧ Quiet w w' := by
  have HA := Lib.hid ha
  have HB := Lib.hid hb
  clear ha hb
  go_enter Try.func95, Try.ntmps95
  go_wp2
  go_loopw [0, 1] (fun s t wr => ∃ x y : Int, s = .int .i64 x ∧ t = .int .i64 y ∧ Hid (Hug x) ∧ Hid (Hug y) ∧ Hid (gcdI x y = gcdI a b) ∧ Quiet w wr) (fun _ t _ => (intOf t).natAbs)
  case atStart => exact ⟨a, b, rfl, rfl, HA, HB, Lib.hid rfl, Quiet.refl _⟩
  case round =>
    obtain ⟨x, y, rfl, rfl, HX, HY, HG, q, rfl⟩ := hrel
    obtain ⟨x1, x2⟩ := HX.out
    obtain ⟨y1, y2⟩ := HY.out
    by_cases hy : y = 0
    · subst hy
      have hg := Lib.hid (gcdI_zero x)
      go_wp2
      all_goals go_ret
      all_goals exact ⟨ret_int (by rw [← HG.out, hg.out]; omega), ⟨_, rfl⟩⟩
    · have hy' : (y != 0) = true := by simpa using hy
      have HM := Lib.hid (HX.out.tmod (y := y))
      have HS := Lib.hid (gcdI_step x y)
      have HT := Lib.hid (tmod_abs (a := x) hy)
      go_wp2
      go_roundw
      case rel => exact ⟨y, x.tmod y, rfl, rfl, HY, HM, Lib.hid (HS.out.trans HG.out), ⟨_, rfl⟩⟩
      case measure => have := HT.out; simpa [intOf] using this
set_option maxHeartbeats 1000000 in
theorem fracH_any (u d : Int) (w : World) (hu : Hug u) (hd : Hug d) (h1 : 1 ≤ d) :
    Calls Try.prog 63 #[.int .i64 u, .int .i64 d] w (Ret (frV u d) w) := by
  have HQ := Lib.hid (fun W => gcdH_any u d W hu hd)
  have hg1 := gcdI_pos (a := u) (b := d) (by omega)
  have hg2 := gcdI_le (a := u) (b := d) (by omega)
  have HUB := Lib.hid (frU_bd (u := u) (d := d) (B := 4000000000000000000) (by omega) hu)
  have HDB := Lib.hid (frD_bd (u := u) (d := d) (B := 4000000000000000000) (by omega) hd.2)
  obtain ⟨u1, u2⟩ := hu
  obtain ⟨d1, d2⟩ := hd
  have hB := Lib.hid (below_alloc w (.cells #[.int .i64 0, .int .i64 0] 27))
  go_enter Try.func63, Try.ntmps63
  go_wp2_with fail
  refine (HQ.out _).mono ?_
  rintro e w2 ⟨rfl, q2, rfl⟩
  have HFU : Hid (frU u d = u.tdiv (gcdI u d)) := Lib.hid rfl
  have HFD : Hid (frD u d = d / gcdI u d) := Lib.hid (by unfold frD; rw [Int.tdiv_eq_ediv_of_nonneg (by omega)])
  generalize gcdI u d = g at *
  have b0 : Blk ((w.alloc (.cells #[.int .i64 0, .int .i64 0] 27)).drewN q2) w.heap.size 27 #[.int .i64 0, .int .i64 0] := blk_new w _ _
  have c0 := blk_cell b0 (i := 0) rfl
  have c1 := blk_cell b0 (i := 1) rfl
  have f0 := blk_frozen b0 0
  have f1 := blk_frozen b0 1
  have g0 : (g == 0) = false := by simp; omega
  go_wp2
  go_region
  all_goals clear c0 c1 f0 f1
  all_goals go_wp2
  have B1 := blk_set (blk_set (show Blk ((w.alloc (.cells #[.int .i64 0, .int .i64 0] 27)).drewN (q2 + 1)) w.heap.size 27 #[.int .i64 0, .int .i64 0] from blk_new w _ _) 0 (.int .i64 (u.tdiv g))) 1 (.int .i64 (d / g))
  have r0 := blk_cell B1 (i := 0) (v := .int .i64 (u.tdiv g)) rfl
  have r1 := blk_cell B1 (i := 1) (v := .int .i64 (d / g)) rfl
  have HBW := Lib.hid (((below_drewN hB.out (q2 + 1)).setCell (p := ⟨w.heap.size, 0, none⟩) (Nat.le_refl _) (.int .i64 (u.tdiv g))).setCell (p := ⟨w.heap.size, 1, none⟩) (Nat.le_refl _) (.int .i64 (d / g)))
  clear B1 b0
  generalize (((w.alloc (.cells #[.int .i64 0, .int .i64 0] 27)).drewN (q2 + 1)).setCell ⟨w.heap.size, 0, none⟩ (.int .i64 (u.tdiv g))).setCell ⟨w.heap.size, 1, none⟩ (.int .i64 (d / g)) = W3 at *
  refine bodyPost_ret (v := .agg #[.int .i64 (u.tdiv g), .int .i64 (d / g)]) (by simp [results, Try.results63, go_sem, r0, r1]) rfl ?_
  exact ⟨by rw [frV, HFU.out, HFD.out], HBW.out⟩
set_option maxHeartbeats 400000 in
theorem divisorH_any (a b : Int) (w : World) (ha : Hug a) (hb : Hug b) :
    Calls Try.prog 66 #[.int .i64 a, .int .i64 b] w fun e w' => e = .returned (.int .i64 (gcdI a b)) ∧ Quiet w w' := by
  have HA := Lib.hid ha
  have HB := Lib.hid hb
  clear ha hb
  go_enter Try.func66, Try.ntmps66
  go_wp2
  go_loopw [0, 1] (fun s t wr => ∃ x y : Int, s = .int .i64 x ∧ t = .int .i64 y ∧ Hid (Hug x) ∧ Hid (Hug y) ∧ Hid (gcdI x y = gcdI a b) ∧ Quiet w wr) (fun _ t _ => (intOf t).natAbs)
  case atStart => exact ⟨a, b, rfl, rfl, HA, HB, Lib.hid rfl, Quiet.refl _⟩
  case round =>
    obtain ⟨x, y, rfl, rfl, HX, HY, HG, q, rfl⟩ := hrel
    obtain ⟨x1, x2⟩ := HX.out
    obtain ⟨y1, y2⟩ := HY.out
    by_cases hy : y = 0
    · subst hy
      have hg := Lib.hid (gcdI_zero x)
      go_wp2
      all_goals go_ret
      all_goals exact ⟨ret_int (by rw [← HG.out, hg.out]; omega), ⟨_, rfl⟩⟩
    · have hy' : (y != 0) = true := by simpa using hy
      have HM := Lib.hid (HX.out.tmod (y := y))
      have HS := Lib.hid (gcdI_step x y)
      have HT := Lib.hid (tmod_abs (a := x) hy)
      go_wp2
      go_roundw
      case rel => exact ⟨y, x.tmod y, rfl, rfl, HY, HM, Lib.hid (HS.out.trans HG.out), ⟨_, rfl⟩⟩
      case measure => have := HT.out; simpa [intOf] using this
set_option maxHeartbeats 1000000 in
theorem fracOfH_any (u d : Int) (w : World) (hu : Hug u) (hd : Hug d) (h1 : 1 ≤ d) :
    Calls Try.prog 17 #[.int .i64 u, .int .i64 d] w (Ret (frV u d) w) := by
  have HQ := Lib.hid (fun W => divisorH_any u d W hu hd)
  have hg1 := gcdI_pos (a := u) (b := d) (by omega)
  have hg2 := gcdI_le (a := u) (b := d) (by omega)
  obtain ⟨u1, u2⟩ := hu
  obtain ⟨d1, d2⟩ := hd
  have hB := Lib.hid (below_alloc w (.cells #[.int .i64 0, .int .i64 0] 27))
  go_enter Try.func17, Try.ntmps17
  go_wp2_with fail
  refine (HQ.out _).mono ?_
  rintro e w2 ⟨rfl, hq⟩
  have HFU : Hid (frU u d = u.tdiv (gcdI u d)) := Lib.hid rfl
  have HFD : Hid (frD u d = d / gcdI u d) := Lib.hid (by unfold frD; rw [Int.tdiv_eq_ediv_of_nonneg (by omega)])
  have b0 := blk_quiet (blk_new w 27 #[.int .i64 0, .int .i64 0]) hq
  have HBW := Lib.hid (below_quiet hB.out hq)
  clear hq hB HQ
  generalize gcdI u d = g at *
  have c0 := blk_cell b0 (i := 0) rfl
  have c1 := blk_cell b0 (i := 1) rfl
  have f0 := blk_frozen b0 0
  have f1 := blk_frozen b0 1
  have g0 : (g == 0) = false := by simp; omega
  go_wp2
  go_region
  all_goals clear c0 c1 f0 f1
  all_goals go_wp2
  have B1 := blk_set (blk_set b0 0 (.int .i64 (u.tdiv g))) 1 (.int .i64 (d / g))
  have r0 := blk_cell B1 (i := 0) (v := .int .i64 (u.tdiv g)) rfl
  have r1 := blk_cell B1 (i := 1) (v := .int .i64 (d / g)) rfl
  have HBX := Lib.hid ((HBW.out.setCell (p := ⟨w.heap.size, 0, none⟩) (Nat.le_refl _) (.int .i64 (u.tdiv g))).setCell (p := ⟨w.heap.size, 1, none⟩) (Nat.le_refl _) (.int .i64 (d / g))).drew
  replace r0 : ((w2.setCell ⟨w.heap.size, 0, none⟩ (.int .i64 (u.tdiv g))).setCell ⟨w.heap.size, 1, none⟩ (.int .i64 (d / g))).drew.cell? ⟨w.heap.size, 0, none⟩ = some (.int .i64 (u.tdiv g)) := r0
  replace r1 : ((w2.setCell ⟨w.heap.size, 0, none⟩ (.int .i64 (u.tdiv g))).setCell ⟨w.heap.size, 1, none⟩ (.int .i64 (d / g))).drew.cell? ⟨w.heap.size, 1, none⟩ = some (.int .i64 (d / g)) := r1
  clear B1 b0 HBW
  generalize ((w2.setCell ⟨w.heap.size, 0, none⟩ (.int .i64 (u.tdiv g))).setCell ⟨w.heap.size, 1, none⟩ (.int .i64 (d / g))).drew = W3 at *
  refine bodyPost_ret (v := .agg #[.int .i64 (u.tdiv g), .int .i64 (d / g)]) (by simp [results, Try.results17, go_sem, r0, r1]) rfl ?_
  exact ⟨by rw [frV, HFU.out, HFD.out], HBX.out⟩
set_option maxHeartbeats 1000000 in
theorem timesOfH_any (u d v e : Int) (w : World) (hu : -1200000000 ≤ u ∧ u ≤ 1200000000) (hv : -1200000000 ≤ v ∧ v ≤ 1200000000) (hd : 1 ≤ d ∧ d ≤ 1200000000) (he : 1 ≤ e ∧ e ≤ 1200000000) :
    Calls Try.prog 16 #[.agg #[.int .i64 u, .int .i64 d], .agg #[.int .i64 v, .int .i64 e]] w (Ret (frV (u * v) (d * e)) w) := by
  obtain ⟨p1, p2⟩ := mulbd (x := u) (y := e) (A := 1200000000) (B := 1200000000) hu (by omega)
  obtain ⟨p3, p4⟩ := mulbd (x := v) (y := d) (A := 1200000000) (B := 1200000000) hv (by omega)
  obtain ⟨p5, p6⟩ := mulbd (x := d) (y := e) (A := 1200000000) (B := 1200000000) (by omega) (by omega)
  obtain ⟨p7, p8⟩ := mulbd (x := u) (y := v) (A := 1200000000) (B := 1200000000) hu hv
  have p9 : 1 ≤ d * e := by have h : 1 * 1 ≤ d * e := Int.mul_le_mul hd.1 he.1 (by omega) (by omega); omega
  have HC := Lib.hid (fun W => fracOfH_any (u * v) (d * e) W (by unfold Hug; omega) (by unfold Hug; omega) p9)
  have b0 := blk_old (blk_old (blk_new w 27 #[.int .i64 u, .int .i64 d]) (.cells #[.int .i64 v, .int .i64 e] 27)) (.cells #[.int .i64 0, .int .i64 0] 27)
  have b1 := blk_old (blk_new (w.alloc (.cells #[.int .i64 u, .int .i64 d] 27)) 27 #[.int .i64 v, .int .i64 e]) (.cells #[.int .i64 0, .int .i64 0] 27)
  have b2 := blk_new ((w.alloc (.cells #[.int .i64 u, .int .i64 d] 27)).alloc (.cells #[.int .i64 v, .int .i64 e] 27)) 27 #[.int .i64 0, .int .i64 0]
  have HB := Lib.hid (below_up (below_up (below_alloc w (.cells #[.int .i64 u, .int .i64 d] 27)) (below_alloc _ (.cells #[.int .i64 v, .int .i64 e] 27))) (below_alloc _ (.cells #[.int .i64 0, .int .i64 0] 27)))
  have HFV : Hid (frV (u * v) (d * e) = .agg #[.int .i64 (frU (u * v) (d * e)), .int .i64 (frD (u * v) (d * e))]) := Lib.hid rfl
  rw [HFV.out] at HC
  simp only [World.size_alloc] at b1 b2
  have c0 := blk_cell b0 (i := 0) rfl
  have c1 := blk_cell b0 (i := 1) rfl
  have c2 := blk_cell b1 (i := 0) rfl
  have c3 := blk_cell b1 (i := 1) rfl
  have HB2 := Lib.hid b2
  clear b0 b1 b2
  go_enter Try.func16, Try.ntmps16
  go_wp2_with fail
  clear c0 c1 c2 c3
  generalize ((w.alloc (.cells #[.int .i64 u, .int .i64 d] 27)).alloc (.cells #[.int .i64 v, .int .i64 e] 27)).alloc (.cells #[.int .i64 0, .int .i64 0] 27) = w1 at *
  refine (HC.out _).mono ?_
  rintro e w2 ⟨rfl, hb⟩
  have b0 := blk_below HB2.out hb
  have HBW := Lib.hid (below_up HB.out hb)
  clear hb HC HB HB2
  generalize frU (u * v) (d * e) = U at *
  generalize frD (u * v) (d * e) = D at *
  have c0 := blk_cell b0 (i := 0) rfl
  have c1 := blk_cell b0 (i := 1) rfl
  have f0 := blk_frozen b0 0
  have f1 := blk_frozen b0 1
  go_wp2
  clear c0 c1 f0 f1
  have B1 := blk_set (blk_set b0 0 (.int .i64 U)) 1 (.int .i64 D)
  have r0 := blk_cell B1 (i := 0) (v := .int .i64 U) rfl
  have r1 := blk_cell B1 (i := 1) (v := .int .i64 D) rfl
  have hle : w.heap.size ≤ w.heap.size + 1 + 1 := by omega
  have HBX := Lib.hid ((HBW.out.setCell (p := ⟨w.heap.size + 1 + 1, 0, none⟩) hle (.int .i64 U)).setCell (p := ⟨w.heap.size + 1 + 1, 1, none⟩) hle (.int .i64 D))
  clear B1 b0 HBW
  generalize (w2.setCell ⟨w.heap.size + 1 + 1, 0, none⟩ (.int .i64 U)).setCell ⟨w.heap.size + 1 + 1, 1, none⟩ (.int .i64 D) = WE at *
  refine bodyPost_ret (v := .agg #[.int .i64 U, .int .i64 D]) (by simp [results, Try.results16, go_sem, r0, r1]) rfl ?_
  exact ⟨by rw [HFV.out], HBX.out⟩
set_option maxHeartbeats 1000000 in
theorem plusH_any (u d v e : Int) (w : World) (hu : -1200000000 ≤ u ∧ u ≤ 1200000000) (hv : -1200000000 ≤ v ∧ v ≤ 1200000000) (hd : 1 ≤ d ∧ d ≤ 1200000000) (he : 1 ≤ e ∧ e ≤ 1200000000) :
    Calls Try.prog 97 #[.agg #[.int .i64 u, .int .i64 d], .agg #[.int .i64 v, .int .i64 e]] w (Ret (frV (u * e + v * d) (d * e)) w) := by
  obtain ⟨p1, p2⟩ := mulbd (x := u) (y := e) (A := 1200000000) (B := 1200000000) hu (by omega)
  obtain ⟨p3, p4⟩ := mulbd (x := v) (y := d) (A := 1200000000) (B := 1200000000) hv (by omega)
  obtain ⟨p5, p6⟩ := mulbd (x := d) (y := e) (A := 1200000000) (B := 1200000000) (by omega) (by omega)
  obtain ⟨p7, p8⟩ := mulbd (x := u) (y := v) (A := 1200000000) (B := 1200000000) hu hv
  have p9 : 1 ≤ d * e := by have h : 1 * 1 ≤ d * e := Int.mul_le_mul hd.1 he.1 (by omega) (by omega); omega
  have HC := Lib.hid (fun W => fracH_any (u * e + v * d) (d * e) W (by unfold Hug; omega) (by unfold Hug; omega) p9)
  have b0 := blk_old (blk_old (blk_new w 27 #[.int .i64 u, .int .i64 d]) (.cells #[.int .i64 v, .int .i64 e] 27)) (.cells #[.int .i64 0, .int .i64 0] 27)
  have b1 := blk_old (blk_new (w.alloc (.cells #[.int .i64 u, .int .i64 d] 27)) 27 #[.int .i64 v, .int .i64 e]) (.cells #[.int .i64 0, .int .i64 0] 27)
  have b2 := blk_new ((w.alloc (.cells #[.int .i64 u, .int .i64 d] 27)).alloc (.cells #[.int .i64 v, .int .i64 e] 27)) 27 #[.int .i64 0, .int .i64 0]
  have HB := Lib.hid (below_up (below_up (below_alloc w (.cells #[.int .i64 u, .int .i64 d] 27)) (below_alloc _ (.cells #[.int .i64 v, .int .i64 e] 27))) (below_alloc _ (.cells #[.int .i64 0, .int .i64 0] 27)))
  have HFV : Hid (frV (u * e + v * d) (d * e) = .agg #[.int .i64 (frU (u * e + v * d) (d * e)), .int .i64 (frD (u * e + v * d) (d * e))]) := Lib.hid rfl
  rw [HFV.out] at HC
  simp only [World.size_alloc] at b1 b2
  have c0 := blk_cell b0 (i := 0) rfl
  have c1 := blk_cell b0 (i := 1) rfl
  have c2 := blk_cell b1 (i := 0) rfl
  have c3 := blk_cell b1 (i := 1) rfl
  have HB2 := Lib.hid b2
  clear b0 b1 b2
  go_enter Try.func97, Try.ntmps97
  go_wp2_with fail
  clear c0 c1 c2 c3
  generalize ((w.alloc (.cells #[.int .i64 u, .int .i64 d] 27)).alloc (.cells #[.int .i64 v, .int .i64 e] 27)).alloc (.cells #[.int .i64 0, .int .i64 0] 27) = w1 at *
  refine (HC.out _).mono ?_
  rintro e w2 ⟨rfl, hb⟩
  have b0 := blk_below HB2.out hb
  have HBW := Lib.hid (below_up HB.out hb)
  clear hb HC HB HB2
  generalize frU (u * e + v * d) (d * e) = U at *
  generalize frD (u * e + v * d) (d * e) = D at *
  have c0 := blk_cell b0 (i := 0) rfl
  have c1 := blk_cell b0 (i := 1) rfl
  have f0 := blk_frozen b0 0
  have f1 := blk_frozen b0 1
  go_wp2
  clear c0 c1 f0 f1
  have B1 := blk_set (blk_set b0 0 (.int .i64 U)) 1 (.int .i64 D)
  have r0 := blk_cell B1 (i := 0) (v := .int .i64 U) rfl
  have r1 := blk_cell B1 (i := 1) (v := .int .i64 D) rfl
  have hle : w.heap.size ≤ w.heap.size + 1 + 1 := by omega
  have HBX := Lib.hid ((HBW.out.setCell (p := ⟨w.heap.size + 1 + 1, 0, none⟩) hle (.int .i64 U)).setCell (p := ⟨w.heap.size + 1 + 1, 1, none⟩) hle (.int .i64 D))
  clear B1 b0 HBW
  generalize (w2.setCell ⟨w.heap.size + 1 + 1, 0, none⟩ (.int .i64 U)).setCell ⟨w.heap.size + 1 + 1, 1, none⟩ (.int .i64 D) = WE at *
  refine bodyPost_ret (v := .agg #[.int .i64 U, .int .i64 D]) (by simp [results, Try.results97, go_sem, r0, r1]) rfl ?_
  exact ⟨by rw [HFV.out], HBX.out⟩
set_option maxHeartbeats 1000000 in
theorem timesH_any (u d v e : Int) (w : World) (hu : -1200000000 ≤ u ∧ u ≤ 1200000000) (hv : -1200000000 ≤ v ∧ v ≤ 1200000000) (hd : 1 ≤ d ∧ d ≤ 1200000000) (he : 1 ≤ e ∧ e ≤ 1200000000) :
    Calls Try.prog 65 #[.agg #[.int .i64 u, .int .i64 d], .agg #[.int .i64 v, .int .i64 e]] w (Ret (frV (u * v) (d * e)) w) := by
  obtain ⟨p1, p2⟩ := mulbd (x := u) (y := e) (A := 1200000000) (B := 1200000000) hu (by omega)
  obtain ⟨p3, p4⟩ := mulbd (x := v) (y := d) (A := 1200000000) (B := 1200000000) hv (by omega)
  obtain ⟨p5, p6⟩ := mulbd (x := d) (y := e) (A := 1200000000) (B := 1200000000) (by omega) (by omega)
  obtain ⟨p7, p8⟩ := mulbd (x := u) (y := v) (A := 1200000000) (B := 1200000000) hu hv
  have p9 : 1 ≤ d * e := by have h : 1 * 1 ≤ d * e := Int.mul_le_mul hd.1 he.1 (by omega) (by omega); omega
  have HC := Lib.hid (fun W => fracH_any (u * v) (d * e) W (by unfold Hug; omega) (by unfold Hug; omega) p9)
  have b0 := blk_old (blk_old (blk_new w 27 #[.int .i64 u, .int .i64 d]) (.cells #[.int .i64 v, .int .i64 e] 27)) (.cells #[.int .i64 0, .int .i64 0] 27)
  have b1 := blk_old (blk_new (w.alloc (.cells #[.int .i64 u, .int .i64 d] 27)) 27 #[.int .i64 v, .int .i64 e]) (.cells #[.int .i64 0, .int .i64 0] 27)
  have b2 := blk_new ((w.alloc (.cells #[.int .i64 u, .int .i64 d] 27)).alloc (.cells #[.int .i64 v, .int .i64 e] 27)) 27 #[.int .i64 0, .int .i64 0]
  have HB := Lib.hid (below_up (below_up (below_alloc w (.cells #[.int .i64 u, .int .i64 d] 27)) (below_alloc _ (.cells #[.int .i64 v, .int .i64 e] 27))) (below_alloc _ (.cells #[.int .i64 0, .int .i64 0] 27)))
  have HFV : Hid (frV (u * v) (d * e) = .agg #[.int .i64 (frU (u * v) (d * e)), .int .i64 (frD (u * v) (d * e))]) := Lib.hid rfl
  rw [HFV.out] at HC
  simp only [World.size_alloc] at b1 b2
  have c0 := blk_cell b0 (i := 0) rfl
  have c1 := blk_cell b0 (i := 1) rfl
  have c2 := blk_cell b1 (i := 0) rfl
  have c3 := blk_cell b1 (i := 1) rfl
  have HB2 := Lib.hid b2
  clear b0 b1 b2
  go_enter Try.func65, Try.ntmps65
  go_wp2_with fail
  clear c0 c1 c2 c3
  generalize ((w.alloc (.cells #[.int .i64 u, .int .i64 d] 27)).alloc (.cells #[.int .i64 v, .int .i64 e] 27)).alloc (.cells #[.int .i64 0, .int .i64 0] 27) = w1 at *
  refine (HC.out _).mono ?_
  rintro e w2 ⟨rfl, hb⟩
  have b0 := blk_below HB2.out hb
  have HBW := Lib.hid (below_up HB.out hb)
  clear hb HC HB HB2
  generalize frU (u * v) (d * e) = U at *
  generalize frD (u * v) (d * e) = D at *
  have c0 := blk_cell b0 (i := 0) rfl
  have c1 := blk_cell b0 (i := 1) rfl
  have f0 := blk_frozen b0 0
  have f1 := blk_frozen b0 1
  go_wp2
  clear c0 c1 f0 f1
  have B1 := blk_set (blk_set b0 0 (.int .i64 U)) 1 (.int .i64 D)
  have r0 := blk_cell B1 (i := 0) (v := .int .i64 U) rfl
  have r1 := blk_cell B1 (i := 1) (v := .int .i64 D) rfl
  have hle : w.heap.size ≤ w.heap.size + 1 + 1 := by omega
  have HBX := Lib.hid ((HBW.out.setCell (p := ⟨w.heap.size + 1 + 1, 0, none⟩) hle (.int .i64 U)).setCell (p := ⟨w.heap.size + 1 + 1, 1, none⟩) hle (.int .i64 D))
  clear B1 b0 HBW
  generalize (w2.setCell ⟨w.heap.size + 1 + 1, 0, none⟩ (.int .i64 U)).setCell ⟨w.heap.size + 1 + 1, 1, none⟩ (.int .i64 D) = WE at *
  refine bodyPost_ret (v := .agg #[.int .i64 U, .int .i64 D]) (by simp [results, Try.results65, go_sem, r0, r1]) rfl ?_
  exact ⟨by rw [HFV.out], HBX.out⟩
set_option maxHeartbeats 1000000 in
theorem minusH_any (u d v e : Int) (w : World) (hu : -1200000000 ≤ u ∧ u ≤ 1200000000) (hv : -1200000000 ≤ v ∧ v ≤ 1200000000) (hd : 1 ≤ d ∧ d ≤ 1200000000) (he : 1 ≤ e ∧ e ≤ 1200000000) :
    Calls Try.prog 71 #[.agg #[.int .i64 u, .int .i64 d], .agg #[.int .i64 v, .int .i64 e]] w (Ret (frV (u * e - v * d) (d * e)) w) := by
  obtain ⟨p1, p2⟩ := mulbd (x := u) (y := e) (A := 1200000000) (B := 1200000000) hu (by omega)
  obtain ⟨p3, p4⟩ := mulbd (x := v) (y := d) (A := 1200000000) (B := 1200000000) hv (by omega)
  obtain ⟨p5, p6⟩ := mulbd (x := d) (y := e) (A := 1200000000) (B := 1200000000) (by omega) (by omega)
  obtain ⟨p7, p8⟩ := mulbd (x := u) (y := v) (A := 1200000000) (B := 1200000000) hu hv
  have p9 : 1 ≤ d * e := by have h : 1 * 1 ≤ d * e := Int.mul_le_mul hd.1 he.1 (by omega) (by omega); omega
  have HC := Lib.hid (fun W => fracH_any (u * e - v * d) (d * e) W (by unfold Hug; omega) (by unfold Hug; omega) p9)
  have b0 := blk_old (blk_old (blk_new w 27 #[.int .i64 u, .int .i64 d]) (.cells #[.int .i64 v, .int .i64 e] 27)) (.cells #[.int .i64 0, .int .i64 0] 27)
  have b1 := blk_old (blk_new (w.alloc (.cells #[.int .i64 u, .int .i64 d] 27)) 27 #[.int .i64 v, .int .i64 e]) (.cells #[.int .i64 0, .int .i64 0] 27)
  have b2 := blk_new ((w.alloc (.cells #[.int .i64 u, .int .i64 d] 27)).alloc (.cells #[.int .i64 v, .int .i64 e] 27)) 27 #[.int .i64 0, .int .i64 0]
  have HB := Lib.hid (below_up (below_up (below_alloc w (.cells #[.int .i64 u, .int .i64 d] 27)) (below_alloc _ (.cells #[.int .i64 v, .int .i64 e] 27))) (below_alloc _ (.cells #[.int .i64 0, .int .i64 0] 27)))
  have HFV : Hid (frV (u * e - v * d) (d * e) = .agg #[.int .i64 (frU (u * e - v * d) (d * e)), .int .i64 (frD (u * e - v * d) (d * e))]) := Lib.hid rfl
  rw [HFV.out] at HC
  simp only [World.size_alloc] at b1 b2
  have c0 := blk_cell b0 (i := 0) rfl
  have c1 := blk_cell b0 (i := 1) rfl
  have c2 := blk_cell b1 (i := 0) rfl
  have c3 := blk_cell b1 (i := 1) rfl
  have HB2 := Lib.hid b2
  clear b0 b1 b2
  go_enter Try.func71, Try.ntmps71
  go_wp2_with fail
  clear c0 c1 c2 c3
  generalize ((w.alloc (.cells #[.int .i64 u, .int .i64 d] 27)).alloc (.cells #[.int .i64 v, .int .i64 e] 27)).alloc (.cells #[.int .i64 0, .int .i64 0] 27) = w1 at *
  refine (HC.out _).mono ?_
  rintro e w2 ⟨rfl, hb⟩
  have b0 := blk_below HB2.out hb
  have HBW := Lib.hid (below_up HB.out hb)
  clear hb HC HB HB2
  generalize frU (u * e - v * d) (d * e) = U at *
  generalize frD (u * e - v * d) (d * e) = D at *
  have c0 := blk_cell b0 (i := 0) rfl
  have c1 := blk_cell b0 (i := 1) rfl
  have f0 := blk_frozen b0 0
  have f1 := blk_frozen b0 1
  go_wp2
  clear c0 c1 f0 f1
  have B1 := blk_set (blk_set b0 0 (.int .i64 U)) 1 (.int .i64 D)
  have r0 := blk_cell B1 (i := 0) (v := .int .i64 U) rfl
  have r1 := blk_cell B1 (i := 1) (v := .int .i64 D) rfl
  have hle : w.heap.size ≤ w.heap.size + 1 + 1 := by omega
  have HBX := Lib.hid ((HBW.out.setCell (p := ⟨w.heap.size + 1 + 1, 0, none⟩) hle (.int .i64 U)).setCell (p := ⟨w.heap.size + 1 + 1, 1, none⟩) hle (.int .i64 D))
  clear B1 b0 HBW
  generalize (w2.setCell ⟨w.heap.size + 1 + 1, 0, none⟩ (.int .i64 U)).setCell ⟨w.heap.size + 1 + 1, 1, none⟩ (.int .i64 D) = WE at *
  refine bodyPost_ret (v := .agg #[.int .i64 U, .int .i64 D]) (by simp [results, Try.results71, go_sem, r0, r1]) rfl ?_
  exact ⟨by rw [HFV.out], HBX.out⟩
set_option maxHeartbeats 400000 in
theorem lessOfH_any (u d v e : Int) (w : World) (hu : -1200000000 ≤ u ∧ u ≤ 1200000000) (hv : -1200000000 ≤ v ∧ v ≤ 1200000000) (hd : 0 ≤ d ∧ d ≤ 1200000000) (he : 0 ≤ e ∧ e ≤ 1200000000) :
    Calls Try.prog 24 #[.agg #[.int .i64 u, .int .i64 d], .agg #[.int .i64 v, .int .i64 e]] w (Ret (.bool (lessB u d v e)) w) := by
  obtain ⟨p1, p2⟩ := hmul (x := u) (y := e) hu (by omega)
  obtain ⟨p3, p4⟩ := hmul (x := v) (y := d) hv (by omega)
  have b0 := blk_old (blk_new w 27 #[.int .i64 u, .int .i64 d]) (.cells #[.int .i64 v, .int .i64 e] 27)
  have b1 := blk_new (w.alloc (.cells #[.int .i64 u, .int .i64 d] 27)) 27 #[.int .i64 v, .int .i64 e]
  have HB := Lib.hid (below_up (below_alloc w (.cells #[.int .i64 u, .int .i64 d] 27)) (below_alloc _ (.cells #[.int .i64 v, .int .i64 e] 27)))
  rw [World.size_alloc] at b1
  have c0 := blk_cell b0 (i := 0) rfl
  have c1 := blk_cell b0 (i := 1) rfl
  have c2 := blk_cell b1 (i := 0) rfl
  have c3 := blk_cell b1 (i := 1) rfl
  go_enter Try.func24, Try.ntmps24
  go_wp2
  go_ret
  exact ⟨rfl, HB.out⟩
end Go.Proofs.Ytjkmgpiiamffgaa

/- Pairs and pays, by both programs. -/
namespace Go.Proofs.Ytjkmgpiiamffgaa
open Go.RowKit

/-- A field of two strategies. -/
def VP (a : List (List Int)) : Prop := VF a ∧ a.length = 2
set_option maxHeartbeats 400000 in
theorem validPair_any (A : Option Addr) (n c : Nat) (a : List (List Int)) (w : World) (hx : IntRows w A n c a) :
    Calls Try.prog 61 #[.slice A n c] w fun e w' => e = .returned (.bool (pb (VP a))) ∧ Quiet w w' := by
  have hl := hx.len
  by_cases hv : VF a
  · have HC := Lib.hid (pb_true hv ▸ validField_any A n c a w hx)
    by_cases h2 : a.length = 2
    · rw [pb_true (p := VP a) ⟨hv, h2⟩]
      obtain rfl : n = 2 := by omega
      clear h2 hl hv hx
      go_enter Try.func61, Try.ntmps61
      go_wp2_with fail
      refine HC.out.mono ?_
      rintro e w1 ⟨rfl, hq⟩
      go_wp2
      go_ret
      exact ⟨rfl, hq⟩
    · rw [pb_false (p := VP a) (fun h => h2 h.2)]
      have hz : ((n : Int) == 2) = false := by rw [beq_eq_false_iff_ne]; omega
      clear h2 hl hv hx
      go_enter Try.func61, Try.ntmps61
      go_wp2_with fail
      refine HC.out.mono ?_
      rintro e w1 ⟨rfl, hq⟩
      go_wp2
      go_ret
      exact ⟨rfl, hq⟩
  · rw [pb_false (p := VP a) (fun h => hv h.1)]
    have HC := Lib.hid (pb_false hv ▸ validField_any A n c a w hx)
    clear hv hx hl
    go_enter Try.func61, Try.ntmps61
    go_wp2_with fail
    refine HC.out.mono ?_
    rintro e w1 ⟨rfl, hq⟩
    go_wp2
    go_ret
    exact ⟨rfl, hq⟩
set_option maxHeartbeats 400000 in
theorem ValidPair_impl (A : Option Addr) (n c : Nat) (a : List (List Int)) (w : World) (hx : IntRows w A n c a) :
    Calls Try.prog 91 #[.slice A n c] w (Ret (.bool (pb (VP a))) w) := by
  have hl := hx.len
  by_cases hv : VF a
  · have HC := Lib.hid (pb_true hv ▸ ValidField_impl A n c a w hx)
    by_cases h2 : a.length = 2
    · rw [pb_true (p := VP a) ⟨hv, h2⟩]
      obtain rfl : n = 2 := by omega
      clear h2 hl hv hx
      go_enter Try.func91, Try.ntmps91
      go_wp2_with fail
      refine HC.out.mono ?_
      rintro e w1 ⟨rfl, hb⟩
      go_wp2
      go_ret
      exact ⟨rfl, hb⟩
    · rw [pb_false (p := VP a) (fun h => h2 h.2)]
      have hz : ((n : Int) == 2) = false := by rw [beq_eq_false_iff_ne]; omega
      clear h2 hl hv hx
      go_enter Try.func91, Try.ntmps91
      go_wp2_with fail
      refine HC.out.mono ?_
      rintro e w1 ⟨rfl, hb⟩
      go_wp2
      go_ret
      exact ⟨rfl, hb⟩
  · rw [pb_false (p := VP a) (fun h => hv h.1)]
    have HC := Lib.hid (pb_false hv ▸ ValidField_impl A n c a w hx)
    clear hv hx hl
    go_enter Try.func91, Try.ntmps91
    go_wp2_with fail
    refine HC.out.mono ?_
    rintro e w1 ⟨rfl, hb⟩
    go_wp2
    go_ret
    exact ⟨rfl, hb⟩

/-- What a player of the one strategy, and of the other one, has among n of whom i play the first one. -/
def pfA (a : List (List Int)) (n i : Nat) : Int := g2 a 0 0 * ((i : Int) - 1) + g2 a 0 1 * ((n : Int) - (i : Int))
def pgA (a : List (List Int)) (n i : Nat) : Int := g2 a 1 0 * (i : Int) + g2 a 1 1 * ((n : Int) - (i : Int) - 1)
/-- Two strategies and a number of players. -/
structure CR (a : List (List Int)) (n : Nat) : Prop where
  p : VP a
  n2 : 2 ≤ n
  n6 : n ≤ 6
theorem VP.bd {a : List (List Int)} (h : VP a) {i j : Nat} (hi : i < 2) (hj : j < 2) : 1 ≤ g2 a i j ∧ g2 a i j ≤ 9 := by
  have h1 := h.1.q.1.bd (i := i) (j := j) (by have := h.2; omega) (by have := h.1.q.2; have := h.2; omega)
  have h2 := h.1.p i j (by have := h.2; omega) (by have := h.2; omega)
  omega
theorem mul9 {x y : Int} (hx : 1 ≤ x ∧ x ≤ 9) (hy : 0 ≤ y) : y ≤ x * y ∧ x * y ≤ 9 * y := by
  have h1 : 1 * y ≤ x * y := Int.mul_le_mul_of_nonneg_right hx.1 hy
  have h2 : x * y ≤ 9 * y := Int.mul_le_mul_of_nonneg_right hx.2 hy
  omega
theorem CR.pf {a n} (h : CR a n) {i : Nat} (h1 : 1 ≤ i) (hi : i < n) : 1 ≤ pfA a n i ∧ pfA a n i ≤ 45 := by
  have b1 := mul9 (h.p.bd (i := 0) (j := 0) (by omega) (by omega)) (y := (i : Int) - 1) (by omega)
  have b2 := mul9 (h.p.bd (i := 0) (j := 1) (by omega) (by omega)) (y := (n : Int) - (i : Int)) (by omega)
  have := h.n6
  unfold pfA
  omega
theorem CR.pg {a n} (h : CR a n) {i : Nat} (h1 : 1 ≤ i) (hi : i < n) : 1 ≤ pgA a n i ∧ pgA a n i ≤ 45 := by
  have b1 := mul9 (h.p.bd (i := 1) (j := 0) (by omega) (by omega)) (y := (i : Int)) (by omega)
  have b2 := mul9 (h.p.bd (i := 1) (j := 1) (by omega) (by omega)) (y := (n : Int) - (i : Int) - 1) (by omega)
  have := h.n6
  unfold pgA
  omega
theorem CR.fg {a n} (h : CR a n) : FG (pfA a n) (pgA a n) (n - 1) :=
  ⟨by have := h.n6; omega, fun j h1 hj => h.pf h1 (by have := h.n2; omega), fun j h1 hj => h.pg h1 (by have := h.n2; omega)⟩
theorem CR.tab {a n A k c w} (h : CR a n) (hx : IntRows w A k c a) : ∃ b o rb ro cc, A = some ⟨b, o, none⟩ ∧ k = 2 ∧ Tab w b o rb ro cc 2 2 a := by
  obtain ⟨b, o, rb, ro, cc, rfl, tab⟩ := hx.tab h.p.1.q.1
  have hl := hx.len
  have h2 := h.p.2
  have h3 := h.p.1.q.2
  obtain rfl : k = 2 := by omega
  rw [show (gr a 0).length = 2 by omega] at tab
  exact ⟨b, o, rb, ro, cc, rfl, rfl, tab⟩

set_option maxRecDepth 100000 in
set_option maxHeartbeats 1600000 in
theorem pays_any (a : List (List Int)) (n i b o c : Nat) (rb ro cc : Nat → Nat) (w : World) (h : CR a n) (ht : Tab w b o rb ro cc 2 2 a) (h1 : 1 ≤ i) (hi : i < n) :
    Calls Try.prog 64 #[.slice (some ⟨b, o, none⟩) 2 c, .int .i64 n, .int .i64 i] w fun e w' => e = .returned (.tuple #[.int .i64 (pfA a n i), .int .i64 (pgA a n i)]) ∧ Quiet w w' := by
  have r0 := ht.row 0 (by omega)
  have r1 := ht.row 1 (by omega)
  have c00 := ht.cell 0 0 (by omega) (by omega)
  have c01 := ht.cell 0 1 (by omega) (by omega)
  have c10 := ht.cell 1 0 (by omega) (by omega)
  have c11 := ht.cell 1 1 (by omega) (by omega)
  simp only [Nat.add_zero] at r0 c00 c10
  obtain ⟨p1, p2⟩ := mul9 (h.p.bd (i := 0) (j := 0) (by omega) (by omega)) (y := (i : Int) - 1) (by omega)
  obtain ⟨p3, p4⟩ := mul9 (h.p.bd (i := 0) (j := 1) (by omega) (by omega)) (y := (n : Int) - (i : Int)) (by omega)
  obtain ⟨p5, p6⟩ := mul9 (h.p.bd (i := 1) (j := 0) (by omega) (by omega)) (y := (i : Int)) (by omega)
  obtain ⟨p7, p8⟩ := mul9 (h.p.bd (i := 1) (j := 1) (by omega) (by omega)) (y := (n : Int) - (i : Int) - 1) (by omega)
  have hn6 := h.n6
  unfold pfA pgA
  clear h ht
  generalize g2 a 0 0 = x at *
  generalize g2 a 0 1 = y at *
  generalize g2 a 1 0 = z at *
  generalize g2 a 1 1 = t at *
  go_enter Try.func64, Try.ntmps64
  go_wp2
  go_region
  all_goals go_wp2
  all_goals go_ret2
  all_goals exact ⟨rfl, ⟨_, rfl⟩⟩
end Go.Proofs.Ytjkmgpiiamffgaa

/- PaysAt by both programs. -/
namespace Go.Proofs.Ytjkmgpiiamffgaa
open Go.RowKit

/-- A pair and a number of players. -/
def CQ (a : List (List Int)) (n : Int) : Prop := VP a ∧ InR n 2 6
theorem CQ.cr {a : List (List Int)} {n : Nat} (h : CQ a n) : CR a n := ⟨h.1, by have := h.2; unfold InR at this; omega, by have := h.2; unfold InR at this; omega⟩
theorem CR.cq {a : List (List Int)} {n : Nat} (h : CR a n) : CQ a n := ⟨h.p, by have := h.n2; have := h.n6; unfold InR; omega⟩
theorem CQ.nat {a : List (List Int)} {n : Int} (h : CQ a n) : ∃ k : Nat, n = k ∧ CR a k := by
  obtain ⟨k, rfl⟩ : ∃ k : Nat, n = k := ⟨n.toNat, by have := h.2; unfold InR at this; omega⟩
  exact ⟨k, rfl, h.cr⟩
/-- What PaysAt is asked of. -/
def PQ (a : List (List Int)) (n i : Int) : Prop := CQ a n ∧ InR i 1 (n - 1)
noncomputable def paU (a : List (List Int)) (n i : Int) : Int := if pb (PQ a n i) = true then pfA a n.toNat i.toNat else -1
noncomputable def paV (a : List (List Int)) (n i : Int) : Int := if pb (PQ a n i) = true then pgA a n.toNat i.toNat else -1
theorem pa_no {a : List (List Int)} {n i : Int} (h : ¬ PQ a n i) : paU a n i = -1 ∧ paV a n i = -1 := by
  unfold paU paV; rw [if_neg (by rw [pb_false h]; decide), if_neg (by rw [pb_false h]; decide)]; exact ⟨rfl, rfl⟩
theorem pa_yes {a : List (List Int)} {n i : Nat} (h : CR a n) (h1 : 1 ≤ i) (h2 : i < n) : paU a n i = pfA a n i ∧ paV a n i = pgA a n i := by
  have hp : PQ a n i := ⟨h.cq, by unfold InR; omega⟩
  unfold paU paV; rw [if_pos (pb_true hp), if_pos (pb_true hp), Int.toNat_natCast, Int.toNat_natCast]; exact ⟨rfl, rfl⟩
set_option maxRecDepth 100000 in
set_option maxHeartbeats 1600000 in
theorem PaysAt_spec (A : Option Addr) (l c : Nat) (a : List (List Int)) (n i : Int) (w : World) (hx : IntRows w A l c a) (_ : Fit n) (_ : Fit i) :
    Calls Try.prog 23 #[.slice A l c, .int .i64 n, .int .i64 i] w (Ret (.tuple #[.int .i64 (paU a n i), .int .i64 (paV a n i)]) w) := by
  have HX := Lib.hid hx
  clear hx
  by_cases hv : VP a
  · by_cases hn : InR n 2 6
    · obtain ⟨n, rfl, hcr⟩ := (show CQ a n from ⟨hv, hn⟩).nat
      have hn6 := hcr.n6
      have hn2 := hcr.n2
      have HN := Lib.hid (fun W => pb_true hn ▸ inRange_any n 2 6 W)
      have HV := Lib.hid (pb_true hv ▸ validPair_any A l c a w HX.out)
      by_cases hi : InR i 1 ((n : Int) - 1)
      · obtain ⟨i, rfl⟩ : ∃ k : Nat, i = k := ⟨i.toNat, by unfold InR at hi; omega⟩
        have h1 : 1 ≤ i := by unfold InR at hi; omega
        have h2 : i < n := by unfold InR at hi; omega
        rw [(pa_yes hcr h1 h2).1, (pa_yes hcr h1 h2).2]
        have HI := Lib.hid (fun W => pb_true hi ▸ inRange_any i 1 ((n : Int) - 1) W)
        obtain ⟨b, o, rb, ro, cc, rfl, rfl, tab⟩ := hcr.tab HX.out
        have HT := Lib.hid tab
        have HCR := Lib.hid hcr
        clear tab hcr hv hn hi
        go_enter Try.func23, Try.ntmps23
        go_wp2_with fail
        refine HV.out.mono ?_
        rintro e w1 ⟨rfl, hq⟩
        have K1 := Lib.hid (Keep.quiet hq)
        have Q1 := Lib.hid hq
        clear hq HV
        go_wp2_with fail
        refine (HN.out _).mono ?_
        rintro e w2 ⟨rfl, rfl⟩
        go_wp2_with fail
        refine (HI.out _).mono ?_
        rintro e w3 ⟨rfl, rfl⟩
        have HC := Lib.hid (pays_any a n i b o c rb ro cc w1 HCR.out (HT.out.keep K1.out) h1 h2)
        go_wp2_with fail
        refine HC.out.mono ?_
        rintro e w4 ⟨rfl, hq⟩
        have Q2 := Lib.hid (Q1.out.trans hq)
        clear hq HC Q1 K1
        generalize pfA a n i = x at *
        generalize pgA a n i = y at *
        go_wp2
        go_ret2
        exact ⟨rfl, Q2.out.below⟩
      · rw [(pa_no (fun h => hi h.2)).1, (pa_no (fun h => hi h.2)).2]
        have HI := Lib.hid (fun W => pb_false hi ▸ inRange_any i 1 ((n : Int) - 1) W)
        clear hcr hv hn hi
        go_enter Try.func23, Try.ntmps23
        go_wp2_with fail
        refine HV.out.mono ?_
        rintro e w1 ⟨rfl, hq⟩
        go_wp2_with fail
        refine (HN.out _).mono ?_
        rintro e w2 ⟨rfl, rfl⟩
        go_wp2_with fail
        refine (HI.out _).mono ?_
        rintro e w3 ⟨rfl, rfl⟩
        go_wp2
        go_ret2
        exact ⟨rfl, hq.below⟩
    · rw [(pa_no (fun h => hn h.1.2)).1, (pa_no (fun h => hn h.1.2)).2]
      have HN := Lib.hid (fun W => pb_false hn ▸ inRange_any n 2 6 W)
      have HV := Lib.hid (pb_true hv ▸ validPair_any A l c a w HX.out)
      clear hv hn
      go_enter Try.func23, Try.ntmps23
      go_wp2_with fail
      refine HV.out.mono ?_
      rintro e w1 ⟨rfl, hq⟩
      go_wp2_with fail
      refine (HN.out _).mono ?_
      rintro e w2 ⟨rfl, rfl⟩
      go_wp2
      go_ret2
      exact ⟨rfl, hq.below⟩
  · rw [(pa_no (fun h => hv h.1.1)).1, (pa_no (fun h => hv h.1.1)).2]
    have HV := Lib.hid (pb_false hv ▸ validPair_any A l c a w HX.out)
    clear hv
    go_enter Try.func23, Try.ntmps23
    go_wp2_with fail
    refine HV.out.mono ?_
    rintro e w1 ⟨rfl, hq⟩
    go_wp2
    go_ret2
    exact ⟨rfl, hq.below⟩
set_option maxHeartbeats 400000 in
theorem isCrowd_any (A : Option Addr) (l c : Nat) (a : List (List Int)) (n : Int) (w : World) (hx : IntRows w A l c a) (hf : Fit n) :
    Calls Try.prog 58 #[.slice A l c, .int .i64 n] w (Ret (.bool (pb (CQ a n))) w) := by
  obtain ⟨f1, f2⟩ := hf
  by_cases hv : VP a
  · have HV := Lib.hid (pb_true hv ▸ ValidPair_impl A l c a w hx)
    by_cases h2 : n < 2
    · rw [pb_false (p := CQ a n) (fun h => by have := h.2; unfold InR at this; omega)]
      have g2 : decide ((2 : Int) ≤ n) = false := decide_eq_false (by omega)
      clear hv
      go_enter Try.func58, Try.ntmps58
      go_wp2_with fail
      refine HV.out.mono ?_
      rintro e w1 ⟨rfl, hb⟩
      go_wp2
      go_ret
      exact ⟨rfl, hb⟩
    · have g2 : decide ((2 : Int) ≤ n) = true := decide_eq_true (by omega)
      by_cases h6 : n ≤ 6
      · rw [pb_true (p := CQ a n) ⟨hv, by unfold InR; omega⟩]
        have g6 : decide (n ≤ (6 : Int)) = true := decide_eq_true h6
        clear hv
        go_enter Try.func58, Try.ntmps58
        go_wp2_with fail
        refine HV.out.mono ?_
        rintro e w1 ⟨rfl, hb⟩
        go_wp2
        go_ret
        exact ⟨rfl, hb⟩
      · rw [pb_false (p := CQ a n) (fun h => by have := h.2; unfold InR at this; omega)]
        have g6 : decide (n ≤ (6 : Int)) = false := decide_eq_false h6
        clear hv
        go_enter Try.func58, Try.ntmps58
        go_wp2_with fail
        refine HV.out.mono ?_
        rintro e w1 ⟨rfl, hb⟩
        go_wp2
        go_ret
        exact ⟨rfl, hb⟩
  · rw [pb_false (p := CQ a n) (fun h => hv h.1)]
    have HV := Lib.hid (pb_false hv ▸ ValidPair_impl A l c a w hx)
    clear hv
    go_enter Try.func58, Try.ntmps58
    go_wp2_with fail
    refine HV.out.mono ?_
    rintro e w1 ⟨rfl, hb⟩
    go_wp2
    go_ret
    exact ⟨rfl, hb⟩
set_option maxRecDepth 100000 in
set_option maxHeartbeats 1600000 in
theorem paysAt_any (a : List (List Int)) (n i b o c : Nat) (rb ro cc : Nat → Nat) (w : World) (h : CR a n) (ht : Tab w b o rb ro cc 2 2 a) (h1 : 1 ≤ i) (hi : i < n) :
    Calls Try.prog 70 #[.slice (some ⟨b, o, none⟩) 2 c, .int .i64 n, .int .i64 i] w (Ret (.tuple #[.int .i64 (pfA a n i), .int .i64 (pgA a n i)]) w) := by
  have hn6 := h.n6
  have HD1 := Lib.hid (show dotr a [(i : Int) - 1, (n : Int) - (i : Int)] 0 2 = pfA a n i by simp [dotr, pfA, gi])
  have HD2 := Lib.hid (show dotr a [(i : Int), (n : Int) - (i : Int) - 1] 1 2 = pgA a n i by simp [dotr, pgA, gi])
  have HB1 := Lib.hid (show ∀ j, j < 2 → 0 ≤ gi [(i : Int) - 1, (n : Int) - (i : Int)] j ∧ gi [(i : Int) - 1, (n : Int) - (i : Int)] j ≤ 1000 from fun j hj => by
    have h : j = 0 ∨ j = 1 := by omega
    rcases h with rfl | rfl <;> simp [gi] <;> omega)
  have HB2 := Lib.hid (show ∀ j, j < 2 → 0 ≤ gi [(i : Int), (n : Int) - (i : Int) - 1] j ∧ gi [(i : Int), (n : Int) - (i : Int) - 1] j ≤ 1000 from fun j hj => by
    have h : j = 0 ∨ j = 1 := by omega
    rcases h with rfl | rfl <;> simp [gi] <;> omega)
  have HT := Lib.hid ht
  clear h ht
  have HA := Lib.hid (below_alloc w (.cells #[iv ((i : Int) - 1), iv ((n : Int) - (i : Int))] 3))
  have HI := Lib.hid (Ints.two w ((i : Int) - 1) ((n : Int) - (i : Int)))
  have HC := Lib.hid (payAgainst_any a [(i : Int) - 1, (n : Int) - (i : Int)] 2 b o c 2 rb ro cc _ _ (HT.out.keep (Keep.below HA.out)) HI.out HB1.out)
  go_enter Try.func70, Try.ntmps70
  go_wp2_with fail
  refine HC.out.mono ?_
  rintro e w1 ⟨pa, pw, rfl, hp, hb⟩
  have B1 := Lib.hid (below_up HA.out hb)
  have P1 := Lib.hid hp
  clear hp hb HC HI HA HB1
  have hb := below_alloc w1 (.cells #[iv (i : Int), iv ((n : Int) - (i : Int) - 1)] 3)
  have B2 := Lib.hid (below_up B1.out hb)
  have P2 := Lib.hid (P1.out.keep (Keep.below hb))
  have HI := Lib.hid (Ints.two w1 (i : Int) ((n : Int) - (i : Int) - 1))
  have HC := Lib.hid (payAgainst_any a [(i : Int), (n : Int) - (i : Int) - 1] 2 b o c 2 rb ro cc _ _ (HT.out.keep (Keep.below B2.out)) HI.out HB2.out)
  clear hb
  go_wp2_with fail
  refine HC.out.mono ?_
  rintro e w2 ⟨pc, pd, rfl, hp, hb⟩
  have B3 := Lib.hid (below_up B2.out hb)
  have P3 := Lib.hid (P2.out.keep (Keep.below hb))
  have R3 := Lib.hid hp
  clear hp hb HC HI HB2 P1 P2 B1 B2
  have HC := Lib.hid (HD1.out ▸ payAt_any a _ 2 pa pw b o c 2 rb ro cc _ w2 P3.out 0 (by omega))
  go_wp2_with fail
  refine HC.out.mono ?_
  rintro e w3 ⟨rfl, hb⟩
  have B4 := Lib.hid (below_up B3.out hb)
  have R4 := Lib.hid (R3.out.keep (Keep.below hb))
  clear hb HC P3 R3 B3
  have HC := Lib.hid (HD2.out ▸ payAt_any a _ 2 pc pd b o c 2 rb ro cc _ w3 R4.out 1 (by omega))
  go_wp2_with fail
  refine HC.out.mono ?_
  rintro e w4 ⟨rfl, hb⟩
  have B5 := Lib.hid (below_up B4.out hb)
  clear hb HC R4 B4
  go_wp2
  go_ret2
  exact ⟨rfl, B5.out⟩
set_option maxRecDepth 100000 in
set_option maxHeartbeats 1600000 in
theorem PaysAt_impl (A : Option Addr) (l c : Nat) (a : List (List Int)) (n i : Int) (w : World) (hx : IntRows w A l c a) (hn : Fit n) (hi : Fit i) :
    Calls Try.prog 22 #[.slice A l c, .int .i64 n, .int .i64 i] w (Ret (.tuple #[.int .i64 (paU a n i), .int .i64 (paV a n i)]) w) := by
  have HX := Lib.hid hx
  have HV := Lib.hid (isCrowd_any A l c a n w hx hn)
  obtain ⟨n1, n2⟩ := hn
  obtain ⟨i1, i2⟩ := hi
  clear hx
  by_cases hv : CQ a n
  · rw [pb_true hv] at HV
    by_cases h1 : i < 1
    · rw [(pa_no (fun h => by have := h.2; unfold InR at this; omega)).1, (pa_no (fun h => by have := h.2; unfold InR at this; omega)).2]
      have g1 : decide (i < 1) = true := decide_eq_true h1
      clear hv
      go_enter Try.func22, Try.ntmps22
      go_wp2_with fail
      refine HV.out.mono ?_
      rintro e w1 ⟨rfl, hb⟩
      go_wp2
      go_ret2
      exact ⟨rfl, hb⟩
    · have g1 : decide (i < 1) = false := decide_eq_false h1
      by_cases h2 : n ≤ i
      · rw [(pa_no (fun h => by have := h.2; unfold InR at this; omega)).1, (pa_no (fun h => by have := h.2; unfold InR at this; omega)).2]
        have g2 : decide (n ≤ i) = true := decide_eq_true h2
        clear hv
        go_enter Try.func22, Try.ntmps22
        go_wp2_with fail
        refine HV.out.mono ?_
        rintro e w1 ⟨rfl, hb⟩
        go_wp2
        go_ret2
        exact ⟨rfl, hb⟩
      · obtain ⟨n, rfl, hcr⟩ := hv.nat
        obtain ⟨i, rfl⟩ : ∃ k : Nat, i = k := ⟨i.toNat, by omega⟩
        have e1 : 1 ≤ i := by omega
        have e2 : i < n := by omega
        have g2 : decide ((n : Int) ≤ (i : Int)) = false := decide_eq_false h2
        rw [(pa_yes hcr e1 e2).1, (pa_yes hcr e1 e2).2]
        obtain ⟨b, o, rb, ro, cc, rfl, rfl, tab⟩ := hcr.tab HX.out
        have HT := Lib.hid tab
        have HCR := Lib.hid hcr
        clear tab hcr hv
        go_enter Try.func22, Try.ntmps22
        go_wp2_with fail
        refine HV.out.mono ?_
        rintro e w1 ⟨rfl, hb⟩
        have B1 := Lib.hid hb
        have HC := Lib.hid (paysAt_any a n i b o c rb ro cc w1 HCR.out (HT.out.keep (Keep.below hb)) e1 e2)
        clear hb HV
        go_wp2_with fail
        refine HC.out.mono ?_
        rintro e w2 ⟨rfl, hb⟩
        have B2 := Lib.hid (below_up B1.out hb)
        clear hb HC B1
        generalize pfA a n i = x at *
        generalize pgA a n i = y at *
        go_wp2
        go_ret2
        exact ⟨rfl, B2.out⟩
  · rw [(pa_no (fun h => hv h.1)).1, (pa_no (fun h => hv h.1)).2]
    rw [pb_false hv] at HV
    clear hv
    go_enter Try.func22, Try.ntmps22
    go_wp2_with fail
    refine HV.out.mono ?_
    rintro e w1 ⟨rfl, hb⟩
    go_wp2
    go_ret2
    exact ⟨rfl, hb⟩
end Go.Proofs.Ytjkmgpiiamffgaa

/- Chances by the model. -/
namespace Go.Proofs.Ytjkmgpiiamffgaa
open Go.RowKit

/-- The sum under way: above and below the line, ahead of round k. -/
def pnA (f g : Nat → Int) (i : Nat) : Nat → Int
  | 0 => 0
  | k + 1 => SS f g i k
def pdA (f : Nat → Int) : Nat → Int
  | 0 => 1
  | k + 1 => upP f k
theorem pdA_pos {f g : Nat → Int} {m : Nat} (h : FG f g m) : ∀ {k}, k ≤ m + 1 → 1 ≤ pdA f k ∧ pdA f k ≤ 184528125
  | 0, _ => by simp [pdA]
  | k + 1, hk => up_bd h.f h.m5 (by omega)
theorem pnA_bd {f g : Nat → Int} {i m : Nat} (h : FG f g m) : ∀ {k}, k ≤ m + 1 → 0 ≤ pnA f g i k ∧ pnA f g i k ≤ 1107168750
  | 0, _ => by simp [pnA]
  | k + 1, hk => SS_bd (h.less (by omega))
theorem part_in {f g : Nat → Int} {i m k : Nat} (h : FG f g m) (hk : k ≤ m) (hi : k < i) :
    frV (frU (pnA f g i k) (pdA f k) * frD (upP g k) (upP f k) + frU (upP g k) (upP f k) * frD (pnA f g i k) (pdA f k)) (frD (pnA f g i k) (pdA f k) * frD (upP g k) (upP f k)) = frV (pnA f g i (k + 1)) (pdA f (k + 1)) := by
  have h1 := pdA_pos h (k := k) (by omega)
  have h2 := up_bd h.f h.m5 hk
  have e := fr_add (u := pnA f g i k) (d := pdA f k) (v := upP g k) (e := upP f k) (by omega) (by omega)
  unfold frV
  rw [e.1, e.2]
  have e2 := fr_eq (u := pnA f g i k * upP f k + upP g k * pdA f k) (d := pdA f k * upP f k) (v := pnA f g i (k + 1)) (e := pdA f (k + 1)) (Int.mul_pos (by omega) (by omega)) (by have := pdA_pos h (k := k + 1) (by omega); omega) (by
    cases k with
    | zero => simp [pnA, pdA, SS_zero, upP, hi]
    | succ k =>
      simp only [pnA, pdA]
      rw [SS_succ, if_pos hi]
      simp only [upP]
      grind)
  rw [e2.1, e2.2]
theorem part_out {f g : Nat → Int} {i m k : Nat} (h : FG f g m) (hk : k ≤ m) (hi : ¬ k < i) :
    frU (pnA f g i k) (pdA f k) = frU (pnA f g i (k + 1)) (pdA f (k + 1)) ∧ frD (pnA f g i k) (pdA f k) = frD (pnA f g i (k + 1)) (pdA f (k + 1)) := by
  refine fr_eq (by have := pdA_pos h (k := k) (by omega); omega) (by have := pdA_pos h (k := k + 1) (by omega); omega) ?_
  cases k with
  | zero => simp [pnA, pdA, SS_zero, upP]; omega
  | succ k =>
    simp only [pnA, pdA]
    rw [SS_succ, if_neg hi]
    simp only [upP]
    grind
theorem step_on {f g : Nat → Int} {m k : Nat} (h : FG f g m) (h1 : 1 ≤ k) (hk : k ≤ m) :
    frV (frU (upP g (k - 1)) (upP f (k - 1)) * frU (g k) (f k)) (frD (upP g (k - 1)) (upP f (k - 1)) * frD (g k) (f k)) = frV (upP g k) (upP f k) := by
  have h2 := up_bd h.f h.m5 (k := k - 1) (by omega)
  have e := fr_tim (u := upP g (k - 1)) (d := upP f (k - 1)) (v := g k) (e := f k) (by omega) (by have := h.f k h1 hk; omega)
  unfold frV
  rw [e.1, e.2]
  obtain ⟨k, rfl⟩ : ∃ j, k = j + 1 := ⟨k - 1, by omega⟩
  rfl
/-- The sum of the first i numbers; of all. -/
def fxU (a : List (List Int)) (n i : Nat) : Int := sm (numL (pfA a n) (pgA a n) (n - 1)) i
def fxT (a : List (List Int)) (n : Nat) : Int := tot (numL (pfA a n) (pgA a n) (n - 1))
theorem CR.fx {a n} (h : CR a n) {i : Nat} (hi : i ≤ n) : (0 ≤ fxU a n i ∧ fxU a n i ≤ 1107168750) ∧ 1 ≤ fxT a n ∧ fxT a n ≤ 1107168750 := by
  have h1 := sm_num_bd h.fg (k := i) (by have := h.n2; omega)
  have h2 := tot_num_bd h.fg
  unfold fxU fxT
  omega
theorem fx_end {a n} (h : CR a n) {i : Nat} (hi : i ≤ n) :
    frV (frU (pnA (pfA a n) (pgA a n) i n) (pdA (pfA a n) n) * frU (frD (pnA (pfA a n) (pgA a n) n n) (pdA (pfA a n) n)) (frU (pnA (pfA a n) (pgA a n) n n) (pdA (pfA a n) n)))
      (frD (pnA (pfA a n) (pgA a n) i n) (pdA (pfA a n) n) * frD (frD (pnA (pfA a n) (pgA a n) n n) (pdA (pfA a n) n)) (frU (pnA (pfA a n) (pgA a n) n n) (pdA (pfA a n) n))) = frV (fxU a n i) (fxT a n) := by
  have hn := h.n2
  have hd := pdA_pos h.fg (k := n) (by omega)
  have ht := (h.fx hi).2
  have e1 : pnA (pfA a n) (pgA a n) n n = fxT a n := by
    have : n = (n - 1) + 1 := by omega
    unfold fxT
    rw [← SS_all, ← this]
    conv => lhs; arg 4; rw [this]
    rfl
  have e2 : pnA (pfA a n) (pgA a n) i n = fxU a n i := by
    unfold fxU
    conv => lhs; arg 4; rw [show n = (n - 1) + 1 by omega]
    show SS _ _ _ _ = _
    unfold SS
    rw [show min i (n - 1 + 1) = i by omega]
  rw [e1, e2]
  have t := fr_turn (u := fxT a n) (d := pdA (pfA a n) n) (by omega) (by omega)
  rw [t.1, t.2]
  have e := fr_tim (u := fxU a n i) (d := pdA (pfA a n) n) (v := pdA (pfA a n) n) (e := fxT a n) (by omega) (by omega)
  unfold frV
  rw [e.1, e.2]
  have e3 := fr_eq (u := fxU a n i * pdA (pfA a n) n) (d := pdA (pfA a n) n * fxT a n) (v := fxU a n i) (e := fxT a n) (Int.mul_pos (by omega) (by omega)) (by omega) (by grind)
  rw [e3.1, e3.2]

/-- The boxes of the result, of both sums and of the step. -/
structure FX (w : World) (p q r : Nat) (PU PD AU AD SU SD : Int) (W : World) : Prop where
  b0 : Blk W w.heap.size 27 #[.int .i64 0, .int .i64 0]
  bp : Blk W p 27 #[.int .i64 PU, .int .i64 PD]
  bq : Blk W q 27 #[.int .i64 AU, .int .i64 AD]
  br : Blk W r 27 #[.int .i64 SU, .int .i64 SD]
  up : Below w.heap.size w W
  h1 : w.heap.size < p
  h2 : p < q
  h3 : q < r
section
variable {w W W' : World} {p q r : Nat} {PU PD AU AD SU SD : Int}
theorem FX.next (h : FX w p q r PU PD AU AD SU SD W) (k : Below W.heap.size W W') : FX w p q r PU PD AU AD SU SD W' :=
  ⟨blk_below h.b0 k, blk_below h.bp k, blk_below h.bq k, blk_below h.br k, below_up h.up k, h.h1, h.h2, h.h3⟩
theorem FX.quiet (h : FX w p q r PU PD AU AD SU SD W) (k : Quiet W W') : FX w p q r PU PD AU AD SU SD W' := h.next k.below
theorem FX.drew (h : FX w p q r PU PD AU AD SU SD W) : FX w p q r PU PD AU AD SU SD W.drew := h.quiet ⟨1, rfl⟩
theorem FX.setP (h : FX w p q r PU PD AU AD SU SD W) (U D : Int) : FX w p q r U D AU AD SU SD ((W.setCell ⟨p, 0, none⟩ (.int .i64 U)).setCell ⟨p, 1, none⟩ (.int .i64 D)) := by
  have h1 := h.h1; have h2 := h.h2; have h3 := h.h3
  refine ⟨blk_other (blk_other h.b0 (p := ⟨p, 0, none⟩) ?_ _) (p := ⟨p, 1, none⟩) ?_ _, ?_, blk_other (blk_other h.bq (p := ⟨p, 0, none⟩) ?_ _) (p := ⟨p, 1, none⟩) ?_ _, blk_other (blk_other h.br (p := ⟨p, 0, none⟩) ?_ _) (p := ⟨p, 1, none⟩) ?_ _, (h.up.setCell (p := ⟨p, 0, none⟩) ?_ _).setCell (p := ⟨p, 1, none⟩) ?_ _, h1, h2, h3⟩
  case refine_3 => exact blk_set (blk_set h.bp 0 (.int .i64 U)) 1 (.int .i64 D)
  all_goals (show _; simp only []; omega)
theorem FX.setQ (h : FX w p q r PU PD AU AD SU SD W) (U D : Int) : FX w p q r PU PD U D SU SD ((W.setCell ⟨q, 0, none⟩ (.int .i64 U)).setCell ⟨q, 1, none⟩ (.int .i64 D)) := by
  have h1 := h.h1; have h2 := h.h2; have h3 := h.h3
  refine ⟨blk_other (blk_other h.b0 (p := ⟨q, 0, none⟩) ?_ _) (p := ⟨q, 1, none⟩) ?_ _, blk_other (blk_other h.bp (p := ⟨q, 0, none⟩) ?_ _) (p := ⟨q, 1, none⟩) ?_ _, ?_, blk_other (blk_other h.br (p := ⟨q, 0, none⟩) ?_ _) (p := ⟨q, 1, none⟩) ?_ _, (h.up.setCell (p := ⟨q, 0, none⟩) ?_ _).setCell (p := ⟨q, 1, none⟩) ?_ _, h1, h2, h3⟩
  case refine_5 => exact blk_set (blk_set h.bq 0 (.int .i64 U)) 1 (.int .i64 D)
  all_goals (show _; simp only []; omega)
theorem FX.setR (h : FX w p q r PU PD AU AD SU SD W) (U D : Int) : FX w p q r PU PD AU AD U D ((W.setCell ⟨r, 0, none⟩ (.int .i64 U)).setCell ⟨r, 1, none⟩ (.int .i64 D)) := by
  have h1 := h.h1; have h2 := h.h2; have h3 := h.h3
  refine ⟨blk_other (blk_other h.b0 (p := ⟨r, 0, none⟩) ?_ _) (p := ⟨r, 1, none⟩) ?_ _, blk_other (blk_other h.bp (p := ⟨r, 0, none⟩) ?_ _) (p := ⟨r, 1, none⟩) ?_ _, blk_other (blk_other h.bq (p := ⟨r, 0, none⟩) ?_ _) (p := ⟨r, 1, none⟩) ?_ _, ?_, (h.up.setCell (p := ⟨r, 0, none⟩) ?_ _).setCell (p := ⟨r, 1, none⟩) ?_ _, h1, h2, h3⟩
  case refine_7 => exact blk_set (blk_set h.br 0 (.int .i64 U)) 1 (.int .i64 D)
  all_goals (show _; simp only []; omega)
end
set_option maxRecDepth 100000 in
set_option maxHeartbeats 3200000 in
theorem fixed_any (a : List (List Int)) (n i b o c : Nat) (rb ro cc : Nat → Nat) (w : World) (h : CR a n) (ht : Tab w b o rb ro cc 2 2 a) (hi : i ≤ n) :
    Calls Try.prog 69 #[.slice (some ⟨b, o, none⟩) 2 c, .int .i64 n, .int .i64 i] w (Ret (frV (fxU a n i) (fxT a n)) w) := by
  have hn6 := h.n6
  have hn2 := h.n2
  have HCR := Lib.hid h
  have HFG := Lib.hid h.fg
  have HT := Lib.hid ht
  have Z01 := Lib.hid (fun W => (frV_one 0) ▸ fracH_any 0 1 W (by unfold Hug; omega) (by unfold Hug; omega) (by omega))
  have Z11 := Lib.hid (fun W => (frV_one 1) ▸ fracH_any 1 1 W (by unfold Hug; omega) (by unfold Hug; omega) (by omega))
  have HE := Lib.hid (fx_end h hi)
  have A0 := Lib.hid (below_alloc w (.cells #[.int .i64 0, .int .i64 0] 27))
  have C0 := Lib.hid (blk_new w 27 #[.int .i64 0, .int .i64 0])
  clear h ht
  go_enter Try.func69, Try.ntmps69
  go_wp2_with fail
  refine (Z01.out _).mono ?_
  rintro e w1 ⟨rfl, hb⟩
  have A1 := Lib.hid (below_up A0.out hb)
  have C1 := Lib.hid (blk_below C0.out hb)
  clear hb A0 C0
  have hb := below_alloc w1 (.cells #[.int .i64 0, .int .i64 1] 27)
  have A2 := Lib.hid (below_up A1.out hb)
  have C2 := Lib.hid (blk_below C1.out hb)
  have P2 := Lib.hid (blk_new w1 27 #[.int .i64 0, .int .i64 1])
  have L1 : w.heap.size < w1.heap.size := blk_lt C1.out
  clear hb A1 C1
  go_wp2_with fail
  generalize w1.alloc (.cells #[.int .i64 0, .int .i64 1] 27) = w2 at *
  generalize w1.heap.size = p at *
  refine (Z01.out _).mono ?_
  rintro e w3 ⟨rfl, hb⟩
  have A3 := Lib.hid (below_up A2.out hb)
  have C3 := Lib.hid (blk_below C2.out hb)
  have P3 := Lib.hid (blk_below P2.out hb)
  clear hb A2 C2 P2
  have hb := below_alloc w3 (.cells #[.int .i64 0, .int .i64 1] 27)
  have A4 := Lib.hid (below_up A3.out hb)
  have C4 := Lib.hid (blk_below C3.out hb)
  have P4 := Lib.hid (blk_below P3.out hb)
  have Q4 := Lib.hid (blk_new w3 27 #[.int .i64 0, .int .i64 1])
  have L2 : p < w3.heap.size := blk_lt P3.out
  clear hb A3 C3 P3
  go_wp2_with fail
  generalize w3.alloc (.cells #[.int .i64 0, .int .i64 1] 27) = w4 at *
  generalize w3.heap.size = q at *
  refine (Z11.out _).mono ?_
  rintro e w5 ⟨rfl, hb⟩
  have A5 := Lib.hid (below_up A4.out hb)
  have C5 := Lib.hid (blk_below C4.out hb)
  have P5 := Lib.hid (blk_below P4.out hb)
  have Q5 := Lib.hid (blk_below Q4.out hb)
  clear hb A4 C4 P4 Q4
  have hb := below_alloc w5 (.cells #[.int .i64 1, .int .i64 1] 27)
  have L3 : q < w5.heap.size := blk_lt Q5.out
  have HF0 := Lib.hid (show FX w p q w5.heap.size 0 1 0 1 1 1 (w5.alloc (.cells #[.int .i64 1, .int .i64 1] 27)) from
    ⟨blk_below C5.out hb, blk_below P5.out hb, blk_below Q5.out hb, blk_new w5 _ _, below_up A5.out hb, L1, L2, L3⟩)
  clear hb A5 C5 P5 Q5 L1 L2 L3
  go_wp2
  generalize w5.alloc (.cells #[.int .i64 1, .int .i64 1] 27) = W0 at *
  generalize w5.heap.size = r at *
  go_loopw [10] (fun k_ wr => ∃ k : Nat, k ≤ n ∧ k_ = .int .i64 k ∧ Hid (FX w p q r (frU (pnA (pfA a n) (pgA a n) i k) (pdA (pfA a n) k)) (frD (pnA (pfA a n) (pgA a n) i k) (pdA (pfA a n) k)) (frU (pnA (pfA a n) (pgA a n) n k) (pdA (pfA a n) k)) (frD (pnA (pfA a n) (pgA a n) n k) (pdA (pfA a n) k)) (frU (upP (pgA a n) (k - 1)) (upP (pfA a n) (k - 1))) (frD (upP (pgA a n) (k - 1)) (upP (pfA a n) (k - 1))) wr)) (fun k_ _ => n - (intOf k_).toNat)
  case atStart => exact ⟨0, Nat.zero_le _, rfl, Lib.hid (by
    show FX w p q r (frU 0 1) (frD 0 1) (frU 0 1) (frD 0 1) (frU 1 1) (frD 1 1) W0
    rw [(fr_one 0).1, (fr_one 0).2, (fr_one 1).1, (fr_one 1).2]; exact HF0.out)⟩
  case round =>
    clear HF0
    obtain ⟨k, hk, rfl, HF⟩ := hrel
    by_cases hlt : k < n
    · have HPB := Lib.hid (pnA_bd HFG.out (i := i) (k := k) (by omega))
      have HAB := Lib.hid (pnA_bd HFG.out (i := n) (k := k) (by omega))
      have HDB := Lib.hid (pdA_pos HFG.out (k := k) (by omega))
      have HSF := Lib.hid (up_bd HFG.out.f HFG.out.m5 (k := k) (by omega))
      have HSG := Lib.hid (up_bd HFG.out.g HFG.out.m5 (k := k) (by omega))
      have HAI := Lib.hid (part_in HFG.out (i := n) (k := k) (by omega) hlt)
      have PUB := Lib.hid (frU_bd (u := pnA (pfA a n) (pgA a n) i k) (d := pdA (pfA a n) k) (B := 1200000000) (by have := HDB.out; omega) (by have := HPB.out; omega))
      have PDB := Lib.hid (frD_bd (u := pnA (pfA a n) (pgA a n) i k) (d := pdA (pfA a n) k) (B := 1200000000) (by have := HDB.out; omega) (by have := HDB.out; omega))
      have AUB := Lib.hid (frU_bd (u := pnA (pfA a n) (pgA a n) n k) (d := pdA (pfA a n) k) (B := 1200000000) (by have := HDB.out; omega) (by have := HAB.out; omega))
      have ADB := Lib.hid (frD_bd (u := pnA (pfA a n) (pgA a n) n k) (d := pdA (pfA a n) k) (B := 1200000000) (by have := HDB.out; omega) (by have := HDB.out; omega))
      have SUB := Lib.hid (frU_bd (u := upP (pgA a n) k) (d := upP (pfA a n) k) (B := 1200000000) (by have := HSF.out; omega) (by have := HSG.out; omega))
      have SDB := Lib.hid (frD_bd (u := upP (pgA a n) k) (d := upP (pfA a n) k) (B := 1200000000) (by have := HSF.out; omega) (by have := HSF.out; omega))
      by_cases h0 : k = 0
      · by_cases hki : k < i
        · have HAV : Hid (frV (pnA (pfA a n) (pgA a n) n (k + 1)) (pdA (pfA a n) (k + 1)) = .agg #[.int .i64 (frU (pnA (pfA a n) (pgA a n) n (k + 1)) (pdA (pfA a n) (k + 1))), .int .i64 (frD (pnA (pfA a n) (pgA a n) n (k + 1)) (pdA (pfA a n) (k + 1)))]) := Lib.hid rfl
          have HPI := Lib.hid (part_in HFG.out (i := i) (k := k) (by omega) hki)
          have HPV : Hid (frV (pnA (pfA a n) (pgA a n) i (k + 1)) (pdA (pfA a n) (k + 1)) = .agg #[.int .i64 (frU (pnA (pfA a n) (pgA a n) i (k + 1)) (pdA (pfA a n) (k + 1))), .int .i64 (frD (pnA (pfA a n) (pgA a n) i (k + 1)) (pdA (pfA a n) (k + 1)))]) := Lib.hid rfl
          have hz : ¬ (0 : Int) < (k : Int) := by omega
          have hk1 : k - 1 = k := by omega
          rw [hk1] at HF
          clear hk1
          have HS1 : Hid (upP (pgA a n) (k + 1 - 1) = upP (pgA a n) k ∧ upP (pfA a n) (k + 1 - 1) = upP (pfA a n) k) := Lib.hid ⟨rfl, rfl⟩
          generalize hPU : frU (pnA (pfA a n) (pgA a n) i k) (pdA (pfA a n) k) = PU at *
          generalize hPD : frD (pnA (pfA a n) (pgA a n) i k) (pdA (pfA a n) k) = PD at *
          have HPE := Lib.hid (And.intro hPU hPD)
          clear hPU hPD
          generalize hAU : frU (pnA (pfA a n) (pgA a n) n k) (pdA (pfA a n) k) = AU at *
          generalize hAD : frD (pnA (pfA a n) (pgA a n) n k) (pdA (pfA a n) k) = AD at *
          have HAE := Lib.hid (And.intro hAU hAD)
          clear hAU hAD
          generalize hSU : frU (upP (pgA a n) k) (upP (pfA a n) k) = SU at *
          generalize hSD : frD (upP (pgA a n) k) (upP (pfA a n) k) = SD at *
          have HSE := Lib.hid (And.intro hSU hSD)
          clear hSU hSD
          have HC := Lib.hid (plusH_any PU PD SU SD wr PUB.out SUB.out PDB.out SDB.out)
          rw [HPI.out, HPV.out] at HC
          clear HPI HPV PUB PDB
          generalize hNU : frU (pnA (pfA a n) (pgA a n) i (k + 1)) (pdA (pfA a n) (k + 1)) = NU at *
          generalize hND : frD (pnA (pfA a n) (pgA a n) i (k + 1)) (pdA (pfA a n) (k + 1)) = ND at *
          have HNE := Lib.hid (And.intro hNU hND)
          clear hNU hND
          have c0 := blk_cell HF.out.bp (i := 0) rfl
          have c1 := blk_cell HF.out.bp (i := 1) rfl
          have c2 := blk_cell HF.out.br (i := 0) rfl
          have c3 := blk_cell HF.out.br (i := 1) rfl
          go_wp2_with fail
          refine HC.out.mono ?_
          rintro e v1 ⟨rfl, hb⟩
          have HX1 := Lib.hid (HF.out.next hb)
          clear hb HC HF c0 c1 c2 c3
          have f0 := blk_frozen HX1.out.bp 0
          have f1 := blk_frozen HX1.out.bp 1
          have c0 := blk_cell HX1.out.bp (i := 0) rfl
          have c1 := blk_cell HX1.out.bp (i := 1) rfl
          have HX2 := Lib.hid (HX1.out.setP NU ND)
          have HC := Lib.hid (plusH_any AU AD SU SD ((v1.setCell ⟨p, 0, none⟩ (.int .i64 NU)).setCell ⟨p, 1, none⟩ (.int .i64 ND)) AUB.out SUB.out ADB.out SDB.out)
          rw [HAI.out, HAV.out] at HC
          generalize hMU : frU (pnA (pfA a n) (pgA a n) n (k + 1)) (pdA (pfA a n) (k + 1)) = MU at *
          generalize hMD : frD (pnA (pfA a n) (pgA a n) n (k + 1)) (pdA (pfA a n) (k + 1)) = MD at *
          have HME := Lib.hid (And.intro hMU hMD)
          clear hMU hMD
          have d0 := blk_cell HX2.out.bq (i := 0) rfl
          have d1 := blk_cell HX2.out.bq (i := 1) rfl
          have d2 := blk_cell HX2.out.br (i := 0) rfl
          have d3 := blk_cell HX2.out.br (i := 1) rfl
          go_wp2_with fail
          generalize (v1.setCell ⟨p, 0, none⟩ (.int .i64 NU)).setCell ⟨p, 1, none⟩ (.int .i64 ND) = v2 at *
          refine HC.out.mono ?_
          rintro e v3 ⟨rfl, hb⟩
          have HX3 := Lib.hid (HX2.out.next hb)
          clear hb HC HX2 HX1 c0 c1 f0 f1 d0 d1 d2 d3
          have f0 := blk_frozen HX3.out.bq 0
          have f1 := blk_frozen HX3.out.bq 1
          have c0 := blk_cell HX3.out.bq (i := 0) rfl
          have c1 := blk_cell HX3.out.bq (i := 1) rfl
          have HX4 := Lib.hid (HX3.out.setQ MU MD)
          clear HX3
          go_wp2
          clear c0 c1 f0 f1
          go_roundw
          case rel => exact ⟨k + 1, by omega, by go_num, Lib.hid (by rw [Nat.add_sub_cancel, HNE.out.1, HNE.out.2, HME.out.1, HME.out.2, HSE.out.1, HSE.out.2]; exact HX4.out)⟩
          case measure => simp [intOf]; omega
        · have HAV : Hid (frV (pnA (pfA a n) (pgA a n) n (k + 1)) (pdA (pfA a n) (k + 1)) = .agg #[.int .i64 (frU (pnA (pfA a n) (pgA a n) n (k + 1)) (pdA (pfA a n) (k + 1))), .int .i64 (frD (pnA (pfA a n) (pgA a n) n (k + 1)) (pdA (pfA a n) (k + 1)))]) := Lib.hid rfl
          have HPO := Lib.hid (part_out HFG.out (i := i) (k := k) (by omega) hki)
          have hz : ¬ (0 : Int) < (k : Int) := by omega
          have hk1 : k - 1 = k := by omega
          rw [hk1] at HF
          clear hk1
          rw [HPO.out.1, HPO.out.2] at HF
          have HS1 : Hid (upP (pgA a n) (k + 1 - 1) = upP (pgA a n) k ∧ upP (pfA a n) (k + 1 - 1) = upP (pfA a n) k) := Lib.hid ⟨rfl, rfl⟩
          generalize hPU : frU (pnA (pfA a n) (pgA a n) i (k + 1)) (pdA (pfA a n) (k + 1)) = PU at *
          generalize hPD : frD (pnA (pfA a n) (pgA a n) i (k + 1)) (pdA (pfA a n) (k + 1)) = PD at *
          have HPE := Lib.hid (And.intro hPU hPD)
          clear hPU hPD
          generalize hAU : frU (pnA (pfA a n) (pgA a n) n k) (pdA (pfA a n) k) = AU at *
          generalize hAD : frD (pnA (pfA a n) (pgA a n) n k) (pdA (pfA a n) k) = AD at *
          have HAE := Lib.hid (And.intro hAU hAD)
          clear hAU hAD
          generalize hSU : frU (upP (pgA a n) k) (upP (pfA a n) k) = SU at *
          generalize hSD : frD (upP (pgA a n) k) (upP (pfA a n) k) = SD at *
          have HSE := Lib.hid (And.intro hSU hSD)
          clear hSU hSD
          have HC := Lib.hid (plusH_any AU AD SU SD wr AUB.out SUB.out ADB.out SDB.out)
          rw [HAI.out, HAV.out] at HC
          generalize hMU : frU (pnA (pfA a n) (pgA a n) n (k + 1)) (pdA (pfA a n) (k + 1)) = MU at *
          generalize hMD : frD (pnA (pfA a n) (pgA a n) n (k + 1)) (pdA (pfA a n) (k + 1)) = MD at *
          have HME := Lib.hid (And.intro hMU hMD)
          clear hMU hMD
          have d0 := blk_cell HF.out.bq (i := 0) rfl
          have d1 := blk_cell HF.out.bq (i := 1) rfl
          have d2 := blk_cell HF.out.br (i := 0) rfl
          have d3 := blk_cell HF.out.br (i := 1) rfl
          go_wp2_with fail
          refine HC.out.mono ?_
          rintro e v3 ⟨rfl, hb⟩
          have HX3 := Lib.hid (HF.out.next hb)
          clear hb HC HF  d0 d1 d2 d3
          have f0 := blk_frozen HX3.out.bq 0
          have f1 := blk_frozen HX3.out.bq 1
          have c0 := blk_cell HX3.out.bq (i := 0) rfl
          have c1 := blk_cell HX3.out.bq (i := 1) rfl
          have HX4 := Lib.hid (HX3.out.setQ MU MD)
          clear HX3
          go_wp2
          clear c0 c1 f0 f1
          go_roundw
          case rel => exact ⟨k + 1, by omega, by go_num, Lib.hid (by rw [Nat.add_sub_cancel, HPE.out.1, HPE.out.2, HME.out.1, HME.out.2, HSE.out.1, HSE.out.2]; exact HX4.out)⟩
          case measure => simp [intOf]; omega
      · by_cases hki : k < i
        · have HAV : Hid (frV (pnA (pfA a n) (pgA a n) n (k + 1)) (pdA (pfA a n) (k + 1)) = .agg #[.int .i64 (frU (pnA (pfA a n) (pgA a n) n (k + 1)) (pdA (pfA a n) (k + 1))), .int .i64 (frD (pnA (pfA a n) (pgA a n) n (k + 1)) (pdA (pfA a n) (k + 1)))]) := Lib.hid rfl
          have HPI := Lib.hid (part_in HFG.out (i := i) (k := k) (by omega) hki)
          have HPV : Hid (frV (pnA (pfA a n) (pgA a n) i (k + 1)) (pdA (pfA a n) (k + 1)) = .agg #[.int .i64 (frU (pnA (pfA a n) (pgA a n) i (k + 1)) (pdA (pfA a n) (k + 1))), .int .i64 (frD (pnA (pfA a n) (pgA a n) i (k + 1)) (pdA (pfA a n) (k + 1)))]) := Lib.hid rfl
          have hz : (0 : Int) < (k : Int) := by omega
          have HC := Lib.hid (pays_any a n k b o c rb ro cc wr HCR.out (HT.out.keep (Keep.below HF.out.up)) (by omega) hlt)
          have HST := Lib.hid (step_on HFG.out (k := k) (by omega) (by omega))
          have HSV : Hid (frV (upP (pgA a n) k) (upP (pfA a n) k) = .agg #[.int .i64 (frU (upP (pgA a n) k) (upP (pfA a n) k)), .int .i64 (frD (upP (pgA a n) k) (upP (pfA a n) k))]) := Lib.hid rfl
          have HKF := Lib.hid (HFG.out.f k (by omega) (by omega))
          have HKG := Lib.hid (HFG.out.g k (by omega) (by omega))
          have HGV : Hid (frV (pgA a n k) (pfA a n k) = .agg #[.int .i64 (frU (pgA a n k) (pfA a n k)), .int .i64 (frD (pgA a n k) (pfA a n k))]) := Lib.hid rfl
          have HG1 := Lib.hid (fun W => HGV.out ▸ fracH_any (pgA a n k) (pfA a n k) W (by have := HKG.out; unfold Hug; omega) (by have := HKF.out; unfold Hug; omega) (by have := HKF.out; omega))
          have HSF1 := Lib.hid (up_bd HFG.out.f HFG.out.m5 (k := k - 1) (by omega))
          have HSG1 := Lib.hid (up_bd HFG.out.g HFG.out.m5 (k := k - 1) (by omega))
          have HT1 := Lib.hid (fun W => timesH_any (frU (upP (pgA a n) (k - 1)) (upP (pfA a n) (k - 1))) (frD (upP (pgA a n) (k - 1)) (upP (pfA a n) (k - 1))) (frU (pgA a n k) (pfA a n k)) (frD (pgA a n k) (pfA a n k)) W (frU_bd (by have := HSF1.out; omega) (by have := HSG1.out; omega)) (frU_bd (by have := HKF.out; omega) (by have := HKG.out; omega)) (frD_bd (by have := HSF1.out; omega) (by have := HSF1.out; omega)) (frD_bd (by have := HKF.out; omega) (by have := HKF.out; omega)))
          rw [HST.out, HSV.out] at HT1
          clear HST HSV HGV HKF HKG HSF1 HSG1
          generalize frU (upP (pgA a n) (k - 1)) (upP (pfA a n) (k - 1)) = RU at *
          generalize frD (upP (pgA a n) (k - 1)) (upP (pfA a n) (k - 1)) = RD at *
          generalize frU (pgA a n k) (pfA a n k) = GU at *
          generalize frD (pgA a n k) (pfA a n k) = GD at *
          generalize pgA a n k = g1 at *
          generalize pfA a n k = f1 at *
          generalize hPU : frU (pnA (pfA a n) (pgA a n) i k) (pdA (pfA a n) k) = PU at *
          generalize hPD : frD (pnA (pfA a n) (pgA a n) i k) (pdA (pfA a n) k) = PD at *
          have HPE := Lib.hid (And.intro hPU hPD)
          clear hPU hPD
          generalize hAU : frU (pnA (pfA a n) (pgA a n) n k) (pdA (pfA a n) k) = AU at *
          generalize hAD : frD (pnA (pfA a n) (pgA a n) n k) (pdA (pfA a n) k) = AD at *
          have HAE := Lib.hid (And.intro hAU hAD)
          clear hAU hAD
          generalize hSU : frU (upP (pgA a n) k) (upP (pfA a n) k) = SU at *
          generalize hSD : frD (upP (pgA a n) k) (upP (pfA a n) k) = SD at *
          have HSE := Lib.hid (And.intro hSU hSD)
          clear hSU hSD
          go_wp2_with fail
          refine HC.out.mono ?_
          rintro e w6 ⟨rfl, hq⟩
          have HF6 := Lib.hid (HF.out.quiet hq)
          clear hq HC HF
          have c0 := blk_cell HF6.out.br (i := 0) rfl
          have c1 := blk_cell HF6.out.br (i := 1) rfl
          go_wp2
          apply region_once (F := fun v => Hid (FX w p q r PU PD AU AD SU SD v))
          · go_region_law ((first
              | (go_simp; go_at_call 63; refine (HG1.out _).mono ?_; rintro e v1 ⟨rfl, hb⟩; have D1 := Lib.hid (HF6.out.drew.next hb); have y0 := blk_cell D1.out.br (i := 0) rfl; have y1 := blk_cell D1.out.br (i := 1) rfl; clear hb)
              | (go_simp; go_at_call 65; refine (HT1.out _).mono ?_; rintro e v2 ⟨rfl, hb⟩; have D2 := Lib.hid (D1.out.next hb); have z0 := blk_cell D2.out.br (i := 0) rfl; have z1 := blk_cell D2.out.br (i := 1) rfl; have f0 := blk_frozen D2.out.br 0; have f1 := blk_frozen D2.out.br 1; clear hb)))
            all_goals exact OnceQ.mk rfl (Lib.hid (D2.out.setR SU SD))
          · rintro w7 HF7
            clear c0 c1 HF6 HG1 HT1
            have HC := Lib.hid (plusH_any PU PD SU SD w7 PUB.out SUB.out PDB.out SDB.out)
            rw [HPI.out, HPV.out] at HC
            clear HPI HPV PUB PDB
            generalize hNU : frU (pnA (pfA a n) (pgA a n) i (k + 1)) (pdA (pfA a n) (k + 1)) = NU at *
            generalize hND : frD (pnA (pfA a n) (pgA a n) i (k + 1)) (pdA (pfA a n) (k + 1)) = ND at *
            have HNE := Lib.hid (And.intro hNU hND)
            clear hNU hND
            have c0 := blk_cell HF7.out.bp (i := 0) rfl
            have c1 := blk_cell HF7.out.bp (i := 1) rfl
            have c2 := blk_cell HF7.out.br (i := 0) rfl
            have c3 := blk_cell HF7.out.br (i := 1) rfl
            go_wp2_with fail
            refine HC.out.mono ?_
            rintro e v1 ⟨rfl, hb⟩
            have HX1 := Lib.hid (HF7.out.next hb)
            clear hb HC HF7 c0 c1 c2 c3
            have f0 := blk_frozen HX1.out.bp 0
            have f1 := blk_frozen HX1.out.bp 1
            have c0 := blk_cell HX1.out.bp (i := 0) rfl
            have c1 := blk_cell HX1.out.bp (i := 1) rfl
            have HX2 := Lib.hid (HX1.out.setP NU ND)
            have HC := Lib.hid (plusH_any AU AD SU SD ((v1.setCell ⟨p, 0, none⟩ (.int .i64 NU)).setCell ⟨p, 1, none⟩ (.int .i64 ND)) AUB.out SUB.out ADB.out SDB.out)
            rw [HAI.out, HAV.out] at HC
            generalize hMU : frU (pnA (pfA a n) (pgA a n) n (k + 1)) (pdA (pfA a n) (k + 1)) = MU at *
            generalize hMD : frD (pnA (pfA a n) (pgA a n) n (k + 1)) (pdA (pfA a n) (k + 1)) = MD at *
            have HME := Lib.hid (And.intro hMU hMD)
            clear hMU hMD
            have d0 := blk_cell HX2.out.bq (i := 0) rfl
            have d1 := blk_cell HX2.out.bq (i := 1) rfl
            have d2 := blk_cell HX2.out.br (i := 0) rfl
            have d3 := blk_cell HX2.out.br (i := 1) rfl
            go_wp2_with fail
            generalize (v1.setCell ⟨p, 0, none⟩ (.int .i64 NU)).setCell ⟨p, 1, none⟩ (.int .i64 ND) = v2 at *
            refine HC.out.mono ?_
            rintro e v3 ⟨rfl, hb⟩
            have HX3 := Lib.hid (HX2.out.next hb)
            clear hb HC HX2 HX1 c0 c1 f0 f1 d0 d1 d2 d3
            have f0 := blk_frozen HX3.out.bq 0
            have f1 := blk_frozen HX3.out.bq 1
            have c0 := blk_cell HX3.out.bq (i := 0) rfl
            have c1 := blk_cell HX3.out.bq (i := 1) rfl
            have HX4 := Lib.hid (HX3.out.setQ MU MD)
            clear HX3
            go_wp2
            clear c0 c1 f0 f1
            go_roundw
            case rel => exact ⟨k + 1, by omega, by go_num, Lib.hid (by rw [Nat.add_sub_cancel, HNE.out.1, HNE.out.2, HME.out.1, HME.out.2, HSE.out.1, HSE.out.2]; exact HX4.out)⟩
            case measure => simp [intOf]; omega
        · have HAV : Hid (frV (pnA (pfA a n) (pgA a n) n (k + 1)) (pdA (pfA a n) (k + 1)) = .agg #[.int .i64 (frU (pnA (pfA a n) (pgA a n) n (k + 1)) (pdA (pfA a n) (k + 1))), .int .i64 (frD (pnA (pfA a n) (pgA a n) n (k + 1)) (pdA (pfA a n) (k + 1)))]) := Lib.hid rfl
          have HPO := Lib.hid (part_out HFG.out (i := i) (k := k) (by omega) hki)
          have hz : (0 : Int) < (k : Int) := by omega
          rw [HPO.out.1, HPO.out.2] at HF
          have HC := Lib.hid (pays_any a n k b o c rb ro cc wr HCR.out (HT.out.keep (Keep.below HF.out.up)) (by omega) hlt)
          have HST := Lib.hid (step_on HFG.out (k := k) (by omega) (by omega))
          have HSV : Hid (frV (upP (pgA a n) k) (upP (pfA a n) k) = .agg #[.int .i64 (frU (upP (pgA a n) k) (upP (pfA a n) k)), .int .i64 (frD (upP (pgA a n) k) (upP (pfA a n) k))]) := Lib.hid rfl
          have HKF := Lib.hid (HFG.out.f k (by omega) (by omega))
          have HKG := Lib.hid (HFG.out.g k (by omega) (by omega))
          have HGV : Hid (frV (pgA a n k) (pfA a n k) = .agg #[.int .i64 (frU (pgA a n k) (pfA a n k)), .int .i64 (frD (pgA a n k) (pfA a n k))]) := Lib.hid rfl
          have HG1 := Lib.hid (fun W => HGV.out ▸ fracH_any (pgA a n k) (pfA a n k) W (by have := HKG.out; unfold Hug; omega) (by have := HKF.out; unfold Hug; omega) (by have := HKF.out; omega))
          have HSF1 := Lib.hid (up_bd HFG.out.f HFG.out.m5 (k := k - 1) (by omega))
          have HSG1 := Lib.hid (up_bd HFG.out.g HFG.out.m5 (k := k - 1) (by omega))
          have HT1 := Lib.hid (fun W => timesH_any (frU (upP (pgA a n) (k - 1)) (upP (pfA a n) (k - 1))) (frD (upP (pgA a n) (k - 1)) (upP (pfA a n) (k - 1))) (frU (pgA a n k) (pfA a n k)) (frD (pgA a n k) (pfA a n k)) W (frU_bd (by have := HSF1.out; omega) (by have := HSG1.out; omega)) (frU_bd (by have := HKF.out; omega) (by have := HKG.out; omega)) (frD_bd (by have := HSF1.out; omega) (by have := HSF1.out; omega)) (frD_bd (by have := HKF.out; omega) (by have := HKF.out; omega)))
          rw [HST.out, HSV.out] at HT1
          clear HST HSV HGV HKF HKG HSF1 HSG1
          generalize frU (upP (pgA a n) (k - 1)) (upP (pfA a n) (k - 1)) = RU at *
          generalize frD (upP (pgA a n) (k - 1)) (upP (pfA a n) (k - 1)) = RD at *
          generalize frU (pgA a n k) (pfA a n k) = GU at *
          generalize frD (pgA a n k) (pfA a n k) = GD at *
          generalize pgA a n k = g1 at *
          generalize pfA a n k = f1 at *
          generalize hPU : frU (pnA (pfA a n) (pgA a n) i (k + 1)) (pdA (pfA a n) (k + 1)) = PU at *
          generalize hPD : frD (pnA (pfA a n) (pgA a n) i (k + 1)) (pdA (pfA a n) (k + 1)) = PD at *
          have HPE := Lib.hid (And.intro hPU hPD)
          clear hPU hPD
          generalize hAU : frU (pnA (pfA a n) (pgA a n) n k) (pdA (pfA a n) k) = AU at *
          generalize hAD : frD (pnA (pfA a n) (pgA a n) n k) (pdA (pfA a n) k) = AD at *
          have HAE := Lib.hid (And.intro hAU hAD)
          clear hAU hAD
          generalize hSU : frU (upP (pgA a n) k) (upP (pfA a n) k) = SU at *
          generalize hSD : frD (upP (pgA a n) k) (upP (pfA a n) k) = SD at *
          have HSE := Lib.hid (And.intro hSU hSD)
          clear hSU hSD
          go_wp2_with fail
          refine HC.out.mono ?_
          rintro e w6 ⟨rfl, hq⟩
          have HF6 := Lib.hid (HF.out.quiet hq)
          clear hq HC HF
          have c0 := blk_cell HF6.out.br (i := 0) rfl
          have c1 := blk_cell HF6.out.br (i := 1) rfl
          go_wp2
          apply region_once (F := fun v => Hid (FX w p q r PU PD AU AD SU SD v))
          · go_region_law ((first
              | (go_simp; go_at_call 63; refine (HG1.out _).mono ?_; rintro e v1 ⟨rfl, hb⟩; have D1 := Lib.hid (HF6.out.drew.next hb); have y0 := blk_cell D1.out.br (i := 0) rfl; have y1 := blk_cell D1.out.br (i := 1) rfl; clear hb)
              | (go_simp; go_at_call 65; refine (HT1.out _).mono ?_; rintro e v2 ⟨rfl, hb⟩; have D2 := Lib.hid (D1.out.next hb); have z0 := blk_cell D2.out.br (i := 0) rfl; have z1 := blk_cell D2.out.br (i := 1) rfl; have f0 := blk_frozen D2.out.br 0; have f1 := blk_frozen D2.out.br 1; clear hb)))
            all_goals exact OnceQ.mk rfl (Lib.hid (D2.out.setR SU SD))
          · rintro w7 HF7
            clear c0 c1 HF6 HG1 HT1
            have HC := Lib.hid (plusH_any AU AD SU SD w7 AUB.out SUB.out ADB.out SDB.out)
            rw [HAI.out, HAV.out] at HC
            generalize hMU : frU (pnA (pfA a n) (pgA a n) n (k + 1)) (pdA (pfA a n) (k + 1)) = MU at *
            generalize hMD : frD (pnA (pfA a n) (pgA a n) n (k + 1)) (pdA (pfA a n) (k + 1)) = MD at *
            have HME := Lib.hid (And.intro hMU hMD)
            clear hMU hMD
            have d0 := blk_cell HF7.out.bq (i := 0) rfl
            have d1 := blk_cell HF7.out.bq (i := 1) rfl
            have d2 := blk_cell HF7.out.br (i := 0) rfl
            have d3 := blk_cell HF7.out.br (i := 1) rfl
            go_wp2_with fail
            refine HC.out.mono ?_
            rintro e v3 ⟨rfl, hb⟩
            have HX3 := Lib.hid (HF7.out.next hb)
            clear hb HC HF7  d0 d1 d2 d3
            have f0 := blk_frozen HX3.out.bq 0
            have f1 := blk_frozen HX3.out.bq 1
            have c0 := blk_cell HX3.out.bq (i := 0) rfl
            have c1 := blk_cell HX3.out.bq (i := 1) rfl
            have HX4 := Lib.hid (HX3.out.setQ MU MD)
            clear HX3
            go_wp2
            clear c0 c1 f0 f1
            go_roundw
            case rel => exact ⟨k + 1, by omega, by go_num, Lib.hid (by rw [Nat.add_sub_cancel, HPE.out.1, HPE.out.2, HME.out.1, HME.out.2, HSE.out.1, HSE.out.2]; exact HX4.out)⟩
            case measure => simp [intOf]; omega
    · obtain rfl : k = n := by omega
      have HPB := Lib.hid (pnA_bd HFG.out (i := i) (k := k) (by omega))
      have HDB := Lib.hid (pdA_pos HFG.out (k := k) (by omega))
      have HAB := Lib.hid (show 1 ≤ frU (pnA (pfA a k) (pgA a k) k k) (pdA (pfA a k) k) ∧ frU (pnA (pfA a k) (pgA a k) k k) (pdA (pfA a k) k) ≤ 1200000000 from by
        have h1 := pnA_bd HFG.out (i := k) (k := k) (by omega)
        have h3 : pnA (pfA a k) (pgA a k) k k = fxT a k := by
          have : k = (k - 1) + 1 := by omega
          unfold fxT
          rw [← SS_all, ← this]
          conv => lhs; arg 4; rw [this]
          rfl
        have h2 := (HCR.out.fx hi).2
        have h4 := fr_pos (u := pnA (pfA a k) (pgA a k) k k) (d := pdA (pfA a k) k) (by have := HDB.out; omega) (by omega)
        have h5 := (frU_bd (u := pnA (pfA a k) (pgA a k) k k) (d := pdA (pfA a k) k) (B := 1200000000) (by have := HDB.out; omega) (by omega)).2
        omega)
      have ADB := Lib.hid (frD_bd (u := pnA (pfA a k) (pgA a k) k k) (d := pdA (pfA a k) k) (B := 1200000000) (by have := HDB.out; omega) (by have := HDB.out; omega))
      have PUB := Lib.hid (frU_bd (u := pnA (pfA a k) (pgA a k) i k) (d := pdA (pfA a k) k) (B := 1200000000) (by have := HDB.out; omega) (by have := HPB.out; omega))
      have PDB := Lib.hid (frD_bd (u := pnA (pfA a k) (pgA a k) i k) (d := pdA (pfA a k) k) (B := 1200000000) (by have := HDB.out; omega) (by have := HDB.out; omega))
      have HEV : Hid (frV (fxU a k i) (fxT a k) = .agg #[.int .i64 (frU (fxU a k i) (fxT a k)), .int .i64 (frD (fxU a k i) (fxT a k))]) := Lib.hid rfl
      rw [HEV.out]
      rw [HEV.out] at HE
      generalize frU (fxU a k i) (fxT a k) = U at *
      generalize frD (fxU a k i) (fxT a k) = D at *
      generalize frU (pnA (pfA a k) (pgA a k) k k) (pdA (pfA a k) k) = AU at *
      generalize frD (pnA (pfA a k) (pgA a k) k k) (pdA (pfA a k) k) = AD at *
      generalize frU (pnA (pfA a k) (pgA a k) i k) (pdA (pfA a k) k) = PU at *
      generalize frD (pnA (pfA a k) (pgA a k) i k) (pdA (pfA a k) k) = PD at *
      generalize frU (upP (pgA a k) (k - 1)) (upP (pfA a k) (k - 1)) = SU at *
      generalize frD (upP (pgA a k) (k - 1)) (upP (pfA a k) (k - 1)) = SD at *
      have HQV : Hid (frV AD AU = .agg #[.int .i64 (frU AD AU), .int .i64 (frD AD AU)]) := Lib.hid rfl
      have HQ1 := Lib.hid (fun W => HQV.out ▸ fracH_any AD AU W (by have := ADB.out; unfold Hug; omega) (by have := HAB.out; unfold Hug; omega) HAB.out.1)
      have HQ2 := Lib.hid (fun W => timesH_any PU PD (frU AD AU) (frD AD AU) W PUB.out (frU_bd (by have := HAB.out; omega) (by have := ADB.out; omega)) PDB.out (frD_bd (by have := HAB.out; omega) (by have := HAB.out; omega)))
      rw [HE.out] at HQ2
      generalize frU AD AU = BU at *
      generalize frD AD AU = BD at *
      clear HE HQV PUB PDB ADB HAB HDB HPB
      have c0 := blk_cell HF.out.bp (i := 0) rfl
      have c1 := blk_cell HF.out.bp (i := 1) rfl
      have c2 := blk_cell HF.out.bq (i := 0) rfl
      have c3 := blk_cell HF.out.bq (i := 1) rfl
      go_wp2
      apply region_once (F := fun v => Hid (Blk v w.heap.size 27 #[.int .i64 U, .int .i64 D]) ∧ Hid (Below w.heap.size w v))
      · go_region_law ((first
          | (go_simp; go_at_call 63; refine (HQ1.out _).mono ?_; rintro e v1 ⟨rfl, hb⟩; have D1 := Lib.hid (HF.out.drew.next hb); have y0 := blk_cell D1.out.bp (i := 0) rfl; have y1 := blk_cell D1.out.bp (i := 1) rfl; clear hb)
          | (go_simp; go_at_call 65; refine (HQ2.out _).mono ?_; rintro e v2 ⟨rfl, hb⟩; have D2 := Lib.hid (D1.out.next hb); have z0 := blk_cell D2.out.b0 (i := 0) rfl; have z1 := blk_cell D2.out.b0 (i := 1) rfl; have f0 := blk_frozen D2.out.b0 0; have f1 := blk_frozen D2.out.b0 1; clear hb)))
        all_goals exact OnceQ.mk rfl ⟨Lib.hid (blk_set (blk_set D2.out.b0 0 (.int .i64 U)) 1 (.int .i64 D)), Lib.hid ((D2.out.up.setCell (p := ⟨w.heap.size, 0, none⟩) (Nat.le_refl _) (.int .i64 U)).setCell (p := ⟨w.heap.size, 1, none⟩) (Nat.le_refl _) (.int .i64 D))⟩
      · rintro WE ⟨HB1, HBX⟩
        clear c0 c1 c2 c3
        have r0 := blk_cell HB1.out (i := 0) (v := .int .i64 U) rfl
        have r1 := blk_cell HB1.out (i := 1) (v := .int .i64 D) rfl
        go_wp2
        refine bodyPost_ret (v := .agg #[.int .i64 U, .int .i64 D]) (by simp [results, Try.results69, go_sem, r0, r1]) rfl ?_
        exact ⟨by first | rfl | rw [HEV.out], HBX.out⟩
end Go.Proofs.Ytjkmgpiiamffgaa

/- FixedFrom, FixedOnes, FavourOf, OddsOf by the model. -/
namespace Go.Proofs.Ytjkmgpiiamffgaa
open Go.RowKit

def FQ (a : List (List Int)) (n i : Int) : Prop := CQ a n ∧ InR i 0 n
noncomputable def ffV (a : List (List Int)) (n i : Int) : Value := if pb (FQ a n i) = true then frV (fxU a n.toNat i.toNat) (fxT a n.toNat) else .agg #[.int .i64 0, .int .i64 0]
theorem ff_no {a : List (List Int)} {n i : Int} (h : ¬ FQ a n i) : ffV a n i = .agg #[.int .i64 0, .int .i64 0] := by unfold ffV; rw [if_neg (by rw [pb_false h]; decide)]
theorem ff_yes {a : List (List Int)} {n i : Nat} (h : CR a n) (hi : i ≤ n) : ffV a n i = frV (fxU a n i) (fxT a n) ∧ pb (FQ a n i) = true := by
  have hp : FQ a n i := ⟨h.cq, by unfold InR; omega⟩
  unfold ffV; rw [if_pos (pb_true hp), Int.toNat_natCast, Int.toNat_natCast]; exact ⟨rfl, pb_true hp⟩
theorem ffV_form (a : List (List Int)) (n i : Int) : ∃ U D, ffV a n i = .agg #[.int .i64 U, .int .i64 D] := by
  unfold ffV; split
  · exact ⟨_, _, rfl⟩
  · exact ⟨_, _, rfl⟩
noncomputable def foP (a : List (List Int)) (n : Int) : Value := if pb (CQ a n) = true then frV (fxU a n.toNat 1) (fxT a n.toNat) else .agg #[.int .i64 0, .int .i64 0]
noncomputable def foQ (a : List (List Int)) (n : Int) : Value := if pb (CQ a n) = true then frV (fxT a n.toNat - fxU a n.toNat (n.toNat - 1)) (fxT a n.toNat) else .agg #[.int .i64 0, .int .i64 0]
theorem fo_no {a : List (List Int)} {n : Int} (h : ¬ CQ a n) : foP a n = .agg #[.int .i64 0, .int .i64 0] ∧ foQ a n = .agg #[.int .i64 0, .int .i64 0] ∧ pb (CQ a n) = false := by
  unfold foP foQ; rw [if_neg (by rw [pb_false h]; decide), if_neg (by rw [pb_false h]; decide)]; exact ⟨rfl, rfl, pb_false h⟩
theorem fo_yes {a : List (List Int)} {n : Nat} (h : CR a n) : foP a n = frV (fxU a n 1) (fxT a n) ∧ foQ a n = frV (fxT a n - fxU a n (n - 1)) (fxT a n) ∧ pb (CQ a n) = true := by
  unfold foP foQ; rw [if_pos (pb_true h.cq), if_pos (pb_true h.cq), Int.toNat_natCast]; exact ⟨rfl, rfl, pb_true h.cq⟩
/-- How one alone stands to any one. -/
def fvC (U T n : Int) : Int := if T < n * U then 1 else if n * U < T then -1 else 0
noncomputable def fvI (a : List (List Int)) (n : Int) : Int := if pb (CQ a n) = true then fvC (fxU a n.toNat 1) (fxT a n.toNat) n else 0
theorem fv_no {a : List (List Int)} {n : Int} (h : ¬ CQ a n) : fvI a n = 0 ∧ pb (CQ a n) = false := by unfold fvI; rw [if_neg (by rw [pb_false h]; decide)]; exact ⟨rfl, pb_false h⟩
theorem fv_yes {a : List (List Int)} {n : Nat} (h : CR a n) : fvI a n = fvC (fxU a n 1) (fxT a n) n ∧ pb (CQ a n) = true := by unfold fvI; rw [if_pos (pb_true h.cq), Int.toNat_natCast]; exact ⟨rfl, pb_true h.cq⟩
noncomputable def odV (a : List (List Int)) (n : Int) : Value := if pb (CQ a n) = true then frV (upP (pfA a n.toNat) (n.toNat - 1)) (upP (pgA a n.toNat) (n.toNat - 1)) else .agg #[.int .i64 0, .int .i64 0]
theorem od_no {a : List (List Int)} {n : Int} (h : ¬ CQ a n) : odV a n = .agg #[.int .i64 0, .int .i64 0] ∧ pb (CQ a n) = false := by unfold odV; rw [if_neg (by rw [pb_false h]; decide)]; exact ⟨rfl, pb_false h⟩
theorem od_yes {a : List (List Int)} {n : Nat} (h : CR a n) : odV a n = frV (upP (pfA a n) (n - 1)) (upP (pgA a n) (n - 1)) ∧ pb (CQ a n) = true := by unfold odV; rw [if_pos (pb_true h.cq), Int.toNat_natCast]; exact ⟨rfl, pb_true h.cq⟩
theorem odV_form (a : List (List Int)) (n : Int) : ∃ U D, odV a n = .agg #[.int .i64 U, .int .i64 D] := by
  unfold odV; split
  · exact ⟨_, _, rfl⟩
  · exact ⟨_, _, rfl⟩
/-- Compared by the parts of the fraction in lowest terms. -/
theorem fr_cmp {U T n : Int} (hT : 0 < T) : (frD U T < n * frU U T ↔ T < n * U) ∧ (n * frU U T < frD U T ↔ n * U < T) := by
  have e1 := frU_mul U T
  have e2 := frD_mul U T
  have hg := gcdI_pos (a := U) (b := T) (by omega)
  generalize frU U T = u at *
  generalize frD U T = d at *
  generalize gcdI U T = g at *
  have h1 : (n * u - d) * g = n * U - T := by subst e1; subst e2; grind
  generalize hz : n * u - d = z at *
  have hp : 0 < z ↔ 0 < z * g := by
    constructor
    · intro h; exact Int.mul_pos h (by omega)
    · intro h; apply Classical.byContradiction; intro hn
      have : z * g ≤ 0 := Int.mul_nonpos_of_nonpos_of_nonneg (by omega) (by omega)
      omega
  have hm : z < 0 ↔ z * g < 0 := by
    constructor
    · intro h; exact Int.mul_neg_of_neg_of_pos h (by omega)
    · intro h; apply Classical.byContradiction; intro hn
      have : 0 ≤ z * g := Int.mul_nonneg (by omega) (by omega)
      omega
  omega
theorem bd12 {x B : Int} (h : 0 ≤ x ∧ x ≤ B) (hB : B ≤ 1200000000) : -1200000000 ≤ x ∧ x ≤ 1200000000 := by omega
theorem CR.fr {a n} (h : CR a n) {i : Nat} (hi : i ≤ n) : (0 ≤ frU (fxU a n i) (fxT a n) ∧ frU (fxU a n i) (fxT a n) ≤ 1200000000) ∧ 1 ≤ frD (fxU a n i) (fxT a n) ∧ frD (fxU a n i) (fxT a n) ≤ 1200000000 := by
  have h1 := h.fx hi
  exact ⟨frU_le (by omega) h1.1.1 (by omega), frD_bd (by omega) (by omega)⟩
set_option maxRecDepth 100000 in
set_option maxHeartbeats 3200000 in
theorem FixedFrom_spec (A : Option Addr) (l c : Nat) (a : List (List Int)) (n i : Int) (w : World) (hx : IntRows w A l c a) (_ : Fit n) (_ : Fit i) :
    Calls Try.prog 20 #[.slice A l c, .int .i64 n, .int .i64 i] w (Ret (.tuple #[ffV a n i, .bool (pb (FQ a n i))]) w) := by
  have HX := Lib.hid hx
  clear hx
  have HPF := Lib.hid (PF.start w)
  by_cases hv : VP a
  · by_cases hn : InR n 2 6
    · obtain ⟨n, rfl, hcr⟩ := (show CQ a n from ⟨hv, hn⟩).nat
      have hn6 := hcr.n6
      have hn2 := hcr.n2
      have HN := Lib.hid (fun W => pb_true hn ▸ inRange_any n 2 6 W)
      have HV := Lib.hid (pb_true hv ▸ validPair_any A l c a _ (HX.out.keep HPF.out.keep))
      by_cases hi : InR i 0 (n : Int)
      · have HI := Lib.hid (fun W => pb_true hi ▸ inRange_any i 0 (n : Int) W)
        obtain ⟨i, rfl⟩ : ∃ k : Nat, i = k := ⟨i.toNat, by unfold InR at hi; omega⟩
        have hin : i ≤ n := by unfold InR at hi; omega
        obtain ⟨b, o, rb, ro, cc, rfl, rfl, tab⟩ := hcr.tab HX.out
        have HT := Lib.hid tab
        have HCR := Lib.hid hcr
        have HFV : Hid (frV (fxU a n i) (fxT a n) = .agg #[.int .i64 (frU (fxU a n i) (fxT a n)), .int .i64 (frD (fxU a n i) (fxT a n))]) := Lib.hid rfl
        rw [(ff_yes hcr hin).1, (ff_yes hcr hin).2]
        clear tab hcr hv hn hi
        go_enter Try.func20, Try.ntmps20
        go_wp2_with fail
        refine HV.out.mono ?_
        rintro e w1 ⟨rfl, hq⟩
        have HPF1 := Lib.hid (HPF.out.up hq.below)
        have QK := Lib.hid hq
        clear hq HV HPF
        go_wp2_with fail
        refine (HN.out _).mono ?_
        rintro e w2 ⟨rfl, rfl⟩
        go_wp2_with fail
        refine (HI.out _).mono ?_
        rintro e w3 ⟨rfl, rfl⟩
        have HC := Lib.hid (HFV.out ▸ fixed_any a n i b o c rb ro cc w1 HCR.out (HT.out.keep HPF1.out.keep) hin)
        rw [HFV.out]
        generalize frU (fxU a n i) (fxT a n) = U at *
        generalize frD (fxU a n i) (fxT a n) = D at *
        go_wp2_with fail
        refine HC.out.mono ?_
        rintro e w4 ⟨rfl, hb⟩
        have HPF := Lib.hid (HPF1.out.up hb)
        clear hb HC HPF1
        have c0 := blk_cell HPF.out.box (i := 0) rfl
        have c1 := blk_cell HPF.out.box (i := 1) rfl
        have f0 := blk_frozen HPF.out.box 0
        have f1 := blk_frozen HPF.out.box 1
        go_wp2
        clear c0 c1 f0 f1
        have B1 := blk_set (blk_set HPF.out.box 0 (.int .i64 U)) 1 (.int .i64 D)
        have r0 := blk_cell B1 (i := 0) (v := .int .i64 U) rfl
        have r1 := blk_cell B1 (i := 1) (v := .int .i64 D) rfl
        have HBX := Lib.hid ((HPF.out.below.setCell (p := ⟨w.heap.size, 0, none⟩) (Nat.le_refl _) (.int .i64 U)).setCell (p := ⟨w.heap.size, 1, none⟩) (Nat.le_refl _) (.int .i64 D))
        clear B1 HPF
        generalize (w4.setCell ⟨w.heap.size, 0, none⟩ (.int .i64 U)).setCell ⟨w.heap.size, 1, none⟩ (.int .i64 D) = WE at *
        refine bodyPost_ret (v := .tuple #[.agg #[.int .i64 U, .int .i64 D], .bool true]) (by simp [results, Try.results20, go_sem, r0, r1]) rfl ?_
        exact ⟨by first | rfl | rw [HFV.out], HBX.out⟩
      · have HNO := Lib.hid ((fun h : ¬ FQ a n i => (show ffV a n i = .agg #[.int .i64 0, .int .i64 0] ∧ pb (FQ a n i) = false from ⟨ff_no h, pb_false h⟩)) (fun h => hi h.2))
        have HI := Lib.hid (fun W => pb_false hi ▸ inRange_any i 0 (n : Int) W)
        clear hi hcr hn
        clear hv
        go_enter Try.func20, Try.ntmps20
        go_wp2_with fail
        refine HV.out.mono ?_
        rintro e w1 ⟨rfl, hq⟩
        have HPF1 := Lib.hid (HPF.out.up hq.below)
        have QK := Lib.hid hq
        clear hq HV HPF
        go_wp2_with fail
        refine (HN.out _).mono ?_
        rintro e w2 ⟨rfl, rfl⟩
        go_wp2_with fail
        refine (HI.out _).mono ?_
        rintro e w3 ⟨rfl, rfl⟩
        have HPF := HPF1
        clear HPF1
        have c0 := blk_cell HPF.out.box (i := 0) rfl
        have c1 := blk_cell HPF.out.box (i := 1) rfl
        have f0 := blk_frozen HPF.out.box 0
        have f1 := blk_frozen HPF.out.box 1
        go_wp2
        clear c0 c1 f0 f1
        have B1 := blk_set (blk_set HPF.out.box 0 (.int .i64 0)) 1 (.int .i64 0)
        have r0 := blk_cell B1 (i := 0) (v := .int .i64 0) rfl
        have r1 := blk_cell B1 (i := 1) (v := .int .i64 0) rfl
        have HBX := Lib.hid ((HPF.out.below.setCell (p := ⟨w.heap.size, 0, none⟩) (Nat.le_refl _) (.int .i64 0)).setCell (p := ⟨w.heap.size, 1, none⟩) (Nat.le_refl _) (.int .i64 0))
        clear B1 HPF
        generalize (w1.setCell ⟨w.heap.size, 0, none⟩ (.int .i64 0)).setCell ⟨w.heap.size, 1, none⟩ (.int .i64 0) = WE at *
        refine bodyPost_ret (v := .tuple #[.agg #[.int .i64 0, .int .i64 0], .bool false]) (by simp [results, Try.results20, go_sem, r0, r1]) rfl ?_
        exact ⟨by rw [HNO.out.1, HNO.out.2], HBX.out⟩
    · have HNO := Lib.hid ((fun h : ¬ FQ a n i => (show ffV a n i = .agg #[.int .i64 0, .int .i64 0] ∧ pb (FQ a n i) = false from ⟨ff_no h, pb_false h⟩)) (fun h => hn h.1.2))
      have HN := Lib.hid (fun W => pb_false hn ▸ inRange_any n 2 6 W)
      have HV := Lib.hid (pb_true hv ▸ validPair_any A l c a _ (HX.out.keep HPF.out.keep))
      clear hn
      clear hv
      go_enter Try.func20, Try.ntmps20
      go_wp2_with fail
      refine HV.out.mono ?_
      rintro e w1 ⟨rfl, hq⟩
      have HPF1 := Lib.hid (HPF.out.up hq.below)
      have QK := Lib.hid hq
      clear hq HV HPF
      go_wp2_with fail
      refine (HN.out _).mono ?_
      rintro e w2 ⟨rfl, rfl⟩
      have HPF := HPF1
      clear HPF1
      have c0 := blk_cell HPF.out.box (i := 0) rfl
      have c1 := blk_cell HPF.out.box (i := 1) rfl
      have f0 := blk_frozen HPF.out.box 0
      have f1 := blk_frozen HPF.out.box 1
      go_wp2
      clear c0 c1 f0 f1
      have B1 := blk_set (blk_set HPF.out.box 0 (.int .i64 0)) 1 (.int .i64 0)
      have r0 := blk_cell B1 (i := 0) (v := .int .i64 0) rfl
      have r1 := blk_cell B1 (i := 1) (v := .int .i64 0) rfl
      have HBX := Lib.hid ((HPF.out.below.setCell (p := ⟨w.heap.size, 0, none⟩) (Nat.le_refl _) (.int .i64 0)).setCell (p := ⟨w.heap.size, 1, none⟩) (Nat.le_refl _) (.int .i64 0))
      clear B1 HPF
      generalize (w1.setCell ⟨w.heap.size, 0, none⟩ (.int .i64 0)).setCell ⟨w.heap.size, 1, none⟩ (.int .i64 0) = WE at *
      refine bodyPost_ret (v := .tuple #[.agg #[.int .i64 0, .int .i64 0], .bool false]) (by simp [results, Try.results20, go_sem, r0, r1]) rfl ?_
      exact ⟨by rw [HNO.out.1, HNO.out.2], HBX.out⟩
  · have HNO := Lib.hid ((fun h : ¬ FQ a n i => (show ffV a n i = .agg #[.int .i64 0, .int .i64 0] ∧ pb (FQ a n i) = false from ⟨ff_no h, pb_false h⟩)) (fun h => hv h.1.1))
    have HV := Lib.hid (pb_false hv ▸ validPair_any A l c a _ (HX.out.keep HPF.out.keep))
    clear hv
    go_enter Try.func20, Try.ntmps20
    go_wp2_with fail
    refine HV.out.mono ?_
    rintro e w1 ⟨rfl, hq⟩
    have HPF1 := Lib.hid (HPF.out.up hq.below)
    have QK := Lib.hid hq
    clear hq HV HPF
    have HPF := HPF1
    clear HPF1
    have c0 := blk_cell HPF.out.box (i := 0) rfl
    have c1 := blk_cell HPF.out.box (i := 1) rfl
    have f0 := blk_frozen HPF.out.box 0
    have f1 := blk_frozen HPF.out.box 1
    go_wp2
    clear c0 c1 f0 f1
    have B1 := blk_set (blk_set HPF.out.box 0 (.int .i64 0)) 1 (.int .i64 0)
    have r0 := blk_cell B1 (i := 0) (v := .int .i64 0) rfl
    have r1 := blk_cell B1 (i := 1) (v := .int .i64 0) rfl
    have HBX := Lib.hid ((HPF.out.below.setCell (p := ⟨w.heap.size, 0, none⟩) (Nat.le_refl _) (.int .i64 0)).setCell (p := ⟨w.heap.size, 1, none⟩) (Nat.le_refl _) (.int .i64 0))
    clear B1 HPF
    generalize (w1.setCell ⟨w.heap.size, 0, none⟩ (.int .i64 0)).setCell ⟨w.heap.size, 1, none⟩ (.int .i64 0) = WE at *
    refine bodyPost_ret (v := .tuple #[.agg #[.int .i64 0, .int .i64 0], .bool false]) (by simp [results, Try.results20, go_sem, r0, r1]) rfl ?_
    exact ⟨by rw [HNO.out.1, HNO.out.2], HBX.out⟩
/-- The boxes of two results. -/
structure PG (w : World) (W : World) : Prop where
  b0 : Blk W w.heap.size 27 #[.int .i64 0, .int .i64 0]
  b1 : Blk W (w.heap.size + 1) 27 #[.int .i64 0, .int .i64 0]
  up : Below w.heap.size w W
theorem PG.start (w : World) : PG w ((w.alloc (.cells #[.int .i64 0, .int .i64 0] 27)).alloc (.cells #[.int .i64 0, .int .i64 0] 27)) :=
  ⟨blk_old (blk_new w _ _) _, by have h := blk_new (w.alloc (.cells #[.int .i64 0, .int .i64 0] 27)) 27 #[.int .i64 0, .int .i64 0]; rw [World.size_alloc] at h; exact h, below_up (below_alloc w _) (below_alloc _ _)⟩
theorem PG.out_up {w W W' : World} (h : PG w W) (k : Below W.heap.size W W') : PG w W' := ⟨blk_below h.b0 k, blk_below h.b1 k, below_up h.up k⟩
theorem PG.keep {w W : World} (h : PG w W) : Keep w W := Keep.below h.up
theorem fr_rest {U T : Int} (hT : 0 < T) : frU (1 * frD U T - frU U T * 1) (1 * frD U T) = frU (T - U) T ∧ frD (1 * frD U T - frU U T * 1) (1 * frD U T) = frD (T - U) T := by
  have h1 := frD_pos (u := U) hT
  refine fr_eq (by omega) hT ?_
  have r := fr_ratio U T
  grind
set_option maxRecDepth 100000 in
set_option maxHeartbeats 3200000 in
theorem FixedOnes_spec (A : Option Addr) (l c : Nat) (a : List (List Int)) (n : Int) (w : World) (hx : IntRows w A l c a) (_ : Fit n) :
    Calls Try.prog 27 #[.slice A l c, .int .i64 n] w (Ret (.tuple #[foP a n, foQ a n, .bool (pb (CQ a n))]) w) := by
  have HX := Lib.hid hx
  clear hx
  have HPF := Lib.hid (PG.start w)
  by_cases hv : VP a
  · by_cases hn : InR n 2 6
    · obtain ⟨n, rfl, hcr⟩ := (show CQ a n from ⟨hv, hn⟩).nat
      have hn6 := hcr.n6
      have hn2 := hcr.n2
      have HN := Lib.hid (fun W => pb_true hn ▸ inRange_any n 2 6 W)
      have HV := Lib.hid (pb_true hv ▸ validPair_any A l c a _ (HX.out.keep HPF.out.keep))
      obtain ⟨b, o, rb, ro, cc, rfl, rfl, tab⟩ := hcr.tab HX.out
      have HT := Lib.hid tab
      have HCR := Lib.hid hcr
      rw [(fo_yes hcr).1, (fo_yes hcr).2.1, (fo_yes hcr).2.2]
      have HF1V : Hid (frV (fxU a n 1) (fxT a n) = .agg #[.int .i64 (frU (fxU a n 1) (fxT a n)), .int .i64 (frD (fxU a n 1) (fxT a n))]) := Lib.hid rfl
      have HF2V : Hid (frV (fxU a n (n - 1)) (fxT a n) = .agg #[.int .i64 (frU (fxU a n (n - 1)) (fxT a n)), .int .i64 (frD (fxU a n (n - 1)) (fxT a n))]) := Lib.hid rfl
      have HQV : Hid (frV (fxT a n - fxU a n (n - 1)) (fxT a n) = .agg #[.int .i64 (frU (fxT a n - fxU a n (n - 1)) (fxT a n)), .int .i64 (frD (fxT a n - fxU a n (n - 1)) (fxT a n))]) := Lib.hid rfl
      have b1 := hcr.fr (i := n - 1) (by omega)
      have bx := hcr.fx (i := n - 1) (by omega)
      have HRS := Lib.hid (show frV (1 * frD (fxU a n (n - 1)) (fxT a n) - frU (fxU a n (n - 1)) (fxT a n) * 1) (1 * frD (fxU a n (n - 1)) (fxT a n)) = frV (fxT a n - fxU a n (n - 1)) (fxT a n) from by unfold frV; rw [(fr_rest (U := fxU a n (n - 1)) (T := fxT a n) (by omega)).1, (fr_rest (U := fxU a n (n - 1)) (T := fxT a n) (by omega)).2])
      have HMI := Lib.hid (fun W => minusH_any 1 1 (frU (fxU a n (n - 1)) (fxT a n)) (frD (fxU a n (n - 1)) (fxT a n)) W (by omega) (bd12 b1.1 (by omega)) (by omega) b1.2)
      rw [HRS.out, HQV.out] at HMI
      have Z11 := Lib.hid (fun W => (frV_one 1) ▸ fracH_any 1 1 W (by unfold Hug; omega) (by unfold Hug; omega) (by omega))
      have hn1 : ((n : Int) - 1) = ((n - 1 : Nat) : Int) := by omega
      have HC1 := Lib.hid (fun W K => HF1V.out ▸ fixed_any a n 1 b o c rb ro cc W HCR.out (HT.out.keep K) (by omega))
      have HC2 := Lib.hid (fun W K => HF2V.out ▸ hn1 ▸ fixed_any a n (n - 1) b o c rb ro cc W HCR.out (HT.out.keep K) (by omega))
      clear hn1 b1 bx HRS
      rw [HF1V.out, HQV.out]
      generalize frU (fxU a n (n - 1)) (fxT a n) = U2 at *
      generalize frD (fxU a n (n - 1)) (fxT a n) = D2 at *
      generalize frU (fxU a n 1) (fxT a n) = U at *
      generalize frD (fxU a n 1) (fxT a n) = D at *
      generalize frU (fxT a n - fxU a n (n - 1)) (fxT a n) = V at *
      generalize frD (fxT a n - fxU a n (n - 1)) (fxT a n) = E at *
      have HGE := Lib.hid (And.intro HF1V.out HQV.out)
      clear tab hcr hv hn HF1V HF2V HQV HCR
      go_enter Try.func27, Try.ntmps27
      go_wp2_with fail
      refine HV.out.mono ?_
      rintro e w1 ⟨rfl, hq⟩
      have HPF1 := Lib.hid (HPF.out.out_up hq.below)
      have QK := Lib.hid hq
      clear hq HV HPF
      go_wp2_with fail
      refine (HN.out _).mono ?_
      rintro e w2 ⟨rfl, rfl⟩
      have HC := Lib.hid (HC1.out w1 HPF1.out.keep)
      go_wp2_with fail
      refine HC.out.mono ?_
      rintro e w4 ⟨rfl, hb⟩
      have HPF4 := Lib.hid (HPF1.out.out_up hb)
      clear hb HC HPF1
      have HC := Lib.hid (Z11.out w4)
      go_wp2_with fail
      refine HC.out.mono ?_
      rintro e w5 ⟨rfl, hb⟩
      have HPF5 := Lib.hid (HPF4.out.out_up hb)
      clear hb HC HPF4
      have HC := Lib.hid (HC2.out w5 HPF5.out.keep)
      go_wp2_with fail
      refine HC.out.mono ?_
      rintro e w6 ⟨rfl, hb⟩
      have HPF6 := Lib.hid (HPF5.out.out_up hb)
      clear hb HC HPF5
      have HC := Lib.hid (HMI.out w6)
      go_wp2_with fail
      refine HC.out.mono ?_
      rintro e w7 ⟨rfl, hb⟩
      have HPF7 := Lib.hid (HPF6.out.out_up hb)
      clear hb HC HPF6
      have c0 := blk_cell HPF7.out.b0 (i := 0) rfl
      have c1 := blk_cell HPF7.out.b0 (i := 1) rfl
      have c2 := blk_cell HPF7.out.b1 (i := 0) rfl
      have c3 := blk_cell HPF7.out.b1 (i := 1) rfl
      have f0 := blk_frozen HPF7.out.b0 0
      have f1 := blk_frozen HPF7.out.b0 1
      have f2 := blk_frozen HPF7.out.b1 0
      have f3 := blk_frozen HPF7.out.b1 1
      go_wp2
      clear c0 c1 c2 c3 f0 f1 f2 f3
      have hle : w.heap.size ≤ w.heap.size + 1 := by omega
      have B1 := blk_other (blk_other (blk_set (blk_set HPF7.out.b0 0 (.int .i64 U)) 1 (.int .i64 D)) (p := ⟨w.heap.size + 1, 0, none⟩) (by show w.heap.size ≠ w.heap.size + 1; omega) (.int .i64 V)) (p := ⟨w.heap.size + 1, 1, none⟩) (by show w.heap.size ≠ w.heap.size + 1; omega) (.int .i64 E)
      have B2 := blk_set (blk_set (blk_other (blk_other HPF7.out.b1 (p := ⟨w.heap.size, 0, none⟩) (by show w.heap.size + 1 ≠ w.heap.size; omega) (.int .i64 U)) (p := ⟨w.heap.size, 1, none⟩) (by show w.heap.size + 1 ≠ w.heap.size; omega) (.int .i64 D)) 0 (.int .i64 V)) 1 (.int .i64 E)
      have r0 := blk_cell B1 (i := 0) (v := .int .i64 U) rfl
      have r1 := blk_cell B1 (i := 1) (v := .int .i64 D) rfl
      have r2 := blk_cell B2 (i := 0) (v := .int .i64 V) rfl
      have r3 := blk_cell B2 (i := 1) (v := .int .i64 E) rfl
      have HBX := Lib.hid ((((HPF7.out.up.setCell (p := ⟨w.heap.size, 0, none⟩) (Nat.le_refl _) (.int .i64 U)).setCell (p := ⟨w.heap.size, 1, none⟩) (Nat.le_refl _) (.int .i64 D)).setCell (p := ⟨w.heap.size + 1, 0, none⟩) hle (.int .i64 V)).setCell (p := ⟨w.heap.size + 1, 1, none⟩) hle (.int .i64 E))
      clear B1 B2 HPF7
      generalize (((w7.setCell ⟨w.heap.size, 0, none⟩ (.int .i64 U)).setCell ⟨w.heap.size, 1, none⟩ (.int .i64 D)).setCell ⟨w.heap.size + 1, 0, none⟩ (.int .i64 V)).setCell ⟨w.heap.size + 1, 1, none⟩ (.int .i64 E) = WE at *
      refine bodyPost_ret (v := .tuple #[.agg #[.int .i64 U, .int .i64 D], .agg #[.int .i64 V, .int .i64 E], .bool true]) (by simp [results, Try.results27, go_sem, r0, r1, r2, r3]) rfl ?_
      exact ⟨by first | rfl | rw [HGE.out.1, HGE.out.2], HBX.out⟩
    · have HNO := Lib.hid (fo_no (a := a) (n := n) (fun h => hn h.2))
      have HN := Lib.hid (fun W => pb_false hn ▸ inRange_any n 2 6 W)
      have HV := Lib.hid (pb_true hv ▸ validPair_any A l c a _ (HX.out.keep HPF.out.keep))
      clear hn
      clear hv
      go_enter Try.func27, Try.ntmps27
      go_wp2_with fail
      refine HV.out.mono ?_
      rintro e w1 ⟨rfl, hq⟩
      have HPF1 := Lib.hid (HPF.out.out_up hq.below)
      have QK := Lib.hid hq
      clear hq HV HPF
      go_wp2_with fail
      refine (HN.out _).mono ?_
      rintro e w2 ⟨rfl, rfl⟩
      have c0 := blk_cell HPF1.out.b0 (i := 0) rfl
      have c1 := blk_cell HPF1.out.b0 (i := 1) rfl
      have c2 := blk_cell HPF1.out.b1 (i := 0) rfl
      have c3 := blk_cell HPF1.out.b1 (i := 1) rfl
      have f0 := blk_frozen HPF1.out.b0 0
      have f1 := blk_frozen HPF1.out.b0 1
      have f2 := blk_frozen HPF1.out.b1 0
      have f3 := blk_frozen HPF1.out.b1 1
      go_wp2
      clear c0 c1 c2 c3 f0 f1 f2 f3
      have hle : w.heap.size ≤ w.heap.size + 1 := by omega
      have B1 := blk_other (blk_other (blk_set (blk_set HPF1.out.b0 0 (.int .i64 0)) 1 (.int .i64 0)) (p := ⟨w.heap.size + 1, 0, none⟩) (by show w.heap.size ≠ w.heap.size + 1; omega) (.int .i64 0)) (p := ⟨w.heap.size + 1, 1, none⟩) (by show w.heap.size ≠ w.heap.size + 1; omega) (.int .i64 0)
      have B2 := blk_set (blk_set (blk_other (blk_other HPF1.out.b1 (p := ⟨w.heap.size, 0, none⟩) (by show w.heap.size + 1 ≠ w.heap.size; omega) (.int .i64 0)) (p := ⟨w.heap.size, 1, none⟩) (by show w.heap.size + 1 ≠ w.heap.size; omega) (.int .i64 0)) 0 (.int .i64 0)) 1 (.int .i64 0)
      have r0 := blk_cell B1 (i := 0) (v := .int .i64 0) rfl
      have r1 := blk_cell B1 (i := 1) (v := .int .i64 0) rfl
      have r2 := blk_cell B2 (i := 0) (v := .int .i64 0) rfl
      have r3 := blk_cell B2 (i := 1) (v := .int .i64 0) rfl
      have HBX := Lib.hid ((((HPF1.out.up.setCell (p := ⟨w.heap.size, 0, none⟩) (Nat.le_refl _) (.int .i64 0)).setCell (p := ⟨w.heap.size, 1, none⟩) (Nat.le_refl _) (.int .i64 0)).setCell (p := ⟨w.heap.size + 1, 0, none⟩) hle (.int .i64 0)).setCell (p := ⟨w.heap.size + 1, 1, none⟩) hle (.int .i64 0))
      clear B1 B2 HPF1
      generalize (((w1.setCell ⟨w.heap.size, 0, none⟩ (.int .i64 0)).setCell ⟨w.heap.size, 1, none⟩ (.int .i64 0)).setCell ⟨w.heap.size + 1, 0, none⟩ (.int .i64 0)).setCell ⟨w.heap.size + 1, 1, none⟩ (.int .i64 0) = WE at *
      refine bodyPost_ret (v := .tuple #[.agg #[.int .i64 0, .int .i64 0], .agg #[.int .i64 0, .int .i64 0], .bool false]) (by simp [results, Try.results27, go_sem, r0, r1, r2, r3]) rfl ?_
      exact ⟨by rw [HNO.out.1, HNO.out.2.1, HNO.out.2.2], HBX.out⟩
  · have HNO := Lib.hid (fo_no (a := a) (n := n) (fun h => hv h.1))
    have HV := Lib.hid (pb_false hv ▸ validPair_any A l c a _ (HX.out.keep HPF.out.keep))
    clear hv
    go_enter Try.func27, Try.ntmps27
    go_wp2_with fail
    refine HV.out.mono ?_
    rintro e w1 ⟨rfl, hq⟩
    have HPF1 := Lib.hid (HPF.out.out_up hq.below)
    have QK := Lib.hid hq
    clear hq HV HPF
    have c0 := blk_cell HPF1.out.b0 (i := 0) rfl
    have c1 := blk_cell HPF1.out.b0 (i := 1) rfl
    have c2 := blk_cell HPF1.out.b1 (i := 0) rfl
    have c3 := blk_cell HPF1.out.b1 (i := 1) rfl
    have f0 := blk_frozen HPF1.out.b0 0
    have f1 := blk_frozen HPF1.out.b0 1
    have f2 := blk_frozen HPF1.out.b1 0
    have f3 := blk_frozen HPF1.out.b1 1
    go_wp2
    clear c0 c1 c2 c3 f0 f1 f2 f3
    have hle : w.heap.size ≤ w.heap.size + 1 := by omega
    have B1 := blk_other (blk_other (blk_set (blk_set HPF1.out.b0 0 (.int .i64 0)) 1 (.int .i64 0)) (p := ⟨w.heap.size + 1, 0, none⟩) (by show w.heap.size ≠ w.heap.size + 1; omega) (.int .i64 0)) (p := ⟨w.heap.size + 1, 1, none⟩) (by show w.heap.size ≠ w.heap.size + 1; omega) (.int .i64 0)
    have B2 := blk_set (blk_set (blk_other (blk_other HPF1.out.b1 (p := ⟨w.heap.size, 0, none⟩) (by show w.heap.size + 1 ≠ w.heap.size; omega) (.int .i64 0)) (p := ⟨w.heap.size, 1, none⟩) (by show w.heap.size + 1 ≠ w.heap.size; omega) (.int .i64 0)) 0 (.int .i64 0)) 1 (.int .i64 0)
    have r0 := blk_cell B1 (i := 0) (v := .int .i64 0) rfl
    have r1 := blk_cell B1 (i := 1) (v := .int .i64 0) rfl
    have r2 := blk_cell B2 (i := 0) (v := .int .i64 0) rfl
    have r3 := blk_cell B2 (i := 1) (v := .int .i64 0) rfl
    have HBX := Lib.hid ((((HPF1.out.up.setCell (p := ⟨w.heap.size, 0, none⟩) (Nat.le_refl _) (.int .i64 0)).setCell (p := ⟨w.heap.size, 1, none⟩) (Nat.le_refl _) (.int .i64 0)).setCell (p := ⟨w.heap.size + 1, 0, none⟩) hle (.int .i64 0)).setCell (p := ⟨w.heap.size + 1, 1, none⟩) hle (.int .i64 0))
    clear B1 B2 HPF1
    generalize (((w1.setCell ⟨w.heap.size, 0, none⟩ (.int .i64 0)).setCell ⟨w.heap.size, 1, none⟩ (.int .i64 0)).setCell ⟨w.heap.size + 1, 0, none⟩ (.int .i64 0)).setCell ⟨w.heap.size + 1, 1, none⟩ (.int .i64 0) = WE at *
    refine bodyPost_ret (v := .tuple #[.agg #[.int .i64 0, .int .i64 0], .agg #[.int .i64 0, .int .i64 0], .bool false]) (by simp [results, Try.results27, go_sem, r0, r1, r2, r3]) rfl ?_
    exact ⟨by rw [HNO.out.1, HNO.out.2.1, HNO.out.2.2], HBX.out⟩
theorem odds_on {f g : Nat → Int} {m k : Nat} (h : FG f g m) (h1 : 1 ≤ k) (hk : k ≤ m) :
    frV (frU (upP f (k - 1)) (upP g (k - 1)) * frU (f k) (g k)) (frD (upP f (k - 1)) (upP g (k - 1)) * frD (f k) (g k)) = frV (upP f k) (upP g k) := step_on h.flip h1 hk
structure FY (w : World) (p : Nat) (OU OD : Int) (W : World) : Prop where
  b0 : Blk W w.heap.size 27 #[.int .i64 0, .int .i64 0]
  bp : Blk W p 27 #[.int .i64 OU, .int .i64 OD]
  up : Below w.heap.size w W
  h1 : w.heap.size < p
theorem FY.next {w W W' : World} {p : Nat} {OU OD : Int} (h : FY w p OU OD W) (k : Below W.heap.size W W') : FY w p OU OD W' := ⟨blk_below h.b0 k, blk_below h.bp k, below_up h.up k, h.h1⟩
theorem FY.drew {w W : World} {p : Nat} {OU OD : Int} (h : FY w p OU OD W) : FY w p OU OD W.drew := h.next (Quiet.below ⟨1, rfl⟩)
theorem FY.set {w W : World} {p : Nat} {OU OD : Int} (h : FY w p OU OD W) (U D : Int) : FY w p U D ((W.setCell ⟨p, 0, none⟩ (.int .i64 U)).setCell ⟨p, 1, none⟩ (.int .i64 D)) := by
  have h1 := h.h1
  refine ⟨blk_other (blk_other h.b0 (p := ⟨p, 0, none⟩) ?_ _) (p := ⟨p, 1, none⟩) ?_ _, blk_set (blk_set h.bp 0 (.int .i64 U)) 1 (.int .i64 D), (h.up.setCell (p := ⟨p, 0, none⟩) ?_ _).setCell (p := ⟨p, 1, none⟩) ?_ _, h1⟩
  all_goals (show _; simp only []; omega)
set_option maxRecDepth 100000 in
set_option maxHeartbeats 3200000 in
theorem OddsOf_spec (A : Option Addr) (l c : Nat) (a : List (List Int)) (n : Int) (w : World) (hx : IntRows w A l c a) (_ : Fit n) :
    Calls Try.prog 15 #[.slice A l c, .int .i64 n] w (Ret (.tuple #[odV a n, .bool (pb (CQ a n))]) w) := by
  have HX := Lib.hid hx
  clear hx
  have HPF := Lib.hid (PF.start w)
  by_cases hv : VP a
  · by_cases hn : InR n 2 6
    · obtain ⟨n, rfl, hcr⟩ := (show CQ a n from ⟨hv, hn⟩).nat
      have hn6 := hcr.n6
      have hn2 := hcr.n2
      have HN := Lib.hid (fun W => pb_true hn ▸ inRange_any n 2 6 W)
      have HV := Lib.hid (pb_true hv ▸ validPair_any A l c a _ (HX.out.keep HPF.out.keep))
      obtain ⟨b, o, rb, ro, cc, rfl, rfl, tab⟩ := hcr.tab HX.out
      have HT := Lib.hid tab
      have HCR := Lib.hid hcr
      rw [(od_yes hcr).1, (od_yes hcr).2]
      have HFG := Lib.hid hcr.fg
      have Z11 := Lib.hid (fun W => (frV_one 1) ▸ fracH_any 1 1 W (by unfold Hug; omega) (by unfold Hug; omega) (by omega))
      clear tab hcr hv hn
      go_enter Try.func15, Try.ntmps15
      go_wp2_with fail
      refine HV.out.mono ?_
      rintro e w1 ⟨rfl, hq⟩
      have HPF1 := Lib.hid (HPF.out.up hq.below)
      have QK := Lib.hid hq
      clear hq HV HPF
      go_wp2_with fail
      refine (HN.out _).mono ?_
      rintro e w2 ⟨rfl, rfl⟩
      go_wp2_with fail
      refine (Z11.out _).mono ?_
      rintro e w4 ⟨rfl, hb⟩
      have HPF4 := Lib.hid (HPF1.out.up hb)
      clear hb HPF1
      have hb := below_alloc w4 (.cells #[.int .i64 1, .int .i64 1] 27)
      have HY := Lib.hid (show FY w w4.heap.size 1 1 (w4.alloc (.cells #[.int .i64 1, .int .i64 1] 27)) from ⟨blk_below HPF4.out.box hb, blk_new w4 _ _, below_up HPF4.out.below hb, blk_lt HPF4.out.box⟩)
      clear hb HPF4
      go_wp2
      generalize w4.alloc (.cells #[.int .i64 1, .int .i64 1] 27) = W0 at *
      generalize w4.heap.size = p at *
      go_loopw [7] (fun k_ wr => ∃ k : Nat, 1 ≤ k ∧ k ≤ n ∧ k_ = .int .i64 k ∧ Hid (FY w p (frU (upP (pfA a n) (k - 1)) (upP (pgA a n) (k - 1))) (frD (upP (pfA a n) (k - 1)) (upP (pgA a n) (k - 1))) wr)) (fun k_ _ => n - (intOf k_).toNat)
      case atStart => exact ⟨1, Nat.le_refl _, by omega, rfl, Lib.hid (by show FY w p (frU 1 1) (frD 1 1) W0; rw [(fr_one 1).1, (fr_one 1).2]; exact HY.out)⟩
      case round =>
        clear HY
        obtain ⟨k, hk1, hk, rfl, HY⟩ := hrel
        by_cases hlt : k < n
        · have HC := Lib.hid (pays_any a n k b o c rb ro cc wr HCR.out (HT.out.keep (Keep.below HY.out.up)) hk1 hlt)
          have HST := Lib.hid (odds_on HFG.out (k := k) hk1 (by omega))
          have HSV : Hid (frV (upP (pfA a n) k) (upP (pgA a n) k) = .agg #[.int .i64 (frU (upP (pfA a n) k) (upP (pgA a n) k)), .int .i64 (frD (upP (pfA a n) k) (upP (pgA a n) k))]) := Lib.hid rfl
          have HKF := Lib.hid (HFG.out.f k hk1 (by omega))
          have HKG := Lib.hid (HFG.out.g k hk1 (by omega))
          have HGV : Hid (frV (pfA a n k) (pgA a n k) = .agg #[.int .i64 (frU (pfA a n k) (pgA a n k)), .int .i64 (frD (pfA a n k) (pgA a n k))]) := Lib.hid rfl
          have HG1 := Lib.hid (fun W => HGV.out ▸ fracH_any (pfA a n k) (pgA a n k) W (by have := HKF.out; unfold Hug; omega) (by have := HKG.out; unfold Hug; omega) (by have := HKG.out; omega))
          have HSF1 := Lib.hid (up_bd HFG.out.f HFG.out.m5 (k := k - 1) (by omega))
          have HSG1 := Lib.hid (up_bd HFG.out.g HFG.out.m5 (k := k - 1) (by omega))
          have HT1 := Lib.hid (fun W => timesH_any (frU (upP (pfA a n) (k - 1)) (upP (pgA a n) (k - 1))) (frD (upP (pfA a n) (k - 1)) (upP (pgA a n) (k - 1))) (frU (pfA a n k) (pgA a n k)) (frD (pfA a n k) (pgA a n k)) W (frU_bd (by have := HSG1.out; omega) (by have := HSF1.out; omega)) (frU_bd (by have := HKG.out; omega) (by have := HKF.out; omega)) (frD_bd (by have := HSG1.out; omega) (by have := HSG1.out; omega)) (frD_bd (by have := HKG.out; omega) (by have := HKG.out; omega)))
          rw [HST.out, HSV.out] at HT1
          clear HST HSV HGV HKF HKG HSF1 HSG1
          generalize frU (upP (pfA a n) (k - 1)) (upP (pgA a n) (k - 1)) = RU at *
          generalize frD (upP (pfA a n) (k - 1)) (upP (pgA a n) (k - 1)) = RD at *
          generalize frU (pfA a n k) (pgA a n k) = GU at *
          generalize frD (pfA a n k) (pgA a n k) = GD at *
          generalize pgA a n k = g1 at *
          generalize pfA a n k = f1 at *
          generalize hSU : frU (upP (pfA a n) k) (upP (pgA a n) k) = SU at *
          generalize hSD : frD (upP (pfA a n) k) (upP (pgA a n) k) = SD at *
          have HSE := Lib.hid (And.intro hSU hSD)
          clear hSU hSD
          go_wp2_with fail
          refine HC.out.mono ?_
          rintro e w6 ⟨rfl, hq⟩
          have HF6 := Lib.hid (HY.out.next hq.below)
          clear hq HC HY
          have c0 := blk_cell HF6.out.bp (i := 0) rfl
          have c1 := blk_cell HF6.out.bp (i := 1) rfl
          go_wp2
          apply region_once (F := fun v => Hid (FY w p SU SD v))
          · go_region_law ((first
              | (go_simp; go_at_call 63; refine (HG1.out _).mono ?_; rintro e v1 ⟨rfl, hb⟩; have D1 := Lib.hid (HF6.out.drew.next hb); have y0 := blk_cell D1.out.bp (i := 0) rfl; have y1 := blk_cell D1.out.bp (i := 1) rfl; clear hb)
              | (go_simp; go_at_call 65; refine (HT1.out _).mono ?_; rintro e v2 ⟨rfl, hb⟩; have D2 := Lib.hid (D1.out.next hb); have z0 := blk_cell D2.out.bp (i := 0) rfl; have z1 := blk_cell D2.out.bp (i := 1) rfl; have f0 := blk_frozen D2.out.bp 0; have f1 := blk_frozen D2.out.bp 1; clear hb)))
            all_goals exact OnceQ.mk rfl (Lib.hid (D2.out.set SU SD))
          · rintro w7 HF7
            clear c0 c1 HF6 HG1 HT1
            go_wp2
            go_roundw
            case rel => exact ⟨k + 1, by omega, by omega, by go_num, Lib.hid (by rw [Nat.add_sub_cancel, HSE.out.1, HSE.out.2]; exact HF7.out)⟩
            case measure => simp [intOf]; omega
        · obtain rfl : k = n := by omega
          have HSV : Hid (frV (upP (pfA a k) (k - 1)) (upP (pgA a k) (k - 1)) = .agg #[.int .i64 (frU (upP (pfA a k) (k - 1)) (upP (pgA a k) (k - 1))), .int .i64 (frD (upP (pfA a k) (k - 1)) (upP (pgA a k) (k - 1)))]) := Lib.hid rfl
          rw [HSV.out]
          generalize frU (upP (pfA a k) (k - 1)) (upP (pgA a k) (k - 1)) = SU at *
          generalize frD (upP (pfA a k) (k - 1)) (upP (pgA a k) (k - 1)) = SD at *
          have d0 := blk_cell HY.out.bp (i := 0) rfl
          have d1 := blk_cell HY.out.bp (i := 1) rfl
          have c0 := blk_cell HY.out.b0 (i := 0) rfl
          have c1 := blk_cell HY.out.b0 (i := 1) rfl
          have f0 := blk_frozen HY.out.b0 0
          have f1 := blk_frozen HY.out.b0 1
          go_wp2
          clear c0 c1 f0 f1
          have B1 := blk_set (blk_set HY.out.b0 0 (.int .i64 SU)) 1 (.int .i64 SD)
          have r0 := blk_cell B1 (i := 0) (v := .int .i64 SU) rfl
          have r1 := blk_cell B1 (i := 1) (v := .int .i64 SD) rfl
          have HBX := Lib.hid ((HY.out.up.setCell (p := ⟨w.heap.size, 0, none⟩) (Nat.le_refl _) (.int .i64 SU)).setCell (p := ⟨w.heap.size, 1, none⟩) (Nat.le_refl _) (.int .i64 SD))
          clear B1 HY d0 d1
          generalize (wr.setCell ⟨w.heap.size, 0, none⟩ (.int .i64 SU)).setCell ⟨w.heap.size, 1, none⟩ (.int .i64 SD) = WE at *
          refine bodyPost_ret (v := .tuple #[.agg #[.int .i64 SU, .int .i64 SD], .bool true]) (by simp [results, Try.results15, go_sem, r0, r1]) rfl ?_
          exact ⟨by first | rfl | rw [HSV.out], HBX.out⟩
    · have HNO := Lib.hid (od_no (a := a) (n := n) (fun h => hn h.2))
      have HN := Lib.hid (fun W => pb_false hn ▸ inRange_any n 2 6 W)
      have HV := Lib.hid (pb_true hv ▸ validPair_any A l c a _ (HX.out.keep HPF.out.keep))
      clear hn
      clear hv
      go_enter Try.func15, Try.ntmps15
      go_wp2_with fail
      refine HV.out.mono ?_
      rintro e w1 ⟨rfl, hq⟩
      have HPF1 := Lib.hid (HPF.out.up hq.below)
      have QK := Lib.hid hq
      clear hq HV HPF
      go_wp2_with fail
      refine (HN.out _).mono ?_
      rintro e w2 ⟨rfl, rfl⟩
      have HPF := HPF1
      clear HPF1
      have c0 := blk_cell HPF.out.box (i := 0) rfl
      have c1 := blk_cell HPF.out.box (i := 1) rfl
      have f0 := blk_frozen HPF.out.box 0
      have f1 := blk_frozen HPF.out.box 1
      go_wp2
      clear c0 c1 f0 f1
      have B1 := blk_set (blk_set HPF.out.box 0 (.int .i64 0)) 1 (.int .i64 0)
      have r0 := blk_cell B1 (i := 0) (v := .int .i64 0) rfl
      have r1 := blk_cell B1 (i := 1) (v := .int .i64 0) rfl
      have HBX := Lib.hid ((HPF.out.below.setCell (p := ⟨w.heap.size, 0, none⟩) (Nat.le_refl _) (.int .i64 0)).setCell (p := ⟨w.heap.size, 1, none⟩) (Nat.le_refl _) (.int .i64 0))
      clear B1 HPF
      generalize (w1.setCell ⟨w.heap.size, 0, none⟩ (.int .i64 0)).setCell ⟨w.heap.size, 1, none⟩ (.int .i64 0) = WE at *
      refine bodyPost_ret (v := .tuple #[.agg #[.int .i64 0, .int .i64 0], .bool false]) (by simp [results, Try.results15, go_sem, r0, r1]) rfl ?_
      exact ⟨by rw [HNO.out.1, HNO.out.2], HBX.out⟩
  · have HNO := Lib.hid (od_no (a := a) (n := n) (fun h => hv h.1))
    have HV := Lib.hid (pb_false hv ▸ validPair_any A l c a _ (HX.out.keep HPF.out.keep))
    clear hv
    go_enter Try.func15, Try.ntmps15
    go_wp2_with fail
    refine HV.out.mono ?_
    rintro e w1 ⟨rfl, hq⟩
    have HPF1 := Lib.hid (HPF.out.up hq.below)
    have QK := Lib.hid hq
    clear hq HV HPF
    have HPF := HPF1
    clear HPF1
    have c0 := blk_cell HPF.out.box (i := 0) rfl
    have c1 := blk_cell HPF.out.box (i := 1) rfl
    have f0 := blk_frozen HPF.out.box 0
    have f1 := blk_frozen HPF.out.box 1
    go_wp2
    clear c0 c1 f0 f1
    have B1 := blk_set (blk_set HPF.out.box 0 (.int .i64 0)) 1 (.int .i64 0)
    have r0 := blk_cell B1 (i := 0) (v := .int .i64 0) rfl
    have r1 := blk_cell B1 (i := 1) (v := .int .i64 0) rfl
    have HBX := Lib.hid ((HPF.out.below.setCell (p := ⟨w.heap.size, 0, none⟩) (Nat.le_refl _) (.int .i64 0)).setCell (p := ⟨w.heap.size, 1, none⟩) (Nat.le_refl _) (.int .i64 0))
    clear B1 HPF
    generalize (w1.setCell ⟨w.heap.size, 0, none⟩ (.int .i64 0)).setCell ⟨w.heap.size, 1, none⟩ (.int .i64 0) = WE at *
    refine bodyPost_ret (v := .tuple #[.agg #[.int .i64 0, .int .i64 0], .bool false]) (by simp [results, Try.results15, go_sem, r0, r1]) rfl ?_
    exact ⟨by rw [HNO.out.1, HNO.out.2], HBX.out⟩
end Go.Proofs.Ytjkmgpiiamffgaa

