/- Texts merged: K8 K9 Z5 TK7 TK8 TK9 Put RI C9 E9. -/
import Derived.Test.YtcjanlbhgfadpaaQ9
import Derived.Laws.CopyOwn
/- The next shares, by both programs. -/
namespace Go.Proofs.Ytcjanlbhgfadpaa
open Go.RowKit

/-- What the next shares are to each other. -/
def nxV (a : List (List Int)) (x : List Int) (n i : Nat) : Int := gi x i * dotr a x i n
def nxL (a : List (List Int)) (x : List Int) (n k : Nat) : List Int := (List.range k).map (nxV a x n)
theorem nxL_succ (a : List (List Int)) (x : List Int) (n k : Nat) : nxL a x n (k + 1) = nxL a x n k ++ [nxV a x n k] := by simp [nxL, List.range_succ]
theorem nxL_len (a : List (List Int)) (x : List Int) (n k : Nat) : (nxL a x n k).length = k := by simp [nxL]
theorem gi_nxL {a : List (List Int)} {x : List Int} {n k i : Nat} (h : i < k) : gi (nxL a x n k) i = nxV a x n i := gi_range h
theorem VQ.len2' {a : List (List Int)} {n : Nat} (v : VQ a) (hl : a.length = n) : (gr a 0).length = n := by have := v.2; omega
theorem dotr_pos {a : List (List Int)} {x : List Int} {i n : Nat} (ha : ∀ j, j < n → 1 ≤ g2 a i j) (hx : ∀ j, j < n → 0 ≤ gi x j) : ∀ {k}, k ≤ n → sm x k ≤ dotr a x i k
  | 0, _ => Int.le_refl _
  | k + 1, h => by
    have h1 := dotr_pos ha hx (k := k) (by omega)
    have h2 := ha k (by omega)
    have h3 := hx k (by omega)
    have h4 : 1 * gi x k ≤ g2 a i k * gi x k := Int.mul_le_mul_of_nonneg_right h2 h3
    simp only [sm, dotr]
    omega
/-- A field and shares. -/
structure FS (a : List (List Int)) (x : List Int) (n : Nat) : Prop where
  f : VF a
  s : VS x (n : Int)
  l : a.length = n
theorem FS.n3 {a x n} (h : FS a x n) : 1 ≤ n ∧ n ≤ 3 := by have := h.f.q.1.n1; have := h.f.q.1.n3; have := h.l; omega
theorem FS.xl {a x n} (h : FS a x n) : x.length = n := by have := h.s.1; omega
theorem FS.x {a x n} (h : FS a x n) : ∀ j, j < n → 0 ≤ gi x j ∧ gi x j ≤ 1000 := VS.bds h.s
theorem FS.a {a x n} (h : FS a x n) {i j : Nat} (hi : i < n) (hj : j < n) : 1 ≤ g2 a i j ∧ g2 a i j ≤ 9 := by
  have hl := h.l
  have h1 := h.f.p i j (by omega) (by omega)
  have h2 := h.f.q.1.bd (i := i) (j := j) (by omega) (by have := h.f.q.2; omega)
  omega
theorem FS.dot {a x n} (h : FS a x n) {i : Nat} (hi : i < n) : 1 ≤ dotr a x i n ∧ dotr a x i n ≤ 27000 := by
  have h0 := h.n3
  have h1 := dotr_pos (a := a) (x := x) (i := i) (n := n) (fun j hj => (h.a hi hj).1) (fun j hj => (h.x j hj).1) (Nat.le_refl n)
  have h2 := dotr_bd (a := a) (w := x) (i := i) (m := n) (fun j hj => by have := h.a hi hj; omega) h.x (Nat.le_refl n)
  have h3 := h.s.2.2
  unfold tot at h3
  rw [h.xl] at h3
  omega
theorem FS.nx {a x n} (h : FS a x n) {i : Nat} (hi : i < n) : 0 ≤ nxV a x n i ∧ nxV a x n i ≤ 27000000 ∧ (0 < gi x i → 0 < nxV a x n i) := by
  have h1 := h.dot hi
  have h2 := h.x i hi
  unfold nxV
  have h3 : 0 * dotr a x i n ≤ gi x i * dotr a x i n := Int.mul_le_mul_of_nonneg_right h2.1 (by omega)
  have h4 : gi x i * dotr a x i n ≤ 1000 * 27000 := Int.mul_le_mul h2.2 h1.2 (by omega) (by omega)
  exact ⟨by omega, by omega, fun h => Int.mul_pos h (by omega)⟩
theorem sm_has {x : List Int} : ∀ {k}, (∀ j, j < k → 0 ≤ gi x j) → 0 < sm x k → ∃ j, j < k ∧ 0 < gi x j
  | 0, _, h => by simp [sm] at h
  | k + 1, hp, h => by
    by_cases e : 0 < gi x k
    · exact ⟨k, by omega, e⟩
    · have h1 := hp k (by omega)
      obtain ⟨j, hj, hp'⟩ := sm_has (x := x) (k := k) (fun j hj => hp j (by omega)) (by simp only [sm] at h; omega)
      exact ⟨j, by omega, hp'⟩
theorem FS.clr {a x n} (h : FS a x n) : ClrP (nxL a x n n) ∧ 0 < gcdL (nxL a x n n) n := by
  have h0 := h.s.2.2
  unfold tot at h0
  rw [h.xl] at h0
  obtain ⟨j, hj, hp⟩ := sm_has (fun j hj => (h.x j hj).1) h0
  have hc : ClrP (nxL a x n n) := by
    refine ⟨⟨j, by rw [nxL_len]; exact hj, ?_⟩, .inl fun p hp => ?_⟩
    · rw [gi_nxL hj]; have := (h.nx hj).2.2 hp; omega
    · rw [nxL_len] at hp; rw [gi_nxL hp]; exact (h.nx hp).1
  exact ⟨hc, (clr_yes (nxL_len a x n n) hc).1⟩
theorem FS.mid {a x n} (h : FS a x n) : ∀ p, p < (nxL a x n n).length → Mid (gi (nxL a x n n) p) := fun p hp => by
  rw [nxL_len] at hp
  rw [gi_nxL hp]
  have := h.nx hp
  unfold Mid
  omega
/-- What NextShares answers. -/
noncomputable def nsF (a : List (List Int)) (x : List Int) : List Int := if pb (VF a ∧ VS x a.length) = true then clrL (nxL a x a.length a.length) (gcdL (nxL a x a.length a.length) a.length) a.length else []
theorem nsF_yes {a : List (List Int)} {x : List Int} {n : Nat} (h : FS a x n) : nsF a x = clrL (nxL a x n n) (gcdL (nxL a x n n) n) n := by
  unfold nsF; rw [if_pos (pb_true ⟨h.f, by rw [h.l]; exact h.s⟩), h.l]
theorem nsF_no {a : List (List Int)} {x : List Int} (h : ¬ (VF a ∧ VS x a.length)) : nsF a x = [] := by unfold nsF; rw [if_neg (by rw [pb_false h]; decide)]
theorem FS.of {a : List (List Int)} {x : List Int} {n : Nat} (hl : a.length = n) (hf : VF a) (hs : VS x (n : Int)) : FS a x n := ⟨hf, hs, hl⟩
theorem nsF_le (a : List (List Int)) (x : List Int) : (nsF a x).length ≤ 100 := by
  by_cases h : VF a ∧ VS x a.length
  · have hf : FS a x a.length := ⟨h.1, h.2, rfl⟩
    have := hf.n3
    rw [nsF_yes hf, clrL_len]; omega
  · rw [nsF_no h]; simp

end Go.Proofs.Ytcjanlbhgfadpaa

/- NextShares, by both programs. -/
namespace Go.Proofs.Ytcjanlbhgfadpaa
open Go.RowKit

theorem NewI.empty {w w' : World} {ys : List Int} (h : Below w.heap.size w w') (hy : ys = []) : NewI w ys (.returned (.slice none 0 0)) w' := by
  subst hy; exact ⟨none, 0, 0, 0, rfl, rfl, OwnI.nil _ _ _ _, h⟩
theorem NewI.from {w w1 w2 : World} {ys : List Int} {e : Ending} (h : Below w.heap.size w w1) (k : NewI w1 ys e w2) : NewI w ys e w2 := by
  obtain ⟨A, n, c, g, he, hn, ho, hb⟩ := k
  exact ⟨A, n, c, g, he, hn, ho.mono h.size (Nat.le_refl _), below_up h hb⟩


end Go.Proofs.Ytcjanlbhgfadpaa

/- The rests of a table, by the model. -/
namespace Go.Proofs.Ytcjanlbhgfadpaa
open Go.RowKit
open V (sumN detN rowC colC cofN minorN skip sgn Asc)

theorem shl_val' {n : Nat} (h : n ≤ 3) : ∃ P : Nat, wrap64 ((2 : Int) ^ n) = (P : Int) ∧ P = 2 ^ n := by
  refine ⟨2 ^ n, ?_, rfl⟩
  have : n = 0 ∨ n = 1 ∨ n = 2 ∨ n = 3 := by omega
  rcases this with rfl | rfl | rfl | rfl <;> (unfold wrap64; decide)
theorem NewT.from {w w1 w2 : World} {xss : List (List Int)} {e : Ending} (h : Below w.heap.size w w1) (k : NewT w1 xss e w2) : NewT w xss e w2 := by
  obtain ⟨A, n, c, g, e1, e2, ho, hb⟩ := k
  exact ⟨A, n, c, g, e1, e2, ho.mono h.size (Nat.le_refl _), below_up h hb⟩
theorem TM.new {wb vs xss w} {A : Option Addr} {n c : Nat} (h : TM wb (.slice A n c) vs xss w) (hm : xss.length ≤ 100) : NewT wb xss (.returned (.slice A n c)) w := by
  obtain ⟨A', n', c', gg, e, hn', hown⟩ := h.bo.owns (by omega)
  injection e with e1 e2 e3
  subst e1
  subst e2
  subst e3
  exact ⟨_, _, _, gg, rfl, hn', hown, h.up⟩
theorem NewT.none {w w' : World} {xss : List (List Int)} (h : Below w.heap.size w w') (hx : xss = []) : NewT w xss (.returned (.slice none 0 0)) w' := by
  subst hx
  exact ⟨_, _, _, 0, rfl, rfl, OwnR.nil _ _ _ _, h⟩
theorem resF_yes {a : List (List Int)} (h : VQ a) : resF a = resR a 8 := by unfold resF; rw [if_pos (pb_true h)]
theorem resF_no {a : List (List Int)} (h : ¬ VQ a) : resF a = [] := by unfold resF; rw [if_neg (by rw [pb_false h]; decide)]

end Go.Proofs.Ytcjanlbhgfadpaa

/- Where talks rest, plain; by the program. -/
namespace Go.Proofs.Ytcjanlbhgfadpaa
open Go.RowKit

/-- By x no one has more. -/
def Dev (xs : List Int) (ss hs ks : List (List Int)) (s r x : Nat) : Prop := spk ss ks x r 0 ≤ spk ss ks s r 0 ∧ spk ss ks x r 1 ≤ spk ss ks s r 1 ∧ hea xs hs s x ≤ hea xs hs s r
def TRest (xs : List Int) (ss hs ks : List (List Int)) (s r : Nat) : Prop := ∀ x, x < 4 → Dev xs ss hs ks s r x
/-- The rests among the first q pairs. -/
noncomputable def trL (xs : List Int) (ss hs ks : List (List Int)) : Nat → List (List Int)
  | 0 => []
  | q + 1 => if pb (TRest xs ss hs ks (q / 4) (q % 4)) then trL xs ss hs ks q ++ [[((q / 4 : Nat) : Int), ((q % 4 : Nat) : Int)]] else trL xs ss hs ks q
theorem trL_len (xs ss hs ks) : ∀ q, (trL xs ss hs ks q).length ≤ q
  | 0 => Nat.le_refl _
  | q + 1 => by
    have h := trL_len xs ss hs ks q
    rw [trL]
    split
    · simp; omega
    · omega
theorem trL_yes {xs ss hs ks} {s r : Nat} (hr : r < 4) (h : TRest xs ss hs ks s r) : trL xs ss hs ks (4 * s + r + 1) = trL xs ss hs ks (4 * s + r) ++ [[(s : Int), (r : Int)]] := by
  have e1 : (4 * s + r) / 4 = s := by omega
  have e2 : (4 * s + r) % 4 = r := by omega
  rw [trL, e1, e2, if_pos (pb_true h)]
theorem trL_no {xs ss hs ks} {s r : Nat} (hr : r < 4) (h : ¬ TRest xs ss hs ks s r) : trL xs ss hs ks (4 * s + r + 1) = trL xs ss hs ks (4 * s + r) := by
  have e1 : (4 * s + r) / 4 = s := by omega
  have e2 : (4 * s + r) % 4 = r := by omega
  rw [trL, e1, e2, if_neg (by rw [pb_false h]; decide)]
theorem trL_mem {xs ss hs ks} {row : List Int} : ∀ q, row ∈ trL xs ss hs ks q → ∃ s r : Nat, r < 4 ∧ 4 * s + r < q ∧ row = [(s : Int), (r : Int)] ∧ TRest xs ss hs ks s r
  | 0, h => by simp [trL] at h
  | q + 1, h => by
    rw [trL] at h
    split at h
    · rename_i hp
      rcases List.mem_append.1 h with h | h
      · obtain ⟨s, r, h1, h2, h3⟩ := trL_mem q h
        exact ⟨s, r, h1, by omega, h3⟩
      · simp only [List.mem_cons, List.not_mem_nil, or_false] at h
        exact ⟨q / 4, q % 4, by omega, by omega, h, by
          by_cases hh : TRest xs ss hs ks (q / 4) (q % 4)
          · exact hh
          · rw [pb_false hh] at hp; exact absurd hp (by decide)⟩
    · obtain ⟨s, r, h1, h2, h3⟩ := trL_mem q h
      exact ⟨s, r, h1, by omega, h3⟩
theorem trL_in {xs ss hs ks} {s r : Nat} (hr : r < 4) (h : TRest xs ss hs ks s r) : ∀ q, 4 * s + r < q → [(s : Int), (r : Int)] ∈ trL xs ss hs ks q
  | 0, h => absurd h (by omega)
  | q + 1, hq => by
    by_cases e : q = 4 * s + r
    · subst e; rw [trL_yes hr h]; simp
    · have := trL_in hr h q (by omega)
      rw [trL]
      split
      · exact List.mem_append_left _ this
      · exact this
noncomputable def trF (xs : List Int) (ss hs ks : List (List Int)) : List (List Int) := if pb (VTk xs ss hs ks) then trL xs ss hs ks 16 else []
theorem trF_yes {xs ss hs ks} (v : VTk xs ss hs ks) : trF xs ss hs ks = trL xs ss hs ks 16 := by unfold trF; rw [if_pos (pb_true v)]
theorem trF_no {xs ss hs ks} (v : ¬ VTk xs ss hs ks) : trF xs ss hs ks = [] := by unfold trF; rw [if_neg (by rw [pb_false v]; decide)]

/-- A talk and what it pays, in boxes. -/
structure RST (p : TP) (w : World) (xs : List Int) (ss hs ks : List (List Int)) (g7 : Nat) (X Y : Int) (W : World) : Prop where
  t : TB p W w.heap.size xs ss hs ks
  k7 : Blk W g7 56 #[.int .i64 X, .int .i64 Y]
  b : Below w.heap.size w W
theorem RST.up {p w xs ss hs ks g7 X Y W W'} (h : RST p w xs ss hs ks g7 X Y W) (k : Below W.heap.size W W') : RST p w xs ss hs ks g7 X Y W' := ⟨h.t.up k, blk_below h.k7 k, below_up h.b k⟩
set_option maxRecDepth 100000 in
set_option maxHeartbeats 3200000 in
theorem isTalkRest_any (p : TP) (xs : List Int) (ss hs ks : List (List Int)) (s r : Nat) (w : World) (h : TV p w xs ss hs ks) (hs4 : s < 4) (hr4 : r < 4) :
    Calls Try.prog 55 #[.agg #[.slice (some ⟨p.b1, p.o1, none⟩) 2 p.c1, .slice (some ⟨p.b2, p.o2, none⟩) 2 p.c2, .slice (some ⟨p.b3, p.o3, none⟩) 2 p.c3, .slice (some ⟨p.b4, p.o4, none⟩) 2 p.c4], .int .i64 (s : Int), .int .i64 (r : Int)] w (Ret (.bool (pb (TRest xs ss hs ks s r))) w) := by
  have HB := Lib.hid (TB.start h)
  have HD := Lib.hid (below_alloc w (.cells #[.slice (some ⟨p.b1, p.o1, none⟩) 2 p.c1, .slice (some ⟨p.b2, p.o2, none⟩) 2 p.c2, .slice (some ⟨p.b3, p.o3, none⟩) 2 p.c3, .slice (some ⟨p.b4, p.o4, none⟩) 2 p.c4] 26))
  clear h
  have q0 := HB.out.c0
  have q1 := HB.out.c1
  have q2 := HB.out.c2
  have q3 := HB.out.c3
  go_enter Try.func55, Try.ntmps55
  go_wp2_with fail
  clear q0 q1 q2 q3
  generalize w.alloc (.cells #[.slice (some ⟨p.b1, p.o1, none⟩) 2 p.c1, .slice (some ⟨p.b2, p.o2, none⟩) 2 p.c2, .slice (some ⟨p.b3, p.o3, none⟩) 2 p.c3, .slice (some ⟨p.b4, p.o4, none⟩) 2 p.c4] 26) = W0 at *
  refine (talkPays_any p xs ss hs ks s r _ HB.out.t hs4 hr4).mono ?_
  rintro e w1 ⟨rfl, hb⟩
  have HR := Lib.hid (show RST p w xs ss hs ks w1.heap.size (spk ss ks s r 0) (spk ss ks s r 1) (w1.alloc (.cells #[.int .i64 (spk ss ks s r 0), .int .i64 (spk ss ks s r 1)] 56)) from
    ⟨(HB.out.up hb).up (below_alloc _ _), blk_new _ _ _, below_up (below_up HD.out hb) (below_alloc _ _)⟩)
  have HNO := Lib.hid (show ∀ x, x < 4 → ¬ Dev xs ss hs ks s r x → pb (TRest xs ss hs ks s r) = false from fun x hx h => pb_false fun t => h (t x hx))
  have HDV := Lib.hid (show ∀ x, Dev xs ss hs ks s r x ↔ spk ss ks x r 0 ≤ spk ss ks s r 0 ∧ spk ss ks x r 1 ≤ spk ss ks s r 1 ∧ hea xs hs s x ≤ hea xs hs s r from fun _ => Iff.rfl)
  clear hb HB HD
  generalize spk ss ks s r 0 = X at *
  generalize spk ss ks s r 1 = Y at *
  generalize hea xs hs s r = E at *
  go_wp2
  generalize w1.alloc (.cells #[.int .i64 X, .int .i64 Y] 56) = W2 at *
  generalize w1.heap.size = g7 at *
  go_loopw [21] (fun i wr => ∃ x : Nat, x ≤ 4 ∧ i = .int .i64 x ∧ Hid (∀ y, y < x → Dev xs ss hs ks s r y) ∧ Hid (RST p w xs ss hs ks g7 X Y wr)) (fun i _ => 4 - (intOf i).toNat)
  case atStart => exact ⟨0, by omega, rfl, Lib.hid (fun _ h => absurd h (by omega)), HR⟩
  case round =>
    clear HR
    obtain ⟨x, hx, rfl, HALL, HR⟩ := hrel
    by_cases hx4 : x < 4
    · have hxi : (x : Int) < 4 := by omega
      have q0 := HR.out.t.c0
      have q1 := HR.out.t.c1
      have q2 := HR.out.t.c2
      have q3 := HR.out.t.c3
      go_wp2_with fail
      clear q0 q1 q2 q3
      refine (talkPays_any p xs ss hs ks x r _ HR.out.t.t hx4 hr4).mono ?_
      rintro e w3 ⟨rfl, hb⟩
      have hn := HNO.out x hx4
      rw [HDV.out x] at hn
      have HN := Lib.hid hn
      have hd := (HDV.out x).2
      have HDX := Lib.hid hd
      clear hn hd
      generalize spk ss ks x r 0 = U at *
      generalize spk ss ks x r 1 = V at *
      generalize hea xs hs x r = Q at *
      have K10 := Lib.hid (blk_new w3 56 #[.int .i64 U, .int .i64 V])
      have HR2 := Lib.hid ((HR.out.up hb).up (below_alloc w3 (.cells #[.int .i64 U, .int .i64 V] 56)))
      clear hb HR
      have q0 := HR2.out.t.c0
      have q1 := HR2.out.t.c1
      have q2 := HR2.out.t.c2
      have q3 := HR2.out.t.c3
      go_wp2_with fail
      clear q0 q1 q2 q3
      generalize w3.alloc (.cells #[.int .i64 U, .int .i64 V] 56) = W3 at *
      generalize w3.heap.size = g10 at *
      refine (talkPays_any p xs ss hs ks s x _ HR2.out.t.t hs4 hx4).mono ?_
      rintro e w4 ⟨rfl, hb⟩
      generalize hea xs hs s x = M at *
      generalize spk ss ks s x 0 = F at *
      generalize spk ss ks s x 1 = G at *
      have HR3 := Lib.hid ((HR2.out.up hb).up (below_alloc w4 (.cells #[.int .i64 F, .int .i64 G] 56)))
      have K3 := Lib.hid (blk_below (blk_below K10.out hb) (below_alloc w4 (.cells #[.int .i64 F, .int .i64 G] 56)))
      clear hb HR2 K10
      have a0 := blk_cell K3.out (i := 0) rfl
      have a1 := blk_cell K3.out (i := 1) rfl
      have b0 := blk_cell HR3.out.k7 (i := 0) rfl
      have b1 := blk_cell HR3.out.k7 (i := 1) rfl
      by_cases e1 : X < U
      · have f1 : decide (X < U) = true := by simpa using e1
        have HF := Lib.hid (HN.out (fun h => by omega))
        clear HN HDX
        go_wp2
        go_ret
        exact ⟨ret_bool HF.out.symm, HR3.out.b⟩
      have f1 : decide (X < U) = false := by simpa using e1
      by_cases e2 : Y < V
      · have f2 : decide (Y < V) = true := by simpa using e2
        have HF := Lib.hid (HN.out (fun h => by omega))
        clear HN HDX
        go_wp2
        go_ret
        exact ⟨ret_bool HF.out.symm, HR3.out.b⟩
      have f2 : decide (Y < V) = false := by simpa using e2
      by_cases e3 : E < M
      · have f3 : decide (E < M) = true := by simpa using e3
        have HF := Lib.hid (HN.out (fun h => by omega))
        clear HN HDX
        go_wp2
        go_ret
        exact ⟨ret_bool HF.out.symm, HR3.out.b⟩
      have f3 : decide (E < M) = false := by simpa using e3
      have HY := Lib.hid (HDX.out ⟨by omega, by omega, by omega⟩)
      clear HN HDX e1 e2 e3
      go_wp2
      go_roundw
      case rel => exact ⟨x + 1, by omega, by go_num, Lib.hid (fun y hy => by
        by_cases hyx : y < x
        · exact HALL.out y hyx
        · obtain rfl : y = x := by omega
          exact HY.out), HR3⟩
      case measure => simp [intOf]; omega
    · obtain rfl : x = 4 := by omega
      have HT := Lib.hid (pb_true (p := TRest xs ss hs ks s r) HALL.out)
      go_wp2
      go_ret
      exact ⟨ret_bool HT.out.symm, HR.out.b⟩
theorem NewT.is_ {w w' : World} {a b : List (List Int)} {e : Ending} (h : a = b) (k : NewT w a e w') : NewT w b e w' := h ▸ k
set_option maxRecDepth 100000 in
set_option maxHeartbeats 6400000 in
theorem TalkRests_impl (A1 A2 A3 A4 : Option Addr) (n1 c1 n2 c2 n3 c3 n4 c4 : Nat) (xs : List Int) (ss hs ks : List (List Int)) (w : World) (h : TkR w A1 A2 A3 A4 n1 c1 n2 c2 n3 c3 n4 c4 xs ss hs ks) :
    Calls Try.prog 23 #[.agg #[.slice A1 n1 c1, .slice A2 n2 c2, .slice A3 n3 c3, .slice A4 n4 c4]] w (NewT w (trF xs ss hs ks)) := by
  have HT := Lib.hid (TLX.start 26 h)
  have HB := Lib.hid (below_alloc w (.cells #[.slice A1 n1 c1, .slice A2 n2 c2, .slice A3 n3 c3, .slice A4 n4 c4] 26))
  by_cases v : VTk xs ss hs ks
  rotate_left
  · have HN := Lib.hid (trF_no v)
    have q0 := HT.out.c0
    have q1 := HT.out.c1
    have q2 := HT.out.c2
    have q3 := HT.out.c3
    clear h
    go_enter Try.func23, Try.ntmps23
    go_wp2_with fail
    clear q0 q1 q2 q3
    generalize w.alloc (.cells #[.slice A1 n1 c1, .slice A2 n2 c2, .slice A3 n3 c3, .slice A4 n4 c4] 26) = W0 at *
    refine (pb_false v ▸ ValidTalk_impl _ _ _ _ _ _ _ _ _ _ _ _ _ _ _ _ _ HT.out.r).mono ?_
    rintro e w1 ⟨rfl, hb⟩
    have HB2 := Lib.hid (below_up HB.out hb)
    clear hb
    go_wp2
    go_ret
    exact NewT.none HB2.out HN.out
  obtain ⟨p, ⟨rfl, rfl, rfl, rfl⟩, ⟨rfl, rfl, rfl, rfl⟩, ⟨rfl, rfl, rfl, rfl⟩, hv⟩ := h.tv v
  have HN := Lib.hid (trF_yes v)
  have HTB := Lib.hid (TB.start hv)
  clear h hv HT
  have q0 := HTB.out.c0
  have q1 := HTB.out.c1
  have q2 := HTB.out.c2
  have q3 := HTB.out.c3
  go_enter Try.func23, Try.ntmps23
  go_wp2_with fail
  clear q0 q1 q2 q3
  generalize w.alloc (.cells #[.slice (some ⟨p.b1, p.o1, none⟩) 2 p.c1, .slice (some ⟨p.b2, p.o2, none⟩) 2 p.c2, .slice (some ⟨p.b3, p.o3, none⟩) 2 p.c3, .slice (some ⟨p.b4, p.o4, none⟩) 2 p.c4] 26) = W0 at *
  refine (pb_true v ▸ ValidTalk_impl _ _ _ _ _ _ _ _ _ _ _ _ _ _ _ _ _ HTB.out.t.r).mono ?_
  rintro e w1 ⟨rfl, hb⟩
  have HT := Lib.hid (HTB.out.up hb)
  have HB2 := Lib.hid (below_up HB.out hb)
  clear hb HTB HB v
  have HS0 := Lib.hid (TM.nil w1)
  have hz := blk_lt HT.out.box
  go_wp2
  go_loopw [3, 9] (fun v i wr => ∃ (s : Nat) (vs : List Value), s ≤ 4 ∧ i = .int .i64 s ∧ Hid (TM w1 v vs (trL xs ss hs ks (4 * s)) wr)) (fun _ i _ => 4 - (intOf i).toNat)
  case atStart => exact ⟨0, [], by omega, rfl, HS0⟩
  case round =>
    clear HS0
    obtain ⟨s, vs, hs_, rfl, HM⟩ := hrel
    obtain ⟨Av, cv, rfl⟩ := HM.out.bo.form
    by_cases hs4 : s < 4
    · have hsi : (s : Int) < 4 := by omega
      go_wp2
      go_loopw [3, 12] (fun v i wr => ∃ (r : Nat) (vs : List Value), r ≤ 4 ∧ i = .int .i64 r ∧ Hid (TM w1 v vs (trL xs ss hs ks (4 * s + r)) wr)) (fun _ i _ => 4 - (intOf i).toNat)
      case atStart => exact ⟨0, vs, by omega, rfl, HM⟩
      case round =>
        clear HM
        obtain ⟨r, vs, hr_, rfl, HM⟩ := hrel
        obtain ⟨Av, cv, rfl⟩ := HM.out.bo.form
        by_cases hr4 : r < 4
        · have hri : (r : Int) < 4 := by omega
          have H1 := Lib.hid (HT.out.up HM.out.up)
          have q0 := H1.out.c0
          have q1 := H1.out.c1
          have q2 := H1.out.c2
          have q3 := H1.out.c3
          by_cases hrest : TRest xs ss hs ks s r
          · have HC := Lib.hid (pb_true hrest ▸ isTalkRest_any p xs ss hs ks s r wr H1.out.t hs4 hr4)
            have HST := Lib.hid (trL_yes hr4 hrest)
            have HLA := Lib.hid (trL_len xs ss hs ks (4 * s + r))
            clear hrest
            generalize trL xs ss hs ks (4 * s + r) = acc at *
            go_wp2_with fail
            clear q0 q1 q2 q3
            refine HC.out.mono ?_
            rintro e w3 ⟨rfl, hb⟩
            have HM2 := Lib.hid (HM.out.next hb)
            clear hb HC HM H1
            have hb3 := below_alloc w3 (.cells #[.int .i64 (s : Int), .int .i64 (r : Int)] 3)
            have hb4 := below_alloc (w3.alloc (.cells #[.int .i64 (s : Int), .int .i64 (r : Int)] 3)) (.cells #[.slice (some ⟨w3.heap.size, 0, none⟩) 2 2] 23)
            have HB4 := Lib.hid ((HM2.out.bo.below hb3).below hb4).own
            have HN1 := Lib.hid (cell_one_new (w3.alloc (.cells #[.int .i64 (s : Int), .int .i64 (r : Int)] 3)) (.slice (some ⟨w3.heap.size, 0, none⟩) 2 2) 23)
            have HPO := Lib.hid (pair_own (lo := w3.heap.size) (w := w3) (s : Int) (r : Int) (by omega) (by omega) (Nat.le_refl _))
            have hlh : w1.heap.size ≤ w3.heap.size := HM2.out.up.size
            clear hb3 hb4
            obtain ⟨i0, hi0, hz0, hz1, hz2⟩ := info_parts Try.info_row
            go_wp2_with (at_builtin; refine wpList_append_own_at _ rfl _ _ 24 rfl w1.heap.size 23 i0 (.slice none 0 0) 1 24 Try.underlying24 hi0 hz0 hz1 hz2 rfl (by decide) _ acc.length vs rfl HB4.out ⟨w3.heap.size + 1, 0, none⟩ 1 1 [.slice (some ⟨w3.heap.size, 0, none⟩) 2 2] rfl rfl ?c1 ?c2 ?c3 ?c4 ?c5 ?_)
            case c1 => have h := HN1.out; rw [World.size_alloc] at h; exact h
            case c2 => intro u hu; simp at hu; subst hu; rfl
            case c3 => have := HLA.out; unfold maxLen; omega
            case c4 => have := HLA.out; omega
            case c5 => simp; omega
            intro v' w5 hown' hgrow _ hat
            have HM5 := Lib.hid (HM2.out.push (r := [(s : Int), (r : Int)]) (below_alloc w3 (.cells #[.int .i64 (s : Int), .int .i64 (r : Int)] 3)) (HPO.out.mono (Nat.le_refl _) (by simp)) hown' hgrow (by simpa using hat))
            clear HB4 HN1 HPO hown' hgrow hat HLA HM2
            go_wp2
            go_roundw
            case rel => exact ⟨r + 1, _, by omega, by go_num, Lib.hid (by have h := HST.out; rw [Nat.add_assoc] at h; rw [h]; exact HM5.out)⟩
            case measure => simp [intOf]; omega
          · have HC := Lib.hid (pb_false hrest ▸ isTalkRest_any p xs ss hs ks s r wr H1.out.t hs4 hr4)
            have HST := Lib.hid (trL_no hr4 hrest)
            clear hrest
            go_wp2_with fail
            clear q0 q1 q2 q3
            refine HC.out.mono ?_
            rintro e w3 ⟨rfl, hb⟩
            have HM2 := Lib.hid (HM.out.next hb)
            clear hb HC HM H1
            go_wp2
            go_roundw
            case rel => exact ⟨r + 1, _, by omega, by go_num, Lib.hid (by have h := HST.out; rw [Nat.add_assoc] at h; rw [h]; exact HM2.out)⟩
            case measure => simp [intOf]; omega
        · obtain rfl : r = 4 := by omega
          go_wp2
          go_roundw
          case rel => exact ⟨s + 1, _, by omega, by go_num, Lib.hid (by have h := HM.out; rw [show 4 * s + 4 = 4 * (s + 1) by omega] at h; exact h)⟩
          case measure => simp [intOf]; omega
    · obtain rfl : s = 4 := by omega
      have HF := Lib.hid (HM.out.new (by have := trL_len xs ss hs ks (4 * 4); omega))
      go_wp2
      go_ret
      exact NewT.from HB2.out (NewT.is_ HN.out.symm HF.out)

end Go.Proofs.Ytcjanlbhgfadpaa

/- Where talks rest, by the model. -/
namespace Go.Proofs.Ytcjanlbhgfadpaa
open Go.RowKit

/-- A talk in a box, and what it pays in a list. -/
structure RLT (p : TP) (w : World) (xs : List Int) (ss hs ks : List (List Int)) (A : Option Addr) (c : Nat) (X Y : Int) (W : World) : Prop where
  t : TB p W w.heap.size xs ss hs ks
  l : Ints W A 2 c [X, Y]
  b : Below w.heap.size w W
theorem RLT.up {p w xs ss hs ks A c X Y W W'} (h : RLT p w xs ss hs ks A c X Y W) (k : Below W.heap.size W W') : RLT p w xs ss hs ks A c X Y W' := ⟨h.t.up k, h.l.keep (Keep.below k), below_up h.b k⟩
theorem ints2_at {w : World} {A : Option Addr} {c : Nat} {X Y : Int} (h : Ints w A 2 c [X, Y]) : ∃ b o, A = some ⟨b, o, none⟩ ∧ w.cell? ⟨b, o, none⟩ = some (.int .i64 X) ∧ w.cell? ⟨b, o + 1, none⟩ = some (.int .i64 Y) := by
  obtain ⟨b, o, e, hc⟩ := h.at_ (by omega)
  exact ⟨b, o, e, hc 0 (by omega), hc 1 (by omega)⟩
set_option maxRecDepth 100000 in
set_option maxHeartbeats 3200000 in
theorem talkRests_any (p : TP) (xs : List Int) (ss hs ks : List (List Int)) (s r : Nat) (w : World) (h : TV p w xs ss hs ks) (hs4 : s < 4) (hr4 : r < 4) :
    Calls Try.prog 56 #[.agg #[.slice (some ⟨p.b1, p.o1, none⟩) 2 p.c1, .slice (some ⟨p.b2, p.o2, none⟩) 2 p.c2, .slice (some ⟨p.b3, p.o3, none⟩) 2 p.c3, .slice (some ⟨p.b4, p.o4, none⟩) 2 p.c4], .int .i64 (s : Int), .int .i64 (r : Int)] w (Ret (.bool (pb (TRest xs ss hs ks s r))) w) := by
  have HB := Lib.hid (TB.start h)
  have HD := Lib.hid (below_alloc w (.cells #[.slice (some ⟨p.b1, p.o1, none⟩) 2 p.c1, .slice (some ⟨p.b2, p.o2, none⟩) 2 p.c2, .slice (some ⟨p.b3, p.o3, none⟩) 2 p.c3, .slice (some ⟨p.b4, p.o4, none⟩) 2 p.c4] 26))
  clear h
  have q0 := HB.out.c0
  have q1 := HB.out.c1
  have q2 := HB.out.c2
  have q3 := HB.out.c3
  go_enter Try.func56, Try.ntmps56
  go_wp2_with fail
  clear q0 q1 q2 q3
  generalize w.alloc (.cells #[.slice (some ⟨p.b1, p.o1, none⟩) 2 p.c1, .slice (some ⟨p.b2, p.o2, none⟩) 2 p.c2, .slice (some ⟨p.b3, p.o3, none⟩) 2 p.c3, .slice (some ⟨p.b4, p.o4, none⟩) 2 p.c4] 26) = W0 at *
  refine (says_any p xs ss hs ks s r _ HB.out.t hs4 hr4).mono ?_
  rintro e w1 ⟨A1, k1, gg, rfl, ho, -, hb⟩
  have HR := Lib.hid (show RLT p w xs ss hs ks A1 k1 (spk ss ks s r 0) (spk ss ks s r 1) w1 from ⟨HB.out.up hb, ho.ints, below_up HD.out hb⟩)
  have HNO := Lib.hid (show ∀ x, x < 4 → ¬ Dev xs ss hs ks s r x → pb (TRest xs ss hs ks s r) = false from fun x hx h => pb_false fun t => h (t x hx))
  have HDV := Lib.hid (show ∀ x, Dev xs ss hs ks s r x ↔ spk ss ks x r 0 ≤ spk ss ks s r 0 ∧ spk ss ks x r 1 ≤ spk ss ks s r 1 ∧ hea xs hs s x ≤ hea xs hs s r from fun _ => Iff.rfl)
  clear hb HB HD ho
  generalize spk ss ks s r 0 = X at *
  generalize spk ss ks s r 1 = Y at *
  generalize hea xs hs s r = E at *
  go_wp2
  go_loopw [9] (fun i wr => ∃ x : Nat, x ≤ 4 ∧ i = .int .i64 x ∧ Hid (∀ y, y < x → Dev xs ss hs ks s r y) ∧ Hid (RLT p w xs ss hs ks A1 k1 X Y wr)) (fun i _ => 4 - (intOf i).toNat)
  case atStart => exact ⟨0, by omega, rfl, Lib.hid (fun _ h => absurd h (by omega)), HR⟩
  case round =>
    clear HR
    obtain ⟨x, hx, rfl, HALL, HR⟩ := hrel
    by_cases hx4 : x < 4
    · have hxi : (x : Int) < 4 := by omega
      have q0 := HR.out.t.c0
      have q1 := HR.out.t.c1
      have q2 := HR.out.t.c2
      have q3 := HR.out.t.c3
      go_wp2_with fail
      clear q0 q1 q2 q3
      refine (says_any p xs ss hs ks x r _ HR.out.t.t hx4 hr4).mono ?_
      rintro e w3 ⟨A3, k3, gg3, rfl, ho, -, hb⟩
      have hn := HNO.out x hx4
      rw [HDV.out x] at hn
      have HN := Lib.hid hn
      have hd := (HDV.out x).2
      have HDX := Lib.hid hd
      have HO := Lib.hid ho.ints
      clear hn hd ho
      generalize spk ss ks x r 0 = U at *
      generalize spk ss ks x r 1 = V at *
      generalize hea xs hs x r = Q at *
      have HR2 := Lib.hid (HR.out.up hb)
      clear hb HR
      obtain ⟨b3, o3, rfl, a0, a1⟩ := ints2_at HO.out
      obtain ⟨b1, o1, e1, c0, c1⟩ := ints2_at HR2.out.l
      by_cases e1' : X < U
      · subst e1
        have f1 : decide (X < U) = true := by simpa using e1'
        have HF := Lib.hid (HN.out (fun h => by omega))
        clear HN HDX
        go_wp2
        go_quiet (fail)
        go_wp2
        go_ret
        exact ⟨ret_bool HF.out.symm, below_drewN HR2.out.b _⟩
      have f1 : decide (X < U) = false := by simpa using e1'
      by_cases e2 : Y < V
      · subst e1
        have f2 : decide (Y < V) = true := by simpa using e2
        have HF := Lib.hid (HN.out (fun h => by omega))
        clear HN HDX
        go_wp2
        go_quiet (fail)
        go_wp2
        go_ret
        exact ⟨ret_bool HF.out.symm, below_drewN HR2.out.b _⟩
      have f2 : decide (Y < V) = false := by simpa using e2
      rw [e1]
      go_wp2
      go_quiet (fail)
      rw [← e1]
      clear a0 a1 c0 c1 e1
      have HR3 := Lib.hid (HR2.out.up (Quiet.below ⟨nq, rfl⟩))
      have q0 := HR3.out.t.c0
      have q1 := HR3.out.t.c1
      have q2 := HR3.out.t.c2
      have q3 := HR3.out.t.c3
      go_wp2_with fail
      clear q0 q1 q2 q3
      refine (says_any p xs ss hs ks s x _ HR3.out.t.t hs4 hx4).mono ?_
      rintro e w4 ⟨A4, k4, gg4, rfl, -, -, hb⟩
      generalize hea xs hs s x = M at *
      generalize [spk ss ks s x 0, spk ss ks s x 1] = L4 at *
      have HR4 := Lib.hid (HR3.out.up hb)
      clear hb HR3
      by_cases e3 : E < M
      · have f3 : decide (E < M) = true := by simpa using e3
        have HF := Lib.hid (HN.out (fun h => by omega))
        clear HN HDX
        go_wp2
        go_ret
        exact ⟨ret_bool HF.out.symm, HR4.out.b⟩
      have f3 : decide (E < M) = false := by simpa using e3
      have HY := Lib.hid (HDX.out ⟨by omega, by omega, by omega⟩)
      clear HN HDX e1' e2 e3
      go_wp2
      go_roundw
      case rel => exact ⟨x + 1, by omega, by go_num, Lib.hid (fun y hy => by
        by_cases hyx : y < x
        · exact HALL.out y hyx
        · obtain rfl : y = x := by omega
          exact HY.out), HR4⟩
      case measure => simp [intOf]; omega
    · obtain rfl : x = 4 := by omega
      have HT := Lib.hid (pb_true (p := TRest xs ss hs ks s r) HALL.out)
      go_wp2
      go_ret
      exact ⟨ret_bool HT.out.symm, HR.out.b⟩
set_option maxRecDepth 100000 in
set_option maxHeartbeats 6400000 in
theorem TalkRests_spec (A1 A2 A3 A4 : Option Addr) (n1 c1 n2 c2 n3 c3 n4 c4 : Nat) (xs : List Int) (ss hs ks : List (List Int)) (w : World) (h : TkR w A1 A2 A3 A4 n1 c1 n2 c2 n3 c3 n4 c4 xs ss hs ks) :
    Calls Try.prog 25 #[.agg #[.slice A1 n1 c1, .slice A2 n2 c2, .slice A3 n3 c3, .slice A4 n4 c4]] w (NewT w (trF xs ss hs ks)) := by
  have HT := Lib.hid (TLX.start 26 h)
  have HB := Lib.hid (below_alloc w (.cells #[.slice A1 n1 c1, .slice A2 n2 c2, .slice A3 n3 c3, .slice A4 n4 c4] 26))
  by_cases v : VTk xs ss hs ks
  rotate_left
  · have HN := Lib.hid (trF_no v)
    have q0 := HT.out.c0
    have q1 := HT.out.c1
    have q2 := HT.out.c2
    have q3 := HT.out.c3
    clear h
    go_enter Try.func25, Try.ntmps25
    go_wp2_with fail
    clear q0 q1 q2 q3
    generalize w.alloc (.cells #[.slice A1 n1 c1, .slice A2 n2 c2, .slice A3 n3 c3, .slice A4 n4 c4] 26) = W0 at *
    refine (pb_false v ▸ validTalk_any _ _ _ _ _ _ _ _ _ _ _ _ _ _ _ _ _ HT.out.r).mono ?_
    rintro e w1 ⟨rfl, hb⟩
    have HB2 := Lib.hid (below_up HB.out hb)
    clear hb
    go_wp2
    go_ret
    exact NewT.none HB2.out HN.out
  obtain ⟨p, ⟨rfl, rfl, rfl, rfl⟩, ⟨rfl, rfl, rfl, rfl⟩, ⟨rfl, rfl, rfl, rfl⟩, hv⟩ := h.tv v
  have HN := Lib.hid (trF_yes v)
  have HTB := Lib.hid (TB.start hv)
  clear h hv HT
  have q0 := HTB.out.c0
  have q1 := HTB.out.c1
  have q2 := HTB.out.c2
  have q3 := HTB.out.c3
  go_enter Try.func25, Try.ntmps25
  go_wp2_with fail
  clear q0 q1 q2 q3
  generalize w.alloc (.cells #[.slice (some ⟨p.b1, p.o1, none⟩) 2 p.c1, .slice (some ⟨p.b2, p.o2, none⟩) 2 p.c2, .slice (some ⟨p.b3, p.o3, none⟩) 2 p.c3, .slice (some ⟨p.b4, p.o4, none⟩) 2 p.c4] 26) = W0 at *
  refine (pb_true v ▸ validTalk_any _ _ _ _ _ _ _ _ _ _ _ _ _ _ _ _ _ HTB.out.t.r).mono ?_
  rintro e w1 ⟨rfl, hb⟩
  have HT := Lib.hid (HTB.out.up hb)
  have HB2 := Lib.hid (below_up HB.out hb)
  clear hb HTB HB v
  have HS0 := Lib.hid (TM.start w1)
  have hz := blk_lt HT.out.box
  go_wp2
  go_loopw [3, 4] (fun v i wr => ∃ (s : Nat) (vs : List Value), s ≤ 4 ∧ i = .int .i64 s ∧ Hid (TM w1 v vs (trL xs ss hs ks (4 * s)) wr)) (fun _ i _ => 4 - (intOf i).toNat)
  case atStart => exact ⟨0, [], by omega, rfl, HS0⟩
  case round =>
    clear HS0
    obtain ⟨s, vs, hs_, rfl, HM⟩ := hrel
    obtain ⟨Av, cv, rfl⟩ := HM.out.bo.form
    by_cases hs4 : s < 4
    · have hsi : (s : Int) < 4 := by omega
      go_wp2
      go_loopw [3, 5] (fun v i wr => ∃ (r : Nat) (vs : List Value), r ≤ 4 ∧ i = .int .i64 r ∧ Hid (TM w1 v vs (trL xs ss hs ks (4 * s + r)) wr)) (fun _ i _ => 4 - (intOf i).toNat)
      case atStart => exact ⟨0, vs, by omega, rfl, HM⟩
      case round =>
        clear HM
        obtain ⟨r, vs, hr_, rfl, HM⟩ := hrel
        obtain ⟨Av, cv, rfl⟩ := HM.out.bo.form
        by_cases hr4 : r < 4
        · have hri : (r : Int) < 4 := by omega
          have H1 := Lib.hid (HT.out.up HM.out.up)
          have q0 := H1.out.c0
          have q1 := H1.out.c1
          have q2 := H1.out.c2
          have q3 := H1.out.c3
          by_cases hrest : TRest xs ss hs ks s r
          · have HC := Lib.hid (pb_true hrest ▸ talkRests_any p xs ss hs ks s r wr H1.out.t hs4 hr4)
            have HST := Lib.hid (trL_yes hr4 hrest)
            have HLA := Lib.hid (trL_len xs ss hs ks (4 * s + r))
            clear hrest
            generalize trL xs ss hs ks (4 * s + r) = acc at *
            go_wp2_with fail
            clear q0 q1 q2 q3
            refine HC.out.mono ?_
            rintro e w3 ⟨rfl, hb⟩
            have HM2 := Lib.hid (HM.out.next hb)
            clear hb HC HM H1
            have hb3 := below_alloc w3 (.cells #[.int .i64 (s : Int), .int .i64 (r : Int)] 3)
            have hb4 := below_alloc (w3.alloc (.cells #[.int .i64 (s : Int), .int .i64 (r : Int)] 3)) (.cells #[.slice (some ⟨w3.heap.size, 0, none⟩) 2 2] 23)
            have HB4 := Lib.hid ((HM2.out.bo.below hb3).below hb4).own
            have HN1 := Lib.hid (cell_one_new (w3.alloc (.cells #[.int .i64 (s : Int), .int .i64 (r : Int)] 3)) (.slice (some ⟨w3.heap.size, 0, none⟩) 2 2) 23)
            have HPO := Lib.hid (pair_own (lo := w3.heap.size) (w := w3) (s : Int) (r : Int) (by omega) (by omega) (Nat.le_refl _))
            have hlh : w1.heap.size ≤ w3.heap.size := HM2.out.up.size
            clear hb3 hb4
            obtain ⟨i0, hi0, hz0, hz1, hz2⟩ := info_parts Try.info_row
            go_wp2_with (at_builtin; refine wpList_append_own_at _ rfl _ _ 24 rfl w1.heap.size 23 i0 (.slice none 0 0) 1 24 Try.underlying24 hi0 hz0 hz1 hz2 rfl (by decide) _ acc.length vs rfl HB4.out ⟨w3.heap.size + 1, 0, none⟩ 1 1 [.slice (some ⟨w3.heap.size, 0, none⟩) 2 2] rfl rfl ?c1 ?c2 ?c3 ?c4 ?c5 ?_)
            case c1 => have h := HN1.out; rw [World.size_alloc] at h; exact h
            case c2 => intro u hu; simp at hu; subst hu; rfl
            case c3 => have := HLA.out; unfold maxLen; omega
            case c4 => have := HLA.out; omega
            case c5 => simp; omega
            intro v' w5 hown' hgrow _ hat
            have HM5 := Lib.hid (HM2.out.push (r := [(s : Int), (r : Int)]) (below_alloc w3 (.cells #[.int .i64 (s : Int), .int .i64 (r : Int)] 3)) (HPO.out.mono (Nat.le_refl _) (by simp)) hown' hgrow (by simpa using hat))
            clear HB4 HN1 HPO hown' hgrow hat HLA HM2
            go_wp2
            go_roundw
            case rel => exact ⟨r + 1, _, by omega, by go_num, Lib.hid (by have h := HST.out; rw [Nat.add_assoc] at h; rw [h]; exact HM5.out)⟩
            case measure => simp [intOf]; omega
          · have HC := Lib.hid (pb_false hrest ▸ talkRests_any p xs ss hs ks s r wr H1.out.t hs4 hr4)
            have HST := Lib.hid (trL_no hr4 hrest)
            clear hrest
            go_wp2_with fail
            clear q0 q1 q2 q3
            refine HC.out.mono ?_
            rintro e w3 ⟨rfl, hb⟩
            have HM2 := Lib.hid (HM.out.next hb)
            clear hb HC HM H1
            go_wp2
            go_roundw
            case rel => exact ⟨r + 1, _, by omega, by go_num, Lib.hid (by have h := HST.out; rw [Nat.add_assoc] at h; rw [h]; exact HM2.out)⟩
            case measure => simp [intOf]; omega
        · obtain rfl : r = 4 := by omega
          go_wp2
          go_roundw
          case rel => exact ⟨s + 1, _, by omega, by go_num, Lib.hid (by have h := HM.out; rw [show 4 * s + 4 = 4 * (s + 1) by omega] at h; exact h)⟩
          case measure => simp [intOf]; omega
    · obtain rfl : s = 4 := by omega
      have HF := Lib.hid (HM.out.new (by have := trL_len xs ss hs ks (4 * 4); omega))
      go_wp2
      go_ret
      exact NewT.from HB2.out (NewT.is_ HN.out.symm HF.out)

end Go.Proofs.Ytcjanlbhgfadpaa

/- What tells, plain; by the model. -/
namespace Go.Proofs.Ytcjanlbhgfadpaa
open Go.RowKit

/-- Types say different things, and are heard. -/
def PTl (s r : Nat) : Prop := (s = 1 ∨ s = 2) ∧ (r = 1 ∨ r = 2)
def Tel (xs : List Int) (ss hs ks : List (List Int)) : Prop := ∃ s r, PTl s r ∧ TRest xs ss hs ks s r
def telOk (xs : List Int) (ss hs ks : List (List Int)) : Prop := VTk xs ss hs ks ∧ Tel xs ss hs ks
set_option maxHeartbeats 1000000 in
theorem parts_any (s r : Nat) (w : World) (hs4 : s < 4) (hr4 : r < 4) : Calls Try.prog 74 #[.int .i64 (s : Int), .int .i64 (r : Int)] w fun e w' => e = .returned (.bool (pb (PTl s r))) ∧ w = w' := by
  have c : s = 0 ∨ s = 1 ∨ s = 2 ∨ s = 3 := by omega
  have d : r = 0 ∨ r = 1 ∨ r = 2 ∨ r = 3 := by omega
  rcases c with rfl | rfl | rfl | rfl <;> rcases d with rfl | rfl | rfl | rfl
  all_goals
    go_enter Try.func74, Try.ntmps74
    go_wp2
    go_ret
    exact ⟨ret_bool (by first | exact (pb_true (by unfold PTl; omega)).symm | exact (pb_false (by unfold PTl; omega)).symm), rfl⟩
set_option maxRecDepth 100000 in
set_option maxHeartbeats 3200000 in
theorem tells_of (p : TP) (xs : List Int) (ss hs ks : List (List Int)) (w : World) (h : TV p w xs ss hs ks) :
    Calls Try.prog 61 #[.agg #[.slice (some ⟨p.b1, p.o1, none⟩) 2 p.c1, .slice (some ⟨p.b2, p.o2, none⟩) 2 p.c2, .slice (some ⟨p.b3, p.o3, none⟩) 2 p.c3, .slice (some ⟨p.b4, p.o4, none⟩) 2 p.c4]] w (Ret (.bool (pb (Tel xs ss hs ks))) w) := by
  have HT := Lib.hid (TB.start h)
  have HD := Lib.hid (below_alloc w (.cells #[.slice (some ⟨p.b1, p.o1, none⟩) 2 p.c1, .slice (some ⟨p.b2, p.o2, none⟩) 2 p.c2, .slice (some ⟨p.b3, p.o3, none⟩) 2 p.c3, .slice (some ⟨p.b4, p.o4, none⟩) 2 p.c4] 26))
  clear h
  go_enter Try.func61, Try.ntmps61
  go_wp2
  generalize w.alloc (.cells #[.slice (some ⟨p.b1, p.o1, none⟩) 2 p.c1, .slice (some ⟨p.b2, p.o2, none⟩) 2 p.c2, .slice (some ⟨p.b3, p.o3, none⟩) 2 p.c3, .slice (some ⟨p.b4, p.o4, none⟩) 2 p.c4] 26) = W0 at *
  go_loopw [3] (fun i wr => ∃ s : Nat, s ≤ 4 ∧ i = .int .i64 s ∧ Hid (∀ a b, b < 4 → 4 * a + b < 4 * s → PTl a b → ¬ TRest xs ss hs ks a b) ∧ Hid (TB p wr w.heap.size xs ss hs ks ∧ Below w.heap.size w wr)) (fun i _ => 4 - (intOf i).toNat)
  case atStart => exact ⟨0, by omega, rfl, Lib.hid (fun _ _ _ h => absurd h (by omega)), Lib.hid ⟨HT.out, HD.out⟩⟩
  case round =>
    clear HT HD
    obtain ⟨s, hs_, rfl, HALL, HT⟩ := hrel
    by_cases hs4 : s < 4
    · have hsi : (s : Int) < 4 := by omega
      go_wp2
      go_loopw [4] (fun i wr => ∃ r : Nat, r ≤ 4 ∧ i = .int .i64 r ∧ Hid (∀ a b, b < 4 → 4 * a + b < 4 * s + r → PTl a b → ¬ TRest xs ss hs ks a b) ∧ Hid (TB p wr w.heap.size xs ss hs ks ∧ Below w.heap.size w wr)) (fun i _ => 4 - (intOf i).toNat)
      case atStart => exact ⟨0, by omega, rfl, HALL, HT⟩
      case round =>
        clear HT HALL
        obtain ⟨r, hr_, rfl, HALL, HT⟩ := hrel
        by_cases hr4 : r < 4
        · have hri : (r : Int) < 4 := by omega
          by_cases hp : PTl s r
          · have H1 := Lib.hid (pb_true hp ▸ parts_any s r wr hs4 hr4)
            have q0 := HT.out.1.c0
            have q1 := HT.out.1.c1
            have q2 := HT.out.1.c2
            have q3 := HT.out.1.c3
            go_wp2_with fail
            refine H1.out.mono ?_
            rintro e w2 ⟨rfl, rfl⟩
            clear H1
            go_wp2_with fail
            clear q0 q1 q2 q3
            by_cases ht : TRest xs ss hs ks s r
            · refine (pb_true ht ▸ talkRests_any p xs ss hs ks s r _ HT.out.1.t hs4 hr4).mono ?_
              rintro e w3 ⟨rfl, hb⟩
              have HB := Lib.hid (below_up HT.out.2 hb)
              have HV := Lib.hid (pb_true (p := Tel xs ss hs ks) ⟨s, r, hp, ht⟩)
              clear hb HT
              go_wp2
              go_ret
              exact ⟨ret_bool HV.out.symm, HB.out⟩
            · refine (pb_false ht ▸ talkRests_any p xs ss hs ks s r _ HT.out.1.t hs4 hr4).mono ?_
              rintro e w3 ⟨rfl, hb⟩
              have HT3 := Lib.hid (And.intro (HT.out.1.up hb) (below_up HT.out.2 hb))
              have HN := Lib.hid ht
              clear hb HT ht hp
              go_wp2
              go_roundw
              case rel => exact ⟨r + 1, by omega, by go_num, Lib.hid (fun a b hb h hq ht => by
                by_cases e : 4 * a + b < 4 * s + r
                · exact HALL.out a b hb e hq ht
                · obtain rfl : a = s := by omega
                  obtain rfl : b = r := by omega
                  exact HN.out ht), HT3⟩
              case measure => simp [intOf]; omega
          · have H1 := Lib.hid (pb_false hp ▸ parts_any s r wr hs4 hr4)
            have HN := Lib.hid hp
            clear hp
            go_wp2_with fail
            refine H1.out.mono ?_
            rintro e w2 ⟨rfl, rfl⟩
            clear H1
            go_wp2
            go_roundw
            case rel => exact ⟨r + 1, by omega, by go_num, Lib.hid (fun a b hb h hq ht => by
              by_cases e : 4 * a + b < 4 * s + r
              · exact HALL.out a b hb e hq ht
              · obtain rfl : a = s := by omega
                obtain rfl : b = r := by omega
                exact HN.out hq), HT⟩
            case measure => simp [intOf]; omega
        · obtain rfl : r = 4 := by omega
          go_wp2
          go_roundw
          case rel => exact ⟨s + 1, by omega, by go_num, Lib.hid (fun a b hb h => HALL.out a b hb (by omega)), HT⟩
          case measure => simp [intOf]; omega
    · obtain rfl : s = 4 := by omega
      have HV := Lib.hid (pb_false (p := Tel xs ss hs ks) (fun ⟨a, b, hq, ht⟩ => HALL.out a b (by unfold PTl at hq; omega) (by unfold PTl at hq; omega) hq ht))
      go_wp2
      go_ret
      exact ⟨ret_bool HV.out.symm, HT.out.2⟩
theorem tells_any (A1 A2 A3 A4 : Option Addr) (n1 c1 n2 c2 n3 c3 n4 c4 : Nat) (xs : List Int) (ss hs ks : List (List Int)) (w : World) (h : TkR w A1 A2 A3 A4 n1 c1 n2 c2 n3 c3 n4 c4 xs ss hs ks) (v : VTk xs ss hs ks) :
    Calls Try.prog 61 #[.agg #[.slice A1 n1 c1, .slice A2 n2 c2, .slice A3 n3 c3, .slice A4 n4 c4]] w (Ret (.bool (pb (Tel xs ss hs ks))) w) := by
  obtain ⟨p, ⟨rfl, rfl, rfl, rfl⟩, ⟨rfl, rfl, rfl, rfl⟩, ⟨rfl, rfl, rfl, rfl⟩, hv⟩ := h.tv v
  exact tells_of p xs ss hs ks w hv
set_option maxHeartbeats 1000000 in
theorem Tells_spec (A1 A2 A3 A4 : Option Addr) (n1 c1 n2 c2 n3 c3 n4 c4 : Nat) (xs : List Int) (ss hs ks : List (List Int)) (w : World) (h : TkR w A1 A2 A3 A4 n1 c1 n2 c2 n3 c3 n4 c4 xs ss hs ks) :
    Calls Try.prog 29 #[.agg #[.slice A1 n1 c1, .slice A2 n2 c2, .slice A3 n3 c3, .slice A4 n4 c4]] w (Ret (.bool (pb (telOk xs ss hs ks))) w) := by
  have HT := Lib.hid (TLX.start 26 h)
  have HB := Lib.hid (below_alloc w (.cells #[.slice A1 n1 c1, .slice A2 n2 c2, .slice A3 n3 c3, .slice A4 n4 c4] 26))
  clear h
  have q0 := HT.out.c0
  have q1 := HT.out.c1
  have q2 := HT.out.c2
  have q3 := HT.out.c3
  go_enter Try.func29, Try.ntmps29
  go_wp2_with fail
  clear q0 q1 q2 q3
  generalize w.alloc (.cells #[.slice A1 n1 c1, .slice A2 n2 c2, .slice A3 n3 c3, .slice A4 n4 c4] 26) = W0 at *
  by_cases v : VTk xs ss hs ks
  · refine (pb_true v ▸ validTalk_any A1 A2 A3 A4 n1 c1 n2 c2 n3 c3 n4 c4 xs ss hs ks _ HT.out.r).mono ?_
    rintro e w1 ⟨rfl, hb⟩
    have HT2 := Lib.hid (HT.out.up hb)
    have HB2 := Lib.hid (below_up HB.out hb)
    clear hb HT HB
    have q0 := HT2.out.c0
    have q1 := HT2.out.c1
    have q2 := HT2.out.c2
    have q3 := HT2.out.c3
    have HV := Lib.hid (show pb (telOk xs ss hs ks) = pb (Tel xs ss hs ks) from pb_congr ⟨fun h => h.2, fun h => ⟨v, h⟩⟩)
    have HC := Lib.hid (tells_any A1 A2 A3 A4 n1 c1 n2 c2 n3 c3 n4 c4 xs ss hs ks _ HT2.out.r v)
    rw [← HV.out] at HC
    clear v HV HT2
    go_wp2_with fail
    clear q0 q1 q2 q3
    refine HC.out.mono ?_
    rintro e w2 ⟨rfl, hb⟩
    have HB3 := Lib.hid (below_up HB2.out hb)
    clear hb HC
    go_wp2
    go_ret
    exact ⟨rfl, HB3.out⟩
  · refine (pb_false v ▸ validTalk_any A1 A2 A3 A4 n1 c1 n2 c2 n3 c3 n4 c4 xs ss hs ks _ HT.out.r).mono ?_
    rintro e w1 ⟨rfl, hb⟩
    have HB2 := Lib.hid (below_up HB.out hb)
    have HV := Lib.hid (pb_false (p := telOk xs ss hs ks) (fun h => v h.1))
    clear hb HT HB v
    go_wp2
    go_ret
    exact ⟨ret_bool HV.out.symm, HB2.out⟩

end Go.Proofs.Ytcjanlbhgfadpaa

/- A region that ends in one frame but for some slots, whatever the order: walked on once. -/
namespace Go.Proofs.Ytcjanlbhgfadpaa
open Go.RowKit

/-- A frame with other values in some slots. -/
def frmL (a : Act) : List Nat → List Value → Act
  | d :: ds, u :: us => frmL (a.put (some d) u) ds us
  | _, _ => a
/-- At the end of a region: the frame but for some slots, and F of these and of the world. -/
def PutQ (a : Act) (ds : List Nat) (F : List Value → World → Prop) : Exit → Act → World → Prop
  | .normal, b, v => ∃ us, b = frmL a ds us ∧ F us v
  | _, _, _ => False
theorem PutQ.mk {a b : Act} {ds : List Nat} {F : List Value → World → Prop} {v : World} (us : List Value) (h : b = frmL a ds us) (f : F us v) : PutQ a ds F .normal b v := ⟨us, h, f⟩
theorem region_put {P : Program} {c : Code} {Q : Exit → Act → World → Prop} {a : Act} {w : World} (ds : List Nat) (F : List Value → World → Prop) (h : c.wp P (PutQ a ds F) a w) (k : ∀ us v, F us v → Q .normal (frmL a ds us) v) : c.wp P Q a w :=
  Code.wp_mono (fun e b v h => by
    cases e <;> first | exact (h : False).elim | (obtain ⟨us, rfl, hf⟩ := (h : ∃ us, b = frmL a ds us ∧ F us v); exact k us v hf)) h
end Go.Proofs.Ytcjanlbhgfadpaa

/- A region that draws its order, by an invariant: each operation is run once, whatever has come up before it. -/
namespace Go.Proofs.Ytcjanlbhgfadpaa
open Go.RowKit

/-- Operation j has come up. -/
def On (L : Array Bool) (j : Nat) : Prop := L.getD j false = true
theorem On.of_set {L : Array Bool} {i j : Nat} (h : On (L.setIfInBounds i true) j) (hne : i ≠ j) : On L j := by
  unfold On at *; rwa [getD_set_ne false hne] at h
theorem On.old {L : Array Bool} {i j : Nat} (h : On L j) : On (L.setIfInBounds i true) j := by
  unfold On at *; exact getD_set_true h
theorem On.not_start {n j : Nat} (h : On (Array.replicate n false) j) : False := by
  unfold On at h
  rcases Nat.lt_or_ge j n with h' | h'
  · simp [h'] at h
  · simp [h'] at h
/-- What an operation waits for. -/
def waitsOn (ops : Array Oper) (i : Nat) : List Nat :=
  match ops[i]? with
  | some o => (o.after.toList.filter (Region.binds .any)).map (·.on)
  | none => []
def earlierB (ops : Array Oper) : Bool := (List.range ops.size).all fun i => (waitsOn ops i).all fun j => decide (j < i)
theorem mem_waits {ops : Array Oper} {i : Nat} {o : Oper} (ho : ops[i]? = some o) {e : Edge} (he : e ∈ o.after) (hb : Region.binds .any e = true) : e.on ∈ waitsOn ops i := by
  unfold waitsOn; rw [ho]; exact List.mem_map.2 ⟨e, List.mem_filter.2 ⟨by simpa using he, hb⟩, rfl⟩
theorem waits_mem {ops : Array Oper} {i j : Nat} {o : Oper} (ho : ops[i]? = some o) (h : j ∈ waitsOn ops i) : ∃ e ∈ o.after, Region.binds .any e = true ∧ e.on = j := by
  unfold waitsOn at h; rw [ho] at h
  obtain ⟨e, he, hj⟩ := List.mem_map.1 h
  obtain ⟨h1, h2⟩ := List.mem_filter.1 he
  exact ⟨e, by simpa using h1, h2, hj⟩

section
variable {P : Program} {ops : Array Oper} {Q : Exit → Act → World → Prop} {I : Array Bool → Act → World → Prop}
/-- The operation i, run in whatever state the invariant allows. -/
def StepI (P : Program) (ops : Array Oper) (Q : Exit → Act → World → Prop) (I : Array Bool → Act → World → Prop) (i : Nat) : Prop :=
  ∀ L a w, I L a w → ¬ On L i → On (L.setIfInBounds i true) i → (∀ j ∈ waitsOn ops i, On L j) → wpOp P ops Q i (fun a' w' => I (L.setIfInBounds i true) a' w') a w
def StepsI (P : Program) (ops : Array Oper) (Q : Exit → Act → World → Prop) (I : Array Bool → Act → World → Prop) (rs : List Nat) : Prop := ∀ i ∈ rs, StepI P ops Q I i
theorem StepsI.nil : StepsI P ops Q I [] := fun _ h => by cases h
theorem StepsI.cons {i : Nat} {o : Oper} {ws rs : List Nat} (ho : ops[i]? = some o) (hw : waitsOn ops i = ws)
    (h : ∀ L a w, I L a w → ¬ On L i → On (L.setIfInBounds i true) i → (∀ j ∈ ws, On L j) → ∀ K' : Act → World → Prop, Shut (∀ a w, I (L.setIfInBounds i true) a w → K' a w) → if Region.wanted o (yielded ops a.tmps) = true then Oper.wp P o a w K' Q else K' (a.put o.dst undef) w)
    (hs : StepsI P ops Q I rs) : StepsI P ops Q I (i :: rs) := fun j hj => by
  rcases List.mem_cons.1 hj with rfl | hj
  · intro L a w hI hn hi hL
    rw [hw] at hL
    exact wpOp_step ho (fun K' hK => h L a w hI hn hi hL K' hK)
  · exact hs j hj

theorem wpAny_inv (hs : ∀ i, i < ops.size → StepI P ops Q I i) (he : earlierB ops = true) (hend : ∀ L a w, (∀ i, i < ops.size → On L i) → I L a w → Q .normal a w) :
    ∀ (fuel : Nat) (L : Array Bool) (a : Act) (w : World), L.size = ops.size → L.toList.countP (fun b => !b) ≤ fuel → I L a w → wpAny P .any ops Q fuel L a w := by
  have hall : ∀ L : Array Bool, L.size = ops.size → Region.ready .any ops L = [] → ∀ i, i < ops.size → On L i := by
    intro L hL hr i
    induction i using Nat.strongRecOn with
    | _ i ih =>
      intro hi
      apply Classical.byContradiction
      intro hn
      have ho : ops[i]? = some ops[i] := Array.getElem?_eq_getElem hi
      have hmem : i ∈ Region.ready .any ops L := by
        rw [mem_ready]
        refine ⟨?_, ops[i], ho, fun e hee hb => ?_⟩
        · have hiL : i < L.size := by omega
          unfold On at hn
          simp only [Array.getD_eq_getD_getElem?, Array.getElem?_eq_getElem hiL, Option.getD_some] at hn ⊢
          cases hx : L[i] with
          | true => exact absurd hx hn
          | false => rfl
        · have hm := mem_waits ho hee hb
          have hlt : e.on < i := by
            unfold earlierB at he
            have h1 := List.all_eq_true.1 he i (List.mem_range.2 hi)
            have h2 := List.all_eq_true.1 h1 _ hm
            simpa using h2
          exact ih e.on hlt (by omega)
      rw [hr] at hmem
      cases hmem
  intro fuel
  induction fuel with
  | zero =>
    intro L a w hL hc hI
    have hon : ∀ i, i < ops.size → On L i := fun i hi => by
      have hiL : i < L.size := by omega
      have h0 : L.toList.countP (fun b => !b) = 0 := by omega
      rw [List.countP_eq_zero] at h0
      have := h0 L[i] (by simp)
      unfold On
      simp only [Array.getD_eq_getD_getElem?, Array.getElem?_eq_getElem hiL, Option.getD_some]
      simpa using this
    refine ⟨?_, hend L a w hon hI⟩
    cases hr : Region.ready .any ops L with
    | nil => rfl
    | cons i rs =>
      have hi : i ∈ Region.ready .any ops L := by rw [hr]; simp
      obtain ⟨h0, o, ho, _⟩ := mem_ready.1 hi
      have hlt : i < ops.size := (Array.getElem?_eq_some_iff.1 ho).1
      have h1 := hon i hlt
      have hiL : i < L.size := by omega
      unfold On at h1
      simp only [Array.getD_eq_getD_getElem?, Array.getElem?_eq_getElem hiL, Option.getD_some] at h0 h1
      rw [h0] at h1; cases h1
  | succ fuel ih =>
    intro L a w hL hc hI
    refine ⟨fun hr => hend L a w (hall L hL hr) hI, fun i hi => ?_⟩
    obtain ⟨h0, o, ho, hw⟩ := mem_ready.1 hi
    have hlt : i < ops.size := (Array.getElem?_eq_some_iff.1 ho).1
    have hiL : i < L.size := by omega
    refine wpOp_mono (fun a' w' h => ih _ a' w' (by simpa using hL) ?_ h) (hs i hlt L a w hI ?_ ?_ (fun j hj => ?_))
    · have hb : L[i] = false := by simpa [Array.getD_eq_getD_getElem?, Array.getElem?_eq_getElem hiL] using h0
      rw [Array.toList_setIfInBounds, List.countP_set (by simpa using hiL)]
      have h1 : 0 < L.toList.countP (fun b => !b) := List.countP_pos_iff.2 ⟨L[i], by simp, by simp [hb]⟩
      have h2 : (if (!L.toList[i]'(by simpa using hiL)) = true then 1 else 0) = 1 := by simp [hb]
      have h3 : (if (!true) = true then 1 else 0) = 0 := by simp
      rw [h2, h3]
      omega
    · unfold On
      simp only [Array.getD_eq_getD_getElem?, Array.getElem?_eq_getElem hiL, Option.getD_some] at h0 ⊢
      rw [h0]; decide
    · unfold On
      simp [hiL]
    · obtain ⟨e, he1, he2, rfl⟩ := waits_mem ho hj
      exact hw e he1 he2

theorem wp_region_inv {id : Nat} {a : Act} {w : World} {rs : List Nat} (I : Array Bool → Act → World → Prop) (hm : P.follows .mixedOrders = true) (h0 : I (Array.replicate ops.size false) a w.drew)
    (hr : List.range ops.size = rs) (he : earlierB ops = true) (hs : StepsI P ops Q I rs) (hend : ∀ L a w, (∀ i, i ∈ rs → On L i) → I L a w → Q .normal a w) : (Code.region id ops true).wp P Q a w :=
  wp_region_any hm (wpAny_inv (I := I) (fun i hi => hs i (by rw [← hr]; exact List.mem_range.2 hi)) he (fun L a w h => hend L a w (fun i hi => h i (by rw [← hr] at hi; exact List.mem_range.1 hi))) ops.size _ a _ (by simp)
    (by rw [Array.toList_replicate]; exact Nat.le_trans List.countP_le_length (by simp)) h0)
end
/-- A frame with other values in some slots, and what is known of these and of the world. -/
def FI (a0 : Act) (ds : List Nat) (J : Array Bool → List Value → World → Prop) (L : Array Bool) (a : Act) (w : World) : Prop := ∃ us, a = frmL a0 ds us ∧ J L us w
theorem wp_region_invF {P : Program} {ops : Array Oper} {Q : Exit → Act → World → Prop} {id : Nat} {a : Act} {w : World} {rs : List Nat} (ds : List Nat) (J : Array Bool → List Value → World → Prop) (hm : P.follows .mixedOrders = true)
    (h0 : ∃ us, a = frmL a ds us ∧ J (Array.replicate ops.size false) us w.drew)
    (hr : List.range ops.size = rs) (he : earlierB ops = true) (hs : StepsI P ops Q (FI a ds J) rs) (hend : ∀ L us w, (∀ i, i ∈ rs → On L i) → J L us w → Q .normal (frmL a ds us) w) : (Code.region id ops true).wp P Q a w :=
  wp_region_inv (FI a ds J) hm h0 hr he hs (fun L a' w h ⟨us, e, hJ⟩ => by subst e; exact hend L us w h hJ)
end Go.Proofs.Ytcjanlbhgfadpaa

/- Tables as arrays of nine numbers. -/
namespace Go.Proofs.Ytcjanlbhgfadpaa
open Go.RowKit

/-- Nine cells, three rows one behind the other. -/
def cs9 (f : Nat → Nat → Int) : Array Value := #[.int .i64 (f 0 0), .int .i64 (f 0 1), .int .i64 (f 0 2), .int .i64 (f 1 0), .int .i64 (f 1 1), .int .i64 (f 1 2), .int .i64 (f 2 0), .int .i64 (f 2 1), .int .i64 (f 2 2)]
def upd9 (f : Nat → Nat → Int) (i j : Nat) (v : Int) : Nat → Nat → Int := fun r c => if r = i ∧ c = j then v else f r c
theorem lt3 {i : Nat} (h : i < 3) : i = 0 ∨ i = 1 ∨ i = 2 := by omega
theorem cs9_get (f : Nat → Nat → Int) {i j : Nat} (hi : i < 3) (hj : j < 3) : (cs9 f)[i * 3 + j]? = some (.int .i64 (f i j)) := by
  rcases lt3 hi with rfl | rfl | rfl <;> rcases lt3 hj with rfl | rfl | rfl <;> rfl
theorem cs9_congr {f g : Nat → Nat → Int} (h : ∀ r c, r < 3 → c < 3 → f r c = g r c) : cs9 f = cs9 g := by
  unfold cs9
  rw [h 0 0 (by omega) (by omega), h 0 1 (by omega) (by omega), h 0 2 (by omega) (by omega), h 1 0 (by omega) (by omega), h 1 1 (by omega) (by omega), h 1 2 (by omega) (by omega), h 2 0 (by omega) (by omega), h 2 1 (by omega) (by omega), h 2 2 (by omega) (by omega)]
theorem cs9_set (f : Nat → Nat → Int) {i j : Nat} (hi : i < 3) (hj : j < 3) (v : Int) : (cs9 f).setIfInBounds (i * 3 + j) (.int .i64 v) = cs9 (upd9 f i j v) := by
  rcases lt3 hi with rfl | rfl | rfl <;> rcases lt3 hj with rfl | rfl | rfl <;> rfl
/-- A table filled up to row i, column j. -/
def part9 (a : List (List Int)) (m i j : Nat) : Nat → Nat → Int := fun r c => if (r < i ∨ r = i ∧ c < j) ∧ c < m then g2 a r c else 0
def full9 (a : List (List Int)) (n m : Nat) : Nat → Nat → Int := fun r c => if r < n ∧ c < m then g2 a r c else 0
theorem part9_zero (a : List (List Int)) (m : Nat) : cs9 (part9 a m 0 0) = cs9 (fun _ _ => 0) := cs9_congr fun r c _ _ => by unfold part9; rw [if_neg (by omega)]
theorem part9_next (a : List (List Int)) (m i j : Nat) (hj : j < m) : cs9 (upd9 (part9 a m i j) i j (g2 a i j)) = cs9 (part9 a m i (j + 1)) := cs9_congr fun r c _ _ => by
  unfold upd9 part9
  by_cases e : r = i ∧ c = j
  · obtain ⟨rfl, rfl⟩ := e; rw [if_pos ⟨rfl, rfl⟩, if_pos (by omega)]
  · rw [if_neg e]
    by_cases h : (r < i ∨ r = i ∧ c < j) ∧ c < m
    · rw [if_pos h, if_pos (by omega)]
    · rw [if_neg h, if_neg (by omega)]
theorem part9_row (a : List (List Int)) (m i : Nat) : cs9 (part9 a m i m) = cs9 (part9 a m (i + 1) 0) := cs9_congr fun r c _ _ => by
  unfold part9
  by_cases h : (r < i ∨ r = i ∧ c < m) ∧ c < m
  · rw [if_pos h, if_pos (by omega)]
  · rw [if_neg h, if_neg (by omega)]
theorem part9_all (a : List (List Int)) (n m : Nat) : cs9 (part9 a m n 0) = cs9 (full9 a n m) := cs9_congr fun r c _ _ => by
  unfold part9 full9
  by_cases h : r < n ∧ c < m
  · rw [if_pos h, if_pos (by omega)]
  · rw [if_neg h, if_neg (by omega)]
abbrev agg9 (f : Nat → Nat → Int) : Value := .agg (cs9 f)
end Go.Proofs.Ytcjanlbhgfadpaa

/- Arrays compared: three numbers, three bools, nine numbers. -/
namespace Go.Proofs.Ytcjanlbhgfadpaa
open Go.RowKit

theorem info_i1 : (Try.prog.info? 3).map (·.size) = some 1 := by kernel_rfl
theorem run_sizeOf' {t : TypeId} {n : Nat} (h : (Try.prog.info? t).map (·.size) = some n) (w : World) : (sizeOf t).run Try.prog w = .ok n w := by
  cases hq : Try.prog.info? t with
  | none => simp [hq] at h
  | some i => simp [hq] at h; simp [sizeOf, typeInfo, hq, h]
theorem und_int : Try.prog.underlying 3 = some (.int .i64) := by kernel_rfl
theorem run_isAgg_no (w : World) : (isAgg 3).run Try.prog w = .ok false w := by
  unfold isAgg; rw [Sem.run_bind, run_underlying und_int w]; rfl
theorem run_part_int {cs : Array Value} {k : Nat} {v : Value} (h : cs[k]? = some v) (w : World) : (part 3 cs k).run Try.prog w = .ok v w := by
  unfold part; rw [Sem.run_bind, run_isAgg_no]; simp [h]
end Go.Proofs.Ytcjanlbhgfadpaa

