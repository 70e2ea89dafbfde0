/- Texts merged: N20 Math19 Z2 Z3 K1 K2 K3 N21 Ones A6. -/
import Derived.Test.YtbmacoppeidhaaaQ8
import Derived.StillTailTactics
/- The places of a ring, by the program. -/
namespace Go.Proofs.Ytbmacoppeidhaaa
open Go.RowKit

theorem PG.next {w a x n i W W'} (h : PG w a x n i W) (k : Below W.heap.size W W') : PG w a x n i W' := ⟨below_up h.up k, let ⟨R, q⟩ := h.ex; ⟨R, q.next k⟩⟩
set_option maxRecDepth 100000 in
set_option maxHeartbeats 1600000 in
theorem ringPlaces_any (b o : Nat) (rb ro cc : Nat → Nat) (s ca : Nat) (X : Option Addr) (n c : Nat) (a : List (List Int)) (x : List Int) (w : World) (ht : Tab w b o rb ro cc s s a) (hx : Ints w X n c x) (h : RgQ a x) (hs : a.length = s) :
    Calls Try.prog 55 #[.slice (some ⟨b, o, none⟩) s ca, .slice X n c] w fun e w' => e = .returned (.slice (some ⟨w.heap.size, 0, none⟩) n n) ∧ PG w a x n n w' := by
  have HT := Lib.hid ht
  have hl := hx.len
  have hn3 : 3 ≤ n := by rw [← hl]; exact h.n3
  have hn8 : n ≤ 8 := by rw [← hl]; exact h.n8
  obtain ⟨bx, ox, rfl, hcx⟩ := hx.at_ (by omega)
  have HCX := Lib.hid hcx
  have HIX := Lib.hid (fun i (hi : i < n) => show gi x i = ((rix x i : Nat) : Int) ∧ rix x i < s from by rw [← hs]; exact h.ix (by rw [hl]; exact hi))
  have HSV := Lib.hid (fun i => show scv a x n i = g2 a (rix x i) (rix x (rr n i)) + g2 a (rix x i) (rix x (rl n i)) from rfl)
  have HS0 := Lib.hid (PR.start w n (gi x))
  have hmk := run_make_row' (P := Try.prog) 65 67 (.pointer none) 8 Try.underlying65 Try.info_pp rfl .i64 .i64 n (by omega) (by omega)
  clear ht hx h hs hl hcx
  go_enter Try.func55, Try.ntmps55
  go_wp2
  clear hmk
  go_loopw [19] (fun i wr => ∃ k : Nat, k ≤ n ∧ i = .int .i64 k ∧ Hid (PR w n (gi x) k wr)) (fun i _ => n - (intOf i).toNat)
  case atStart => exact ⟨0, Nat.zero_le _, rfl, HS0⟩
  case round =>
    clear HS0
    obtain ⟨k, hk, rfl, HA⟩ := hrel
    by_cases hlt : k < n
    · have HA1 := Lib.hid (HA.out.step hlt)
      have px := Keep.below HA.out.up _ _ (HCX.out k hlt)
      have c0 := (HA.out.row.alloc (.cells #[.slice none 0 0, .int .i64 (gi x k), .int .i64 0] 69)).cell hlt
      have f0 := (HA.out.row.alloc (.cells #[.slice none 0 0, .int .i64 (gi x k), .int .i64 0] 69)).frozen k
      rw [if_neg (Nat.lt_irrefl k)] at c0
      clear HA
      go_wp2
      go_roundw
      case rel => exact ⟨k + 1, by omega, by go_num, HA1⟩
      case measure => simp [intOf]; omega
    · obtain rfl : n = k := by omega
      have HP0 := Lib.hid (PR.pg (a := a) (x := x) HA.out)
      clear HA
      go_wp2
      go_loopw [33] (fun i wr2 => ∃ k : Nat, k ≤ n ∧ i = .int .i64 k ∧ Hid (PG w a x n k wr2)) (fun i _ => n - (intOf i).toNat)
      case atStart => exact ⟨0, Nat.zero_le _, rfl, HP0⟩
      case round =>
        clear HP0
        obtain ⟨k, hk, rfl, HP⟩ := hrel
        by_cases hlt : k < n
        · have hr := rr_lt (n := n) (i := k) (by omega)
          have hll := rl_lt (n := n) (i := k) (by omega)
          have t1 : ((k : Int) + 1).tmod (n : Int) = ((rr n k : Nat) : Int) := by have := tmod_nat (k + 1) n; rw [Int.natCast_add] at this; exact this
          have t2 : ((k : Int) + (n : Int) - 1).tmod (n : Int) = ((rl n k : Nat) : Int) := by
            have := tmod_nat (k + n - 1) n
            rw [show ((k + n - 1 : Nat) : Int) = (k : Int) + (n : Int) - 1 by omega] at this
            exact this
          have hn0 : ((n : Int) == 0) = false := by rw [beq_eq_false_iff_ne]; omega
          have hn0' : ¬ (n = 0) := by omega
          obtain ⟨e1, j1⟩ := HIX.out k hlt
          obtain ⟨e2, j2⟩ := HIX.out (rr n k) hr
          obtain ⟨e3, j3⟩ := HIX.out (rl n k) hll
          have hb1 := HT.out.bd (rix x k) (rix x (rr n k)) j1 j2
          have hb2 := HT.out.bd (rix x k) (rix x (rl n k)) j1 j3
          have hsv := HSV.out k
          obtain ⟨R, hpl⟩ := HP.out.ex
          have HTB := Lib.hid (Keep.below HP.out.up)
          have q0 := hpl.row.cell hlt
          have q1 := hpl.row.cell hll
          have q2 := hpl.row.cell hr
          have HPQ := Lib.hid (fun m => HP.out.next (Quiet.below (B := wr.heap.size) ⟨m, rfl⟩))
          have HPR := Lib.hid (fun m => hpl.next (Quiet.below (B := wr.heap.size) ⟨m, rfl⟩))
          clear HP hpl
          have hsv2 : scv a x n k = g2 a (rix x k) (rix x (rl n k)) + g2 a (rix x k) (rix x (rr n k)) := by rw [hsv]; exact Int.add_comm _ _
          simp only [pv] at q0 q1 q2
          have HST := Lib.hid (fun m => (HPQ.out m).step hlt)
          rw [hsv2] at HST
          clear hsv2
          have HR2 := Lib.hid (fun m => (HPR.out m).row2 hlt (rl n k) (rr n k))
          generalize hrl : rl n k = r1 at *
          generalize hrr : rr n k = r2 at *
          have HRR := Lib.hid (And.intro hrl hrr)
          have HE := Lib.hid (And.intro e1 (And.intro e2 e3))
          clear hrl hrr e1 e2 e3
          go_wp2
          go_quiet (fail)
          all_goals
            clear q0 q1 q2 t1 t2
            have hb0 := blk_old ((HPR.out nq).bl k hlt) (.cells #[.pointer (some ⟨w.heap.size + 1 + r1, 0, none⟩), .pointer (some ⟨w.heap.size + 1 + r2, 0, none⟩)] 67)
            have c0 := blk_cell hb0 (i := 0) rfl
            have f0 := blk_frozen hb0 0
            have hss : PG w a x n (k + 1) ((((wr.drewN nq).alloc (.cells #[.pointer (some ⟨w.heap.size + 1 + r1, 0, none⟩), .pointer (some ⟨w.heap.size + 1 + r2, 0, none⟩)] 67)).setCell ⟨w.heap.size + 1 + k, 0, none⟩ (.slice (some ⟨wr.heap.size, 0, none⟩) 2 2)).setCell ⟨w.heap.size + 1 + k, 2, none⟩ (.int .i64 (g2 a (rix x k) (rix x r1) + g2 a (rix x k) (rix x r2)))) := HST.out nq
            have hr2 : PLr w.heap.size n (upd (rgL n k) k [r1, r2]) (gi x) (rgC a x n k) (upd R k (.slice (some ⟨wr.heap.size, 0, none⟩) 2 2)) (((wr.drewN nq).alloc (.cells #[.pointer (some ⟨w.heap.size + 1 + r1, 0, none⟩), .pointer (some ⟨w.heap.size + 1 + r2, 0, none⟩)] 67)).setCell ⟨w.heap.size + 1 + k, 0, none⟩ (.slice (some ⟨wr.heap.size, 0, none⟩) 2 2)) := HR2.out nq
            have hb3 : Below w.heap.size w (((wr.drewN nq).alloc (.cells #[.pointer (some ⟨w.heap.size + 1 + r1, 0, none⟩), .pointer (some ⟨w.heap.size + 1 + r2, 0, none⟩)] 67)).setCell ⟨w.heap.size + 1 + k, 0, none⟩ (.slice (some ⟨wr.heap.size, 0, none⟩) 2 2)) := (below_up (HPQ.out nq).up (below_alloc _ _)).setCell (by show w.heap.size ≤ w.heap.size + 1 + k; omega) _
            have HSS := Lib.hid hss
            have HR3 := Lib.hid hr2
            have HB3 := Lib.hid hb3
            clear hb0 hss hr2 hb3 HST HR2 HPQ HPR HTB
            go_wp2
            obtain ⟨W3, hW3⟩ : ∃ W3, W3 = ((wr.drewN nq).alloc (.cells #[.pointer (some ⟨w.heap.size + 1 + r1, 0, none⟩), .pointer (some ⟨w.heap.size + 1 + r2, 0, none⟩)] 67)).setCell ⟨w.heap.size + 1 + k, 0, none⟩ (.slice (some ⟨wr.heap.size, 0, none⟩) 2 2) := ⟨_, rfl⟩
            rw [← hW3] at HSS HR3 HB3
            rw [← hW3]
            clear hW3 c0 f0
            have c1 := blk_cell (HR3.out.bl k hlt) (i := 1) rfl
            have c2 := blk_cell (HR3.out.bl r1 hll) (i := 1) rfl
            have c3 := blk_cell (HR3.out.bl r2 hr) (i := 1) rfl
            have c4 := blk_cell (HR3.out.bl k hlt) (i := 2) rfl
            have f4 := blk_frozen (HR3.out.bl k hlt) 2
            rw [HE.out.1] at c1
            rw [HE.out.2.2] at c2
            rw [HE.out.2.1] at c3
            have ra := Keep.below HB3.out _ _ (HT.out.row _ j1)
            have d1 := Keep.below HB3.out _ _ (HT.out.cell _ _ j1 j3)
            have d2 := Keep.below HB3.out _ _ (HT.out.cell _ _ j1 j2)
            clear hsv HR3 HB3
            generalize g2 a (rix x k) (rix x r1) = E2 at *
            generalize g2 a (rix x k) (rix x r2) = E1 at *
            generalize rix x k = i1 at *
            generalize rix x r1 = i2 at *
            generalize rix x r2 = i3 at *
            have hw : IntKind.i64.wrap (E2 + E1) = E2 + E1 := wrapIn (by omega)
            go_still_tail 30, (by kernel_rfl)
            go_wp2
            have HP8 := Lib.hid (HSS.out.next (Quiet.below ⟨1, rfl⟩))
            go_roundw
            case rel => exact ⟨k + 1, by omega, by go_num, Lib.hid (by exact HP8.out)⟩
            case measure => simp [intOf]; omega
        · obtain rfl : n = k := by omega
          have HE := Lib.hid HP.out
          go_wp2
          go_ret
          exact ⟨rfl, HE.out⟩

end Go.Proofs.Ytbmacoppeidhaaa

/- Sums of a row with shares. -/
namespace Go.Proofs.Ytbmacoppeidhaaa

/-- What row i has against shares: the terms, and the sum of the first j of them. -/
def dotr (a : List (List Int)) (w : List Int) (i : Nat) : Nat → Int
  | 0 => 0
  | j + 1 => dotr a w i j + g2 a i j * gi w j
def termL (a : List (List Int)) (w : List Int) (i : Nat) : Nat → List Int
  | 0 => []
  | j + 1 => termL a w i j ++ [g2 a i j * gi w j]
theorem termL_len (a : List (List Int)) (w : List Int) (i : Nat) : ∀ j, (termL a w i j).length = j
  | 0 => rfl
  | j + 1 => by rw [termL, List.length_append, termL_len a w i j]; rfl
theorem termL_tot (a : List (List Int)) (w : List Int) (i : Nat) : ∀ j, tot (termL a w i j) = dotr a w i j
  | 0 => rfl
  | j + 1 => by rw [termL, tot_snoc, termL_tot a w i j, dotr]
theorem termL_bd {a : List (List Int)} {w : List Int} {i m : Nat} (ha : ∀ j, j < m → -9 ≤ g2 a i j ∧ g2 a i j ≤ 9) (hw : ∀ j, j < m → 0 ≤ gi w j ∧ gi w j ≤ 1000) :
    ∀ {j}, j ≤ m → ∀ t ∈ termL a w i j, -9000 ≤ t ∧ t ≤ 9000
  | 0, _, t, h => by simp [termL] at h
  | j + 1, hj, t, h => by
    rw [termL, List.mem_append] at h
    rcases h with h | h
    · exact termL_bd ha hw (j := j) (by omega) t h
    · simp only [List.mem_singleton] at h; subst h
      exact mul_bd3 (hw j (by omega)) (ha j (by omega))
theorem dotr_bd {a : List (List Int)} {w : List Int} {i m : Nat} (ha : ∀ j, j < m → -9 ≤ g2 a i j ∧ g2 a i j ≤ 9) (hw : ∀ j, j < m → 0 ≤ gi w j ∧ gi w j ≤ 1000) :
    ∀ {j}, j ≤ m → -9000 * (j : Int) ≤ dotr a w i j ∧ dotr a w i j ≤ 9000 * (j : Int)
  | 0, _ => by simp [dotr]
  | j + 1, hj => by
    have h1 := dotr_bd ha hw (j := j) (by omega)
    have h2 := mul_bd3 (hw j (by omega)) (ha j (by omega))
    simp only [dotr]
    omega
/-- .. against one strategy alone: a number of the table. -/
theorem dotr_onl (a : List (List Int)) (n i k : Nat) : ∀ {j}, j ≤ n → dotr a (onl n k) i j = if k < j then g2 a i k else 0
  | 0, _ => by simp [dotr]
  | j + 1, h => by
    rw [dotr, dotr_onl a n i k (j := j) (by omega), gi_onl (by omega)]
    by_cases e : j = k
    · subst e; rw [if_neg (by omega), if_pos rfl, if_pos (by omega)]; simp
    · rw [if_neg e]
      by_cases h2 : k < j
      · rw [if_pos h2, if_pos (by omega)]; simp
      · rw [if_neg h2, if_neg (by omega)]; simp
theorem dotr_alone (a : List (List Int)) (n i k : Nat) (hk : k < n) : dotr a (onl n k) i n = g2 a i k := by
  rw [dotr_onl a n i k (Nat.le_refl n), if_pos hk]
theorem payR_row (a : List (List Int)) (w : List Int) (n i k : Nat) (hk : k < n) : ∀ j, payR a (onl n i) w k j = if k = i then dotr a w i j else 0
  | 0 => by simp [payR, dotr]
  | j + 1 => by
    rw [payR, payR_row a w n i k hk j, gi_onl hk, dotr]
    by_cases e : k = i
    · subst e; rw [if_pos rfl, if_pos rfl, if_pos rfl, Int.one_mul, Int.mul_comm (gi w j)]
    · rw [if_neg e, if_neg e, if_neg e]; simp
theorem payU_row (a : List (List Int)) (w : List Int) (n m i : Nat) : ∀ {k}, k ≤ n → payU a (onl n i) w m k = if i < k then dotr a w i m else 0
  | 0, _ => by simp [payU]
  | k + 1, h => by
    rw [payU, payU_row a w n m i (k := k) (by omega), payR_row a w n i k (by omega)]
    by_cases e : k = i
    · subst e; rw [if_neg (by omega), if_pos rfl, if_pos (by omega)]; simp
    · rw [if_neg e]
      by_cases h2 : i < k
      · rw [if_pos h2, if_pos (by omega)]; simp
      · rw [if_neg h2, if_neg (by omega)]; simp
/-- The model's sum with one strategy alone is that of its row. -/
theorem payU_alone (a : List (List Int)) (w : List Int) (n m i : Nat) (hi : i < n) : payU a (onl n i) w m n = dotr a w i m := by
  rw [payU_row a w n m i (Nat.le_refl n), if_pos hi]
end Go.Proofs.Ytbmacoppeidhaaa

/- When one strategy holds against another one, by the model. -/
namespace Go.Proofs.Ytbmacoppeidhaaa
open Go.RowKit

/-- Strategy i holds against j: more against i, or as much, and more against j. -/
def HoldP (a : List (List Int)) (i j : Nat) : Prop := g2 a j i < g2 a i i ∨ g2 a i i = g2 a j i ∧ g2 a j j < g2 a i j

end Go.Proofs.Ytbmacoppeidhaaa

/- Stable strategies, by the model. -/
namespace Go.Proofs.Ytbmacoppeidhaaa
open Go.RowKit

/-- Strategy i holds against all others before number l. -/
def StP (a : List (List Int)) (i l : Nat) : Prop := ∀ j, j < l → i = j ∨ HoldP a i j
theorem StP.zero (a : List (List Int)) (i : Nat) : StP a i 0 := fun _ h => absurd h (by omega)
theorem StP.succ {a : List (List Int)} {i l : Nat} : StP a i (l + 1) ↔ StP a i l ∧ (i = l ∨ HoldP a i l) := by
  constructor
  · exact fun h => ⟨fun j hj => h j (by omega), h l (by omega)⟩
  · rintro ⟨h1, h2⟩ j hj
    by_cases e : j = l
    · subst e; exact h2
    · exact h1 j (by omega)
/-- The strategies before number k that hold against all n. -/
noncomputable def stL (a : List (List Int)) (n : Nat) : Nat → List Int
  | 0 => []
  | k + 1 => stL a n k ++ (if pb (StP a k n) = true then [(k : Int)] else [])
theorem stL_yes {a : List (List Int)} {n k : Nat} (h : StP a k n) : stL a n (k + 1) = stL a n k ++ [(k : Int)] := by rw [stL, if_pos (pb_true h)]
theorem stL_no {a : List (List Int)} {n k : Nat} (h : ¬ StP a k n) : stL a n (k + 1) = stL a n k := by rw [stL, if_neg (by rw [pb_false h]; decide), List.append_nil]
theorem stL_len (a : List (List Int)) (n : Nat) : ∀ k, (stL a n k).length ≤ k
  | 0 => by simp [stL]
  | k + 1 => by
    have := stL_len a n k
    rw [stL, List.length_append]
    split <;> simp <;> omega
theorem stL_bd (a : List (List Int)) (n : Nat) : ∀ k, ∀ y ∈ stL a n k, 0 ≤ y ∧ y < (k : Int)
  | 0, y, h => by simp [stL] at h
  | k + 1, y, h => by
    rw [stL, List.mem_append] at h
    rcases h with h | h
    · have := stL_bd a n k y h; omega
    · split at h
      · simp only [List.mem_singleton] at h; omega
      · simp at h
/-- What StableOf answers. -/
noncomputable def stF (a : List (List Int)) : List Int := if pb (VQ a) = true then stL a a.length a.length else []
theorem NewI.quiet {w w1 w' : World} {ys : List Int} {e : Ending} (h : Quiet w w1) (k : NewI w1 ys e w') : NewI w ys e w' := by
  obtain ⟨m, rfl⟩ := h
  obtain ⟨A, n, c, g, e1, e2, ho, hb⟩ := k
  exact ⟨A, n, c, g, e1, e2, ho, ⟨hb.os, hb.tape, hb.output, hb.size, hb.block⟩⟩
theorem IU.quiet {wb v ys w w'} (h : IU wb v ys w) (k : Quiet w w') : IU wb v ys w' := h.next k.below

end Go.Proofs.Ytbmacoppeidhaaa

/- What strategies have against shares, told by a closure; which hold: by the program. -/
namespace Go.Proofs.Ytbmacoppeidhaaa
open Go.RowKit

theorem VS.bds {w : List Int} {n : Nat} (h : VS w n) : ∀ j, j < n → 0 ≤ gi w j ∧ gi w j ≤ 1000 := fun j hj => h.2.1 j (by have := h.1; omega)
theorem onl_bds (n k : Nat) : ∀ j, j < n → 0 ≤ gi (onl n k) j ∧ gi (onl n k) j ≤ 1000 := fun j hj => by have := onl_bd (n := n) (i := k) hj; omega
/-- Where the closure finds the table and the shares. -/
structure PA (a : List (List Int)) (w : List Int) (n : Nat) (pa pw b o c cw : Nat) (rb ro cc : Nat → Nat) (Y : Option Addr) (W : World) : Prop where
  tab : Tab W b o rb ro cc n n a
  sh : Ints W Y n cw w
  bd : ∀ j, j < n → 0 ≤ gi w j ∧ gi w j ≤ 1000
  ca : W.cell? ⟨pa, 0, none⟩ = some (.slice (some ⟨b, o, none⟩) n c)
  cs : W.cell? ⟨pw, 0, none⟩ = some (.slice Y n cw)
theorem PA.keep {a w n pa pw b o c cw rb ro cc Y W W'} (h : PA a w n pa pw b o c cw rb ro cc Y W) (k : Keep W W') : PA a w n pa pw b o c cw rb ro cc Y W' :=
  ⟨h.tab.keep k, h.sh.keep k, h.bd, k _ _ h.ca, k _ _ h.cs⟩

set_option maxRecDepth 100000 in
set_option maxHeartbeats 1600000 in
theorem payAt_any (a : List (List Int)) (w : List Int) (n pa pw b o c cw : Nat) (rb ro cc : Nat → Nat) (Y : Option Addr) (W : World) (h : PA a w n pa pw b o c cw rb ro cc Y W) (i : Nat) (hi : i < n) :
    Calls Try.prog 116 #[.int .i64 i, .pointer (some ⟨pa, 0, none⟩), .pointer (some ⟨pw, 0, none⟩)] W (Ret (.int .i64 (dotr a w i n)) W) := by
  have H := Lib.hid h
  have hn1 := h.tab.n1
  have hn3 := h.tab.n3
  have q1 := h.ca
  have q2 := h.cs
  have q3 := h.tab.row i hi
  have HB := Lib.hid (fun j (hj : j < n) => h.tab.bd i j hi hj)
  obtain ⟨by_, oy, rfl, hcy⟩ := h.sh.at_ (by omega)
  have HY := Lib.hid hcy
  have HS0 := Lib.hid (IU.nil W)
  have HZ : Hid (termL a w i 0 = []) := Lib.hid rfl
  clear h hcy
  go_enter Try.func116, Try.ntmps116
  go_wp2
  clear q1 q2 q3
  go_loopw [5, 13] (fun v i_ wr => ∃ k : Nat, k ≤ n ∧ i_ = .int .i64 k ∧ Hid (IU W v (termL a w i k) wr)) (fun _ i_ _ => n - (intOf i_).toNat)
  case atStart => exact ⟨0, Nat.zero_le _, rfl, Lib.hid (by rw [HZ.out]; exact HS0.out)⟩
  case round =>
    clear HS0 HZ
    obtain ⟨k, hk, rfl, HI⟩ := hrel
    obtain ⟨Av, cv, rfl⟩ := HI.out.bi.form
    by_cases hlt : k < n
    · have c1 := Keep.below HI.out.up _ _ (H.out.tab.cell i k hi hlt)
      have c2 := Keep.below HI.out.up _ _ H.out.cs
      have c3 := Keep.below HI.out.up _ _ (HY.out k hlt)
      obtain ⟨z1, z2⟩ := HB.out k hlt
      obtain ⟨x1, x2⟩ := H.out.bd k hlt
      obtain ⟨p1, p2⟩ := mul_bd3 ⟨x1, x2⟩ ⟨z1, z2⟩
      have HCS : Hid (termL a w i (k + 1) = termL a w i k ++ [g2 a i k * gi w k]) := Lib.hid rfl
      have HML := Lib.hid (termL_len a w i k)
      have hb := below_alloc wr (.cells #[iv (g2 a i k * gi w k)] 3)
      have HB4 := Lib.hid (HI.out.bi.below hb).own
      have HN := Lib.hid (cell_one_new wr (iv (g2 a i k * gi w k)) 3)
      have hwz := HI.out.up.size
      clear hb
      generalize termL a w i k = ys at *
      generalize g2 a i k = g at *
      generalize gi w k = s at *
      obtain ⟨i0, hi0, hz0, hz1, hz2⟩ := info_parts Try.info_int
      go_wp2_with (at_builtin; refine wpList_append_own_at _ rfl _ _ 23 rfl W.heap.size 3 i0 (.int .i64 0) 1 8 Try.underlying23 hi0 hz0 hz1 hz2 rfl (by decide) _ ys.length (ys.map iv) rfl HB4.out ⟨wr.heap.size, 0, none⟩ 1 1 [iv (g * s)] rfl rfl ?c1 ?c2 ?c3 ?c4 ?c5 ?_)
      case c1 => exact HN.out
      case c2 => intro u hu; simp at hu; subst hu; rfl
      case c3 => have := HML.out; unfold maxLen; omega
      case c4 => have := HML.out; omega
      case c5 => simp; omega
      intro v' w5 hown' hgrow _ hat
      have HI5 := Lib.hid (HI.out.push hown' hgrow (by simpa using hat))
      clear HB4 HN hown' hgrow hat HI c1 c2 c3
      go_wp2
      go_roundw
      case rel => exact ⟨k + 1, by omega, by go_num, Lib.hid (by rw [HCS.out]; exact HI5.out)⟩
      case measure => simp [intOf]; omega
    · obtain rfl : k = n := by omega
      have HL := Lib.hid (termL_len a w i k)
      have HTB := Lib.hid (termL_bd HB.out H.out.bd (Nat.le_refl k))
      have HSM := Lib.hid (show SumOk (termL a w i k) from ⟨by rw [HL.out]; omega, fun j hj => by have := HTB.out _ (gi_mem hj); omega⟩)
      have HTT := Lib.hid (termL_tot a w i k)
      have HIN := Lib.hid (HI.out.ints (by rw [HL.out]; omega) (fun y hy => by have := HTB.out y hy; omega))
      have HUP := Lib.hid HI.out.up
      have HC := Lib.hid (HTT.out ▸ sumOf_any _ _ _ _ wr HIN.out HSM.out)
      clear HI
      go_wp2_with fail
      refine HC.out.mono ?_
      rintro e w2 ⟨rfl, hq⟩
      have HB2 := Lib.hid (below_quiet HUP.out hq)
      clear hq HC
      go_wp2
      go_ret
      exact ⟨rfl, HB2.out⟩

/-- The closure of two boxes. -/
def MadeP (a : List (List Int)) (w : List Int) (n b o c cw : Nat) (rb ro cc : Nat → Nat) (Y : Option Addr) (W : World) (e : Ending) (W' : World) : Prop :=
  ∃ pa pw, e = .returned (.func (.func 116) #[] #[.pointer (some ⟨pa, 0, none⟩), .pointer (some ⟨pw, 0, none⟩)]) ∧ PA a w n pa pw b o c cw rb ro cc Y W' ∧ Below W.heap.size W W'

set_option maxRecDepth 100000 in
set_option maxHeartbeats 400000 in
theorem payAgainst_far (a : List (List Int)) (w : List Int) (n b o c cw : Nat) (rb ro cc : Nat → Nat) (Y : Option Addr) (W : World) (ht : Tab W b o rb ro cc n n a) (hw : Ints W Y n cw w) (hb : ∀ j, j < n → 0 ≤ gi w j ∧ gi w j ≤ 1000) :
    Calls Try.prog 113 #[.slice (some ⟨b, o, none⟩) n c, .slice Y n cw] W (fun e W' => ∃ pa pw, e = .returned (.func (.func 116) #[] #[.pointer (some ⟨pa, 0, none⟩), .pointer (some ⟨pw, 0, none⟩)]) ∧ (PA a w n pa pw b o c cw rb ro cc Y W' ∧ Below W.heap.size W W') ∧ W.heap.size ≤ pa ∧ W.heap.size ≤ pw) := by
  have hmf : ∀ (fn : Fn) (first cap : Array Value) (w : World), (Instr.makeFunc fn first cap).run Try.prog w = .ok (.func fn first cap) w := fun _ _ _ _ => rfl
  have h1 := below_alloc W (.cells #[.slice (some ⟨b, o, none⟩) n c] 22)
  have h2 := below_alloc (W.alloc (.cells #[.slice (some ⟨b, o, none⟩) n c] 22)) (.cells #[.slice Y n cw] 23)
  have hbb := below_up h1 h2
  have HP := Lib.hid (show PA a w n W.heap.size (W.alloc (.cells #[.slice (some ⟨b, o, none⟩) n c] 22)).heap.size b o c cw rb ro cc Y ((W.alloc (.cells #[.slice (some ⟨b, o, none⟩) n c] 22)).alloc (.cells #[.slice Y n cw] 23)) from
    ⟨ht.keep (Keep.below hbb), hw.keep (Keep.below hbb), hb, Keep.below h2 _ _ (blk_cell (blk_new _ _ _) rfl), blk_cell (blk_new _ _ _) rfl⟩)
  have HBB := Lib.hid hbb
  clear h1 h2 hbb ht hw hb
  go_enter Try.func113, Try.ntmps113
  go_wp2
  go_ret
  exact ⟨_, _, rfl, ⟨by have h := HP.out; rw [World.size_alloc] at h; exact h, HBB.out⟩, Nat.le_refl _, Nat.le_succ _⟩
theorem payAgainst_any (a : List (List Int)) (w : List Int) (n b o c cw : Nat) (rb ro cc : Nat → Nat) (Y : Option Addr) (W : World) (ht : Tab W b o rb ro cc n n a) (hw : Ints W Y n cw w) (hb : ∀ j, j < n → 0 ≤ gi w j ∧ gi w j ≤ 1000) :
    Calls Try.prog 113 #[.slice (some ⟨b, o, none⟩) n c, .slice Y n cw] W (MadeP a w n b o c cw rb ro cc Y W) :=
  (payAgainst_far a w n b o c cw rb ro cc Y W ht hw hb).mono fun _ _ ⟨pa, pw, he, ⟨h1, h2⟩, _⟩ => ⟨pa, pw, he, h1, h2⟩
end Go.Proofs.Ytbmacoppeidhaaa

/- Stable strategies, by the program. -/
namespace Go.Proofs.Ytbmacoppeidhaaa
open Go.RowKit

/-- The leads of strategy i over j: against i, and against j. -/
def leadI (a : List (List Int)) (i j : Nat) : Int := g2 a i i - g2 a j i
def leadJ (a : List (List Int)) (i j : Nat) : Int := g2 a i j - g2 a j j

/-- A strategy with these leads holds. -/
def HoldL (x y : Int) : Prop := 0 < x ∨ x = 0 ∧ 0 < y
theorem holdL_iff (a : List (List Int)) (i j : Nat) : HoldL (leadI a i j) (leadJ a i j) ↔ HoldP a i j := by
  unfold HoldL HoldP leadI leadJ
  omega
theorem stF_le (a : List (List Int)) : (stF a).length ≤ 100 := by
  unfold stF
  split
  · rename_i h
    have := (pb_iff.1 h).1.n3
    have := stL_len a a.length a.length
    omega
  · simp

end Go.Proofs.Ytbmacoppeidhaaa

/- Barriers, by both programs. -/
namespace Go.Proofs.Ytbmacoppeidhaaa
open Go.RowKit

/-- The barrier of a strategy with these leads: above and below the line. -/
noncomputable def barU (x y : Int) : Int := if pb (HoldL x y) = true then (if 0 ≤ y then 1 else x) else 0
noncomputable def barD (x y : Int) : Int := if pb (HoldL x y) = true then (if 0 ≤ y then 1 else x - y) else 1
theorem bar_no {x y : Int} (h : ¬ HoldL x y) : barU x y = 0 ∧ barD x y = 1 := by
  unfold barU barD; rw [if_neg (by rw [pb_false h]; decide), if_neg (by rw [pb_false h]; decide)]; exact ⟨rfl, rfl⟩
theorem bar_one {x y : Int} (h : HoldL x y) (hy : 0 ≤ y) : barU x y = 1 ∧ barD x y = 1 := by
  unfold barU barD; rw [if_pos (pb_true h), if_pos (pb_true h), if_pos hy, if_pos hy]; exact ⟨rfl, rfl⟩
theorem bar_mid {x y : Int} (h : HoldL x y) (hy : ¬ 0 ≤ y) : barU x y = x ∧ barD x y = x - y ∧ 0 < x := by
  unfold barU barD; rw [if_pos (pb_true h), if_pos (pb_true h), if_neg hy, if_neg hy]; refine ⟨rfl, rfl, ?_⟩; unfold HoldL at h; omega
theorem lead_bd {a : List (List Int)} {n i j : Nat} (hq : VQ a) (hl : a.length = n) (hi : i < n) (hj : j < n) : (-18 ≤ leadI a i j ∧ leadI a i j ≤ 18) ∧ -18 ≤ leadJ a i j ∧ leadJ a i j ≤ 18 := by
  have hm : (gr a 0).length = n := by have := hq.2; omega
  have b1 := hq.1.bd (i := i) (j := i) (by omega) (by omega)
  have b2 := hq.1.bd (i := j) (j := i) (by omega) (by omega)
  have b3 := hq.1.bd (i := i) (j := j) (by omega) (by omega)
  have b4 := hq.1.bd (i := j) (j := j) (by omega) (by omega)
  unfold leadI leadJ
  omega
structure BOk (a : List (List Int)) (i j : Int) : Prop where
  q : VQ a
  ri : InR i 0 ((a.length : Int) - 1)
  rj : InR j 0 ((a.length : Int) - 1)
  ne : i ≠ j
noncomputable def barF (a : List (List Int)) (i j : Int) : Value := if pb (BOk a i j) = true then frV (barU (leadI a i.toNat j.toNat) (leadJ a i.toNat j.toNat)) (barD (leadI a i.toNat j.toNat) (leadJ a i.toNat j.toNat)) else .agg #[.int .i64 0, .int .i64 0]
theorem barF_yes {a i j} (h : BOk a i j) : barF a i j = frV (barU (leadI a i.toNat j.toNat) (leadJ a i.toNat j.toNat)) (barD (leadI a i.toNat j.toNat) (leadJ a i.toNat j.toNat)) := by rw [barF, if_pos (pb_true h)]
theorem barF_no {a i j} (h : ¬ BOk a i j) : barF a i j = .agg #[.int .i64 0, .int .i64 0] := by rw [barF, if_neg (by rw [pb_false h]; decide)]
theorem barF_form (a : List (List Int)) (i j : Int) : ∃ U D, barF a i j = .agg #[.int .i64 U, .int .i64 D] := by
  unfold barF
  split
  · exact frV_form _ _
  · exact ⟨_, _, rfl⟩

theorem PF.upq {w W W' : World} {n : Nat} (h : PF w W) (k : Below (W.drewN n).heap.size (W.drewN n) W') : PF w W' := PF.up (W := W.drewN n) ⟨h.box, below_drewN h.below n⟩ k
theorem PF.upqq {w W W' : World} {n m : Nat} (h : PF w W) (k : Below ((W.drewN n).drewN m).heap.size ((W.drewN n).drewN m) W') : PF w W' := PF.up (W := (W.drewN n).drewN m) ⟨h.box, below_drewN (below_drewN h.below n) m⟩ k

set_option maxHeartbeats 400000 in
theorem isStrategy_any (A : Option Addr) (n c : Nat) (i : Int) (w : World) (_ : n ≤ 5864062014805) :
    Calls Try.prog 92 #[.int .i64 i, .slice A n c] w fun e w' => e = .returned (.bool (pb (InR i 0 ((n : Int) - 1)))) ∧ Quiet w w' := by
  by_cases h1 : 0 ≤ i
  · by_cases h2 : i < (n : Int)
    · rw [pb_true (p := InR i 0 ((n : Int) - 1)) ⟨h1, by omega⟩]
      go_enter Try.func92, Try.ntmps92
      go_wp2
      go_ret
      exact ⟨rfl, Quiet.refl _⟩
    · rw [pb_false (p := InR i 0 ((n : Int) - 1)) (fun h => by have := h.2; omega)]
      have h2' : decide (i < (n : Int)) = false := decide_eq_false h2
      go_enter Try.func92, Try.ntmps92
      go_wp2
      go_ret
      exact ⟨rfl, Quiet.refl _⟩
  · rw [pb_false (p := InR i 0 ((n : Int) - 1)) (fun h => h1 h.1)]
    have h1' : decide (0 ≤ i) = false := decide_eq_false h1
    go_enter Try.func92, Try.ntmps92
    go_wp2
    go_ret
    exact ⟨rfl, Quiet.refl _⟩

end Go.Proofs.Ytbmacoppeidhaaa

/- CopyRing, by the program. -/
namespace Go.Proofs.Ytbmacoppeidhaaa
open Go.RowKit

set_option maxRecDepth 100000 in
set_option maxHeartbeats 800000 in
theorem isRing_any (A : Option Addr) (l ca : Nat) (a : List (List Int)) (X : Option Addr) (n c : Nat) (x : List Int) (w : World) (ha : IntRows w A l ca a) (hx : Ints w X n c x) :
    Calls Try.prog 54 #[.slice A l ca, .slice X n c] w fun e w' => e = .returned (.bool (pb (RgQ a x))) ∧ Quiet w w' := by
  have HA := Lib.hid ha
  have HX := Lib.hid hx
  have HL := Lib.hid hx.len
  have HLA := Lib.hid ha.len
  have hmx := hx.max
  have hma := ha.max
  have HVS := Lib.hid (ValidSquare_impl A l ca a w ha)
  clear ha hx
  by_cases hv : VQ a
  · have HV := Lib.hid hv
    rw [pb_true hv] at HVS
    clear hv
    by_cases h3 : (n : Int) < 3
    · have hd : decide ((n : Int) < 3) = true := by simpa using h3
      have HE := Lib.hid (pb_false (p := RgQ a x) (fun k => by have := k.n3; rw [HL.out] at this; omega))
      go_enter Try.func54, Try.ntmps54
      go_wp2_with fail
      refine HVS.out.mono ?_
      rintro e w1 ⟨rfl, hq⟩
      have HQ := Lib.hid hq
      clear hq HVS
      go_wp2
      go_ret
      exact ⟨ret_bool HE.out.symm, HQ.out⟩
    · have hd : decide ((n : Int) < 3) = false := by simpa using h3
      by_cases h8 : (8 : Int) < (n : Int)
      · have hd8 : decide ((8 : Int) < (n : Int)) = true := by simpa using h8
        have HE := Lib.hid (pb_false (p := RgQ a x) (fun k => by have := k.n8; rw [HL.out] at this; omega))
        go_enter Try.func54, Try.ntmps54
        go_wp2_with fail
        refine HVS.out.mono ?_
        rintro e w1 ⟨rfl, hq⟩
        have HQ := Lib.hid hq
        clear hq HVS
        go_wp2
        go_ret
        exact ⟨ret_bool HE.out.symm, HQ.out⟩
      · have hd8 : decide ((8 : Int) < (n : Int)) = false := by simpa using h8
        go_enter Try.func54, Try.ntmps54
        go_wp2_with fail
        refine HVS.out.mono ?_
        rintro e w1 ⟨rfl, hq⟩
        have HQ := Lib.hid hq
        clear hq HVS
        go_wp2
        clear hd hd8
        go_loopw [22] (fun i wr => ∃ v : Nat, v ≤ n ∧ i = .int .i64 v ∧ Hid (∀ j, j < v → InR (gi x j) 0 ((l : Int) - 1)) ∧ Quiet w wr) (fun i _ => n - (intOf i).toNat)
        case atStart => exact ⟨0, Nat.zero_le _, rfl, Lib.hid (fun _ h => absurd h (by omega)), HQ.out⟩
        case round =>
          obtain ⟨v, hvn, rfl, HI, q, rfl⟩ := hrel
          by_cases hlt : v < n
          · obtain ⟨b, o, rfl, hc⟩ := HX.out.at_ (by omega)
            have c1 := hc v hlt
            clear hc
            by_cases hin : InR (gi x v) 0 ((l : Int) - 1)
            · have HIN := Lib.hid (fun W => pb_true hin ▸ isStrategy_any A l ca (gi x v) W hma)
              have HN := Lib.hid (show ∀ j, j < v + 1 → InR (gi x j) 0 ((l : Int) - 1) from fun j hj => by
                by_cases hjv : j < v
                · exact HI.out j hjv
                · obtain rfl : j = v := by omega
                  exact hin)
              clear hin
              go_wp2_with (go_at_call 92; (with_reducible refine (HIN.out _).mono ?_); rintro e w' ⟨rfl, q2, rfl⟩)
              go_roundw
              case rel => exact ⟨v + 1, by omega, by go_num, HN, ⟨_, rfl⟩⟩
              case measure => simp [intOf]; omega
            · have HIN := Lib.hid (fun W => pb_false hin ▸ isStrategy_any A l ca (gi x v) W hma)
              have HE := Lib.hid (pb_false (p := RgQ a x) (fun k => hin (by have := k.s v (by rw [HL.out]; exact hlt); rw [HLA.out] at this; exact this)))
              clear hin
              go_wp2_with (go_at_call 92; (with_reducible refine (HIN.out _).mono ?_); rintro e w' ⟨rfl, q2, rfl⟩)
              go_ret
              exact ⟨ret_bool HE.out.symm, ⟨_, rfl⟩⟩
          · obtain rfl : v = n := by omega
            have HE := Lib.hid (pb_true (p := RgQ a x) ⟨HV.out, fun i hi => by rw [HLA.out]; exact HI.out i (by rw [HL.out] at hi; exact hi), by rw [HL.out]; omega, by rw [HL.out]; omega⟩)
            go_wp2
            go_ret
            exact ⟨ret_bool HE.out.symm, ⟨_, rfl⟩⟩
  · rw [pb_false hv] at HVS
    have HE := Lib.hid (pb_false (p := RgQ a x) (fun k => hv k.v))
    clear hv
    go_enter Try.func54, Try.ntmps54
    go_wp2_with fail
    refine HVS.out.mono ?_
    rintro e w1 ⟨rfl, hq⟩
    have HQ := Lib.hid hq
    clear hq HVS
    go_wp2
    go_ret
    exact ⟨ret_bool HE.out.symm, HQ.out⟩
theorem PLr.setLow {B n L s c R W} (h : PLr B n L s c R W) {b : Nat} (i : Nat) (hb : b < B) (u : Value) : PLr B n L s c R (W.setCell ⟨b, i, none⟩ u) :=
  ⟨by simpa [World.setCell] using h.sz, h.row.setOther (by show B ≠ b; omega) _, fun v hv => blk_other (h.bl v hv) (by show B + 1 + v ≠ b; omega) _, fun v hv => ownsRow_setCell_below (h.own v hv) (by show b < B + 1 + n; omega) _, h.far⟩
/-- The ring under way: its places behind block B, the first k of the next one's strategies in block g. -/
structure CR (w : World) (g B n : Nat) (a : List (List Int)) (x : List Int) (k : Nat) (W : World) : Prop where
  up : Below w.heap.size w W
  ex : ∃ R, PLr B n (fun v => [rl n v, rr n v]) (gi x) (scv a x n) R W
  row : W.rowIs g 3 n (filled (cpL a x n n) k)
  hg : w.heap.size ≤ g
  hB : g < B
  hz : g < W.heap.size
theorem CR.quiet {w g B n a x k W W'} (h : CR w g B n a x k W) (q : Quiet W W') : CR w g B n a x k W' := by
  obtain ⟨m, rfl⟩ := q
  exact ⟨below_drewN h.up m, let ⟨R, p⟩ := h.ex; ⟨R, p.quiet ⟨m, rfl⟩⟩, h.row.of_block rfl, h.hg, h.hB, h.hz⟩
theorem gi_cpL {a x} {n k : Nat} (h : k < n) : gi (cpL a x n n) k = gi x (bat a x n k) := by
  unfold cpL; rw [gi_get (by simpa using h)]; simp
theorem CR.step {w g B n a x k W} (h : CR w g B n a x k W) (hk : k < n) : CR w g B n a x (k + 1) (W.setCell ⟨g, k, none⟩ (.int .i64 (gi x (bat a x n k)))) := by
  have h1 := filled_set h.row
  rw [gi_cpL hk] at h1
  exact ⟨h.up.setCell (by show w.heap.size ≤ g; exact h.hg) _, let ⟨R, p⟩ := h.ex; ⟨R, p.setLow k h.hB _⟩, h1, h.hg, h.hB, by have := h.hz; simpa [World.setCell] using this⟩
set_option maxRecDepth 100000 in
set_option maxHeartbeats 1600000 in
theorem CopyRing_impl (A : Option Addr) (l ca : Nat) (a : List (List Int)) (X : Option Addr) (n c : Nat) (x : List Int) (w : World) (ha : IntRows w A l ca a) (hx : Ints w X n c x) :
    Calls Try.prog 16 #[.slice A l ca, .slice X n c] w (NewI w (cpF a x)) := by
  have HA := Lib.hid ha
  have HX := Lib.hid hx
  have hl := ha.len
  have HIS := Lib.hid (isRing_any A l ca a X n c x w ha hx)
  by_cases hr : RgQ a x
  · obtain ⟨b, o, rb, ro, cc, rfl, tab⟩ := HA.out.tab hr.v.1
    rw [← hr.v.2, hl] at tab
    have HT := Lib.hid tab
    have HF := Lib.hid (cpF_yes hr)
    have HLX := Lib.hid hx.len
    have hn3 : 3 ≤ n := by rw [← hx.len]; exact hr.n3
    have hn8 : n ≤ 8 := by rw [← hx.len]; exact hr.n8
    have HRP := Lib.hid (fun W q1 q2 => ringPlaces_any b o rb ro cc l ca X n c a x W q1 q2 hr hl)
    have HXB := Lib.hid (fun i (hi : i < n) => show -1000 ≤ gi x i ∧ gi x i ≤ 1000 from by have := hr.s i (by rw [hx.len]; exact hi); have := hr.v.1.n3; unfold InR at *; omega)
    rw [pb_true hr] at HIS
    have hmk := run_make_row' (P := Try.prog) 23 3 (.int .i64 0) 8 Try.underlying23 Try.info3 rfl .i64 .i64 n (by omega) (by omega)
    clear ha hx hr tab hl
    go_enter Try.func16, Try.ntmps16
    go_wp2_with fail
    refine HIS.out.mono ?_
    rintro e w1 ⟨rfl, hq1⟩
    have HB1 := Lib.hid (hq1.below (B := w.heap.size))
    have HT1 := Lib.hid (HT.out.keep (Keep.quiet hq1))
    have HX1 := Lib.hid (HX.out.keep (Keep.quiet hq1))
    clear hq1 HIS HT HX HA
    have hba := below_alloc w1 (.cells (madeCells #[.int .i64 0] n) 3)
    have HB2 := Lib.hid (HB1.out.trans (hba.mono HB1.out.size))
    have HRP2 := Lib.hid (HRP.out _ (HT1.out.keep (Keep.below hba)) (HX1.out.keep (Keep.below hba)))
    have HROW := Lib.hid ((World.rowIs_made w1 (.int .i64 0) n 3).congr (g := filled (cpL a x n n) 0) (fun j _ => by simp [filled]))
    have hgz : w.heap.size ≤ w1.heap.size := HB1.out.size
    have hgz2 : w1.heap.size < (w1.alloc (.cells (madeCells #[.int .i64 0] n) 3)).heap.size := by simp
    clear hba HB1 HRP HT1
    go_wp2_with fail
    clear hmk
    generalize w1.alloc (.cells (madeCells #[.int .i64 0] n) 3) = W2 at *
    generalize w1.heap.size = g at *
    refine HRP2.out.mono ?_
    rintro e w3 ⟨rfl, hpg⟩
    have HCR := Lib.hid (show CR w g W2.heap.size n a x 0 w3 from ⟨HB2.out.trans (hpg.up.mono HB2.out.size), by
      obtain ⟨R, p⟩ := hpg.ex
      exact ⟨R, p.congr (fun v hv => by unfold rgL; rw [if_pos hv]) (fun _ _ => rfl) (fun v hv => by unfold rgC; rw [if_pos hv])⟩, HROW.out.of_block (hpg.up.block _ hgz2), hgz, hgz2, by have := hpg.up.size; omega⟩)
    clear hpg HRP2 HROW HB2
    generalize W2.heap.size = B at *
    go_wp2
    go_loopw [19] (fun i wr => ∃ k : Nat, k ≤ n ∧ i = .int .i64 k ∧ Hid (CR w g B n a x k wr)) (fun i _ => n - (intOf i).toNat)
    case atStart => exact ⟨0, Nat.zero_le _, rfl, HCR⟩
    case round =>
      clear HCR
      obtain ⟨k, hk, rfl, HC⟩ := hrel
      by_cases hlt : k < n
      · obtain ⟨R, hpl⟩ := HC.out.ex
        have c0 := hpl.row.cell hlt
        simp only [pv] at c0
        have HBE := Lib.hid (best_any B n (fun v => [rl n v, rr n v]) (gi x) (scv a x n) R wr hpl k hlt ⟨by simp, fun u hu => by
          simp only [List.mem_cons, List.not_mem_nil, or_false] at hu
          rcases hu with rfl | rfl
          · exact rl_lt (by omega)
          · exact rr_lt (by omega)⟩)
        have HBB := Lib.hid (show bstF (scv a x n) k [rl n k, rr n k] [rl n k, rr n k].length = bat a x n k from bstF_bat a x n k)
        rw [HBB.out] at HBE
        have hbl : bat a x n k < n := bat_lt hlt
        have HPL := Lib.hid hpl
        clear hpl HBB
        go_wp2_with fail
        refine HBE.out.mono ?_
        rintro e w4 ⟨rfl, hq⟩
        have HC4 := Lib.hid (HC.out.quiet hq)
        have hpl := HPL.out.quiet hq
        have c1 := blk_cell (hpl.bl _ hbl) (i := 1) rfl
        have c2 := HC4.out.row.cell hlt
        simp only [filled, if_neg (Nat.lt_irrefl k)] at c2
        have f2 := HC4.out.row.frozen k
        have HC5 := Lib.hid (HC4.out.step hlt)
        clear hq hpl HPL HC HC4 HBE c0
        generalize gi x (bat a x n k) = gx at *
        generalize bat a x n k = y at *
        go_wp2
        go_roundw
        case rel => exact ⟨k + 1, by omega, by go_num, HC5⟩
        case measure => simp [intOf]; omega
      · obtain rfl : k = n := by omega
        have HE := Lib.hid (show NewI w (cpF a x) (.returned (.slice (some ⟨g, 0, none⟩) k k)) wr from by
          rw [HF.out, HLX.out]
          exact ⟨_, _, _, g, rfl, (cpL_len _ _ _ _).symm, OwnI.of_rowIs (cpL_len _ _ _ _) (by omega) (fun y hy => by
            obtain ⟨i, hi, rfl⟩ := List.mem_map.1 hy
            have := HXB.out (bat a x k i) (bat_lt (List.mem_range.1 hi)); omega) HC.out.hg HC.out.hz HC.out.row (fun j hj => by simp [filled, hj]), HC.out.up⟩)
        clear HC
        go_wp2
        go_ret
        exact HE.out
  · have HF := Lib.hid (cpF_no hr)
    rw [pb_false hr] at HIS
    clear ha hx hr hl
    go_enter Try.func16, Try.ntmps16
    go_wp2_with fail
    refine HIS.out.mono ?_
    rintro e w1 ⟨rfl, hq1⟩
    have HE := Lib.hid (show NewI w (cpF a x) (.returned (.slice none 0 0)) w1 from by
      rw [HF.out]
      exact ⟨none, 0, 0, 0, rfl, rfl, OwnI.nil _ _ _ _, hq1.below⟩)
    clear hq1 HIS
    go_wp2
    go_ret
    exact HE.out

end Go.Proofs.Ytbmacoppeidhaaa

/- One block alone has turned: what is elsewhere stays; new lists whose block is known. -/
namespace Go.Proofs.Ytbmacoppeidhaaa
open Go.RowKit
theorem eqI_same (xs : List Int) : eqI xs xs = true := eqI_yes rfl fun _ _ => rfl
theorem OwnI.one {lo hi g w w' b A n c xs} (h : OwnI lo hi w b A n c xs) (k : One g w w') (hne : b ≠ g) : OwnI lo hi w' b A n c xs := h.of_block fun _ => k.block b hne
theorem One.below {S g : Nat} {a w w' : World} (h : Below S a w) (k : One g w w') (hg : S ≤ g) : Below S a w' := Touch.below h (k.touch (Nat.le_refl g) (Nat.lt_succ_self g)) hg
theorem NewI.ge {w w' : World} {ys : List Int} {e : Ending} (h : NewI w ys e w') :
    ∃ Av c gg, e = .returned (.slice Av ys.length c) ∧ OwnI w.heap.size w'.heap.size w' gg Av ys.length c ys ∧ w.heap.size ≤ gg ∧ Below w.heap.size w w' := by
  obtain ⟨Av, n, c, gg, rfl, rfl, ho, hb⟩ := h
  by_cases h0 : 0 < ys.length
  · obtain ⟨o, e, h1, h2, hf⟩ := ho.own h0
    exact ⟨Av, c, gg, rfl, ho, h1, hb⟩
  · exact ⟨Av, c, w.heap.size, rfl, ⟨ho.ints, fun hn => absurd hn h0⟩, Nat.le_refl _, hb⟩
end Go.Proofs.Ytbmacoppeidhaaa

/- The harness of the exact laws: a copy of a game marked; how many numbers it has. -/
namespace Go.Proofs.Ytbmacoppeidhaaa
open Go.RowKit

theorem szR_offs (left : Int) (xs : List (List Int)) (h : 0 ≤ szR left xs) : szR left xs = left - offs xs xs.length := by
  have key : ∀ (xs : List (List Int)) (left : Int), 0 ≤ szR left xs → szR left xs = left - ((xs.map List.length).sum : Nat) := by
    intro xs
    induction xs with
    | nil => intro left _; simp [szR]
    | cons x xs ih =>
      intro left h
      by_cases hn : szI left x.length < 0
      · rw [szR_neg hn] at h; omega
      · rw [szR_pos hn] at h ⊢
        rw [ih _ h]
        have : szI left x.length = left - x.length := by unfold szI at hn ⊢; split <;> simp_all
        rw [this]
        simp
        omega
  have key2 : ∀ k, k ≤ xs.length → offs xs k = (((xs.take k).map List.length).sum : Nat) := by
    intro k
    induction k with
    | zero => intro _; simp [offs]
    | succ k ih =>
      intro hk
      rw [offs, ih (by omega), List.take_succ_eq_append_getElem (by omega), List.map_append, List.sum_append, gr_get (by omega)]
      simp
  rw [key xs left h, key2 _ (Nat.le_refl _), List.take_length]
theorem szRR_offs {left : Int} {xs : List (List Int)} (h : ¬ szRR left xs < 0) : offs xs xs.length ≤ left := by
  unfold szRR at h
  split at h
  · omega
  · rename_i hn
    have := szR_offs _ _ (by omega : 0 ≤ szR (szI left xs.length) xs)
    have h2 : szI left xs.length ≤ left := by unfold szI at hn ⊢; split <;> simp_all; omega
    omega
theorem szG_offs {left : Int} {xs ys : List (List Int)} (h : ¬ szG left xs ys < 0) (h0 : 0 ≤ left) (h1 : left ≤ 1048576) : offs xs xs.length ≤ 1048576 ∧ offs ys ys.length ≤ 1048576 := by
  unfold szG at h
  split at h
  · omega
  · rename_i hn
    split at h
    · omega
    · rename_i hn2
      have := szRR_offs hn
      have := szRR_offs hn2
      have := szRR_le left xs h0 h1
      omega

/-- A game marked: only its own rows have turned, and new blocks are there. -/
def MarkedG (lo hi : Nat) (w : World) (xs ys : List (List Int)) (k : Int) (e : Ending) (w' : World) : Prop :=
  e = .returned (.int .i64 (k + offs xs xs.length + offs ys ys.length)) ∧ ∃ w1, Below w.heap.size w w1 ∧ Touch lo hi w1 w'

def MarkedP (lo hi : Nat) (w : World) (xs ys : List (List Int)) (k : Int) (n m : Nat) (e : Ending) (w' : World) : Prop :=
  e = .returned (.int .i64 (k + offs xs n + offs ys m)) ∧ ∃ w1, Below w.heap.size w w1 ∧ Touch lo hi w1 w'

set_option maxHeartbeats 1000000 in
theorem markGame_any (lo mid hi g g1 g2 n m : Nat) (xs ys : List (List Int)) (k : Int) (w : World) (hx : XS lo mid hi w g g1 g2 n m xs ys) (h0 : 0 ≤ k) (hk : k ≤ 1048576) (h1 : offs xs xs.length ≤ 1048576) (h2 : offs ys ys.length ≤ 1048576) :
    Calls Try.prog 38 #[.agg #[.slice (some ⟨g1, 0, none⟩) n n, .slice (some ⟨g2, 0, none⟩) m m], .int .i64 k] w (MarkedG lo hi w xs ys k) := by
  have hb0 := below_alloc w (.cells #[.slice (some ⟨g1, 0, none⟩) n n, .slice (some ⟨g2, 0, none⟩) m m] 40)
  have b0 := blk_new w 40 #[.slice (some ⟨g1, 0, none⟩) n n, .slice (some ⟨g2, 0, none⟩) m m]
  have HX := Lib.hid (hx.up hb0)
  have HB := Lib.hid hb0
  have HK := Lib.hid b0
  have hle := hx.le
  have hm1 := hx.h1
  have hm2 := hx.h2
  have hlx := hx.rx.len
  have hly := hx.ry.len
  have g1' := offs_ge xs xs.length
  have g2' := offs_ge ys ys.length
  rw [hlx] at h1 g1'
  rw [hly] at h2 g2'
  unfold MarkedG
  rw [hlx, hly]
  clear hx hb0 b0 hlx hly
  have HP : Hid (∀ e w', (e = .returned (.int .i64 (k + offs xs n + offs ys m)) ∧ ∃ w1, Below w.heap.size w w1 ∧ Touch lo hi w1 w') → MarkedP lo hi w xs ys k n m e w') := Lib.hid (fun _ _ h => h)
  suffices h : Calls Try.prog 38 #[.agg #[.slice (some ⟨g1, 0, none⟩) n n, .slice (some ⟨g2, 0, none⟩) m m], .int .i64 k] w (MarkedP lo hi w xs ys k n m) from h
  go_enter Try.func38, Try.ntmps38
  go_wp2_with fail
  generalize w.alloc (.cells #[.slice (some ⟨g1, 0, none⟩) n n, .slice (some ⟨g2, 0, none⟩) m m] 40) = W1 at *
  have HC := Lib.hid (markIntSS_any lo mid g1 _ n n xs k W1 HX.out.rx h0 (by omega))
  refine HC.out.mono ?_
  rintro e w1 ⟨rfl, _, hT⟩
  have hk1 := blk_touch HK.out hT (.inr (by omega))
  have c1 := blk_cell hk1 (i := 1) (v := .slice (some ⟨g2, 0, none⟩) m m) rfl
  have HC2 := Lib.hid (markIntSS_any mid hi g2 _ m m ys (k + offs xs n) w1 (HX.out.ry.touch hT (.inr (Nat.le_refl _))) (by omega) (by omega))
  have HT := Lib.hid hT
  clear hT HC
  go_wp2_with fail
  refine HC2.out.mono ?_
  rintro e w2 ⟨rfl, _, hT2⟩
  have HT2 := Lib.hid hT2
  clear hT2 HC2 c1
  go_wp2
  go_ret
  exact HP.out _ _ ⟨rfl, _, HB.out, (HT.out.mono (Nat.le_refl _) hm2).trans (HT2.out.mono hm1 (Nat.le_refl _))⟩

theorem offs_le {xss : List (List Int)} (h : ∀ r ∈ xss, r.length ≤ 3) : ∀ k, k ≤ xss.length → offs xss k ≤ 3 * k
  | 0, _ => by simp [offs]
  | k + 1, hk => by
    have h1 := offs_le h k (by omega)
    have h2 := h _ (gr_mem (xs := xss) (k := k) (by omega))
    simp only [offs]
    omega

/-- What an exact law on a game with rows as its result knows: its argument, the program's own copy of it, the model's rows, the program's rows. -/
structure Ex (w : World) (A B : Option Addr) (n c m d : Nat) (xs ys : List (List Int)) (lo mid hi g g3 g4 S1 gs : Nat) (As : Option Addr) (cs L1 L2 gg : Nat) (Ag : Option Addr) (cg : Nat) (rs rg : List (List Int)) (W : World) : Prop where
  fg : GS w W A B n c m d xs ys
  fx : XS lo mid hi W g g3 g4 n m xs ys
  fs : OwnR S1 lo W gs As rs.length cs rs
  fr : OwnR L1 L2 W gg Ag rs.length cg rg
  h1 : w.heap.size < lo
  h2 : hi ≤ L1
  h3 : lo ≤ hi
theorem Ex.up {w A B n c m d xs ys lo mid hi g g3 g4 S1 gs As cs L1 L2 gg Ag cg rs rg W W'} (h : Ex w A B n c m d xs ys lo mid hi g g3 g4 S1 gs As cs L1 L2 gg Ag cg rs rg W) (k : Below W.heap.size W W') :
    Ex w A B n c m d xs ys lo mid hi g g3 g4 S1 gs As cs L1 L2 gg Ag cg rs rg W' :=
  ⟨h.fg.up k, h.fx.up k, h.fs.below k, h.fr.below k, h.h1, h.h2, h.h3⟩
theorem Ex.cells {w A B n c m d xs ys lo mid hi g g3 g4 S1 gs As cs L1 L2 gg Ag cg rs rg W} (h : Ex w A B n c m d xs ys lo mid hi g g3 g4 S1 gs As cs L1 L2 gg Ag cg rs rg W) :
    (W.cell? ⟨w.heap.size, 0, none⟩ = some (.slice A n c) ∧ W.cell? ⟨w.heap.size, 1, none⟩ = some (.slice B m d)) ∧ (W.cell? ⟨g, 0, none⟩ = some (.slice (some ⟨g3, 0, none⟩) n n) ∧ W.cell? ⟨g, 1, none⟩ = some (.slice (some ⟨g4, 0, none⟩) m m)) :=
  ⟨⟨h.fg.c0, h.fg.c1⟩, ⟨h.fx.c0, h.fx.c1⟩⟩
/-- .. behind the marks: the copy is no longer asked for. -/
structure Ey (w : World) (A B : Option Addr) (n c m d : Nat) (xs ys : List (List Int)) (lo S1 gs : Nat) (As : Option Addr) (cs L1 L2 gg : Nat) (Ag : Option Addr) (cg : Nat) (rs rg : List (List Int)) (W : World) : Prop where
  fg : GS w W A B n c m d xs ys
  fs : OwnR S1 lo W gs As rs.length cs rs
  fr : OwnR L1 L2 W gg Ag rs.length cg rg
  h1 : w.heap.size < lo
  h2 : lo ≤ L1
theorem Ey.up {w A B n c m d xs ys lo S1 gs As cs L1 L2 gg Ag cg rs rg W W'} (h : Ey w A B n c m d xs ys lo S1 gs As cs L1 L2 gg Ag cg rs rg W) (k : Below W.heap.size W W') : Ey w A B n c m d xs ys lo S1 gs As cs L1 L2 gg Ag cg rs rg W' :=
  ⟨h.fg.up k, h.fs.below k, h.fr.below k, h.h1, h.h2⟩
theorem Ex.mark {w A B n c m d xs ys lo mid hi g g3 g4 S1 gs As cs L1 L2 gg Ag cg rs rg W W1 W2} (h : Ex w A B n c m d xs ys lo mid hi g g3 g4 S1 gs As cs L1 L2 gg Ag cg rs rg W) (k : Below W.heap.size W W1) (t : Touch lo hi W1 W2) :
    Ey w A B n c m d xs ys lo S1 gs As cs L1 L2 gg Ag cg rs rg W2 :=
  ⟨(h.fg.up k).touch t h.h1, (h.fs.below k).touch t (.inl (Nat.le_refl _)), (h.fr.below k).touch t (.inr h.h2), h.h1, Nat.le_trans h.h3 h.h2⟩
theorem Ey.mark {w A B n c m d xs ys lo S1 gs As cs L1 L2 gg Ag cg rs rg rg' W W2} (h : Ey w A B n c m d xs ys lo S1 gs As cs L1 L2 gg Ag cg rs rg W) (t : Touch L1 L2 W W2) (hg : OwnR L1 L2 W2 gg Ag rs.length cg rg') :
    Ey w A B n c m d xs ys lo S1 gs As cs L1 L2 gg Ag cg rs rg' W2 :=
  ⟨h.fg.touch t (Nat.lt_of_lt_of_le h.h1 h.h2), h.fs.touch t (.inl h.h2), hg, h.h1, h.h2⟩
end Go.Proofs.Ytbmacoppeidhaaa

