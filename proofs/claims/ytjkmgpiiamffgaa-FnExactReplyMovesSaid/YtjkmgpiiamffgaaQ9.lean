/- Texts merged: N20 Math19 Z2 Z3 K1 K2 K3 N21 Math31 Math40 J1 K4 Math20 Z4 Mix K6 Ones. -/
import Derived.Test.YtjkmgpiiamffgaaQ8
import Derived.StillTailTactics
/- The places of a ring, by the program. -/
namespace Go.Proofs.Ytjkmgpiiamffgaa
open Go.RowKit

theorem PG.next {w a x n i W W'} (h : PG w a x n i W) (k : Below W.heap.size W W') : PG w a x n i W' := ⟨below_up h.up k, let ⟨R, q⟩ := h.ex; ⟨R, q.next k⟩⟩
set_option maxRecDepth 100000 in
set_option maxHeartbeats 1600000 in
theorem ringPlaces_any (b o : Nat) (rb ro cc : Nat → Nat) (s ca : Nat) (X : Option Addr) (n c : Nat) (a : List (List Int)) (x : List Int) (w : World) (ht : Tab w b o rb ro cc s s a) (hx : Ints w X n c x) (h : RgQ a x) (hs : a.length = s) :
    Calls Try.prog 74 #[.slice (some ⟨b, o, none⟩) s ca, .slice X n c] w fun e w' => e = .returned (.slice (some ⟨w.heap.size, 0, none⟩) n n) ∧ PG w a x n n w' := by
  have HT := Lib.hid ht
  have hl := hx.len
  have hn3 : 3 ≤ n := by rw [← hl]; exact h.n3
  have hn8 : n ≤ 8 := by rw [← hl]; exact h.n8
  obtain ⟨bx, ox, rfl, hcx⟩ := hx.at_ (by omega)
  have HCX := Lib.hid hcx
  have HIX := Lib.hid (fun i (hi : i < n) => show gi x i = ((rix x i : Nat) : Int) ∧ rix x i < s from by rw [← hs]; exact h.ix (by rw [hl]; exact hi))
  have HSV := Lib.hid (fun i => show scv a x n i = g2 a (rix x i) (rix x (rr n i)) + g2 a (rix x i) (rix x (rl n i)) from rfl)
  have HS0 := Lib.hid (PR.start w n (gi x))
  have hmk := run_make_row' (P := Try.prog) 77 79 (.pointer none) 8 Try.underlying77 Try.info_pp rfl .i64 .i64 n (by omega) (by omega)
  clear ht hx h hs hl hcx
  go_enter Try.func74, Try.ntmps74
  go_wp2
  clear hmk
  go_loopw [19] (fun i wr => ∃ k : Nat, k ≤ n ∧ i = .int .i64 k ∧ Hid (PR w n (gi x) k wr)) (fun i _ => n - (intOf i).toNat)
  case atStart => exact ⟨0, Nat.zero_le _, rfl, HS0⟩
  case round =>
    clear HS0
    obtain ⟨k, hk, rfl, HA⟩ := hrel
    by_cases hlt : k < n
    · have HA1 := Lib.hid (HA.out.step hlt)
      have px := Keep.below HA.out.up _ _ (HCX.out k hlt)
      have c0 := (HA.out.row.alloc (.cells #[.slice none 0 0, .int .i64 (gi x k), .int .i64 0] 81)).cell hlt
      have f0 := (HA.out.row.alloc (.cells #[.slice none 0 0, .int .i64 (gi x k), .int .i64 0] 81)).frozen k
      rw [if_neg (Nat.lt_irrefl k)] at c0
      clear HA
      go_wp2
      go_roundw
      case rel => exact ⟨k + 1, by omega, by go_num, HA1⟩
      case measure => simp [intOf]; omega
    · obtain rfl : n = k := by omega
      have HP0 := Lib.hid (PR.pg (a := a) (x := x) HA.out)
      clear HA
      go_wp2
      go_loopw [33] (fun i wr2 => ∃ k : Nat, k ≤ n ∧ i = .int .i64 k ∧ Hid (PG w a x n k wr2)) (fun i _ => n - (intOf i).toNat)
      case atStart => exact ⟨0, Nat.zero_le _, rfl, HP0⟩
      case round =>
        clear HP0
        obtain ⟨k, hk, rfl, HP⟩ := hrel
        by_cases hlt : k < n
        · have hr := rr_lt (n := n) (i := k) (by omega)
          have hll := rl_lt (n := n) (i := k) (by omega)
          have t1 : ((k : Int) + 1).tmod (n : Int) = ((rr n k : Nat) : Int) := by have := tmod_nat (k + 1) n; rw [Int.natCast_add] at this; exact this
          have t2 : ((k : Int) + (n : Int) - 1).tmod (n : Int) = ((rl n k : Nat) : Int) := by
            have := tmod_nat (k + n - 1) n
            rw [show ((k + n - 1 : Nat) : Int) = (k : Int) + (n : Int) - 1 by omega] at this
            exact this
          have hn0 : ((n : Int) == 0) = false := by rw [beq_eq_false_iff_ne]; omega
          have hn0' : ¬ (n = 0) := by omega
          obtain ⟨e1, j1⟩ := HIX.out k hlt
          obtain ⟨e2, j2⟩ := HIX.out (rr n k) hr
          obtain ⟨e3, j3⟩ := HIX.out (rl n k) hll
          have hb1 := HT.out.bd (rix x k) (rix x (rr n k)) j1 j2
          have hb2 := HT.out.bd (rix x k) (rix x (rl n k)) j1 j3
          have hsv := HSV.out k
          obtain ⟨R, hpl⟩ := HP.out.ex
          have HTB := Lib.hid (Keep.below HP.out.up)
          have q0 := hpl.row.cell hlt
          have q1 := hpl.row.cell hll
          have q2 := hpl.row.cell hr
          have HPQ := Lib.hid (fun m => HP.out.next (Quiet.below (B := wr.heap.size) ⟨m, rfl⟩))
          have HPR := Lib.hid (fun m => hpl.next (Quiet.below (B := wr.heap.size) ⟨m, rfl⟩))
          clear HP hpl
          have hsv2 : scv a x n k = g2 a (rix x k) (rix x (rl n k)) + g2 a (rix x k) (rix x (rr n k)) := by rw [hsv]; exact Int.add_comm _ _
          simp only [pv] at q0 q1 q2
          have HST := Lib.hid (fun m => (HPQ.out m).step hlt)
          rw [hsv2] at HST
          clear hsv2
          have HR2 := Lib.hid (fun m => (HPR.out m).row2 hlt (rl n k) (rr n k))
          generalize hrl : rl n k = r1 at *
          generalize hrr : rr n k = r2 at *
          have HRR := Lib.hid (And.intro hrl hrr)
          have HE := Lib.hid (And.intro e1 (And.intro e2 e3))
          clear hrl hrr e1 e2 e3
          go_wp2
          go_quiet (fail)
          all_goals
            clear q0 q1 q2 t1 t2
            have hb0 := blk_old ((HPR.out nq).bl k hlt) (.cells #[.pointer (some ⟨w.heap.size + 1 + r1, 0, none⟩), .pointer (some ⟨w.heap.size + 1 + r2, 0, none⟩)] 79)
            have c0 := blk_cell hb0 (i := 0) rfl
            have f0 := blk_frozen hb0 0
            have hss : PG w a x n (k + 1) ((((wr.drewN nq).alloc (.cells #[.pointer (some ⟨w.heap.size + 1 + r1, 0, none⟩), .pointer (some ⟨w.heap.size + 1 + r2, 0, none⟩)] 79)).setCell ⟨w.heap.size + 1 + k, 0, none⟩ (.slice (some ⟨wr.heap.size, 0, none⟩) 2 2)).setCell ⟨w.heap.size + 1 + k, 2, none⟩ (.int .i64 (g2 a (rix x k) (rix x r1) + g2 a (rix x k) (rix x r2)))) := HST.out nq
            have hr2 : PLr w.heap.size n (upd (rgL n k) k [r1, r2]) (gi x) (rgC a x n k) (upd R k (.slice (some ⟨wr.heap.size, 0, none⟩) 2 2)) (((wr.drewN nq).alloc (.cells #[.pointer (some ⟨w.heap.size + 1 + r1, 0, none⟩), .pointer (some ⟨w.heap.size + 1 + r2, 0, none⟩)] 79)).setCell ⟨w.heap.size + 1 + k, 0, none⟩ (.slice (some ⟨wr.heap.size, 0, none⟩) 2 2)) := HR2.out nq
            have hb3 : Below w.heap.size w (((wr.drewN nq).alloc (.cells #[.pointer (some ⟨w.heap.size + 1 + r1, 0, none⟩), .pointer (some ⟨w.heap.size + 1 + r2, 0, none⟩)] 79)).setCell ⟨w.heap.size + 1 + k, 0, none⟩ (.slice (some ⟨wr.heap.size, 0, none⟩) 2 2)) := (below_up (HPQ.out nq).up (below_alloc _ _)).setCell (by show w.heap.size ≤ w.heap.size + 1 + k; omega) _
            have HSS := Lib.hid hss
            have HR3 := Lib.hid hr2
            have HB3 := Lib.hid hb3
            clear hb0 hss hr2 hb3 HST HR2 HPQ HPR HTB
            go_wp2
            obtain ⟨W3, hW3⟩ : ∃ W3, W3 = ((wr.drewN nq).alloc (.cells #[.pointer (some ⟨w.heap.size + 1 + r1, 0, none⟩), .pointer (some ⟨w.heap.size + 1 + r2, 0, none⟩)] 79)).setCell ⟨w.heap.size + 1 + k, 0, none⟩ (.slice (some ⟨wr.heap.size, 0, none⟩) 2 2) := ⟨_, rfl⟩
            rw [← hW3] at HSS HR3 HB3
            rw [← hW3]
            clear hW3 c0 f0
            have c1 := blk_cell (HR3.out.bl k hlt) (i := 1) rfl
            have c2 := blk_cell (HR3.out.bl r1 hll) (i := 1) rfl
            have c3 := blk_cell (HR3.out.bl r2 hr) (i := 1) rfl
            have c4 := blk_cell (HR3.out.bl k hlt) (i := 2) rfl
            have f4 := blk_frozen (HR3.out.bl k hlt) 2
            rw [HE.out.1] at c1
            rw [HE.out.2.2] at c2
            rw [HE.out.2.1] at c3
            have ra := Keep.below HB3.out _ _ (HT.out.row _ j1)
            have d1 := Keep.below HB3.out _ _ (HT.out.cell _ _ j1 j3)
            have d2 := Keep.below HB3.out _ _ (HT.out.cell _ _ j1 j2)
            clear hsv HR3 HB3
            generalize g2 a (rix x k) (rix x r1) = E2 at *
            generalize g2 a (rix x k) (rix x r2) = E1 at *
            generalize rix x k = i1 at *
            generalize rix x r1 = i2 at *
            generalize rix x r2 = i3 at *
            have hw : IntKind.i64.wrap (E2 + E1) = E2 + E1 := wrapIn (by omega)
            go_still_tail 30, (by kernel_rfl)
            go_wp2
            have HP8 := Lib.hid (HSS.out.next (Quiet.below ⟨1, rfl⟩))
            go_roundw
            case rel => exact ⟨k + 1, by omega, by go_num, Lib.hid (by exact HP8.out)⟩
            case measure => simp [intOf]; omega
        · obtain rfl : n = k := by omega
          have HE := Lib.hid HP.out
          go_wp2
          go_ret
          exact ⟨rfl, HE.out⟩

end Go.Proofs.Ytjkmgpiiamffgaa

/- Sums of a row with shares. -/
namespace Go.Proofs.Ytjkmgpiiamffgaa

/-- What row i has against shares: the terms, and the sum of the first j of them. -/
def dotr (a : List (List Int)) (w : List Int) (i : Nat) : Nat → Int
  | 0 => 0
  | j + 1 => dotr a w i j + g2 a i j * gi w j
def termL (a : List (List Int)) (w : List Int) (i : Nat) : Nat → List Int
  | 0 => []
  | j + 1 => termL a w i j ++ [g2 a i j * gi w j]
theorem termL_len (a : List (List Int)) (w : List Int) (i : Nat) : ∀ j, (termL a w i j).length = j
  | 0 => rfl
  | j + 1 => by rw [termL, List.length_append, termL_len a w i j]; rfl
theorem termL_tot (a : List (List Int)) (w : List Int) (i : Nat) : ∀ j, tot (termL a w i j) = dotr a w i j
  | 0 => rfl
  | j + 1 => by rw [termL, tot_snoc, termL_tot a w i j, dotr]
theorem termL_bd {a : List (List Int)} {w : List Int} {i m : Nat} (ha : ∀ j, j < m → -9 ≤ g2 a i j ∧ g2 a i j ≤ 9) (hw : ∀ j, j < m → 0 ≤ gi w j ∧ gi w j ≤ 1000) :
    ∀ {j}, j ≤ m → ∀ t ∈ termL a w i j, -9000 ≤ t ∧ t ≤ 9000
  | 0, _, t, h => by simp [termL] at h
  | j + 1, hj, t, h => by
    rw [termL, List.mem_append] at h
    rcases h with h | h
    · exact termL_bd ha hw (j := j) (by omega) t h
    · simp only [List.mem_singleton] at h; subst h
      exact mul_bd3 (hw j (by omega)) (ha j (by omega))
theorem dotr_bd {a : List (List Int)} {w : List Int} {i m : Nat} (ha : ∀ j, j < m → -9 ≤ g2 a i j ∧ g2 a i j ≤ 9) (hw : ∀ j, j < m → 0 ≤ gi w j ∧ gi w j ≤ 1000) :
    ∀ {j}, j ≤ m → -9000 * (j : Int) ≤ dotr a w i j ∧ dotr a w i j ≤ 9000 * (j : Int)
  | 0, _ => by simp [dotr]
  | j + 1, hj => by
    have h1 := dotr_bd ha hw (j := j) (by omega)
    have h2 := mul_bd3 (hw j (by omega)) (ha j (by omega))
    simp only [dotr]
    omega
/-- .. against one strategy alone: a number of the table. -/
theorem dotr_onl (a : List (List Int)) (n i k : Nat) : ∀ {j}, j ≤ n → dotr a (onl n k) i j = if k < j then g2 a i k else 0
  | 0, _ => by simp [dotr]
  | j + 1, h => by
    rw [dotr, dotr_onl a n i k (j := j) (by omega), gi_onl (by omega)]
    by_cases e : j = k
    · subst e; rw [if_neg (by omega), if_pos rfl, if_pos (by omega)]; simp
    · rw [if_neg e]
      by_cases h2 : k < j
      · rw [if_pos h2, if_pos (by omega)]; simp
      · rw [if_neg h2, if_neg (by omega)]; simp
theorem dotr_alone (a : List (List Int)) (n i k : Nat) (hk : k < n) : dotr a (onl n k) i n = g2 a i k := by
  rw [dotr_onl a n i k (Nat.le_refl n), if_pos hk]
theorem payR_row (a : List (List Int)) (w : List Int) (n i k : Nat) (hk : k < n) : ∀ j, payR a (onl n i) w k j = if k = i then dotr a w i j else 0
  | 0 => by simp [payR, dotr]
  | j + 1 => by
    rw [payR, payR_row a w n i k hk j, gi_onl hk, dotr]
    by_cases e : k = i
    · subst e; rw [if_pos rfl, if_pos rfl, if_pos rfl, Int.one_mul, Int.mul_comm (gi w j)]
    · rw [if_neg e, if_neg e, if_neg e]; simp
theorem payU_row (a : List (List Int)) (w : List Int) (n m i : Nat) : ∀ {k}, k ≤ n → payU a (onl n i) w m k = if i < k then dotr a w i m else 0
  | 0, _ => by simp [payU]
  | k + 1, h => by
    rw [payU, payU_row a w n m i (k := k) (by omega), payR_row a w n i k (by omega)]
    by_cases e : k = i
    · subst e; rw [if_neg (by omega), if_pos rfl, if_pos (by omega)]; simp
    · rw [if_neg e]
      by_cases h2 : i < k
      · rw [if_pos h2, if_pos (by omega)]; simp
      · rw [if_neg h2, if_neg (by omega)]; simp
/-- The model's sum with one strategy alone is that of its row. -/
theorem payU_alone (a : List (List Int)) (w : List Int) (n m i : Nat) (hi : i < n) : payU a (onl n i) w m n = dotr a w i m := by
  rw [payU_row a w n m i (Nat.le_refl n), if_pos hi]
end Go.Proofs.Ytjkmgpiiamffgaa

/- When one strategy holds against another one, by the model. -/
namespace Go.Proofs.Ytjkmgpiiamffgaa
open Go.RowKit

/-- Strategy i holds against j: more against i, or as much, and more against j. -/
def HoldP (a : List (List Int)) (i j : Nat) : Prop := g2 a j i < g2 a i i ∨ g2 a i i = g2 a j i ∧ g2 a j j < g2 a i j

end Go.Proofs.Ytjkmgpiiamffgaa

/- Stable strategies, by the model. -/
namespace Go.Proofs.Ytjkmgpiiamffgaa
open Go.RowKit

/-- Strategy i holds against all others before number l. -/
def StP (a : List (List Int)) (i l : Nat) : Prop := ∀ j, j < l → i = j ∨ HoldP a i j
theorem StP.zero (a : List (List Int)) (i : Nat) : StP a i 0 := fun _ h => absurd h (by omega)
theorem StP.succ {a : List (List Int)} {i l : Nat} : StP a i (l + 1) ↔ StP a i l ∧ (i = l ∨ HoldP a i l) := by
  constructor
  · exact fun h => ⟨fun j hj => h j (by omega), h l (by omega)⟩
  · rintro ⟨h1, h2⟩ j hj
    by_cases e : j = l
    · subst e; exact h2
    · exact h1 j (by omega)
/-- The strategies before number k that hold against all n. -/
noncomputable def stL (a : List (List Int)) (n : Nat) : Nat → List Int
  | 0 => []
  | k + 1 => stL a n k ++ (if pb (StP a k n) = true then [(k : Int)] else [])
theorem stL_yes {a : List (List Int)} {n k : Nat} (h : StP a k n) : stL a n (k + 1) = stL a n k ++ [(k : Int)] := by rw [stL, if_pos (pb_true h)]
theorem stL_no {a : List (List Int)} {n k : Nat} (h : ¬ StP a k n) : stL a n (k + 1) = stL a n k := by rw [stL, if_neg (by rw [pb_false h]; decide), List.append_nil]
theorem stL_len (a : List (List Int)) (n : Nat) : ∀ k, (stL a n k).length ≤ k
  | 0 => by simp [stL]
  | k + 1 => by
    have := stL_len a n k
    rw [stL, List.length_append]
    split <;> simp <;> omega
theorem stL_bd (a : List (List Int)) (n : Nat) : ∀ k, ∀ y ∈ stL a n k, 0 ≤ y ∧ y < (k : Int)
  | 0, y, h => by simp [stL] at h
  | k + 1, y, h => by
    rw [stL, List.mem_append] at h
    rcases h with h | h
    · have := stL_bd a n k y h; omega
    · split at h
      · simp only [List.mem_singleton] at h; omega
      · simp at h
/-- What StableOf answers. -/
noncomputable def stF (a : List (List Int)) : List Int := if pb (VQ a) = true then stL a a.length a.length else []
theorem NewI.quiet {w w1 w' : World} {ys : List Int} {e : Ending} (h : Quiet w w1) (k : NewI w1 ys e w') : NewI w ys e w' := by
  obtain ⟨m, rfl⟩ := h
  obtain ⟨A, n, c, g, e1, e2, ho, hb⟩ := k
  exact ⟨A, n, c, g, e1, e2, ho, ⟨hb.os, hb.tape, hb.output, hb.size, hb.block⟩⟩
theorem IU.quiet {wb v ys w w'} (h : IU wb v ys w) (k : Quiet w w') : IU wb v ys w' := h.next k.below

end Go.Proofs.Ytjkmgpiiamffgaa

/- What strategies have against shares, told by a closure; which hold: by the program. -/
namespace Go.Proofs.Ytjkmgpiiamffgaa
open Go.RowKit

theorem VS.bds {w : List Int} {n : Nat} (h : VS w n) : ∀ j, j < n → 0 ≤ gi w j ∧ gi w j ≤ 1000 := fun j hj => h.2.1 j (by have := h.1; omega)
theorem onl_bds (n k : Nat) : ∀ j, j < n → 0 ≤ gi (onl n k) j ∧ gi (onl n k) j ≤ 1000 := fun j hj => by have := onl_bd (n := n) (i := k) hj; omega
/-- Where the closure finds the table and the shares. -/
structure PA (a : List (List Int)) (w : List Int) (n : Nat) (pa pw b o c cw : Nat) (rb ro cc : Nat → Nat) (Y : Option Addr) (W : World) : Prop where
  tab : Tab W b o rb ro cc n n a
  sh : Ints W Y n cw w
  bd : ∀ j, j < n → 0 ≤ gi w j ∧ gi w j ≤ 1000
  ca : W.cell? ⟨pa, 0, none⟩ = some (.slice (some ⟨b, o, none⟩) n c)
  cs : W.cell? ⟨pw, 0, none⟩ = some (.slice Y n cw)
theorem PA.keep {a w n pa pw b o c cw rb ro cc Y W W'} (h : PA a w n pa pw b o c cw rb ro cc Y W) (k : Keep W W') : PA a w n pa pw b o c cw rb ro cc Y W' :=
  ⟨h.tab.keep k, h.sh.keep k, h.bd, k _ _ h.ca, k _ _ h.cs⟩

set_option maxRecDepth 100000 in
set_option maxHeartbeats 1600000 in
theorem payAt_any (a : List (List Int)) (w : List Int) (n pa pw b o c cw : Nat) (rb ro cc : Nat → Nat) (Y : Option Addr) (W : World) (h : PA a w n pa pw b o c cw rb ro cc Y W) (i : Nat) (hi : i < n) :
    Calls Try.prog 107 #[.int .i64 i, .pointer (some ⟨pa, 0, none⟩), .pointer (some ⟨pw, 0, none⟩)] W (Ret (.int .i64 (dotr a w i n)) W) := by
  have H := Lib.hid h
  have hn1 := h.tab.n1
  have hn3 := h.tab.n3
  have q1 := h.ca
  have q2 := h.cs
  have q3 := h.tab.row i hi
  have HB := Lib.hid (fun j (hj : j < n) => h.tab.bd i j hi hj)
  obtain ⟨by_, oy, rfl, hcy⟩ := h.sh.at_ (by omega)
  have HY := Lib.hid hcy
  have HS0 := Lib.hid (IU.nil W)
  have HZ : Hid (termL a w i 0 = []) := Lib.hid rfl
  clear h hcy
  go_enter Try.func107, Try.ntmps107
  go_wp2
  clear q1 q2 q3
  go_loopw [5, 13] (fun v i_ wr => ∃ k : Nat, k ≤ n ∧ i_ = .int .i64 k ∧ Hid (IU W v (termL a w i k) wr)) (fun _ i_ _ => n - (intOf i_).toNat)
  case atStart => exact ⟨0, Nat.zero_le _, rfl, Lib.hid (by rw [HZ.out]; exact HS0.out)⟩
  case round =>
    clear HS0 HZ
    obtain ⟨k, hk, rfl, HI⟩ := hrel
    obtain ⟨Av, cv, rfl⟩ := HI.out.bi.form
    by_cases hlt : k < n
    · have c1 := Keep.below HI.out.up _ _ (H.out.tab.cell i k hi hlt)
      have c2 := Keep.below HI.out.up _ _ H.out.cs
      have c3 := Keep.below HI.out.up _ _ (HY.out k hlt)
      obtain ⟨z1, z2⟩ := HB.out k hlt
      obtain ⟨x1, x2⟩ := H.out.bd k hlt
      obtain ⟨p1, p2⟩ := mul_bd3 ⟨x1, x2⟩ ⟨z1, z2⟩
      have HCS : Hid (termL a w i (k + 1) = termL a w i k ++ [g2 a i k * gi w k]) := Lib.hid rfl
      have HML := Lib.hid (termL_len a w i k)
      have hb := below_alloc wr (.cells #[iv (g2 a i k * gi w k)] 3)
      have HB4 := Lib.hid (HI.out.bi.below hb).own
      have HN := Lib.hid (cell_one_new wr (iv (g2 a i k * gi w k)) 3)
      have hwz := HI.out.up.size
      clear hb
      generalize termL a w i k = ys at *
      generalize g2 a i k = g at *
      generalize gi w k = s at *
      obtain ⟨i0, hi0, hz0, hz1, hz2⟩ := info_parts Try.info_int
      go_wp2_with (at_builtin; refine wpList_append_own_at _ rfl _ _ 30 rfl W.heap.size 3 i0 (.int .i64 0) 1 8 Try.underlying30 hi0 hz0 hz1 hz2 rfl (by decide) _ ys.length (ys.map iv) rfl HB4.out ⟨wr.heap.size, 0, none⟩ 1 1 [iv (g * s)] rfl rfl ?c1 ?c2 ?c3 ?c4 ?c5 ?_)
      case c1 => exact HN.out
      case c2 => intro u hu; simp at hu; subst hu; rfl
      case c3 => have := HML.out; unfold maxLen; omega
      case c4 => have := HML.out; omega
      case c5 => simp; omega
      intro v' w5 hown' hgrow _ hat
      have HI5 := Lib.hid (HI.out.push hown' hgrow (by simpa using hat))
      clear HB4 HN hown' hgrow hat HI c1 c2 c3
      go_wp2
      go_roundw
      case rel => exact ⟨k + 1, by omega, by go_num, Lib.hid (by rw [HCS.out]; exact HI5.out)⟩
      case measure => simp [intOf]; omega
    · obtain rfl : k = n := by omega
      have HL := Lib.hid (termL_len a w i k)
      have HTB := Lib.hid (termL_bd HB.out H.out.bd (Nat.le_refl k))
      have HSM := Lib.hid (show SumOk (termL a w i k) from ⟨by rw [HL.out]; omega, fun j hj => by have := HTB.out _ (gi_mem hj); omega⟩)
      have HTT := Lib.hid (termL_tot a w i k)
      have HIN := Lib.hid (HI.out.ints (by rw [HL.out]; omega) (fun y hy => by have := HTB.out y hy; omega))
      have HUP := Lib.hid HI.out.up
      have HC := Lib.hid (HTT.out ▸ sumOf_any _ _ _ _ wr HIN.out HSM.out)
      clear HI
      go_wp2_with fail
      refine HC.out.mono ?_
      rintro e w2 ⟨rfl, hq⟩
      have HB2 := Lib.hid (below_quiet HUP.out hq)
      clear hq HC
      go_wp2
      go_ret
      exact ⟨rfl, HB2.out⟩

/-- The closure of two boxes. -/
def MadeP (a : List (List Int)) (w : List Int) (n b o c cw : Nat) (rb ro cc : Nat → Nat) (Y : Option Addr) (W : World) (e : Ending) (W' : World) : Prop :=
  ∃ pa pw, e = .returned (.func (.func 107) #[] #[.pointer (some ⟨pa, 0, none⟩), .pointer (some ⟨pw, 0, none⟩)]) ∧ PA a w n pa pw b o c cw rb ro cc Y W' ∧ Below W.heap.size W W'

set_option maxRecDepth 100000 in
set_option maxHeartbeats 400000 in
theorem payAgainst_far (a : List (List Int)) (w : List Int) (n b o c cw : Nat) (rb ro cc : Nat → Nat) (Y : Option Addr) (W : World) (ht : Tab W b o rb ro cc n n a) (hw : Ints W Y n cw w) (hb : ∀ j, j < n → 0 ≤ gi w j ∧ gi w j ≤ 1000) :
    Calls Try.prog 98 #[.slice (some ⟨b, o, none⟩) n c, .slice Y n cw] W (fun e W' => ∃ pa pw, e = .returned (.func (.func 107) #[] #[.pointer (some ⟨pa, 0, none⟩), .pointer (some ⟨pw, 0, none⟩)]) ∧ (PA a w n pa pw b o c cw rb ro cc Y W' ∧ Below W.heap.size W W') ∧ W.heap.size ≤ pa ∧ W.heap.size ≤ pw) := by
  have hmf : ∀ (fn : Fn) (first cap : Array Value) (w : World), (Instr.makeFunc fn first cap).run Try.prog w = .ok (.func fn first cap) w := fun _ _ _ _ => rfl
  have h1 := below_alloc W (.cells #[.slice (some ⟨b, o, none⟩) n c] 23)
  have h2 := below_alloc (W.alloc (.cells #[.slice (some ⟨b, o, none⟩) n c] 23)) (.cells #[.slice Y n cw] 30)
  have hbb := below_up h1 h2
  have HP := Lib.hid (show PA a w n W.heap.size (W.alloc (.cells #[.slice (some ⟨b, o, none⟩) n c] 23)).heap.size b o c cw rb ro cc Y ((W.alloc (.cells #[.slice (some ⟨b, o, none⟩) n c] 23)).alloc (.cells #[.slice Y n cw] 30)) from
    ⟨ht.keep (Keep.below hbb), hw.keep (Keep.below hbb), hb, Keep.below h2 _ _ (blk_cell (blk_new _ _ _) rfl), blk_cell (blk_new _ _ _) rfl⟩)
  have HBB := Lib.hid hbb
  clear h1 h2 hbb ht hw hb
  go_enter Try.func98, Try.ntmps98
  go_wp2
  go_ret
  exact ⟨_, _, rfl, ⟨by have h := HP.out; rw [World.size_alloc] at h; exact h, HBB.out⟩, Nat.le_refl _, Nat.le_succ _⟩
theorem payAgainst_any (a : List (List Int)) (w : List Int) (n b o c cw : Nat) (rb ro cc : Nat → Nat) (Y : Option Addr) (W : World) (ht : Tab W b o rb ro cc n n a) (hw : Ints W Y n cw w) (hb : ∀ j, j < n → 0 ≤ gi w j ∧ gi w j ≤ 1000) :
    Calls Try.prog 98 #[.slice (some ⟨b, o, none⟩) n c, .slice Y n cw] W (MadeP a w n b o c cw rb ro cc Y W) :=
  (payAgainst_far a w n b o c cw rb ro cc Y W ht hw hb).mono fun _ _ ⟨pa, pw, he, ⟨h1, h2⟩, _⟩ => ⟨pa, pw, he, h1, h2⟩
end Go.Proofs.Ytjkmgpiiamffgaa

/- Stable strategies, by the program. -/
namespace Go.Proofs.Ytjkmgpiiamffgaa
open Go.RowKit

/-- The leads of strategy i over j: against i, and against j. -/
def leadI (a : List (List Int)) (i j : Nat) : Int := g2 a i i - g2 a j i
def leadJ (a : List (List Int)) (i j : Nat) : Int := g2 a i j - g2 a j j

/-- A strategy with these leads holds. -/
def HoldL (x y : Int) : Prop := 0 < x ∨ x = 0 ∧ 0 < y
theorem holdL_iff (a : List (List Int)) (i j : Nat) : HoldL (leadI a i j) (leadJ a i j) ↔ HoldP a i j := by
  unfold HoldL HoldP leadI leadJ
  omega
theorem stF_le (a : List (List Int)) : (stF a).length ≤ 100 := by
  unfold stF
  split
  · rename_i h
    have := (pb_iff.1 h).1.n3
    have := stL_len a a.length a.length
    omega
  · simp

end Go.Proofs.Ytjkmgpiiamffgaa

/- Barriers, by both programs. -/
namespace Go.Proofs.Ytjkmgpiiamffgaa
open Go.RowKit

/-- The barrier of a strategy with these leads: above and below the line. -/
noncomputable def barU (x y : Int) : Int := if pb (HoldL x y) = true then (if 0 ≤ y then 1 else x) else 0
noncomputable def barD (x y : Int) : Int := if pb (HoldL x y) = true then (if 0 ≤ y then 1 else x - y) else 1
theorem bar_no {x y : Int} (h : ¬ HoldL x y) : barU x y = 0 ∧ barD x y = 1 := by
  unfold barU barD; rw [if_neg (by rw [pb_false h]; decide), if_neg (by rw [pb_false h]; decide)]; exact ⟨rfl, rfl⟩
theorem bar_one {x y : Int} (h : HoldL x y) (hy : 0 ≤ y) : barU x y = 1 ∧ barD x y = 1 := by
  unfold barU barD; rw [if_pos (pb_true h), if_pos (pb_true h), if_pos hy, if_pos hy]; exact ⟨rfl, rfl⟩
theorem bar_mid {x y : Int} (h : HoldL x y) (hy : ¬ 0 ≤ y) : barU x y = x ∧ barD x y = x - y ∧ 0 < x := by
  unfold barU barD; rw [if_pos (pb_true h), if_pos (pb_true h), if_neg hy, if_neg hy]; refine ⟨rfl, rfl, ?_⟩; unfold HoldL at h; omega
theorem lead_bd {a : List (List Int)} {n i j : Nat} (hq : VQ a) (hl : a.length = n) (hi : i < n) (hj : j < n) : (-18 ≤ leadI a i j ∧ leadI a i j ≤ 18) ∧ -18 ≤ leadJ a i j ∧ leadJ a i j ≤ 18 := by
  have hm : (gr a 0).length = n := by have := hq.2; omega
  have b1 := hq.1.bd (i := i) (j := i) (by omega) (by omega)
  have b2 := hq.1.bd (i := j) (j := i) (by omega) (by omega)
  have b3 := hq.1.bd (i := i) (j := j) (by omega) (by omega)
  have b4 := hq.1.bd (i := j) (j := j) (by omega) (by omega)
  unfold leadI leadJ
  omega
structure BOk (a : List (List Int)) (i j : Int) : Prop where
  q : VQ a
  ri : InR i 0 ((a.length : Int) - 1)
  rj : InR j 0 ((a.length : Int) - 1)
  ne : i ≠ j
noncomputable def barF (a : List (List Int)) (i j : Int) : Value := if pb (BOk a i j) = true then frV (barU (leadI a i.toNat j.toNat) (leadJ a i.toNat j.toNat)) (barD (leadI a i.toNat j.toNat) (leadJ a i.toNat j.toNat)) else .agg #[.int .i64 0, .int .i64 0]
theorem barF_yes {a i j} (h : BOk a i j) : barF a i j = frV (barU (leadI a i.toNat j.toNat) (leadJ a i.toNat j.toNat)) (barD (leadI a i.toNat j.toNat) (leadJ a i.toNat j.toNat)) := by rw [barF, if_pos (pb_true h)]
theorem barF_no {a i j} (h : ¬ BOk a i j) : barF a i j = .agg #[.int .i64 0, .int .i64 0] := by rw [barF, if_neg (by rw [pb_false h]; decide)]
theorem barF_form (a : List (List Int)) (i j : Int) : ∃ U D, barF a i j = .agg #[.int .i64 U, .int .i64 D] := by
  unfold barF
  split
  · exact frV_form _ _
  · exact ⟨_, _, rfl⟩

theorem PF.upq {w W W' : World} {n : Nat} (h : PF w W) (k : Below (W.drewN n).heap.size (W.drewN n) W') : PF w W' := PF.up (W := W.drewN n) ⟨h.box, below_drewN h.below n⟩ k
theorem PF.upqq {w W W' : World} {n m : Nat} (h : PF w W) (k : Below ((W.drewN n).drewN m).heap.size ((W.drewN n).drewN m) W') : PF w W' := PF.up (W := (W.drewN n).drewN m) ⟨h.box, below_drewN (below_drewN h.below n) m⟩ k

set_option maxHeartbeats 400000 in
theorem isStrategy_any (A : Option Addr) (n c : Nat) (i : Int) (w : World) (_ : n ≤ 5864062014805) :
    Calls Try.prog 100 #[.int .i64 i, .slice A n c] w fun e w' => e = .returned (.bool (pb (InR i 0 ((n : Int) - 1)))) ∧ Quiet w w' := by
  by_cases h1 : 0 ≤ i
  · by_cases h2 : i < (n : Int)
    · rw [pb_true (p := InR i 0 ((n : Int) - 1)) ⟨h1, by omega⟩]
      go_enter Try.func100, Try.ntmps100
      go_wp2
      go_ret
      exact ⟨rfl, Quiet.refl _⟩
    · rw [pb_false (p := InR i 0 ((n : Int) - 1)) (fun h => by have := h.2; omega)]
      have h2' : decide (i < (n : Int)) = false := decide_eq_false h2
      go_enter Try.func100, Try.ntmps100
      go_wp2
      go_ret
      exact ⟨rfl, Quiet.refl _⟩
  · rw [pb_false (p := InR i 0 ((n : Int) - 1)) (fun h => h1 h.1)]
    have h1' : decide (0 ≤ i) = false := decide_eq_false h1
    go_enter Try.func100, Try.ntmps100
    go_wp2
    go_ret
    exact ⟨rfl, Quiet.refl _⟩

end Go.Proofs.Ytjkmgpiiamffgaa

/- CopyRing, by the program. -/
namespace Go.Proofs.Ytjkmgpiiamffgaa
open Go.RowKit

set_option maxRecDepth 100000 in
set_option maxHeartbeats 800000 in
theorem isRing_any (A : Option Addr) (l ca : Nat) (a : List (List Int)) (X : Option Addr) (n c : Nat) (x : List Int) (w : World) (ha : IntRows w A l ca a) (hx : Ints w X n c x) :
    Calls Try.prog 73 #[.slice A l ca, .slice X n c] w fun e w' => e = .returned (.bool (pb (RgQ a x))) ∧ Quiet w w' := by
  have HA := Lib.hid ha
  have HX := Lib.hid hx
  have HL := Lib.hid hx.len
  have HLA := Lib.hid ha.len
  have hmx := hx.max
  have hma := ha.max
  have HVS := Lib.hid (ValidSquare_impl A l ca a w ha)
  clear ha hx
  by_cases hv : VQ a
  · have HV := Lib.hid hv
    rw [pb_true hv] at HVS
    clear hv
    by_cases h3 : (n : Int) < 3
    · have hd : decide ((n : Int) < 3) = true := by simpa using h3
      have HE := Lib.hid (pb_false (p := RgQ a x) (fun k => by have := k.n3; rw [HL.out] at this; omega))
      go_enter Try.func73, Try.ntmps73
      go_wp2_with fail
      refine HVS.out.mono ?_
      rintro e w1 ⟨rfl, hq⟩
      have HQ := Lib.hid hq
      clear hq HVS
      go_wp2
      go_ret
      exact ⟨ret_bool HE.out.symm, HQ.out⟩
    · have hd : decide ((n : Int) < 3) = false := by simpa using h3
      by_cases h8 : (8 : Int) < (n : Int)
      · have hd8 : decide ((8 : Int) < (n : Int)) = true := by simpa using h8
        have HE := Lib.hid (pb_false (p := RgQ a x) (fun k => by have := k.n8; rw [HL.out] at this; omega))
        go_enter Try.func73, Try.ntmps73
        go_wp2_with fail
        refine HVS.out.mono ?_
        rintro e w1 ⟨rfl, hq⟩
        have HQ := Lib.hid hq
        clear hq HVS
        go_wp2
        go_ret
        exact ⟨ret_bool HE.out.symm, HQ.out⟩
      · have hd8 : decide ((8 : Int) < (n : Int)) = false := by simpa using h8
        go_enter Try.func73, Try.ntmps73
        go_wp2_with fail
        refine HVS.out.mono ?_
        rintro e w1 ⟨rfl, hq⟩
        have HQ := Lib.hid hq
        clear hq HVS
        go_wp2
        clear hd hd8
        go_loopw [22] (fun i wr => ∃ v : Nat, v ≤ n ∧ i = .int .i64 v ∧ Hid (∀ j, j < v → InR (gi x j) 0 ((l : Int) - 1)) ∧ Quiet w wr) (fun i _ => n - (intOf i).toNat)
        case atStart => exact ⟨0, Nat.zero_le _, rfl, Lib.hid (fun _ h => absurd h (by omega)), HQ.out⟩
        case round =>
          obtain ⟨v, hvn, rfl, HI, q, rfl⟩ := hrel
          by_cases hlt : v < n
          · obtain ⟨b, o, rfl, hc⟩ := HX.out.at_ (by omega)
            have c1 := hc v hlt
            clear hc
            by_cases hin : InR (gi x v) 0 ((l : Int) - 1)
            · have HIN := Lib.hid (fun W => pb_true hin ▸ isStrategy_any A l ca (gi x v) W hma)
              have HN := Lib.hid (show ∀ j, j < v + 1 → InR (gi x j) 0 ((l : Int) - 1) from fun j hj => by
                by_cases hjv : j < v
                · exact HI.out j hjv
                · obtain rfl : j = v := by omega
                  exact hin)
              clear hin
              go_wp2_with (go_at_call 100; (with_reducible refine (HIN.out _).mono ?_); rintro e w' ⟨rfl, q2, rfl⟩)
              go_roundw
              case rel => exact ⟨v + 1, by omega, by go_num, HN, ⟨_, rfl⟩⟩
              case measure => simp [intOf]; omega
            · have HIN := Lib.hid (fun W => pb_false hin ▸ isStrategy_any A l ca (gi x v) W hma)
              have HE := Lib.hid (pb_false (p := RgQ a x) (fun k => hin (by have := k.s v (by rw [HL.out]; exact hlt); rw [HLA.out] at this; exact this)))
              clear hin
              go_wp2_with (go_at_call 100; (with_reducible refine (HIN.out _).mono ?_); rintro e w' ⟨rfl, q2, rfl⟩)
              go_ret
              exact ⟨ret_bool HE.out.symm, ⟨_, rfl⟩⟩
          · obtain rfl : v = n := by omega
            have HE := Lib.hid (pb_true (p := RgQ a x) ⟨HV.out, fun i hi => by rw [HLA.out]; exact HI.out i (by rw [HL.out] at hi; exact hi), by rw [HL.out]; omega, by rw [HL.out]; omega⟩)
            go_wp2
            go_ret
            exact ⟨ret_bool HE.out.symm, ⟨_, rfl⟩⟩
  · rw [pb_false hv] at HVS
    have HE := Lib.hid (pb_false (p := RgQ a x) (fun k => hv k.v))
    clear hv
    go_enter Try.func73, Try.ntmps73
    go_wp2_with fail
    refine HVS.out.mono ?_
    rintro e w1 ⟨rfl, hq⟩
    have HQ := Lib.hid hq
    clear hq HVS
    go_wp2
    go_ret
    exact ⟨ret_bool HE.out.symm, HQ.out⟩
theorem PLr.setLow {B n L s c R W} (h : PLr B n L s c R W) {b : Nat} (i : Nat) (hb : b < B) (u : Value) : PLr B n L s c R (W.setCell ⟨b, i, none⟩ u) :=
  ⟨by simpa [World.setCell] using h.sz, h.row.setOther (by show B ≠ b; omega) _, fun v hv => blk_other (h.bl v hv) (by show B + 1 + v ≠ b; omega) _, fun v hv => ownsRow_setCell_below (h.own v hv) (by show b < B + 1 + n; omega) _, h.far⟩
/-- The ring under way: its places behind block B, the first k of the next one's strategies in block g. -/
structure CR (w : World) (g B n : Nat) (a : List (List Int)) (x : List Int) (k : Nat) (W : World) : Prop where
  up : Below w.heap.size w W
  ex : ∃ R, PLr B n (fun v => [rl n v, rr n v]) (gi x) (scv a x n) R W
  row : W.rowIs g 3 n (filled (cpL a x n n) k)
  hg : w.heap.size ≤ g
  hB : g < B
  hz : g < W.heap.size
theorem CR.quiet {w g B n a x k W W'} (h : CR w g B n a x k W) (q : Quiet W W') : CR w g B n a x k W' := by
  obtain ⟨m, rfl⟩ := q
  exact ⟨below_drewN h.up m, let ⟨R, p⟩ := h.ex; ⟨R, p.quiet ⟨m, rfl⟩⟩, h.row.of_block rfl, h.hg, h.hB, h.hz⟩
theorem gi_cpL {a x} {n k : Nat} (h : k < n) : gi (cpL a x n n) k = gi x (bat a x n k) := by
  unfold cpL; rw [gi_get (by simpa using h)]; simp
theorem CR.step {w g B n a x k W} (h : CR w g B n a x k W) (hk : k < n) : CR w g B n a x (k + 1) (W.setCell ⟨g, k, none⟩ (.int .i64 (gi x (bat a x n k)))) := by
  have h1 := filled_set h.row
  rw [gi_cpL hk] at h1
  exact ⟨h.up.setCell (by show w.heap.size ≤ g; exact h.hg) _, let ⟨R, p⟩ := h.ex; ⟨R, p.setLow k h.hB _⟩, h1, h.hg, h.hB, by have := h.hz; simpa [World.setCell] using this⟩
set_option maxRecDepth 100000 in
set_option maxHeartbeats 1600000 in
theorem CopyRing_impl (A : Option Addr) (l ca : Nat) (a : List (List Int)) (X : Option Addr) (n c : Nat) (x : List Int) (w : World) (ha : IntRows w A l ca a) (hx : Ints w X n c x) :
    Calls Try.prog 29 #[.slice A l ca, .slice X n c] w (NewI w (cpF a x)) := by
  have HA := Lib.hid ha
  have HX := Lib.hid hx
  have hl := ha.len
  have HIS := Lib.hid (isRing_any A l ca a X n c x w ha hx)
  by_cases hr : RgQ a x
  · obtain ⟨b, o, rb, ro, cc, rfl, tab⟩ := HA.out.tab hr.v.1
    rw [← hr.v.2, hl] at tab
    have HT := Lib.hid tab
    have HF := Lib.hid (cpF_yes hr)
    have HLX := Lib.hid hx.len
    have hn3 : 3 ≤ n := by rw [← hx.len]; exact hr.n3
    have hn8 : n ≤ 8 := by rw [← hx.len]; exact hr.n8
    have HRP := Lib.hid (fun W q1 q2 => ringPlaces_any b o rb ro cc l ca X n c a x W q1 q2 hr hl)
    have HXB := Lib.hid (fun i (hi : i < n) => show -1000 ≤ gi x i ∧ gi x i ≤ 1000 from by have := hr.s i (by rw [hx.len]; exact hi); have := hr.v.1.n3; unfold InR at *; omega)
    rw [pb_true hr] at HIS
    have hmk := run_make_row' (P := Try.prog) 30 3 (.int .i64 0) 8 Try.underlying30 Try.info3 rfl .i64 .i64 n (by omega) (by omega)
    clear ha hx hr tab hl
    go_enter Try.func29, Try.ntmps29
    go_wp2_with fail
    refine HIS.out.mono ?_
    rintro e w1 ⟨rfl, hq1⟩
    have HB1 := Lib.hid (hq1.below (B := w.heap.size))
    have HT1 := Lib.hid (HT.out.keep (Keep.quiet hq1))
    have HX1 := Lib.hid (HX.out.keep (Keep.quiet hq1))
    clear hq1 HIS HT HX HA
    have hba := below_alloc w1 (.cells (madeCells #[.int .i64 0] n) 3)
    have HB2 := Lib.hid (HB1.out.trans (hba.mono HB1.out.size))
    have HRP2 := Lib.hid (HRP.out _ (HT1.out.keep (Keep.below hba)) (HX1.out.keep (Keep.below hba)))
    have HROW := Lib.hid ((World.rowIs_made w1 (.int .i64 0) n 3).congr (g := filled (cpL a x n n) 0) (fun j _ => by simp [filled]))
    have hgz : w.heap.size ≤ w1.heap.size := HB1.out.size
    have hgz2 : w1.heap.size < (w1.alloc (.cells (madeCells #[.int .i64 0] n) 3)).heap.size := by simp
    clear hba HB1 HRP HT1
    go_wp2_with fail
    clear hmk
    generalize w1.alloc (.cells (madeCells #[.int .i64 0] n) 3) = W2 at *
    generalize w1.heap.size = g at *
    refine HRP2.out.mono ?_
    rintro e w3 ⟨rfl, hpg⟩
    have HCR := Lib.hid (show CR w g W2.heap.size n a x 0 w3 from ⟨HB2.out.trans (hpg.up.mono HB2.out.size), by
      obtain ⟨R, p⟩ := hpg.ex
      exact ⟨R, p.congr (fun v hv => by unfold rgL; rw [if_pos hv]) (fun _ _ => rfl) (fun v hv => by unfold rgC; rw [if_pos hv])⟩, HROW.out.of_block (hpg.up.block _ hgz2), hgz, hgz2, by have := hpg.up.size; omega⟩)
    clear hpg HRP2 HROW HB2
    generalize W2.heap.size = B at *
    go_wp2
    go_loopw [19] (fun i wr => ∃ k : Nat, k ≤ n ∧ i = .int .i64 k ∧ Hid (CR w g B n a x k wr)) (fun i _ => n - (intOf i).toNat)
    case atStart => exact ⟨0, Nat.zero_le _, rfl, HCR⟩
    case round =>
      clear HCR
      obtain ⟨k, hk, rfl, HC⟩ := hrel
      by_cases hlt : k < n
      · obtain ⟨R, hpl⟩ := HC.out.ex
        have c0 := hpl.row.cell hlt
        simp only [pv] at c0
        have HBE := Lib.hid (best_any B n (fun v => [rl n v, rr n v]) (gi x) (scv a x n) R wr hpl k hlt ⟨by simp, fun u hu => by
          simp only [List.mem_cons, List.not_mem_nil, or_false] at hu
          rcases hu with rfl | rfl
          · exact rl_lt (by omega)
          · exact rr_lt (by omega)⟩)
        have HBB := Lib.hid (show bstF (scv a x n) k [rl n k, rr n k] [rl n k, rr n k].length = bat a x n k from bstF_bat a x n k)
        rw [HBB.out] at HBE
        have hbl : bat a x n k < n := bat_lt hlt
        have HPL := Lib.hid hpl
        clear hpl HBB
        go_wp2_with fail
        refine HBE.out.mono ?_
        rintro e w4 ⟨rfl, hq⟩
        have HC4 := Lib.hid (HC.out.quiet hq)
        have hpl := HPL.out.quiet hq
        have c1 := blk_cell (hpl.bl _ hbl) (i := 1) rfl
        have c2 := HC4.out.row.cell hlt
        simp only [filled, if_neg (Nat.lt_irrefl k)] at c2
        have f2 := HC4.out.row.frozen k
        have HC5 := Lib.hid (HC4.out.step hlt)
        clear hq hpl HPL HC HC4 HBE c0
        generalize gi x (bat a x n k) = gx at *
        generalize bat a x n k = y at *
        go_wp2
        go_roundw
        case rel => exact ⟨k + 1, by omega, by go_num, HC5⟩
        case measure => simp [intOf]; omega
      · obtain rfl : k = n := by omega
        have HE := Lib.hid (show NewI w (cpF a x) (.returned (.slice (some ⟨g, 0, none⟩) k k)) wr from by
          rw [HF.out, HLX.out]
          exact ⟨_, _, _, g, rfl, (cpL_len _ _ _ _).symm, OwnI.of_rowIs (cpL_len _ _ _ _) (by omega) (fun y hy => by
            obtain ⟨i, hi, rfl⟩ := List.mem_map.1 hy
            have := HXB.out (bat a x k i) (bat_lt (List.mem_range.1 hi)); omega) HC.out.hg HC.out.hz HC.out.row (fun j hj => by simp [filled, hj]), HC.out.up⟩)
        clear HC
        go_wp2
        go_ret
        exact HE.out
  · have HF := Lib.hid (cpF_no hr)
    rw [pb_false hr] at HIS
    clear ha hx hr hl
    go_enter Try.func29, Try.ntmps29
    go_wp2_with fail
    refine HIS.out.mono ?_
    rintro e w1 ⟨rfl, hq1⟩
    have HE := Lib.hid (show NewI w (cpF a x) (.returned (.slice none 0 0)) w1 from by
      rw [HF.out]
      exact ⟨none, 0, 0, 0, rfl, rfl, OwnI.nil _ _ _ _, hq1.below⟩)
    clear hq1 HIS
    go_wp2
    go_ret
    exact HE.out

end Go.Proofs.Ytjkmgpiiamffgaa

/- Small crowds, in plain Lean: the numbers of the steps, their sums, and chances. -/
namespace Go.Proofs.Ytjkmgpiiamffgaa

/-- The product of the first k numbers; of the last t up to m. -/
def upP (g : Nat → Int) : Nat → Int
  | 0 => 1
  | k + 1 => upP g k * g (k + 1)
def dnP (f : Nat → Int) (m : Nat) : Nat → Int
  | 0 => 1
  | t + 1 => dnP f m t * f (m - t)
/-- The numbers whose sums the chance is of. -/
def numP (f g : Nat → Int) (m k : Nat) : Int := upP g k * dnP f m (m - k)
def numL (f g : Nat → Int) (m : Nat) : List Int := (List.range (m + 1)).map (numP f g m)
theorem numL_len (f g : Nat → Int) (m : Nat) : (numL f g m).length = m + 1 := by simp [numL]
theorem gi_numL {f g : Nat → Int} {m k : Nat} (h : k ≤ m) : gi (numL f g m) k = numP f g m k := by
  rw [gi_get (by rw [numL_len]; omega)]; simp [numL]
theorem dnP_top (f : Nat → Int) (m : Nat) : ∀ t, t ≤ m → dnP f (m + 1) (t + 1) = f (m + 1) * dnP f m t
  | 0, _ => by simp [dnP]
  | t + 1, h => by
    rw [dnP, dnP_top f m t (by omega), dnP, Int.mul_assoc]
    congr 3
    omega
theorem up_dn (f : Nat → Int) (m : Nat) : ∀ t, t ≤ m → upP f m = upP f (m - t) * dnP f m t
  | 0, _ => by simp [dnP]
  | t + 1, h => by
    rw [up_dn f m t (by omega), dnP]
    have e : m - t = (m - (t + 1)) + 1 := by omega
    rw [e, upP, ← e]
    grind
/-- The sum of the first i of the numbers of k steps. -/
def SS (f g : Nat → Int) (i k : Nat) : Int := sm (numL f g k) (min i (k + 1))
theorem sm_numL {f g : Nat → Int} {m : Nat} : ∀ {k}, k ≤ m + 1 → sm (numL f g (m + 1)) k = sm (numL f g m) k * f (m + 1)
  | 0, _ => by simp [sm]
  | k + 1, h => by
    rw [sm, sm, sm_numL (by omega), gi_numL (by omega), gi_numL (by omega), numP, numP]
    have e : m + 1 - k = (m - k) + 1 := by omega
    rw [e, dnP_top f m (m - k) (by omega)]
    grind
theorem SS_zero (f g : Nat → Int) (i : Nat) : SS f g i 0 = if 0 < i then 1 else 0 := by
  unfold SS
  by_cases h : 0 < i
  · rw [show min i (0 + 1) = 1 by omega, if_pos h, sm, gi_numL (Nat.le_refl 0)]; simp [sm, numP, upP, dnP]
  · rw [show min i (0 + 1) = 0 by omega, if_neg h]; rfl
theorem SS_succ (f g : Nat → Int) (i k : Nat) : SS f g i (k + 1) = SS f g i k * f (k + 1) + if k + 1 < i then upP g (k + 1) else 0 := by
  unfold SS
  by_cases h : k + 1 < i
  · rw [if_pos h, show min i (k + 1 + 1) = (k + 1) + 1 by omega, show min i (k + 1) = k + 1 by omega, sm, sm_numL (by omega), gi_numL (Nat.le_refl _), numP]
    rw [show k + 1 - (k + 1) = 0 by omega]
    simp [dnP]
  · rw [if_neg h, show min i (k + 1 + 1) = min i (k + 1) by omega, sm_numL (by omega)]
    simp
theorem SS_all (f g : Nat → Int) (m : Nat) : SS f g (m + 1) m = tot (numL f g m) := by
  unfold SS tot
  rw [numL_len, Nat.min_self]

/-- What players have: 1 to 45 each. -/
structure FG (f g : Nat → Int) (m : Nat) : Prop where
  m5 : m ≤ 5
  f : ∀ j, 1 ≤ j → j ≤ m → 1 ≤ f j ∧ f j ≤ 45
  g : ∀ j, 1 ≤ j → j ≤ m → 1 ≤ g j ∧ g j ≤ 45
theorem FG.less {f g m k} (h : FG f g m) (hk : k ≤ m) : FG f g k := ⟨by have := h.m5; omega, fun j a b => h.f j a (by omega), fun j a b => h.g j a (by omega)⟩
theorem FG.flip {f g m} (h : FG f g m) : FG g f m := ⟨h.m5, h.g, h.f⟩
def p45 : Nat → Int
  | 0 => 1
  | k + 1 => p45 k * 45
theorem p45_add (a : Nat) : ∀ b, p45 a * p45 b = p45 (a + b)
  | 0 => by simp [p45]
  | b + 1 => by rw [p45, ← Int.mul_assoc, p45_add a b]; rfl
theorem p45_pos : ∀ k, 1 ≤ p45 k
  | 0 => Int.le_refl _
  | k + 1 => by have := p45_pos k; rw [p45]; omega
theorem p45_mono : ∀ {k m}, k ≤ m → p45 k ≤ p45 m
  | k, 0, h => by obtain rfl : k = 0 := by omega
                  exact Int.le_refl _
  | k, m + 1, h => by
    by_cases e : k = m + 1
    · subst e; exact Int.le_refl _
    · have h1 := p45_mono (k := k) (m := m) (by omega)
      have h2 := p45_pos m
      rw [p45]; omega
theorem p45_5 {k : Nat} (h : k ≤ 5) : p45 k ≤ 184528125 := by
  have := p45_mono h
  have e : p45 5 = 184528125 := by decide
  omega
theorem upP_bd {g : Nat → Int} : ∀ {k}, (∀ j, 1 ≤ j → j ≤ k → 1 ≤ g j ∧ g j ≤ 45) → 1 ≤ upP g k ∧ upP g k ≤ p45 k
  | 0, _ => ⟨Int.le_refl _, Int.le_refl _⟩
  | k + 1, h => by
    have h1 := upP_bd (k := k) fun j a b => h j a (by omega)
    have h2 := h (k + 1) (by omega) (by omega)
    have h3 : 1 * 1 ≤ upP g k * g (k + 1) := Int.mul_le_mul h1.1 h2.1 (by omega) (by omega)
    have h4 : upP g k * g (k + 1) ≤ p45 k * 45 := Int.mul_le_mul h1.2 h2.2 (by omega) (by have := p45_pos k; omega)
    rw [upP, p45]
    omega
theorem dnP_bd {f : Nat → Int} {m : Nat} : ∀ {t}, t ≤ m → (∀ j, 1 ≤ j → j ≤ m → 1 ≤ f j ∧ f j ≤ 45) → 1 ≤ dnP f m t ∧ dnP f m t ≤ p45 t
  | 0, _, _ => ⟨Int.le_refl _, Int.le_refl _⟩
  | t + 1, ht, h => by
    have h1 := dnP_bd (t := t) (by omega) h
    have h2 := h (m - t) (by omega) (by omega)
    have h3 : 1 * 1 ≤ dnP f m t * f (m - t) := Int.mul_le_mul h1.1 h2.1 (by omega) (by omega)
    have h4 : dnP f m t * f (m - t) ≤ p45 t * 45 := Int.mul_le_mul h1.2 h2.2 (by omega) (by have := p45_pos t; omega)
    rw [dnP, p45]
    omega
theorem numP_bd {f g : Nat → Int} {m k : Nat} (h : FG f g m) (hk : k ≤ m) : 1 ≤ numP f g m k ∧ numP f g m k ≤ 184528125 := by
  have h1 := upP_bd (g := g) (k := k) fun j a b => h.g j a (by omega)
  have h2 := dnP_bd (f := f) (m := m) (t := m - k) (by omega) h.f
  have h3 : 1 * 1 ≤ upP g k * dnP f m (m - k) := Int.mul_le_mul h1.1 h2.1 (by omega) (by omega)
  have h4 : upP g k * dnP f m (m - k) ≤ p45 k * p45 (m - k) := Int.mul_le_mul h1.2 h2.2 (by omega) (by have := p45_pos k; omega)
  rw [p45_add] at h4
  have h5 := p45_5 (k := k + (m - k)) (by have := h.m5; omega)
  unfold numP
  omega
theorem up_bd {g : Nat → Int} {m k : Nat} (h : ∀ j, 1 ≤ j → j ≤ m → 1 ≤ g j ∧ g j ≤ 45) (hm : m ≤ 5) (hk : k ≤ m) : 1 ≤ upP g k ∧ upP g k ≤ 184528125 := by
  have h1 := upP_bd (g := g) (k := k) fun j a b => h j a (by omega)
  have h2 := p45_5 (k := k) (by omega)
  omega
theorem sm_num_bd {f g : Nat → Int} {m k : Nat} (h : FG f g m) (hk : k ≤ m + 1) : (k : Int) ≤ sm (numL f g m) k ∧ sm (numL f g m) k ≤ 1107168750 := by
  have h1 := sm_bd (xs := numL f g m) (k := k) (lo := 1) (hi := 184528125) fun j hj => by rw [gi_numL (by omega)]; exact numP_bd h (by omega)
  have := h.m5
  omega
theorem SS_bd {f g : Nat → Int} {i k : Nat} (h : FG f g k) : 0 ≤ SS f g i k ∧ SS f g i k ≤ 1107168750 := by
  have := sm_num_bd h (k := min i (k + 1)) (by omega)
  unfold SS
  omega
theorem tot_num_bd {f g : Nat → Int} {m : Nat} (h : FG f g m) : 1 ≤ tot (numL f g m) ∧ tot (numL f g m) ≤ 1107168750 := by
  have := sm_num_bd h (k := m + 1) (Nat.le_refl _)
  unfold tot
  rw [numL_len]
  omega
/-- The sums of two fractions in lowest terms, and their product and quotient. -/
theorem fr_add {u d v e : Int} (hd : 0 < d) (he : 0 < e) :
    frU (frU u d * frD v e + frU v e * frD u d) (frD u d * frD v e) = frU (u * e + v * d) (d * e) ∧ frD (frU u d * frD v e + frU v e * frD u d) (frD u d * frD v e) = frD (u * e + v * d) (d * e) := by
  have h1 := frD_pos (u := u) hd
  have h2 := frD_pos (u := v) he
  refine fr_eq (Int.mul_pos h1 h2) (Int.mul_pos hd he) ?_
  have r1 := fr_ratio u d
  have r2 := fr_ratio v e
  grind
theorem fr_tim {u d v e : Int} (hd : 0 < d) (he : 0 < e) :
    frU (frU u d * frU v e) (frD u d * frD v e) = frU (u * v) (d * e) ∧ frD (frU u d * frU v e) (frD u d * frD v e) = frD (u * v) (d * e) := by
  have h1 := frD_pos (u := u) hd
  have h2 := frD_pos (u := v) he
  refine fr_eq (Int.mul_pos h1 h2) (Int.mul_pos hd he) ?_
  have r1 := fr_ratio u d
  have r2 := fr_ratio v e
  grind
theorem fr_pos {u d : Int} (hd : 0 < d) (hu : 0 < u) : 0 < frU u d := by
  have h1 := frD_pos (u := u) hd
  have r1 := fr_ratio u d
  have h2 : 0 < u * frD u d := Int.mul_pos hu h1
  apply Classical.byContradiction
  intro hn
  have h3 : frU u d * d ≤ 0 := Int.mul_nonpos_of_nonpos_of_nonneg (by omega) (by omega)
  omega
theorem fr_turn {u d : Int} (hd : 0 < d) (hu : 0 < u) : frU (frD u d) (frU u d) = frU d u ∧ frD (frD u d) (frU u d) = frD d u := by
  refine fr_eq (fr_pos hd hu) hu ?_
  have r1 := fr_ratio u d
  grind
theorem frU_le {u d B : Int} (hd : 0 < d) (h0 : 0 ≤ u) (h : u ≤ B) : 0 ≤ frU u d ∧ frU u d ≤ B := by
  have h1 := frU_bd (u := u) (d := d) (B := B) hd (by omega)
  have h2 := frD_pos (u := u) hd
  have r1 := fr_ratio u d
  have h3 : 0 ≤ u * frD u d := Int.mul_nonneg h0 (by omega)
  refine ⟨?_, h1.2⟩
  apply Classical.byContradiction
  intro hn
  have h4 : frU u d * d < 0 := Int.mul_neg_of_neg_of_pos (by omega) hd
  omega
end Go.Proofs.Ytjkmgpiiamffgaa

/- How many histories there are, and kinds in the mean: plain. -/
namespace Go.Proofs.Ytjkmgpiiamffgaa

def hsN : Nat → Int
  | 0 => 1
  | 1 => 1
  | k + 2 => ((k + 2 : Nat) : Int) * ((k + 1 : Nat) : Int) / 2 * hsN (k + 1)
/-- What HistoriesOf answers. -/
noncomputable def hsV (n : Int) : Int := if pb (InR n 1 7) = true then hsN n.toNat else -1
theorem hs_no {n : Int} (h : ¬ InR n 1 7) : hsV n = -1 := by unfold hsV; rw [if_neg (by rw [pb_false h]; decide)]
theorem hs_yes {n : Nat} (h : InR n 1 7) : hsV n = hsN n := by unfold hsV; rw [if_pos (pb_true h), Int.toNat_natCast]

def mkD (f : Int) : Nat → Int
  | 0 => 1
  | k + 1 => mkD f k * (f + k)
def mkU (f : Int) : Nat → Int
  | 0 => 0
  | k + 1 => mkU f k * (f + k) + f * mkD f k
theorem mk_bd {f : Int} (h1 : 1 ≤ f) (h6 : f ≤ 6) {k : Nat} (hk : k ≤ 7) : 1 ≤ mkD f k ∧ mkD f k ≤ 20000000 ∧ 0 ≤ mkU f k ∧ mkU f k ≤ 20000000 := by
  have hf : f = 1 ∨ f = 2 ∨ f = 3 ∨ f = 4 ∨ f = 5 ∨ f = 6 := by omega
  have hk' : k = 0 ∨ k = 1 ∨ k = 2 ∨ k = 3 ∨ k = 4 ∨ k = 5 ∨ k = 6 ∨ k = 7 := by omega
  rcases hf with rfl | rfl | rfl | rfl | rfl | rfl <;> rcases hk' with rfl | rfl | rfl | rfl | rfl | rfl | rfl | rfl <;> decide
/-- What MeanKinds is asked of. -/
def MQ (n f : Int) : Prop := InR n 1 7 ∧ InR f 1 6
noncomputable def mkV (n f : Int) : Value := if pb (MQ n f) = true then .agg #[.int .i64 (frU (mkU f n.toNat) (mkD f n.toNat)), .int .i64 (frD (mkU f n.toNat) (mkD f n.toNat))] else .agg #[.int .i64 0, .int .i64 0]
theorem mk_no {n f : Int} (h : ¬ MQ n f) : mkV n f = .agg #[.int .i64 0, .int .i64 0] := by unfold mkV; rw [if_neg (by rw [pb_false h]; decide)]
theorem mk_yes {n : Nat} {f : Int} (h : MQ n f) : mkV n f = .agg #[.int .i64 (frU (mkU f n) (mkD f n)), .int .i64 (frD (mkU f n) (mkD f n))] := by unfold mkV; rw [if_pos (pb_true h), Int.toNat_natCast]
theorem mk_form (n f : Int) : ∃ U D, mkV n f = .agg #[.int .i64 U, .int .i64 D] := by
  unfold mkV; split
  · exact ⟨_, _, rfl⟩
  · exact ⟨_, _, rfl⟩
/-- One more. -/
theorem mk_step {f : Int} (h1 : 1 ≤ f) (h6 : f ≤ 6) {k : Nat} (hk : k < 7) :
    frU (frU (mkU f k) (mkD f k) * frD f (f + k) + frU f (f + k) * frD (mkU f k) (mkD f k)) (frD (mkU f k) (mkD f k) * frD f (f + k)) = frU (mkU f (k + 1)) (mkD f (k + 1)) ∧
    frD (frU (mkU f k) (mkD f k) * frD f (f + k) + frU f (f + k) * frD (mkU f k) (mkD f k)) (frD (mkU f k) (mkD f k) * frD f (f + k)) = frD (mkU f (k + 1)) (mkD f (k + 1)) := by
  have h := mk_bd h1 h6 (k := k) (by omega)
  exact fr_add (u := mkU f k) (d := mkD f k) (v := f) (e := f + k) (by omega) (by omega)
end Go.Proofs.Ytjkmgpiiamffgaa

/- HistoriesOf, by both programs. -/
namespace Go.Proofs.Ytjkmgpiiamffgaa
open Go.RowKit


end Go.Proofs.Ytjkmgpiiamffgaa

/- Rests, by both programs. -/
namespace Go.Proofs.Ytjkmgpiiamffgaa
open Go.RowKit

/-- No strategy has more than one with a share. -/
def RestP (a : List (List Int)) (w : List Int) (n : Nat) : Prop := ∀ i, i < n → 0 < gi w i → ∀ k, k < n → dotr a w k n ≤ dotr a w i n
structure RQ (a : List (List Int)) (w : List Int) : Prop where
  q : VQ a
  s : VS w a.length
  r : RestP a w a.length


/-- The greatest of the first k values. -/
def mxd (f : Nat → Int) : Nat → Int
  | 0 => 0
  | k + 1 => if k = 0 ∨ mxd f k < f k then f k else mxd f k
theorem mxd_up {f : Nat → Int} {k : Nat} (h : k = 0 ∨ mxd f k < f k) : mxd f (k + 1) = f k := by rw [mxd, if_pos h]
theorem mxd_same {f : Nat → Int} {k : Nat} (h : ¬ (k = 0 ∨ mxd f k < f k)) : mxd f (k + 1) = mxd f k := by rw [mxd, if_neg h]
theorem mxd_ge (f : Nat → Int) : ∀ {k i}, i < k → f i ≤ mxd f k
  | 0, _, h => absurd h (by omega)
  | k + 1, i, h => by
    by_cases hu : k = 0 ∨ mxd f k < f k
    · rw [mxd_up hu]
      by_cases e : i = k
      · subst e; exact Int.le_refl _
      · have := mxd_ge f (k := k) (i := i) (by omega)
        omega
    · rw [mxd_same hu]
      by_cases e : i = k
      · subst e; omega
      · exact mxd_ge f (by omega)
theorem mxd_at (f : Nat → Int) : ∀ {k}, 0 < k → ∃ i, i < k ∧ mxd f k = f i
  | 0, h => absurd h (by omega)
  | k + 1, _ => by
    by_cases hu : k = 0 ∨ mxd f k < f k
    · exact ⟨k, by omega, mxd_up hu⟩
    · obtain ⟨i, hi, e⟩ := mxd_at f (k := k) (by omega)
      exact ⟨i, by omega, (mxd_same hu).trans e⟩
/-- At rest all that is there has the most. -/
theorem rest_most (a : List (List Int)) (w : List Int) (n : Nat) (hn : 0 < n) : RestP a w n ↔ ∀ i, i < n → 0 < gi w i → dotr a w i n = mxd (fun i => dotr a w i n) n := by
  constructor
  · intro h i hi hp
    obtain ⟨k, hk, e⟩ := mxd_at (fun i => dotr a w i n) hn
    have h1 := h i hi hp k hk
    have h2 := mxd_ge (fun i => dotr a w i n) hi
    have e' : mxd (fun i => dotr a w i n) n = dotr a w k n := e
    have h2' : dotr a w i n ≤ mxd (fun i => dotr a w i n) n := h2
    omega
  · intro h i hi hp k hk
    rw [h i hi hp]
    exact mxd_ge (fun i => dotr a w i n) hk
theorem mxd_bd {f : Nat → Int} {B : Int} (hB : 0 ≤ B) : ∀ {k}, (∀ i, i < k → -B ≤ f i ∧ f i ≤ B) → -B ≤ mxd f k ∧ mxd f k ≤ B
  | 0, _ => by simp only [mxd]; omega
  | k + 1, h => by
    by_cases hu : k = 0 ∨ mxd f k < f k
    · rw [mxd_up hu]; exact h k (by omega)
    · rw [mxd_same hu]; exact mxd_bd hB fun i hi => h i (by omega)

end Go.Proofs.Ytjkmgpiiamffgaa

/- Shares at which some strategies have as much: the sums of the cofactors of the columns, and the differences to the first row. Plain. -/
namespace Go.Proofs.Ytjkmgpiiamffgaa
open V (sumN detN rowC colC cofN minorN skip sgn Asc)

/-- The square of a part, as it is. -/
def lf (a : List (List Int)) (r : Nat → Nat) : Nat → Nat → Int := fun p q => g2 a (r p) (r q) + 0
/-- The differences to the first row, behind a row of ones. -/
def mf (a : List (List Int)) (r : Nat → Nat) : Nat → Nat → Int := fun p q => if p = 0 then 1 else g2 a (r p) (r q) - g2 a (r 0) (r q)

theorem rowC_shift {k : Nat} (hk : k ≤ 3) {f g : Nat → Nat → Int} (z : Int) (h : ∀ p q, g p q = f p q + z) {p : Nat} (hp : p < k) : rowC k g p = rowC k f p := by
  have : k = 1 ∨ k = 2 ∨ k = 3 := by omega
  rcases this with rfl | rfl | rfl
  · simp [rowC, sumN, cofN, detN]
  · have : p = 0 ∨ p = 1 := by omega
    rcases this with rfl | rfl <;> simp [rowC, sumN, cofN, sgn, detN, minorN, skip, h] <;> omega
  · obtain ⟨e0, e1, e2⟩ := V.rowC3 f
    obtain ⟨d0, d1, d2⟩ := V.rowC3 g
    have : p = 0 ∨ p = 1 ∨ p = 2 := by omega
    rcases this with rfl | rfl | rfl
    · rw [e0, d0]; simp only [h]; grind
    · rw [e1, d1]; simp only [h]; grind
    · rw [e2, d2]; simp only [h]; grind
theorem lf_kY (a : List (List Int)) (r : Nat → Nat) {k : Nat} (hk : k ≤ 3) : cofL k (trN (lf a r)) k = kY a r r k := by
  unfold kY cofL
  refine List.map_congr_left fun p hp => ?_
  exact (rowC_shift hk 18 (f := trN (lf a r)) (g := trN (kf a r r)) (fun p q => by unfold trN lf kf; omega) (List.mem_range.1 hp)).symm
theorem gi_kY {a : List (List Int)} {r : Nat → Nat} {k : Nat} (hk : k ≤ 3) {c : Nat} (hc : c < k) : gi (kY a r r k) c = colC k (kf a r r) c := by
  unfold kY; rw [gi_cofL hc, rowC_tr hk]
theorem mf_cof {a : List (List Int)} {r : Nat → Nat} {k : Nat} (hk : k ≤ 3) {c : Nat} (hc : c < k) : cofN k (mf a r) 0 c = gi (kY a r r k) c := by
  rw [gi_kY hk hc]
  have : k = 1 ∨ k = 2 ∨ k = 3 := by omega
  rcases this with rfl | rfl | rfl
  · obtain rfl : c = 0 := by omega
    simp [colC, sumN, cofN, sgn, detN]
  · have : c = 0 ∨ c = 1 := by omega
    rcases this with rfl | rfl <;> simp [colC, sumN, cofN, sgn, detN, minorN, skip, mf, kf] <;> omega
  · obtain ⟨e0, e1, e2⟩ := V.colC3 (kf a r r)
    have : c = 0 ∨ c = 1 ∨ c = 2 := by omega
    rcases this with rfl | rfl | rfl
    · rw [e0]; simp [sumN, cofN, sgn, detN, minorN, skip, mf, kf]; grind
    · rw [e1]; simp [sumN, cofN, sgn, detN, minorN, skip, mf, kf]; grind
    · rw [e2]; simp [sumN, cofN, sgn, detN, minorN, skip, mf, kf]; grind
theorem mf_det {a : List (List Int)} {r : Nat → Nat} {k : Nat} (h1 : 1 ≤ k) (hk : k ≤ 3) : detN k (mf a r) = sumN (gi (kY a r r k)) k := by
  obtain ⟨l, rfl⟩ : ∃ l, k = l + 1 := ⟨k - 1, by omega⟩
  rw [detN]
  refine sumN_congr fun j hj => ?_
  rw [← mf_cof hk hj]
  unfold cofN
  rw [Nat.zero_add, show mf a r 0 j = 1 from rfl, Nat.add_sub_cancel, Int.one_mul]
theorem mf_ab {a : List (List Int)} (v : VT a) (h : a.length = (gr a 0).length) {r : Nat → Nat} {k : Nat} (hr : Asc a.length k r) : Ab k (mf a r) := fun p q hp hq => by
  unfold mf
  have h0 := hr.1 0 (by omega)
  have hpp := hr.1 p hp
  have hqq := hr.1 q hq
  have e1 := v.bd hpp (j := r q) (by omega)
  have e2 := v.bd h0 (j := r q) (by omega)
  split <;> omega

/-- All numbers more than 0, or all less. -/
def LevP (X : List Int) : Prop := (∀ p, p < X.length → 0 < gi X p) ∨ ∀ p, p < X.length → gi X p < 0
theorem LevP.clr {X : List Int} (h : LevP X) (h0 : 0 < X.length) : ClrP X := by
  rcases h with h | h
  · exact ⟨⟨0, h0, by have := h 0 h0; omega⟩, .inl fun p hp => by have := h p hp; omega⟩
  · exact ⟨⟨0, h0, by have := h 0 h0; omega⟩, .inr fun p hp => by have := h p hp; omega⟩
def levB (xs : List Int) : Bool := decide (lst xs ≤ 0) && decide (0 ≤ mxl xs)
theorem levB_iff {xs : List Int} (h0 : 0 < xs.length) : levB xs = false ↔ LevP xs := by
  unfold levB lst mxl LevP
  rw [Bool.and_eq_false_iff, decide_eq_false_iff_not, decide_eq_false_iff_not]
  constructor
  · rintro (h | h)
    · exact .inl fun p hp => by have := mn_le (xs := xs) (k := xs.length - 1) (j := p) (by omega); omega
    · exact .inr fun p hp => by have := mx_ge xs (k := xs.length - 1) (j := p) (by omega); omega
  · rintro (h | h)
    · obtain ⟨j, hj, e⟩ := mn_mem (xs := xs) (xs.length - 1)
      exact .inl (by have := h j (by omega); omega)
    · obtain ⟨j, hj, e⟩ := mx_at xs (xs.length - 1)
      exact .inr (by have := h j (by omega); omega)

/-- The first c numbers, times z. -/
def sgL (X : List Int) (z : Int) (c : Nat) : List Int := (List.range c).map fun p => z * gi X p
theorem sgL_succ (X : List Int) (z : Int) (c : Nat) : sgL X z (c + 1) = sgL X z c ++ [z * gi X c] := by simp [sgL, List.range_succ]
theorem sgL_len (X : List Int) (z : Int) (c : Nat) : (sgL X z c).length = c := by simp [sgL]
theorem gi_sgL {X : List Int} {z : Int} {c p : Nat} (h : p < c) : gi (sgL X z c) p = z * gi X p := by
  rw [gi_get (by rw [sgL_len]; exact h)]; simp [sgL]
theorem gcdL_sgL {X : List Int} {z : Int} (hz : z = 1 ∨ z = -1) {k : Nat} : ∀ {j}, j ≤ k → gcdL (sgL X z k) j = gcdL X j
  | 0, _ => rfl
  | j + 1, h => by
    rw [gcdL, gcdL, gcdL_sgL hz (by omega), gi_sgL (by omega)]
    rcases hz with rfl | rfl
    · rw [Int.one_mul]
    · unfold gcdI; rw [Int.neg_one_mul, Int.gcd_neg]
theorem shr_sgL {X : List Int} {z : Int} (hz : z = 1 ∨ z = -1) {n k : Nat} {r : Nat → Nat} (hl : X.length = k) : shr n r (sgL X z k) k = shr n r X k := by
  unfold shr
  rw [sgL_len, hl, gcdL_sgL hz (Nat.le_refl _)]
  congr 1
  unfold clrL
  refine List.map_congr_left fun p hp => ?_
  rw [gi_sgL (List.mem_range.1 hp)]
  rcases hz with rfl | rfl
  · rw [Int.one_mul]
  · rw [show max (-1 * gi X p) (-(-1 * gi X p)) = max (gi X p) (-(gi X p)) by omega]
/-- The sign of the sum. -/
def zsg (X : List Int) (k : Nat) : Int := if sumN (gi X) k < 0 then -1 else 1
theorem zsg_or (X : List Int) (k : Nat) : zsg X k = 1 ∨ zsg X k = -1 := by unfold zsg; split <;> simp
theorem lev_sum {X : List Int} (h : LevP X) (h0 : 0 < X.length) : sumN (gi X) X.length ≠ 0 ∧ ∀ p, p < X.length → 0 < zsg X X.length * gi X p := by
  rcases h with h | h
  · have hs := sumN_pos (f := gi X) (n := X.length) (fun i hi => by have := h i hi; omega) ⟨0, h0, h 0 h0⟩
    refine ⟨by omega, fun p hp => ?_⟩
    unfold zsg; rw [if_neg (by omega), Int.one_mul]; exact h p hp
  · have hs := sumN_pos (f := fun i => (-1) * gi X i) (n := X.length) (fun i hi => by have := h i hi; omega) ⟨0, h0, by have := h 0 h0; omega⟩
    rw [sumN_mul] at hs
    refine ⟨by omega, fun p hp => ?_⟩
    unfold zsg; rw [if_pos (by omega)]; have := h p hp; omega
theorem lev_of {X : List Int} {z : Int} (hz : z = 1 ∨ z = -1) (h : ∀ p, p < X.length → 0 < z * gi X p) : LevP X := by
  rcases hz with rfl | rfl
  · exact .inl fun p hp => by have := h p hp; omega
  · exact .inr fun p hp => by have := h p hp; omega

theorem memL_ge : ∀ R, R < 8 → ∀ n, n < 4 → 1 ≤ R → R < 2 ^ n → 1 ≤ (memL R n).length := by decide
/-- The shares of some strategies are the only ones at which these have as much, and no other one has more. -/
def LevAt (a : List (List Int)) (k : Nat) (r : Nat → Nat) : Prop := LevP (kY a r r k) ∧ RestP a (shr a.length r (kY a r r k) k) a.length
def lvl (a : List (List Int)) (s : Nat) : List Int := shr a.length (idx s a.length) (kY a (idx s a.length) (idx s a.length) (memL s a.length).length) (memL s a.length).length
def LvP (a : List (List Int)) (s : Nat) : Prop := 1 ≤ s ∧ s < 2 ^ a.length ∧ LevAt a (memL s a.length).length (idx s a.length)
noncomputable def resR (a : List (List Int)) : Nat → List (List Int)
  | 0 => []
  | s + 1 => if pb (LvP a s) = true then resR a s ++ [lvl a s] else resR a s
noncomputable def resF (a : List (List Int)) : List (List Int) := if pb (VQ a) = true then resR a 8 else []
theorem resR_yes {a : List (List Int)} {s : Nat} (h : LvP a s) : resR a (s + 1) = resR a s ++ [lvl a s] := by rw [resR, if_pos (pb_true h)]
theorem resR_no {a : List (List Int)} {s : Nat} (h : ¬ LvP a s) : resR a (s + 1) = resR a s := by rw [resR, if_neg (by rw [pb_false h]; decide)]
theorem lvl_len (a : List (List Int)) (s : Nat) : (lvl a s).length = a.length := putL_len _ _ _ _
theorem resR_one (a : List (List Int)) : resR a 1 = [] := by rw [resR_no (fun h => by have := h.1; omega)]; rfl
theorem resR_len (a : List (List Int)) : ∀ s, (resR a s).length ≤ s
  | 0 => by simp [resR]
  | s + 1 => by
    have := resR_len a s
    by_cases h : LvP a s
    · rw [resR_yes h, List.length_append, List.length_singleton]; omega
    · rw [resR_no h]; omega
theorem resR_end {a : List (List Int)} : ∀ {d}, resR a (2 ^ a.length + d) = resR a (2 ^ a.length)
  | 0 => rfl
  | d + 1 => by rw [← Nat.add_assoc, resR_no (fun h => by have := h.2.1; omega), resR_end]
theorem resR_all {a : List (List Int)} (h : a.length ≤ 3) : resR a 8 = resR a (2 ^ a.length) := by
  have h8 : 2 ^ a.length ≤ 8 := pow_le8 h
  have := resR_end (a := a) (d := 8 - 2 ^ a.length)
  rwa [show 2 ^ a.length + (8 - 2 ^ a.length) = 8 by omega] at this
theorem mem_resR {a : List (List Int)} {x : List Int} : ∀ {k}, x ∈ resR a k ↔ ∃ s, s < k ∧ LvP a s ∧ x = lvl a s
  | 0 => by simp [resR]
  | k + 1 => by
    have ih := mem_resR (a := a) (x := x) (k := k)
    by_cases h : LvP a k
    · rw [resR_yes h, List.mem_append, List.mem_singleton, ih]
      constructor
      · rintro (⟨s, h1, h2, h3⟩ | h1)
        · exact ⟨s, by omega, h2, h3⟩
        · exact ⟨k, by omega, h, h1⟩
      · rintro ⟨s, h1, h2, h3⟩
        by_cases e : s = k
        · subst e; exact .inr h3
        · exact .inl ⟨s, by omega, h2, h3⟩
    · rw [resR_no h, ih]
      constructor
      · rintro ⟨s, h1, h2, h3⟩; exact ⟨s, by omega, h2, h3⟩
      · rintro ⟨s, h1, h2, h3⟩
        by_cases e : s = k
        · subst e; exact absurd h2 h
        · exact ⟨s, by omega, h2, h3⟩
theorem lvl_VS {a : List (List Int)} (q : VQ a) {s : Nat} (h : LvP a s) (h8 : s < 8) : VS (lvl a s) a.length := by
  have hk3 : (memL s a.length).length ≤ 3 := by have := memL_le s a.length; have := q.1.n3; omega
  have h1 := memL_ge s h8 a.length (by have := q.1.n3; omega) h.1 h.2.1
  have hr := idx_asc s a.length
  exact shr_VS (kY_len _ _ _ _) hr (h.2.2.1.clr (by rw [kY_len]; omega)) (fun p hp => kY_bd q.1 hk3 hr (by rw [← q.2]; exact hr) hp)
end Go.Proofs.Ytjkmgpiiamffgaa

/- The shares of some strategies at which these have as much, by the model. -/
namespace Go.Proofs.Ytjkmgpiiamffgaa
open Go.RowKit
open V (sumN detN rowC colC cofN minorN skip sgn Asc)

/-- The first j numbers of row p of the differences; the first i rows. -/
def dfR (a : List (List Int)) (r : Nat → Nat) (p j : Nat) : List Int := (List.range j).map fun q => mf a r p q
def dfL (a : List (List Int)) (r : Nat → Nat) (k i : Nat) : List (List Int) := (List.range i).map fun p => dfR a r p k
theorem dfR_succ (a : List (List Int)) (r : Nat → Nat) (p j : Nat) : dfR a r p (j + 1) = dfR a r p j ++ [mf a r p j] := by simp [dfR, List.range_succ]
theorem dfL_succ (a : List (List Int)) (r : Nat → Nat) (k i : Nat) : dfL a r k (i + 1) = dfL a r k i ++ [dfR a r i k] := by simp [dfL, List.range_succ]
theorem dfR_len (a : List (List Int)) (r : Nat → Nat) (p j : Nat) : (dfR a r p j).length = j := by simp [dfR]
theorem dfL_len (a : List (List Int)) (r : Nat → Nat) (k i : Nat) : (dfL a r k i).length = i := by simp [dfL]
theorem dfL_sq (a : List (List Int)) (r : Nat → Nat) (k : Nat) : Sq k (dfL a r k k) (mf a r) :=
  ⟨dfL_len _ _ _ _, fun p hp => by rw [gr_get (by rw [dfL_len]; exact hp)]; simp [dfL, dfR], fun p q hp hq => by
    unfold g2; rw [gr_get (by rw [dfL_len]; exact hp), gi_get (by simp [dfL, dfR]; exact hq)]; simp [dfL, dfR]⟩
theorem dfR_zero {a : List (List Int)} {r : Nat → Nat} {p j : Nat} (h : p = 0) : dfR a r p (j + 1) = dfR a r p j ++ [1] := by subst h; exact dfR_succ _ _ _ _
theorem dfR_next {a : List (List Int)} {r : Nat → Nat} {p j : Nat} (h : p ≠ 0) : dfR a r p (j + 1) = dfR a r p j ++ [g2 a (r p) (r j) - g2 a (r 0) (r j)] := by
  rw [dfR_succ, mf, if_neg h]
theorem mf_odd {a : List (List Int)} {r : Nat → Nat} {k c : Nat} (hk : k ≤ 3) (hc : c < k) (h : c % 2 = 1) : gi (kY a r r k) c = -(detN (k - 1) (minorN (mf a r) 0 c)) := by
  rw [← mf_cof hk hc, cofN_odd (by omega)]
theorem mf_even {a : List (List Int)} {r : Nat → Nat} {k c : Nat} (hk : k ≤ 3) (hc : c < k) (h : ¬ c % 2 = 1) : gi (kY a r r k) c = detN (k - 1) (minorN (mf a r) 0 c) := by
  rw [← mf_cof hk hc, cofN_even (by omega)]

end Go.Proofs.Ytjkmgpiiamffgaa

/- A list that a call owns; numbers of which the first have turned. -/
namespace Go.Proofs.Ytjkmgpiiamffgaa
open Go.RowKit

/-- A list that a call owns, in block g from its beginning on. -/
structure NX (w : World) (n g : Nat) (L : List Int) (W : World) : Prop where
  own : OwnI w.heap.size W.heap.size W g (some ⟨g, 0, none⟩) n n L
  up : Below w.heap.size w W
  lo : w.heap.size ≤ g
theorem NX.next {w n g L W W'} (h : NX w n g L W) (k : Below W.heap.size W W') : NX w n g L W' := ⟨(h.own.below k).mono (Nat.le_refl _) k.size, below_up h.up k, h.lo⟩
theorem NX.cell {w n g L W} (h : NX w n g L W) {i : Nat} (hi : i < n) : W.cell? ⟨g, i, none⟩ = some (.int .i64 (gi L i)) := by
  obtain ⟨b, o, e, hc⟩ := h.own.ints.at_ (by omega)
  injection e with e
  injection e with e1 e2
  subst e1
  subst e2
  have := hc i hi
  rw [Nat.zero_add] at this
  exact this
theorem NX.frozen {w n g L W} (h : NX w n g L W) {i : Nat} (hi : i < n) : W.frozen? ⟨g, i, none⟩ = false := by
  obtain ⟨o, e, _, _, hf⟩ := h.own.own (by omega)
  injection e with e
  injection e with _ e2
  subst e2
  have := hf i hi
  rw [Nat.zero_add] at this
  exact this
theorem NX.set {w n g L W} (h : NX w n g L W) {i : Nat} (hi : i < n) {v : Int} (hv : -9223372036854775808 ≤ v ∧ v ≤ 9223372036854775807) : NX w n g (L.set i v) (W.setCell ⟨g, i, none⟩ (.int .i64 v)) := by
  have h1 := h.own.set hi hv
  rw [Nat.zero_add] at h1
  exact ⟨h1.mono (Nat.le_refl _) (by simp [World.setCell]), h.up.setCell (p := ⟨g, i, none⟩) h.lo _, h.lo⟩
/-- Numbers of which the first k have turned. -/
def mixT (f h : Nat → Int) (n k : Nat) : List Int := (List.range n).map fun i => if i < k then f i else h i
theorem mixT_len (f h : Nat → Int) (n k : Nat) : (mixT f h n k).length = n := by simp [mixT]
theorem gi_mixT {f h : Nat → Int} {n k i : Nat} (hi : i < n) : gi (mixT f h n k) i = if i < k then f i else h i := by
  rw [gi_get (by rw [mixT_len]; exact hi)]; simp [mixT]
theorem mixT_set {f h : Nat → Int} {n k : Nat} : (mixT f h n k).set k (f k) = mixT f h n (k + 1) := gi_ext (by rw [List.length_set, mixT_len, mixT_len]) fun i hi => by
  rw [List.length_set, mixT_len] at hi
  rw [gi_mixT hi]
  by_cases e : i = k
  · subst e; rw [gi_set_eq (by rw [mixT_len]; exact hi), if_pos (by omega)]
  · rw [gi_set_ne (by rw [mixT_len]; exact hi) e, gi_mixT hi]
    by_cases h2 : i < k
    · rw [if_pos h2, if_pos (by omega)]
    · rw [if_neg h2, if_neg (by omega)]
theorem mixT_zero (f h : Nat → Int) (n : Nat) : mixT f h n 0 = (List.range n).map h := gi_ext (by rw [mixT_len]; simp) fun i hi => by
  rw [mixT_len] at hi
  rw [gi_mixT hi, if_neg (by omega), gi_get (by simpa using hi)]; simp
theorem mixT_all (f h : Nat → Int) (n : Nat) : mixT f h n n = (List.range n).map f := gi_ext (by rw [mixT_len]; simp) fun i hi => by
  rw [mixT_len] at hi
  rw [gi_mixT hi, if_pos hi, gi_get (by simpa using hi)]; simp
theorem list_range (x : List Int) : (List.range x.length).map (gi x) = x := gi_ext (by simp) fun i hi => by
  have hi' : i < x.length := by simpa using hi
  rw [gi_get hi]; simp
theorem gi_range {f : Nat → Int} {n i : Nat} (h : i < n) : gi ((List.range n).map f) i = f i := by rw [gi_get (by simpa using h)]; simp

end Go.Proofs.Ytjkmgpiiamffgaa

/- Fields, by both programs. -/
namespace Go.Proofs.Ytjkmgpiiamffgaa
open Go.RowKit

/-- A square of numbers of at least 1. -/
structure VF (a : List (List Int)) : Prop where
  q : VQ a
  p : ∀ i j, i < a.length → j < a.length → 1 ≤ g2 a i j

set_option maxRecDepth 100000 in
set_option maxHeartbeats 1600000 in
theorem validField_any (A : Option Addr) (n c : Nat) (a : List (List Int)) (w : World) (hx : IntRows w A n c a) :
    Calls Try.prog 94 #[.slice A n c] w fun e w' => e = .returned (.bool (pb (VF a))) ∧ Quiet w w' := by
  have HX := Lib.hid hx
  have hl := hx.len
  clear hx
  by_cases hv : VQ a
  · have HC := Lib.hid (pb_true hv ▸ validSquare_any A n c a w HX.out)
    have hm : (gr a 0).length = n := by have := hv.2; omega
    have hn3 := hv.1.n3
    rw [hl] at hn3
    obtain ⟨b, o, rb, ro, cc, rfl, tab⟩ := HX.out.tab hv.1
    rw [hm] at tab
    have HT := Lib.hid tab
    have HV := Lib.hid hv
    have HL := Lib.hid hl
    clear tab hm hv hl
    go_enter Try.func94, Try.ntmps94
    go_wp2_with fail
    refine HC.out.mono ?_
    rintro e w1 ⟨rfl, hq⟩
    have HQ1 := Lib.hid hq
    clear hq HC
    go_wp2
    go_loopw [3] (fun i_ wr => ∃ i : Nat, i ≤ n ∧ i_ = .int .i64 i ∧ Hid (∀ k j, k < i → j < n → 1 ≤ g2 a k j) ∧ Hid (Quiet w wr)) (fun i_ _ => n - (intOf i_).toNat)
    case atStart => exact ⟨0, Nat.zero_le _, rfl, Lib.hid (fun _ _ h => absurd h (by omega)), HQ1⟩
    case round =>
      clear HQ1
      obtain ⟨i, hi, rfl, HALL, HQ⟩ := hrel
      by_cases hlt : i < n
      · go_wp2
        go_loopw [4] (fun j_ wi => ∃ j : Nat, j ≤ n ∧ j_ = .int .i64 j ∧ Hid (∀ l, l < j → 1 ≤ g2 a i l) ∧ Hid (Quiet w wi)) (fun j_ _ => n - (intOf j_).toNat)
        case atStart => exact ⟨0, Nat.zero_le _, rfl, Lib.hid (fun _ h => absurd h (by omega)), HQ⟩
        case round =>
          clear HQ
          obtain ⟨j, hj, rfl, HROW, HQ⟩ := hrel
          by_cases hjl : j < n
          · have c1 := Keep.quiet HQ.out _ _ (HT.out.row i hlt)
            have c2 := Keep.quiet HQ.out _ _ (HT.out.cell i j hlt hjl)
            by_cases hp : g2 a i j < 1
            · have HN := Lib.hid (pb_false (p := VF a) (fun h => by have := h.p i j (by rw [HL.out]; exact hlt) (by rw [HL.out]; exact hjl); omega))
              generalize g2 a i j = x at *
              go_wp2
              go_ret
              exact ⟨ret_bool HN.out.symm, HQ.out⟩
            · have HN := Lib.hid (show ∀ l, l < j + 1 → 1 ≤ g2 a i l from fun l hl => by
                by_cases e : l = j
                · subst e; omega
                · exact HROW.out l (by omega))
              generalize g2 a i j = x at *
              go_wp2
              go_roundw
              case rel => exact ⟨j + 1, by omega, by go_num, HN, HQ⟩
              case measure => simp [intOf]; omega
          · obtain rfl : j = n := by omega
            have HN := Lib.hid (show ∀ k l, k < i + 1 → l < j → 1 ≤ g2 a k l from fun k l hk hl => by
                by_cases e : k = i
                · subst e; exact HROW.out l hl
                · exact HALL.out k l (by omega) hl)
            go_wp2
            go_roundw
            case rel => exact ⟨i + 1, by omega, by go_num, HN, HQ⟩
            case measure => simp [intOf]; omega
      · obtain rfl : i = n := by omega
        have HN := Lib.hid (pb_true (p := VF a) ⟨HV.out, fun k j hk hj => HALL.out k j (by rw [← HL.out]; exact hk) (by rw [← HL.out]; exact hj)⟩)
        go_wp2
        go_ret
        exact ⟨ret_bool HN.out.symm, HQ.out⟩
  · have HC := Lib.hid (pb_false hv ▸ validSquare_any A n c a w HX.out)
    have HN := Lib.hid (pb_false (p := VF a) (fun h => hv h.q))
    clear hv hl
    go_enter Try.func94, Try.ntmps94
    go_wp2_with fail
    refine HC.out.mono ?_
    rintro e w1 ⟨rfl, hq⟩
    go_wp2
    go_ret
    exact ⟨ret_bool HN.out.symm, hq⟩
/-- All the numbers of some lists, one behind the other. -/
theorem catL_all {xss : List (List Int)} {z : Int} : ∀ {i}, i ≤ xss.length → ((∀ x ∈ catL xss i, z ≤ x) ↔ ∀ p, p < i → ∀ x ∈ gr xss p, z ≤ x)
  | 0, _ => ⟨fun _ p h => absurd h (by omega), fun _ x h => by simp [catL] at h⟩
  | i + 1, hi => by
    have ih := catL_all (xss := xss) (z := z) (i := i) (by omega)
    constructor
    · intro h p hp x hx
      by_cases e : p = i
      · subst e; exact h x (by rw [catL, List.mem_append]; exact .inr hx)
      · exact ih.1 (fun y hy => h y (by rw [catL, List.mem_append]; exact .inl hy)) p (by omega) x hx
    · intro h x hx
      rw [catL, List.mem_append] at hx
      rcases hx with hx | hx
      · exact ih.2 (fun p hp => h p (by omega)) x hx
      · exact h i (by omega) x hx
theorem mem_gi {xs : List Int} {x : Int} (h : x ∈ xs) : ∃ k, k < xs.length ∧ gi xs k = x := by
  obtain ⟨k, hk, rfl⟩ := List.mem_iff_getElem.1 h
  exact ⟨k, hk, gi_get hk⟩
theorem lst_all {xs : List Int} {z : Int} (h0 : 0 < xs.length) : z ≤ lst xs ↔ ∀ x ∈ xs, z ≤ x := by
  constructor
  · intro h x hx
    obtain ⟨k, hk, rfl⟩ := mem_gi hx
    have := mn_le (xs := xs) (k := xs.length - 1) (j := k) (by omega)
    unfold lst at h
    omega
  · intro h
    obtain ⟨j, hj, e⟩ := mn_mem (xs := xs) (xs.length - 1)
    unfold lst
    rw [e]
    exact h _ (gi_mem (by omega))
theorem field_least {a : List (List Int)} (v : VQ a) (h0 : 0 < (catL a a.length).length) : VF a ↔ 1 ≤ lst (catL a a.length) := by
  rw [lst_all h0, catL_all (Nat.le_refl _)]
  constructor
  · intro h p hp x hx
    obtain ⟨k, hk, rfl⟩ := mem_gi hx
    have := (v.1.rows p hp).1
    exact h.p p k hp (by have := v.2; omega)
  · intro h
    refine ⟨v, fun i j hi hj => h i hi _ (gi_mem ?_)⟩
    have := (v.1.rows i hi).1
    have := v.2
    omega
theorem VT.smallrows {a : List (List Int)} (v : VT a) : ∀ p, p < a.length → (gr a p).length ≤ 3 ∧ 0 < (gr a p).length ∧ ∀ x ∈ gr a p, -1000000 ≤ x ∧ x ≤ 1000000 := fun p hp => by
  have h := v.rows p hp
  have h1 := h.1
  have := v.m1
  have := v.m3
  refine ⟨by omega, by omega, fun x hx => ?_⟩
  obtain ⟨k, hk, rfl⟩ := mem_gi hx
  have := h.2 k hk
  unfold InR at this
  omega
theorem catL_pos {a : List (List Int)} (v : VT a) : 0 < (catL a a.length).length := by
  obtain ⟨l, hl⟩ : ∃ l, a.length = l + 1 := ⟨a.length - 1, by have := v.n1; omega⟩
  rw [hl, catL, List.length_append]
  have := (v.smallrows l (by omega)).2.1
  omega

set_option maxRecDepth 100000 in
set_option maxHeartbeats 1600000 in
theorem ValidField_impl (A : Option Addr) (n c : Nat) (a : List (List Int)) (w : World) (hx : IntRows w A n c a) :
    Calls Try.prog 106 #[.slice A n c] w (Ret (.bool (pb (VF a))) w) := by
  have HX := Lib.hid hx
  have hl := hx.len
  clear hx
  by_cases hv : VQ a
  · have HC := Lib.hid (pb_true hv ▸ ValidSquare_impl A n c a w HX.out)
    have hn3 := hv.1.n3
    rw [hl] at hn3
    have HSR := Lib.hid hv.1.smallrows
    have HPOS := Lib.hid (by have := catL_pos hv.1; rw [hl] at this; exact this)
    have HFL := Lib.hid (by have := field_least hv (catL_pos hv.1); rw [hl] at this; exact this)
    have HK := Lib.hid (fun W (k : Quiet w W) => Concat_any A n c a W (HX.out.keep (Keep.quiet k)) (by omega) (fun p hp => (HSR.out p hp).1) (fun p hp => (HSR.out p hp).2.1) (fun p hp => (HSR.out p hp).2.2) HPOS.out)
    clear hv hl
    generalize catL a n = ys at *
    have d1 : ∀ z : Int, (decide (1 ≤ z)) = decide (1 ≤ z) := fun _ => rfl
    clear d1
    go_enter Try.func106, Try.ntmps106
    go_wp2_with fail
    refine HC.out.mono ?_
    rintro e w1 ⟨rfl, hq⟩
    have HC2 := Lib.hid (HK.out w1 hq)
    have HB1 := Lib.hid (show Below w.heap.size w w1 from hq.below)
    clear hq HC HK
    go_wp2_with fail
    refine HC2.out.mono ?_
    rintro e w2 ⟨A2, n2, c2, g2_, rfl, hn2, ho, hb⟩
    have HB2 := Lib.hid (below_up HB1.out hb)
    have HI := Lib.hid ho.ints
    have hp2 : 0 < n2 := by rw [hn2]; exact HPOS.out
    clear hn2 ho hb HC2 HB1
    have HC := Lib.hid (Min_any A2 n2 c2 ys w2 HI.out hp2)
    by_cases hge : 1 ≤ lst ys
    · have HN := Lib.hid (pb_true (HFL.out.2 hge))
      generalize lst ys = z at *
      go_wp2_with fail
      refine HC.out.mono ?_
      rintro e w3 ⟨rfl, hq⟩
      have HB3 := Lib.hid (below_quiet HB2.out hq)
      clear hq HC HB2
      go_wp2
      go_ret
      exact ⟨ret_bool HN.out.symm, HB3.out⟩
    · have HN := Lib.hid (pb_false (fun h => hge (HFL.out.1 h)))
      have hd : decide (1 ≤ lst ys) = false := decide_eq_false hge
      generalize lst ys = z at *
      go_wp2_with fail
      refine HC.out.mono ?_
      rintro e w3 ⟨rfl, hq⟩
      have HB3 := Lib.hid (below_quiet HB2.out hq)
      clear hq HC HB2
      go_wp2
      go_ret
      exact ⟨ret_bool HN.out.symm, HB3.out⟩
  · have HC := Lib.hid (pb_false hv ▸ ValidSquare_impl A n c a w HX.out)
    have HN := Lib.hid (pb_false (p := VF a) (fun h => hv h.q))
    clear hv hl
    go_enter Try.func106, Try.ntmps106
    go_wp2_with fail
    refine HC.out.mono ?_
    rintro e w1 ⟨rfl, hq⟩
    go_wp2
    go_ret
    exact ⟨ret_bool HN.out.symm, hq.below⟩

end Go.Proofs.Ytjkmgpiiamffgaa

/- One block alone has turned: what is elsewhere stays; new lists whose block is known. -/
namespace Go.Proofs.Ytjkmgpiiamffgaa
open Go.RowKit
theorem eqI_same (xs : List Int) : eqI xs xs = true := eqI_yes rfl fun _ _ => rfl
theorem OwnI.one {lo hi g w w' b A n c xs} (h : OwnI lo hi w b A n c xs) (k : One g w w') (hne : b ≠ g) : OwnI lo hi w' b A n c xs := h.of_block fun _ => k.block b hne
theorem One.below {S g : Nat} {a w w' : World} (h : Below S a w) (k : One g w w') (hg : S ≤ g) : Below S a w' := Touch.below h (k.touch (Nat.le_refl g) (Nat.lt_succ_self g)) hg
theorem NewI.ge {w w' : World} {ys : List Int} {e : Ending} (h : NewI w ys e w') :
    ∃ Av c gg, e = .returned (.slice Av ys.length c) ∧ OwnI w.heap.size w'.heap.size w' gg Av ys.length c ys ∧ w.heap.size ≤ gg ∧ Below w.heap.size w w' := by
  obtain ⟨Av, n, c, gg, rfl, rfl, ho, hb⟩ := h
  by_cases h0 : 0 < ys.length
  · obtain ⟨o, e, h1, h2, hf⟩ := ho.own h0
    exact ⟨Av, c, gg, rfl, ho, h1, hb⟩
  · exact ⟨Av, c, w.heap.size, rfl, ⟨ho.ints, fun hn => absurd hn h0⟩, Nat.le_refl _, hb⟩
end Go.Proofs.Ytjkmgpiiamffgaa

