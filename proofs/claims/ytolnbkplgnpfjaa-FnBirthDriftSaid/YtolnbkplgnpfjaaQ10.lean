/- Texts merged: N12 Math53 EqF. -/
import Derived.Test.YtolnbkplgnpfjaaQ9
import Derived.OneCell
/- PlaceChances, by the model. -/
namespace Go.Proofs.Ytolnbkplgnpfjaa
open Go.RowKit

theorem pc_step {b : Bool} {S : Int} {k : Nat} (hk : k = 1 ∨ k = 2 ∨ k = 3 ∨ k = 4) :
    frU (frU S (if b then 12 else 1) * frD (if b then 1 else (k : Int)) (if b then (k : Int) else 1) + frU (if b then 1 else (k : Int)) (if b then (k : Int) else 1) * frD S (if b then 12 else 1)) (frD S (if b then 12 else 1) * frD (if b then 1 else (k : Int)) (if b then (k : Int) else 1)) = frU (S + (if b then ((12 / k : Nat) : Int) else (k : Int))) (if b then 12 else 1) ∧
    frD (frU S (if b then 12 else 1) * frD (if b then 1 else (k : Int)) (if b then (k : Int) else 1) + frU (if b then 1 else (k : Int)) (if b then (k : Int) else 1) * frD S (if b then 12 else 1)) (frD S (if b then 12 else 1) * frD (if b then 1 else (k : Int)) (if b then (k : Int) else 1)) = frD (S + (if b then ((12 / k : Nat) : Int) else (k : Int))) (if b then 12 else 1) := by
  cases b
  · simp only [Bool.false_eq_true, if_false]
    have a := fr_add (u := S) (d := 1) (v := (k : Int)) (e := 1) (by omega) (by omega)
    rw [Int.mul_one, Int.mul_one, Int.mul_one] at a
    exact a
  · simp only [if_true]
    have hk0 : (0 : Int) < (k : Int) := by omega
    have a := fr_add (u := S) (d := 12) (v := 1) (e := (k : Int)) (by omega) hk0
    have e := fr_eq (u := S * (k : Int) + 1 * 12) (d := 12 * (k : Int)) (v := S + ((12 / k : Nat) : Int)) (e := 12) (by omega) (by omega) (by
      rcases hk with rfl | rfl | rfl | rfl <;> simp <;> grind)
    exact ⟨a.1.trans e.1, a.2.trans e.2⟩
theorem pc_end {b : Bool} {T : Int} {k : Nat} (hT : 0 < T) (hk : k = 1 ∨ k = 2 ∨ k = 3 ∨ k = 4) :
    frU (frU (if b then 1 else (k : Int)) (if b then (k : Int) else 1) * frU (frD T (if b then 12 else 1)) (frU T (if b then 12 else 1))) (frD (if b then 1 else (k : Int)) (if b then (k : Int) else 1) * frD (frD T (if b then 12 else 1)) (frU T (if b then 12 else 1))) = frU (if b then ((12 / k : Nat) : Int) else (k : Int)) T ∧
    frD (frU (if b then 1 else (k : Int)) (if b then (k : Int) else 1) * frU (frD T (if b then 12 else 1)) (frU T (if b then 12 else 1))) (frD (if b then 1 else (k : Int)) (if b then (k : Int) else 1) * frD (frD T (if b then 12 else 1)) (frU T (if b then 12 else 1))) = frD (if b then ((12 / k : Nat) : Int) else (k : Int)) T := by
  have hk0 : (0 : Int) < (k : Int) := by omega
  cases b
  · simp only [Bool.false_eq_true, if_false]
    have t := fr_turn (u := T) (d := 1) (by omega) hT
    rw [t.1, t.2]
    have a := fr_tim (u := (k : Int)) (d := 1) (v := 1) (e := T) (by omega) hT
    rw [Int.mul_one, Int.one_mul] at a
    exact a
  · simp only [if_true]
    have t := fr_turn (u := T) (d := 12) (by omega) hT
    rw [t.1, t.2]
    have a := fr_tim (u := 1) (d := (k : Int)) (v := 12) (e := T) hk0 hT
    have e := fr_eq (u := 1 * 12) (d := (k : Int) * T) (v := ((12 / k : Nat) : Int)) (e := T) (Int.mul_pos hk0 hT) hT (by
      rcases hk with rfl | rfl | rfl | rfl <;> simp <;> grind)
    exact ⟨a.1.trans e.1, a.2.trans e.2⟩
/-- A place's weight as the model tells it. -/
def xP (g : List Int) (b : Bool) (v : Nat) : Int := if b then 1 else (dg g v : Int)
def xQ (g : List Int) (b : Bool) (v : Nat) : Int := if b then (dg g v : Int) else 1
def cB (b : Bool) : Int := if b then 12 else 1
def xL (g : List Int) (b : Bool) : Nat → List Int
  | 0 => []
  | v + 1 => xL g b v ++ [frU (xP g b v) (xQ g b v), frD (xP g b v) (xQ g b v)]
theorem xL_len (g : List Int) (b : Bool) : ∀ i, (xL g b i).length = 2 * i
  | 0 => rfl
  | i + 1 => by rw [xL, List.length_append, xL_len g b i]; simp; omega
theorem gi_xL (g : List Int) (b : Bool) : ∀ {k i}, i < k → gi (xL g b k) (i * 2) = frU (xP g b i) (xQ g b i) ∧ gi (xL g b k) (i * 2 + 1) = frD (xP g b i) (xQ g b i)
  | 0, _, h => absurd h (by omega)
  | k + 1, i, h => by
    have hl := xL_len g b k
    rw [xL]
    by_cases e : i = k
    · subst e
      have h0 := gi_append_ge (L := xL g b i) (M := [frU (xP g b i) (xQ g b i), frD (xP g b i) (xQ g b i)]) (k := 0) (by simp)
      have h1 := gi_append_ge (L := xL g b i) (M := [frU (xP g b i) (xQ g b i), frD (xP g b i) (xQ g b i)]) (k := 1) (by simp)
      rw [hl] at h0 h1
      rw [show i * 2 = 2 * i + 0 by omega, h0, show 2 * i + 0 + 1 = 2 * i + 1 by omega, h1]
      exact ⟨rfl, rfl⟩
    · rw [gi_append_lt (by omega), gi_append_lt (by omega)]
      exact gi_xL g b (by omega)
/-- Fractions under way, beside the sum's box at r. -/
structure CU (w : World) (r : Nat) (v : Value) (n : Nat) (L : List Int) (U D : Int) (W : World) : Prop where
  own : W.ownsRow (r + 1) 39 2 v n (L.map iv)
  up : Below w.heap.size w W
  box : Blk W r 39 #[.int .i64 U, .int .i64 D]
  lo : w.heap.size ≤ r
theorem CU.next {w r v n L U D W W'} (h : CU w r v n L U D W) (k : Below W.heap.size W W') : CU w r v n L U D W' :=
  ⟨blk_kept h.own fun g hg => k.block g (h.own.lt g hg).2, below_up h.up k, blk_below h.box k, h.lo⟩
theorem CU.form {w r v n L U D W} (h : CU w r v n L U D W) : ∃ A c, v = .slice A n c := by
  rcases h.own.2 with ⟨rfl, h0⟩ | ⟨g, cap, cur, rfl, _⟩
  · exact ⟨none, 0, by rw [h0]⟩
  · exact ⟨_, _, rfl⟩
theorem CU.set {w r v n L U D W} (h : CU w r v n L U D W) (U' D' : Int) : CU w r v n L U' D' ((W.setCell ⟨r, 0, none⟩ (.int .i64 U')).setCell ⟨r, 1, none⟩ (.int .i64 D')) :=
  ⟨ownsRow_setCell_below (ownsRow_setCell_below h.own (by show r < r + 1; omega) _) (by show r < r + 1; omega) _, (h.up.setCell h.lo _).setCell h.lo _, blk_set (blk_set h.box 0 (.int .i64 U')) 1 (.int .i64 D'), h.lo⟩
theorem CU.setFar {w r v n L U D W} (h : CU w r v n L U D W) {bx : Nat} (h1 : r < bx) (h2 : v.ownBlock ≠ some bx) (U' D' : Int) : CU w r v n L U D ((W.setCell ⟨bx, 0, none⟩ (.int .i64 U')).setCell ⟨bx, 1, none⟩ (.int .i64 D')) := by
  have hl := h.lo
  exact ⟨ownsRow_setCell_other (ownsRow_setCell_other h.own (a := ⟨bx, 0, none⟩) h2 _) (a := ⟨bx, 1, none⟩) h2 _, (h.up.setCell (by show w.heap.size ≤ bx; omega) _).setCell (by show w.heap.size ≤ bx; omega) _, blk_other (blk_other h.box (p := ⟨bx, 0, none⟩) (by show r ≠ bx; omega) _) (p := ⟨bx, 1, none⟩) (by show r ≠ bx; omega) _, h.lo⟩
theorem CU.push {w r v v' n L U D W W' u d} (h : CU w r v n L U D W) (hown : W'.ownsRow (r + 1) 39 2 v' (n + 1) (L.map iv ++ [iv u, iv d]))
    (hgrow : (W.alloc (.cells #[iv u, iv d] 39)).grownBy W' v.ownBlock) : CU w r v' (n + 1) (L ++ [u, d]) U D W' := by
  have hsz := hgrow.size
  simp only [World.size_alloc] at hsz
  have hl := h.lo
  have hk : ∀ k, k < W.heap.size → k < r + 1 → W'.heap[k]? = W.heap[k]? := fun k h1 h2 =>
    (hgrow.block k (by simp; omega) (fun e => by have := (h.own.lt k e.symm).1; omega)).trans (Below.heap_alloc _ _ _ h1)
  have hbl := blk_lt h.box
  refine ⟨by rw [List.map_append]; exact hown, ⟨hgrow.os.trans h.up.os, hgrow.tape.trans h.up.tape, hgrow.output.trans h.up.output, by have := h.up.size; omega, fun k hk' => (hk k (by omega) (by omega)).trans (h.up.block k hk')⟩, (hk r hbl (by omega)).trans h.box, h.lo⟩
theorem CU.cells {w r v n L U D W} (h : CU w r v n L U D W) (h0 : 0 < n) : ∃ g c, v = .slice (some ⟨g, 0, none⟩) n c ∧ ∀ k, k < 2 * n → W.cell? ⟨g, k, none⟩ = some (.int .i64 (gi L k)) := by
  have hl : L.length = 2 * n := by have := h.own.1; rw [List.length_map] at this; omega
  rcases h.own.2 with ⟨_, h1⟩ | ⟨g, cap, cur, rfl, hb, hg, hnc, _, hcs, htake⟩
  · omega
  · refine ⟨g, cap, rfl, fun k hk => ?_⟩
    rw [← getElem_iv (by omega : k < L.length), ← htake, List.getElem?_take, if_pos (by omega)]
    simp [World.cell?, hg]
set_option maxRecDepth 100000 in
set_option maxHeartbeats 6400000 in
theorem placeChancesS_yes (A : Option Addr) (n c : Nat) (g : List Int) (s : ByteArray) (b : Bool) (w : World) (hx : Ints w A n c g) (hg : GR g) (hk : KindIs s b) :
    Calls Try.prog 38 #[.slice A n c, .string s] w (NewF w (pcF g s)) := by
  have HX := Lib.hid hx
  have hl := hx.len
  have HV := Lib.hid (pb_true hg ▸ validGraph_any A n c g w hx)
  have HPC := Lib.hid (pcF_yes hg hk)
  have h5 : n ≤ 5 := by rw [← hl]; exact hg.b.n5
  have h2 : 2 ≤ n := by rw [← hl]; exact hg.b.n2
  have HDG := Lib.hid (fun v (hv : v < n) W a => degree_any A n c g v W a hg.b (by rw [hl]; exact hv))
  have HDB := Lib.hid (fun v (hv : v < n) => show 1 ≤ dg g v ∧ dg g v ≤ 4 from have q := hg.deg (v := v) (by rw [hl]; exact hv); ⟨q.1, q.2.1⟩)
  have HTB := Lib.hid (tW_bd hg b)
  have HTE := Lib.hid (show tW g b = sU (wI g b) n by rw [← hl]; rfl)
  have HSB := Lib.hid (fun v (hv : v ≤ n) => show (v : Int) ≤ sU (wI g b) v ∧ sU (wI g b) v ≤ 12 * (v : Int) from sU_ge fun k hk => wI_bd hg b (by omega))
  have HSS := Lib.hid (fun v => show sU (wI g b) (v + 1) = sU (wI g b) v + wI g b v from rfl)
  have HS0 : Hid (sU (wI g b) 0 = 0) := Lib.hid rfl
  have HXS := Lib.hid (fun v => show xL g b (v + 1) = xL g b v ++ [frU (xP g b v) (xQ g b v), frD (xP g b v) (xQ g b v)] from rfl)
  have HXZ : Hid (xL g b 0 = []) := Lib.hid rfl
  have HPS := Lib.hid (fun v => show pcL g b (v + 1) = pcL g b v ++ [frU (wI g b v) (tW g b), frD (wI g b v) (tW g b)] from rfl)
  have HPZ : Hid (pcL g b 0 = []) := Lib.hid rfl
  have HL := Lib.hid hl
  have HE0 : Hid (frV 0 1 = .agg #[.int .i64 0, .int .i64 1]) := Lib.hid (by have e := fr_zero (D := 1) (by omega); rw [frV, e.1, e.2])
  have HF0 := Lib.hid (fun W => HE0.out ▸ fracH_any 0 1 W (by unfold Hug; omega) (by unfold Hug; omega) (by omega))
  have HCB := Lib.hid (show cB b = 12 ∨ cB b = 1 by cases b <;> simp [cB])
  have HFZ := Lib.hid (show frU 0 (cB b) = 0 ∧ frD 0 (cB b) = 1 from fr_zero (by have := HCB.out; omega))
  have HST := Lib.hid (fun v (S : Int) (hd : dg g v = 1 ∨ dg g v = 2 ∨ dg g v = 3 ∨ dg g v = 4) => show frU (frU S (cB b) * frD (xP g b v) (xQ g b v) + frU (xP g b v) (xQ g b v) * frD S (cB b)) (frD S (cB b) * frD (xP g b v) (xQ g b v)) = frU (S + wI g b v) (cB b) ∧ frD (frU S (cB b) * frD (xP g b v) (xQ g b v) + frU (xP g b v) (xQ g b v) * frD S (cB b)) (frD S (cB b) * frD (xP g b v) (xQ g b v)) = frD (S + wI g b v) (cB b) from pc_step (b := b) (S := S) hd)
  have HEN := Lib.hid (fun v (hd : dg g v = 1 ∨ dg g v = 2 ∨ dg g v = 3 ∨ dg g v = 4) => show frU (frU (xP g b v) (xQ g b v) * frU (frD (tW g b) (cB b)) (frU (tW g b) (cB b))) (frD (xP g b v) (xQ g b v) * frD (frD (tW g b) (cB b)) (frU (tW g b) (cB b))) = frU (wI g b v) (tW g b) ∧ frD (frU (xP g b v) (xQ g b v) * frU (frD (tW g b) (cB b)) (frU (tW g b) (cB b))) (frD (xP g b v) (xQ g b v) * frD (frD (tW g b) (cB b)) (frU (tW g b) (cB b))) = frD (wI g b v) (tW g b) from pc_end (b := b) (by have := HTB.out; omega) hd)
  have HXQ := Lib.hid (fun v (hd : 1 ≤ dg g v ∧ dg g v ≤ 4) => show (1 ≤ xP g b v ∧ xP g b v ≤ 4) ∧ 1 ≤ xQ g b v ∧ xQ g b v ≤ 4 by cases b <;> simp [xP, xQ] <;> omega)
  obtain ⟨i0, hi0, hz0, hz1, hz2⟩ := info_parts Try.infoF
  obtain ⟨hk1, hk2⟩ := hk
  clear hx hg hl HE0
  go_enter Try.func38, Try.ntmps38
  go_wp2_with fail
  refine HV.out.mono ?_
  rintro e w1 ⟨rfl, hq⟩
  have HB1 := Lib.hid (show Below w.heap.size w w1 from hq.below)
  clear hq HV
  cases b
  · go_wp2_with fail
    refine (HF0.out _).mono ?_
    rintro e w2 ⟨rfl, hb⟩
    have HB2 := Lib.hid (below_up HB1.out hb)
    clear hb HF0 HB1
    have HC0 := Lib.hid (show CU w w2.heap.size (.slice (some ⟨w2.heap.size + 1, 0, none⟩) 0 0) 0 (xL g false 0) (frU (sU (wI g false) 0) (cB false)) (frD (sU (wI g false) 0) (cB false)) ((w2.alloc (.cells #[.int .i64 0, .int .i64 1] 39)).alloc (.cells #[] 39)) from by
      rw [HXZ.out, HS0.out, HFZ.out.1, HFZ.out.2]
      refine ⟨?_, below_up (below_up HB2.out (below_alloc _ _)) (below_alloc _ _), blk_old (blk_new _ _ _) _, HB2.out.size⟩
      have q := World.ownsRow_made (e := 39) (size := 2) (w2.alloc (.cells #[.int .i64 0, .int .i64 1] 39)) (base := w2.heap.size + 1) #[] 0 (by simp) (Nat.zero_le _) rfl
      rw [World.size_alloc] at q
      exact q)
    clear HXZ HS0 HFZ HB2
    go_wp2
    generalize hWA : (w2.alloc (.cells #[.int .i64 0, .int .i64 1] 39)).alloc (.cells #[] 39) = WA at *
    clear hWA
    generalize w2.heap.size = r at *
    go_loopw [6, 7] (fun x i wr => ∃ v : Nat, v ≤ n ∧ i = .int .i64 v ∧ Hid (CU w r x v (xL g false v) (frU (sU (wI g false) v) (cB false)) (frD (sU (wI g false) v) (cB false)) wr)) (fun _ i _ => n - (intOf i).toNat)
    case atStart => exact ⟨0, Nat.zero_le _, rfl, HC0⟩
    case round =>
      clear HC0
      obtain ⟨v, hv, rfl, HC⟩ := hrel
      obtain ⟨Av, cv, rfl⟩ := HC.out.form
      by_cases hlt : v < n
      · obtain ⟨d1, d2⟩ := HDB.out v hlt
        have hd4 : dg g v = 1 ∨ dg g v = 2 ∨ dg g v = 3 ∨ dg g v = 4 := by omega
        have HS1 := Lib.hid (HST.out v (sU (wI g false) v) hd4)
        obtain ⟨s1, s2⟩ := HSB.out v hv
        obtain ⟨⟨x1, x2⟩, x3, x4⟩ := HXQ.out v ⟨d1, d2⟩
        have hcb := HCB.out
        have HDG1 := Lib.hid (HDG.out v hlt wr (HX.out.keep (Keep.below HC.out.up)))
        have HXU := Lib.hid (frU_bd (u := xP g false v) (d := xQ g false v) (B := 4) (by omega) (by omega))
        have HXD := Lib.hid (frD_bd (u := xP g false v) (d := xQ g false v) (B := 4) (by omega) (by omega))
        have HOU := Lib.hid (frU_bd (u := sU (wI g false) v) (d := cB false) (B := 60) (by omega) (by omega))
        have HOD := Lib.hid (frD_bd (u := sU (wI g false) v) (d := cB false) (B := 12) (by omega) (by omega))
        have HSE := Lib.hid (HSS.out v)
        rw [← HSE.out] at HS1
        have HXE := Lib.hid (HXS.out v)
        have HPL := Lib.hid (fun W => plusH_any (frU (sU (wI g false) v) (cB false)) (frD (sU (wI g false) v) (cB false)) (frU (xP g false v) (xQ g false v)) (frD (xP g false v) (xQ g false v)) W (by have := HOU.out; omega) (by have := HXU.out; omega) (by have := HOD.out; omega) (by have := HXD.out; omega))
        rw [frV, HS1.out.1, HS1.out.2] at HPL
        have HD1V : Hid (frV (dg g v : Int) 1 = .agg #[.int .i64 (frU (dg g v : Int) 1), .int .i64 (frD (dg g v : Int) 1)]) := Lib.hid rfl
        have HFD := Lib.hid (fun W => HD1V.out ▸ fracH_any (dg g v : Int) 1 W (by unfold Hug; omega) (by unfold Hug; omega) (by omega))
        have HXX : Hid (xP g false v = (dg g v : Int) ∧ xQ g false v = 1) := Lib.hid ⟨rfl, rfl⟩
        clear HS1 HD1V HXU HXD HOU HOD HSE s1 s2 x1 x2 x3 x4 hd4
        rw [HXX.out.1, HXX.out.2] at HPL HXE
        generalize hdd : dg g v = dd at *
        clear hdd
        generalize hNU : frU (sU (wI g false) (v + 1)) (cB false) = NU at *
        generalize hND : frD (sU (wI g false) (v + 1)) (cB false) = ND at *
        have HNE := Lib.hid (And.intro hNU hND)
        clear hNU hND HXX
        generalize frU (sU (wI g false) v) (cB false) = OU at *
        generalize frD (sU (wI g false) v) (cB false) = OD at *
        generalize frU (dd : Int) 1 = U at *
        generalize frD (dd : Int) 1 = V at *
        generalize hys : xL g false v = ys at *
        clear hys
        go_wp2_with fail
        refine HDG1.out.mono ?_
        rintro e w' ⟨rfl, rfl⟩
        clear HDG1
        go_wp2_with fail
        refine (HFD.out _).mono ?_
        rintro e w3 ⟨rfl, hb⟩
        have HC3 := Lib.hid (HC.out.next hb)
        clear hb HC HFD
        have HC4 := Lib.hid (HC3.out.next (below_alloc w3 (.cells #[.int .i64 U, .int .i64 V] 39)))
        have HXB := Lib.hid (blk_new w3 39 #[.int .i64 U, .int .i64 V])
        have HFAR := Lib.hid (show (Value.slice Av v cv).ownBlock ≠ some w3.heap.size from fun e => by have := (HC3.out.own.lt _ e).2; omega)
        clear HC3
        generalize hw4 : w3.alloc (.cells #[.int .i64 U, .int .i64 V] 39) = w4 at HC4 HXB
        generalize hbx : w3.heap.size = bx at HXB HFAR
        have hb := below_alloc w4 (.cells #[iv U, iv V] 39)
        have HB4 := Lib.hid (HC4.out.next hb).own
        have HN := Lib.hid (cells_two_new w4 U V)
        have hwz := HC4.out.up.size
        have hwl := HC4.out.lo
        have hbl := blk_lt HC4.out.box
        have z0 := blk_cell HXB.out (i := 0) rfl
        have z1 := blk_cell HXB.out (i := 1) rfl
        clear hb
        go_wp2_with (at_builtin; refine wpList_append_own_at _ rfl _ _ 53 rfl (r + 1) 39 i0 (.agg #[.int .i64 0, .int .i64 0]) 2 16 Try.underlying53 hi0 hz0 hz1 hz2 rfl (by decide) _ v (ys.map iv) rfl HB4.out ⟨w4.heap.size, 0, none⟩ 1 1 [iv U, iv V] rfl rfl ?c1 ?c2 ?c3 ?c4 ?c5 ?_)
        case c1 => exact HN.out
        case c2 => intro u hu; simp at hu; rcases hu with rfl | rfl <;> rfl
        case c3 => unfold maxLen; omega
        case c4 => omega
        case c5 => simp; omega
        intro v' w8 hown' hgrow _ hat
        have HC8 := Lib.hid (HC4.out.push hown' hgrow)
        have HX8 := Lib.hid (show Blk w8 bx 39 #[.int .i64 U, .int .i64 V] from by
          have hlx := blk_lt HXB.out
          refine (hgrow.block bx (by simp; omega) (fun e => ?_)).trans ((Below.heap_alloc _ _ _ hlx).trans HXB.out)
          exact HFAR.out e.symm)
        clear HB4 HN hown' hgrow hat HC4 z0 z1 HXB hbl
        have q0 := blk_cell HX8.out (i := 0) rfl
        have q1 := blk_cell HX8.out (i := 1) rfl
        have q2 := blk_cell HC8.out.box (i := 0) rfl
        have q3 := blk_cell HC8.out.box (i := 1) rfl
        go_wp2_with fail
        refine (HPL.out _).mono ?_
        rintro e w9 ⟨rfl, hb⟩
        have HC9 := Lib.hid (HC8.out.next hb)
        clear hb HPL HC8 HX8 q0 q1 q2 q3
        have q2 := blk_cell HC9.out.box (i := 0) rfl
        have q3 := blk_cell HC9.out.box (i := 1) rfl
        have f2 := blk_frozen HC9.out.box 0
        have f3 := blk_frozen HC9.out.box 1
        have HC10 := Lib.hid (HC9.out.set NU ND)
        clear HC9
        go_wp2
        go_roundw
        case rel => exact ⟨v + 1, by omega, by go_num, Lib.hid (by rw [HXE.out, HNE.out.1, HNE.out.2]; exact HC10.out)⟩
        case measure => simp [intOf]; omega
      · obtain rfl : v = n := by omega
        rw [← HTE.out] at HC
        obtain ⟨bg, cg, hvv, hcl⟩ := HC.out.cells (by omega)
        injection hvv with e1 e2 e3
        subst e1
        subst e3
        have HCL := Lib.hid hcl
        have HBX := Lib.hid HC.out.box
        have HBW := Lib.hid HC.out.up
        have HU0 := Lib.hid (show FU wr (.slice (some ⟨wr.heap.size, 0, none⟩) 0 0) 0 (pcL g false 0) (wr.alloc (.cells #[] 39)) from by rw [HPZ.out]; exact FU.start wr)
        clear hcl HC HPZ HSB HSS HST HXS HDG HTE
        go_wp2
        generalize hW1 : wr = W1 at *
        clear hW1
        go_loopw [9, 10] (fun x i wr => ∃ k : Nat, k ≤ v ∧ i = .int .i64 k ∧ Hid (FU W1 x k (pcL g false k) wr)) (fun _ i _ => v - (intOf i).toNat)
        case atStart => exact ⟨0, Nat.zero_le _, rfl, HU0⟩
        case round =>
          clear HU0
          obtain ⟨k, hkv, rfl, HU⟩ := hrel
          obtain ⟨Au, cu, rfl⟩ := HU.out.form
          by_cases hkl : k < v
          · obtain ⟨d1, d2⟩ := HDB.out k hkl
            have hd4 : dg g k = 1 ∨ dg g k = 2 ∨ dg g k = 3 ∨ dg g k = 4 := by omega
            have HEE := Lib.hid (HEN.out k hd4)
            obtain ⟨⟨x1, x2⟩, x3, x4⟩ := HXQ.out k ⟨d1, d2⟩
            have hcb := HCB.out
            obtain ⟨t1, t2⟩ := HTB.out
            have HPE := Lib.hid (HPS.out k)
            have l0 := HCL.out (k * 2) (by omega)
            have l1 := HCL.out (k * 2 + 1) (by omega)
            rw [(gi_xL g false (k := v) (i := k) hkl).1] at l0
            rw [(gi_xL g false (k := v) (i := k) hkl).2] at l1
            have HXU := Lib.hid (frU_bd (u := xP g false k) (d := xQ g false k) (B := 4) (by omega) (by omega))
            have HXD := Lib.hid (frD_bd (u := xP g false k) (d := xQ g false k) (B := 4) (by omega) (by omega))
            have HTU := Lib.hid (frU_le (u := tW g false) (d := cB false) (B := 60) (by omega) (by omega) (by omega))
            have HTP := Lib.hid (fr_pos (u := tW g false) (d := cB false) (by omega) (by omega))
            have HTD := Lib.hid (frD_bd (u := tW g false) (d := cB false) (B := 12) (by omega) (by omega))
            have HFV : Hid (frV (frD (tW g false) (cB false)) (frU (tW g false) (cB false)) = .agg #[.int .i64 (frU (frD (tW g false) (cB false)) (frU (tW g false) (cB false))), .int .i64 (frD (frD (tW g false) (cB false)) (frU (tW g false) (cB false)))]) := Lib.hid rfl
            have HFR := Lib.hid (fun W => HFV.out ▸ fracH_any (frD (tW g false) (cB false)) (frU (tW g false) (cB false)) W (by have := HTD.out; unfold Hug; omega) (by have := HTU.out; unfold Hug; omega) (by have := HTP.out; omega))
            have HGU := Lib.hid (frU_bd (u := frD (tW g false) (cB false)) (d := frU (tW g false) (cB false)) (B := 60) (by have := HTP.out; omega) (by have := HTD.out; omega))
            have HGD := Lib.hid (frD_bd (u := frD (tW g false) (cB false)) (d := frU (tW g false) (cB false)) (B := 60) (by have := HTP.out; omega) (by have := HTU.out; omega))
            have HTI := Lib.hid (fun W => timesH_any (frU (xP g false k) (xQ g false k)) (frD (xP g false k) (xQ g false k)) (frU (frD (tW g false) (cB false)) (frU (tW g false) (cB false))) (frD (frD (tW g false) (cB false)) (frU (tW g false) (cB false))) W (by have := HXU.out; omega) (by have := HGU.out; omega) (by have := HXD.out; omega) (by have := HGD.out; omega))
            rw [frV, HEE.out.1, HEE.out.2] at HTI
            have HS0 := Lib.hid (show (wr.cell? ⟨bg, k * 2, none⟩ = some (.int .i64 (frU (xP g false k) (xQ g false k))) ∧ wr.cell? ⟨bg, k * 2 + 1, none⟩ = some (.int .i64 (frD (xP g false k) (xQ g false k)))) ∧ wr.cell? ⟨r, 0, none⟩ = some (.int .i64 (frU (tW g false) (cB false))) ∧ wr.cell? ⟨r, 1, none⟩ = some (.int .i64 (frD (tW g false) (cB false))) from
              ⟨⟨Keep.below HU.out.up _ _ l0, Keep.below HU.out.up _ _ l1⟩, Keep.below HU.out.up _ _ (blk_cell HBX.out (i := 0) rfl), Keep.below HU.out.up _ _ (blk_cell HBX.out (i := 1) rfl)⟩)
            have HSW := Lib.hid (fun W (q : Below W1.heap.size W1 W) => show (W.cell? ⟨bg, k * 2, none⟩ = some (.int .i64 (frU (xP g false k) (xQ g false k))) ∧ W.cell? ⟨bg, k * 2 + 1, none⟩ = some (.int .i64 (frD (xP g false k) (xQ g false k)))) ∧ W.cell? ⟨r, 0, none⟩ = some (.int .i64 (frU (tW g false) (cB false))) ∧ W.cell? ⟨r, 1, none⟩ = some (.int .i64 (frD (tW g false) (cB false))) from
              ⟨⟨Keep.below q _ _ l0, Keep.below q _ _ l1⟩, Keep.below q _ _ (blk_cell HBX.out (i := 0) rfl), Keep.below q _ _ (blk_cell HBX.out (i := 1) rfl)⟩)
            clear HEE HFV HXU HXD HTU HTP HTD HGU HGD x1 x2 x3 x4 l0 l1 hd4 hcb t1 t2
            generalize frU (frD (tW g false) (cB false)) (frU (tW g false) (cB false)) = GU at *
            generalize frD (frD (tW g false) (cB false)) (frU (tW g false) (cB false)) = GD at *
            generalize frU (xP g false k) (xQ g false k) = XU at *
            generalize frD (xP g false k) (xQ g false k) = XD at *
            generalize frU (tW g false) (cB false) = TU at *
            generalize frD (tW g false) (cB false) = TD at *
            generalize hU : frU (wI g false k) (tW g false) = U at *
            generalize hV : frD (wI g false k) (tW g false) = V at *
            have HUV := Lib.hid (And.intro hU hV)
            clear hU hV
            generalize hys : pcL g false k = ys at *
            clear hys
            have hwz := HU.out.up.size
            have SX := HS0
            go_wp2
            apply region_put [54, 55, 56, 57, 58, 59, 60, 61, 62, 63, 64, 65, 66, 9] (fun us v => ∃ (u54 u55 u56 u57 u58 u59 u60 u61 u62 u63 u64 u65 u66 : Value) (A : Option Addr) (cp : Nat), us = [u54, u55, u56, u57, u58, u59, u60, u61, u62, u63, u64, u65, u66, .slice A (k + 1) cp] ∧ Hid (FU W1 (.slice A (k + 1) cp) (k + 1) (ys ++ [U, V]) v))
            · go_region_held3 (fun W => (W.cell? ⟨bg, k * 2, none⟩ = some (.int .i64 XU) ∧ W.cell? ⟨bg, k * 2 + 1, none⟩ = some (.int .i64 XD)) ∧ W.cell? ⟨r, 0, none⟩ = some (.int .i64 TU) ∧ W.cell? ⟨r, 1, none⟩ = some (.int .i64 TD))
                (first | exact SX.out | exact HSW.out _ (DX.out.up) | exact HSW.out _ (below_up DX.out.up (below_alloc _ _)) | go_keep)
                (first
                | (go_at_call 77; (with_reducible refine (HFR.out _).mono ?_); rintro e v1 ⟨rfl, hb⟩; have DX := Lib.hid (show FU W1 (.slice Au k cu) k ys v1 from (HU.out.next (Quiet.below ⟨1, rfl⟩)).next hb); have SX := Lib.hid (HSW.out _ DX.out.up); clear hb)
                | (go_at_call 96; (with_reducible refine (HTI.out _).mono ?_); rintro e v2 ⟨rfl, hb⟩; have DX := Lib.hid (show FU W1 (.slice Au k cu) k ys v2 from DX.out.next hb); have SX := Lib.hid (HSW.out _ DX.out.up); clear hb)
                | (refine step_append_lies _ (by rfl) _ _ _ (by rfl) W1.heap.size 39 i0 _ 2 16 Try.underlying53 hi0 hz0 hz1 hz2 rfl (by omega) (.slice Au k cu) k (ys.map iv) (by rfl) (DX.out.own.alloc _) ⟨v2.heap.size, 0, none⟩ 1 1 [iv U, iv V] (by rfl) (by rfl) (cells_two_new v2 U V) (by simp [Value.oneCell', iv]) (by omega) (by unfold maxLen; omega) (by omega) (by have := DX.out.up.size; simp; omega) (v2.heap.size + 1) (by simp) ?_; intro gg cap w1a hown1 hgrow hat hlt1; have HU2 := Lib.hid (show FU W1 (.slice (some ⟨gg, 0, none⟩) (k + 1) cap) (k + 1) (ys ++ [U, V]) w1a from DX.out.push hown1 hgrow (hat.elim (fun h => .inl h.symm) (fun h => .inr (congrArg some h)))); have SX := Lib.hid (HSW.out _ HU2.out.up); clear hown1 hgrow hat hlt1 DX)
                | fail)
              all_goals first
                | exact PutQ.mk _ (by simp only [frmL, Act.put, List.setIfInBounds_toArray, List.set_cons_zero, List.set_cons_succ]; rfl) ⟨_, _, _, _, _, _, _, _, _, _, _, _, _, _, _, rfl, HU2⟩
                | fail
            · rintro _ v9 ⟨x54, x55, x56, x57, x58, x59, x60, x61, x62, x63, x64, x65, x66, Aq, cq, rfl, HU2⟩
              simp only [frmL, Act.put, List.setIfInBounds_toArray, List.set_cons_zero, List.set_cons_succ]
              clear SX HSW HU HFR HTI HS0
              go_wp2
              go_roundw
              case rel => exact ⟨k + 1, by omega, by go_num, Lib.hid (by rw [HPE.out]; exact HU2.out)⟩
              case measure => simp [intOf]; omega
          · obtain rfl : k = v := by omega
            have HNW := Lib.hid (show NewF w (pcF g s) (.returned (.slice Au k cu)) wr from by
              rw [HPC.out, HL.out]
              exact NewF.from HBW.out (HU.out.new (by omega)))
            go_wp2
            go_ret
            exact HNW.out
  · go_wp2_with fail
    refine (HF0.out _).mono ?_
    rintro e w2 ⟨rfl, hb⟩
    have HB2 := Lib.hid (below_up HB1.out hb)
    clear hb HF0 HB1
    have HC0 := Lib.hid (show CU w w2.heap.size (.slice (some ⟨w2.heap.size + 1, 0, none⟩) 0 0) 0 (xL g true 0) (frU (sU (wI g true) 0) (cB true)) (frD (sU (wI g true) 0) (cB true)) ((w2.alloc (.cells #[.int .i64 0, .int .i64 1] 39)).alloc (.cells #[] 39)) from by
      rw [HXZ.out, HS0.out, HFZ.out.1, HFZ.out.2]
      refine ⟨?_, below_up (below_up HB2.out (below_alloc _ _)) (below_alloc _ _), blk_old (blk_new _ _ _) _, HB2.out.size⟩
      have q := World.ownsRow_made (e := 39) (size := 2) (w2.alloc (.cells #[.int .i64 0, .int .i64 1] 39)) (base := w2.heap.size + 1) #[] 0 (by simp) (Nat.zero_le _) rfl
      rw [World.size_alloc] at q
      exact q)
    clear HXZ HS0 HFZ HB2
    go_wp2
    generalize hWA : (w2.alloc (.cells #[.int .i64 0, .int .i64 1] 39)).alloc (.cells #[] 39) = WA at *
    clear hWA
    generalize w2.heap.size = r at *
    go_loopw [6, 7] (fun x i wr => ∃ v : Nat, v ≤ n ∧ i = .int .i64 v ∧ Hid (CU w r x v (xL g true v) (frU (sU (wI g true) v) (cB true)) (frD (sU (wI g true) v) (cB true)) wr)) (fun _ i _ => n - (intOf i).toNat)
    case atStart => exact ⟨0, Nat.zero_le _, rfl, HC0⟩
    case round =>
      clear HC0
      obtain ⟨v, hv, rfl, HC⟩ := hrel
      obtain ⟨Av, cv, rfl⟩ := HC.out.form
      by_cases hlt : v < n
      · obtain ⟨d1, d2⟩ := HDB.out v hlt
        have hd4 : dg g v = 1 ∨ dg g v = 2 ∨ dg g v = 3 ∨ dg g v = 4 := by omega
        have HS1 := Lib.hid (HST.out v (sU (wI g true) v) hd4)
        obtain ⟨s1, s2⟩ := HSB.out v hv
        obtain ⟨⟨x1, x2⟩, x3, x4⟩ := HXQ.out v ⟨d1, d2⟩
        have hcb := HCB.out
        have HDG1 := Lib.hid (HDG.out v hlt wr (HX.out.keep (Keep.below HC.out.up)))
        have HXU := Lib.hid (frU_bd (u := xP g true v) (d := xQ g true v) (B := 4) (by omega) (by omega))
        have HXD := Lib.hid (frD_bd (u := xP g true v) (d := xQ g true v) (B := 4) (by omega) (by omega))
        have HOU := Lib.hid (frU_bd (u := sU (wI g true) v) (d := cB true) (B := 60) (by omega) (by omega))
        have HOD := Lib.hid (frD_bd (u := sU (wI g true) v) (d := cB true) (B := 12) (by omega) (by omega))
        have HSE := Lib.hid (HSS.out v)
        rw [← HSE.out] at HS1
        have HXE := Lib.hid (HXS.out v)
        have HPL := Lib.hid (fun W => plusH_any (frU (sU (wI g true) v) (cB true)) (frD (sU (wI g true) v) (cB true)) (frU (xP g true v) (xQ g true v)) (frD (xP g true v) (xQ g true v)) W (by have := HOU.out; omega) (by have := HXU.out; omega) (by have := HOD.out; omega) (by have := HXD.out; omega))
        rw [frV, HS1.out.1, HS1.out.2] at HPL
        have HD1V : Hid (frV (dg g v : Int) 1 = .agg #[.int .i64 (frU (dg g v : Int) 1), .int .i64 (frD (dg g v : Int) 1)]) := Lib.hid rfl
        have HFD := Lib.hid (fun W => HD1V.out ▸ fracH_any (dg g v : Int) 1 W (by unfold Hug; omega) (by unfold Hug; omega) (by omega))
        have HXX : Hid (xP g true v = 1 ∧ xQ g true v = (dg g v : Int)) := Lib.hid ⟨rfl, rfl⟩
        have HDG2 := Lib.hid (HDG.out v hlt)
        have HQ1V : Hid (frV 1 (dg g v : Int) = .agg #[.int .i64 (frU 1 (dg g v : Int)), .int .i64 (frD 1 (dg g v : Int))]) := Lib.hid rfl
        have HFQ := Lib.hid (fun W => HQ1V.out ▸ fracH_any 1 (dg g v : Int) W (by unfold Hug; omega) (by unfold Hug; omega) (by omega))
        clear HQ1V
        clear HS1 HD1V HXU HXD HOU HOD HSE s1 s2 x1 x2 x3 x4 hd4
        rw [HXX.out.1, HXX.out.2] at HPL HXE
        generalize hdd : dg g v = dd at *
        clear hdd
        generalize hNU : frU (sU (wI g true) (v + 1)) (cB true) = NU at *
        generalize hND : frD (sU (wI g true) (v + 1)) (cB true) = ND at *
        have HNE := Lib.hid (And.intro hNU hND)
        clear hNU hND HXX
        generalize frU (sU (wI g true) v) (cB true) = OU at *
        generalize frD (sU (wI g true) v) (cB true) = OD at *
        generalize frU (1 : Int) (dd : Int) = U at *
        generalize frD (1 : Int) (dd : Int) = V at *
        generalize frU (dd : Int) 1 = U0 at *
        generalize frD (dd : Int) 1 = V0 at *
        generalize hys : xL g true v = ys at *
        clear hys
        go_wp2_with fail
        refine HDG1.out.mono ?_
        rintro e w' ⟨rfl, rfl⟩
        clear HDG1
        go_wp2_with fail
        refine (HFD.out _).mono ?_
        rintro e w3 ⟨rfl, hb⟩
        have HC3 := Lib.hid (HC.out.next hb)
        clear hb HC HFD
        have HCA := Lib.hid (HC3.out.next (below_alloc w3 (.cells #[.int .i64 U0, .int .i64 V0] 39)))
        have HXA := Lib.hid (blk_new w3 39 #[.int .i64 U0, .int .i64 V0])
        have HFA := Lib.hid (show (Value.slice Av v cv).ownBlock ≠ some w3.heap.size from fun e => by have := (HC3.out.own.lt _ e).2; omega)
        have HRB := Lib.hid (show r < w3.heap.size from blk_lt HC3.out.box)
        clear HC3
        go_wp2_with fail
        generalize w3.alloc (.cells #[.int .i64 U0, .int .i64 V0] 39) = w3a at *
        generalize w3.heap.size = bx at *
        have HC1 := Lib.hid (HDG2.out w3a (HX.out.keep (Keep.below HCA.out.up)))
        refine HC1.out.mono ?_
        rintro e w' ⟨rfl, rfl⟩
        clear HC1 HDG2
        go_wp2_with fail
        refine (HFQ.out _).mono ?_
        rintro e w5 ⟨rfl, hb⟩
        have HC5 := Lib.hid (HCA.out.next hb)
        have HX5 := Lib.hid (blk_below HXA.out hb)
        clear hb HCA HXA HFQ
        have HBL := Lib.hid (show r < bx from HRB.out)
        have p0 := blk_cell HX5.out (i := 0) rfl
        have p1 := blk_cell HX5.out (i := 1) rfl
        have p2 := blk_frozen HX5.out 0
        have p3 := blk_frozen HX5.out 1
        have HXB := Lib.hid (blk_set (blk_set HX5.out 0 (.int .i64 U)) 1 (.int .i64 V))
        have HC4 := Lib.hid (HC5.out.setFar HBL.out HFA.out U V)
        have HFAR := HFA
        clear HC5 HX5 HBL
        generalize hw4 : (w5.setCell ⟨bx, 0, none⟩ (.int .i64 U)).setCell ⟨bx, 1, none⟩ (.int .i64 V) = w4 at HXB HC4
        have hb := below_alloc w4 (.cells #[iv U, iv V] 39)
        have HB4 := Lib.hid (HC4.out.next hb).own
        have HN := Lib.hid (cells_two_new w4 U V)
        have hwz := HC4.out.up.size
        have hwl := HC4.out.lo
        have hbl := blk_lt HC4.out.box
        have z0 := blk_cell HXB.out (i := 0) rfl
        have z1 := blk_cell HXB.out (i := 1) rfl
        clear hb
        go_wp2_with (at_builtin; refine wpList_append_own_at _ rfl _ _ 53 rfl (r + 1) 39 i0 (.agg #[.int .i64 0, .int .i64 0]) 2 16 Try.underlying53 hi0 hz0 hz1 hz2 rfl (by decide) _ v (ys.map iv) rfl HB4.out ⟨w4.heap.size, 0, none⟩ 1 1 [iv U, iv V] rfl rfl ?c1 ?c2 ?c3 ?c4 ?c5 ?_)
        case c1 => exact HN.out
        case c2 => intro u hu; simp at hu; rcases hu with rfl | rfl <;> rfl
        case c3 => unfold maxLen; omega
        case c4 => omega
        case c5 => simp; omega
        intro v' w8 hown' hgrow _ hat
        have HC8 := Lib.hid (HC4.out.push hown' hgrow)
        have HX8 := Lib.hid (show Blk w8 bx 39 #[.int .i64 U, .int .i64 V] from by
          have hlx := blk_lt HXB.out
          refine (hgrow.block bx (by simp; omega) (fun e => ?_)).trans ((Below.heap_alloc _ _ _ hlx).trans HXB.out)
          exact HFAR.out e.symm)
        clear HB4 HN hown' hgrow hat HC4 z0 z1 HXB hbl
        have q0 := blk_cell HX8.out (i := 0) rfl
        have q1 := blk_cell HX8.out (i := 1) rfl
        have q2 := blk_cell HC8.out.box (i := 0) rfl
        have q3 := blk_cell HC8.out.box (i := 1) rfl
        go_wp2_with fail
        refine (HPL.out _).mono ?_
        rintro e w9 ⟨rfl, hb⟩
        have HC9 := Lib.hid (HC8.out.next hb)
        clear hb HPL HC8 HX8 q0 q1 q2 q3
        have q2 := blk_cell HC9.out.box (i := 0) rfl
        have q3 := blk_cell HC9.out.box (i := 1) rfl
        have f2 := blk_frozen HC9.out.box 0
        have f3 := blk_frozen HC9.out.box 1
        have HC10 := Lib.hid (HC9.out.set NU ND)
        clear HC9
        go_wp2
        go_roundw
        case rel => exact ⟨v + 1, by omega, by go_num, Lib.hid (by rw [HXE.out, HNE.out.1, HNE.out.2]; exact HC10.out)⟩
        case measure => simp [intOf]; omega
      · obtain rfl : v = n := by omega
        rw [← HTE.out] at HC
        obtain ⟨bg, cg, hvv, hcl⟩ := HC.out.cells (by omega)
        injection hvv with e1 e2 e3
        subst e1
        subst e3
        have HCL := Lib.hid hcl
        have HBX := Lib.hid HC.out.box
        have HBW := Lib.hid HC.out.up
        have HU0 := Lib.hid (show FU wr (.slice (some ⟨wr.heap.size, 0, none⟩) 0 0) 0 (pcL g true 0) (wr.alloc (.cells #[] 39)) from by rw [HPZ.out]; exact FU.start wr)
        clear hcl HC HPZ HSB HSS HST HXS HDG HTE
        go_wp2
        generalize hW1 : wr = W1 at *
        clear hW1
        go_loopw [9, 10] (fun x i wr => ∃ k : Nat, k ≤ v ∧ i = .int .i64 k ∧ Hid (FU W1 x k (pcL g true k) wr)) (fun _ i _ => v - (intOf i).toNat)
        case atStart => exact ⟨0, Nat.zero_le _, rfl, HU0⟩
        case round =>
          clear HU0
          obtain ⟨k, hkv, rfl, HU⟩ := hrel
          obtain ⟨Au, cu, rfl⟩ := HU.out.form
          by_cases hkl : k < v
          · obtain ⟨d1, d2⟩ := HDB.out k hkl
            have hd4 : dg g k = 1 ∨ dg g k = 2 ∨ dg g k = 3 ∨ dg g k = 4 := by omega
            have HEE := Lib.hid (HEN.out k hd4)
            obtain ⟨⟨x1, x2⟩, x3, x4⟩ := HXQ.out k ⟨d1, d2⟩
            have hcb := HCB.out
            obtain ⟨t1, t2⟩ := HTB.out
            have HPE := Lib.hid (HPS.out k)
            have l0 := HCL.out (k * 2) (by omega)
            have l1 := HCL.out (k * 2 + 1) (by omega)
            rw [(gi_xL g true (k := v) (i := k) hkl).1] at l0
            rw [(gi_xL g true (k := v) (i := k) hkl).2] at l1
            have HXU := Lib.hid (frU_bd (u := xP g true k) (d := xQ g true k) (B := 4) (by omega) (by omega))
            have HXD := Lib.hid (frD_bd (u := xP g true k) (d := xQ g true k) (B := 4) (by omega) (by omega))
            have HTU := Lib.hid (frU_le (u := tW g true) (d := cB true) (B := 60) (by omega) (by omega) (by omega))
            have HTP := Lib.hid (fr_pos (u := tW g true) (d := cB true) (by omega) (by omega))
            have HTD := Lib.hid (frD_bd (u := tW g true) (d := cB true) (B := 12) (by omega) (by omega))
            have HFV : Hid (frV (frD (tW g true) (cB true)) (frU (tW g true) (cB true)) = .agg #[.int .i64 (frU (frD (tW g true) (cB true)) (frU (tW g true) (cB true))), .int .i64 (frD (frD (tW g true) (cB true)) (frU (tW g true) (cB true)))]) := Lib.hid rfl
            have HFR := Lib.hid (fun W => HFV.out ▸ fracH_any (frD (tW g true) (cB true)) (frU (tW g true) (cB true)) W (by have := HTD.out; unfold Hug; omega) (by have := HTU.out; unfold Hug; omega) (by have := HTP.out; omega))
            have HGU := Lib.hid (frU_bd (u := frD (tW g true) (cB true)) (d := frU (tW g true) (cB true)) (B := 60) (by have := HTP.out; omega) (by have := HTD.out; omega))
            have HGD := Lib.hid (frD_bd (u := frD (tW g true) (cB true)) (d := frU (tW g true) (cB true)) (B := 60) (by have := HTP.out; omega) (by have := HTU.out; omega))
            have HTI := Lib.hid (fun W => timesH_any (frU (xP g true k) (xQ g true k)) (frD (xP g true k) (xQ g true k)) (frU (frD (tW g true) (cB true)) (frU (tW g true) (cB true))) (frD (frD (tW g true) (cB true)) (frU (tW g true) (cB true))) W (by have := HXU.out; omega) (by have := HGU.out; omega) (by have := HXD.out; omega) (by have := HGD.out; omega))
            rw [frV, HEE.out.1, HEE.out.2] at HTI
            have HS0 := Lib.hid (show (wr.cell? ⟨bg, k * 2, none⟩ = some (.int .i64 (frU (xP g true k) (xQ g true k))) ∧ wr.cell? ⟨bg, k * 2 + 1, none⟩ = some (.int .i64 (frD (xP g true k) (xQ g true k)))) ∧ wr.cell? ⟨r, 0, none⟩ = some (.int .i64 (frU (tW g true) (cB true))) ∧ wr.cell? ⟨r, 1, none⟩ = some (.int .i64 (frD (tW g true) (cB true))) from
              ⟨⟨Keep.below HU.out.up _ _ l0, Keep.below HU.out.up _ _ l1⟩, Keep.below HU.out.up _ _ (blk_cell HBX.out (i := 0) rfl), Keep.below HU.out.up _ _ (blk_cell HBX.out (i := 1) rfl)⟩)
            have HSW := Lib.hid (fun W (q : Below W1.heap.size W1 W) => show (W.cell? ⟨bg, k * 2, none⟩ = some (.int .i64 (frU (xP g true k) (xQ g true k))) ∧ W.cell? ⟨bg, k * 2 + 1, none⟩ = some (.int .i64 (frD (xP g true k) (xQ g true k)))) ∧ W.cell? ⟨r, 0, none⟩ = some (.int .i64 (frU (tW g true) (cB true))) ∧ W.cell? ⟨r, 1, none⟩ = some (.int .i64 (frD (tW g true) (cB true))) from
              ⟨⟨Keep.below q _ _ l0, Keep.below q _ _ l1⟩, Keep.below q _ _ (blk_cell HBX.out (i := 0) rfl), Keep.below q _ _ (blk_cell HBX.out (i := 1) rfl)⟩)
            clear HEE HFV HXU HXD HTU HTP HTD HGU HGD x1 x2 x3 x4 l0 l1 hd4 hcb t1 t2
            generalize frU (frD (tW g true) (cB true)) (frU (tW g true) (cB true)) = GU at *
            generalize frD (frD (tW g true) (cB true)) (frU (tW g true) (cB true)) = GD at *
            generalize frU (xP g true k) (xQ g true k) = XU at *
            generalize frD (xP g true k) (xQ g true k) = XD at *
            generalize frU (tW g true) (cB true) = TU at *
            generalize frD (tW g true) (cB true) = TD at *
            generalize hU : frU (wI g true k) (tW g true) = U at *
            generalize hV : frD (wI g true k) (tW g true) = V at *
            have HUV := Lib.hid (And.intro hU hV)
            clear hU hV
            generalize hys : pcL g true k = ys at *
            clear hys
            have hwz := HU.out.up.size
            have SX := HS0
            go_wp2
            apply region_put [54, 55, 56, 57, 58, 59, 60, 61, 62, 63, 64, 65, 66, 9] (fun us v => ∃ (u54 u55 u56 u57 u58 u59 u60 u61 u62 u63 u64 u65 u66 : Value) (A : Option Addr) (cp : Nat), us = [u54, u55, u56, u57, u58, u59, u60, u61, u62, u63, u64, u65, u66, .slice A (k + 1) cp] ∧ Hid (FU W1 (.slice A (k + 1) cp) (k + 1) (ys ++ [U, V]) v))
            · go_region_held3 (fun W => (W.cell? ⟨bg, k * 2, none⟩ = some (.int .i64 XU) ∧ W.cell? ⟨bg, k * 2 + 1, none⟩ = some (.int .i64 XD)) ∧ W.cell? ⟨r, 0, none⟩ = some (.int .i64 TU) ∧ W.cell? ⟨r, 1, none⟩ = some (.int .i64 TD))
                (first | exact SX.out | exact HSW.out _ (DX.out.up) | exact HSW.out _ (below_up DX.out.up (below_alloc _ _)) | go_keep)
                (first
                | (go_at_call 77; (with_reducible refine (HFR.out _).mono ?_); rintro e v1 ⟨rfl, hb⟩; have DX := Lib.hid (show FU W1 (.slice Au k cu) k ys v1 from (HU.out.next (Quiet.below ⟨1, rfl⟩)).next hb); have SX := Lib.hid (HSW.out _ DX.out.up); clear hb)
                | (go_at_call 96; (with_reducible refine (HTI.out _).mono ?_); rintro e v2 ⟨rfl, hb⟩; have DX := Lib.hid (show FU W1 (.slice Au k cu) k ys v2 from DX.out.next hb); have SX := Lib.hid (HSW.out _ DX.out.up); clear hb)
                | (refine step_append_lies _ (by rfl) _ _ _ (by rfl) W1.heap.size 39 i0 _ 2 16 Try.underlying53 hi0 hz0 hz1 hz2 rfl (by omega) (.slice Au k cu) k (ys.map iv) (by rfl) (DX.out.own.alloc _) ⟨v2.heap.size, 0, none⟩ 1 1 [iv U, iv V] (by rfl) (by rfl) (cells_two_new v2 U V) (by simp [Value.oneCell', iv]) (by omega) (by unfold maxLen; omega) (by omega) (by have := DX.out.up.size; simp; omega) (v2.heap.size + 1) (by simp) ?_; intro gg cap w1a hown1 hgrow hat hlt1; have HU2 := Lib.hid (show FU W1 (.slice (some ⟨gg, 0, none⟩) (k + 1) cap) (k + 1) (ys ++ [U, V]) w1a from DX.out.push hown1 hgrow (hat.elim (fun h => .inl h.symm) (fun h => .inr (congrArg some h)))); have SX := Lib.hid (HSW.out _ HU2.out.up); clear hown1 hgrow hat hlt1 DX)
                | fail)
              all_goals first
                | exact PutQ.mk _ (by simp only [frmL, Act.put, List.setIfInBounds_toArray, List.set_cons_zero, List.set_cons_succ]; rfl) ⟨_, _, _, _, _, _, _, _, _, _, _, _, _, _, _, rfl, HU2⟩
                | fail
            · rintro _ v9 ⟨x54, x55, x56, x57, x58, x59, x60, x61, x62, x63, x64, x65, x66, Aq, cq, rfl, HU2⟩
              simp only [frmL, Act.put, List.setIfInBounds_toArray, List.set_cons_zero, List.set_cons_succ]
              clear SX HSW HU HFR HTI HS0
              go_wp2
              go_roundw
              case rel => exact ⟨k + 1, by omega, by go_num, Lib.hid (by rw [HPE.out]; exact HU2.out)⟩
              case measure => simp [intOf]; omega
          · obtain rfl : k = v := by omega
            have HNW := Lib.hid (show NewF w (pcF g s) (.returned (.slice Au k cu)) wr from by
              rw [HPC.out, HL.out]
              exact NewF.from HBW.out (HU.out.new (by omega)))
            go_wp2
            go_ret
            exact HNW.out
theorem PlaceChances_spec (A : Option Addr) (n c : Nat) (g : List Int) (s : ByteArray) (w : World) (hx : Ints w A n c g) :
    Calls Try.prog 38 #[.slice A n c, .string s] w (NewF w (pcF g s)) := by
  by_cases hg : GR g
  · rcases kind_cases s with hk | hk | hk
    · exact placeChancesS_yes A n c g s true w hx hg hk
    · exact placeChancesS_yes A n c g s false w hx hg hk
    · have HV := Lib.hid (pb_true hg ▸ validGraph_any A n c g w hx)
      have HN := Lib.hid (pcF_none (g := g) hk)
      obtain ⟨hk1, hk2⟩ := hk
      clear hx hg
      go_enter Try.func38, Try.ntmps38
      go_wp2_with fail
      refine HV.out.mono ?_
      rintro e w1 ⟨rfl, hq⟩
      have HB := Lib.hid (show Below w.heap.size w w1 from hq.below)
      clear hq HV
      go_wp2
      go_ret
      exact NewF.empty HB.out HN.out
  · have HV := Lib.hid (pb_false hg ▸ validGraph_any A n c g w hx)
    have HN := Lib.hid (pcF_no (s := s) hg)
    clear hx hg
    go_enter Try.func38, Try.ntmps38
    go_wp2_with fail
    refine HV.out.mono ?_
    rintro e w1 ⟨rfl, hq⟩
    have HB := Lib.hid (show Below w.heap.size w w1 from hq.below)
    clear hq HV
    go_wp2
    go_ret
    exact NewF.empty HB.out HN.out

end Go.Proofs.Ytolnbkplgnpfjaa

/- Sums and products of chances: plain. -/
namespace Go.Proofs.Ytolnbkplgnpfjaa

theorem ch_add {S w T : Int} (hT : 0 < T) :
    frU (frU S T * frD w T + frU w T * frD S T) (frD S T * frD w T) = frU (S + w) T ∧ frD (frU S T * frD w T + frU w T * frD S T) (frD S T * frD w T) = frD (S + w) T := by
  have a := fr_add (u := S) (d := T) (v := w) (e := T) hT hT
  have e := fr_eq (u := S * T + w * T) (d := T * T) (v := S + w) (e := T) (Int.mul_pos hT hT) hT (by grind)
  exact ⟨a.1.trans e.1, a.2.trans e.2⟩
theorem ch_one {T : Int} (hT : 0 < T) : frU T T = 1 ∧ frD T T = 1 := by
  have e := fr_eq (u := T) (d := T) (v := 1) (e := 1) hT (by omega) (by omega)
  exact ⟨e.1.trans (by decide), e.2.trans (by decide)⟩
theorem wI_12 {g : List Int} (h : GR g) {v : Nat} (hv : v < g.length) : wI g true v * wI g false v = 12 := by
  obtain ⟨h1, h2, _⟩ := h.deg hv
  unfold wI
  generalize dg g v = d at *
  have hd : d = 1 ∨ d = 2 ∨ d = 3 ∨ d = 4 := by omega
  rcases hd with rfl | rfl | rfl | rfl <;> decide
theorem ch_mul {g : List Int} (h : GR g) {v : Nat} (hv : v < g.length) :
    frU (frU (wI g true v) (tW g true) * frU (wI g false v) (tW g false)) (frD (wI g true v) (tW g true) * frD (wI g false v) (tW g false)) = frU 12 (tW g true * tW g false) ∧
    frD (frU (wI g true v) (tW g true) * frU (wI g false v) (tW g false)) (frD (wI g true v) (tW g true) * frD (wI g false v) (tW g false)) = frD 12 (tW g true * tW g false) := by
  have h1 := tW_bd h true
  have h2 := tW_bd h false
  have a := fr_tim (u := wI g true v) (d := tW g true) (v := wI g false v) (e := tW g false) (by omega) (by omega)
  rw [wI_12 h hv] at a
  exact a

end Go.Proofs.Ytolnbkplgnpfjaa

/- Lists of fractions compared. -/
namespace Go.Proofs.Ytolnbkplgnpfjaa
open Go.RowKit

set_option maxRecDepth 100000 in
set_option maxHeartbeats 1600000 in
theorem equalFracs_any (A B : Option Addr) (n c d : Nat) (L : List Int) (w : World) (hx : Frs w A n c L) (hy : Frs w B n d L) :
    Calls Try.prog 37 #[.slice A n c, .slice B n d] w (Ret (.bool true) w) := by
  have HX := Lib.hid hx
  have HY := Lib.hid hy
  have mx := hx.max
  have hne : ((n : Int) != (n : Int)) = false := by simp
  clear hx hy
  go_enter Try.func37, Try.ntmps37
  go_wp2
  go_loopw [5] (fun i wr => ∃ k : Nat, k ≤ n ∧ i = .int .i64 k ∧ Hid (Below w.heap.size w wr)) (fun i _ => n - (intOf i).toNat)
  case atStart => exact ⟨0, Nat.zero_le _, rfl, Lib.hid (Below.refl _ _)⟩
  case round =>
    obtain ⟨k, hk, rfl, HB⟩ := hrel
    by_cases hlt : k < n
    · obtain ⟨b, o, rfl, hc⟩ := HX.out.at_ (by omega)
      obtain ⟨b2, o2, rfl, hc2⟩ := HY.out.at_ (by omega)
      have q1 := Keep.below HB.out _ _ (hc (k * 2) (by omega))
      have q2 := Keep.below HB.out _ _ (hc (k * 2 + 1) (by omega))
      have q3 := Keep.below HB.out _ _ (hc2 (k * 2) (by omega))
      have q4 := Keep.below HB.out _ _ (hc2 (k * 2 + 1) (by omega))
      rw [← Nat.add_assoc] at q2 q4
      clear hc hc2
      generalize gi L (k * 2) = U at *
      generalize gi L (k * 2 + 1) = D at *
      have hu : (U != U) = false := by simp
      have hd : (D != D) = false := by simp
      go_wp2
      go_quiet (fail)
      all_goals
        clear q1 q2 q3 q4
        go_wp2
        go_roundw
        case rel => exact ⟨k + 1, by omega, by go_num, Lib.hid (by first | exact HB.out | exact HB.out.drew | exact below_drewN HB.out _)⟩
        case measure => simp [intOf]; omega
    · obtain rfl : k = n := by omega
      go_wp2
      go_ret
      exact ⟨rfl, HB.out⟩
end Go.Proofs.Ytolnbkplgnpfjaa

