/- Texts merged: KQ5 KQ6 KQ7 KQ8 KN7 Math87 KN8 KQ9. -/
import Derived.Test.YtjmfkodbilknlaaQ14
import Derived.Deep.Cut
import Derived.Shelf.Abstract
import Derived.Shelf.RegionOpen
import Derived.OwnWalkIn
import Derived.TacticsInMore
import Derived.LoopNIn
import Derived.LoopIn
/- All rows up that go on from a row are handed on. -/
namespace Go.Proofs.Ytjmfkodbilknlaa
open Go.RowKit Go.Shelf
attribute [local go_sem] Oper.semAt_some

theorem grown_low {lo : Nat} {W W' : World} {row : Option Nat} (h : W.grownBy W' row) (hr : ∀ k, row = some k → lo ≤ k) (hl : lo ≤ W.heap.size) : Below lo W W' :=
  ⟨h.os, h.tape, h.output, h.size, fun k hk => h.block k (by omega) (fun e => absurd (hr k e.symm) (by omega))⟩
theorem PerO.lower {f lo lo' W v r} (h : PerO f lo W v r) (hl : lo' ≤ lo) : PerO f lo' W v r :=
  ⟨⟨h.own.1, h.own.2.imp id (fun ⟨g, cap, cur, e, hb, x⟩ => ⟨g, cap, cur, e, Nat.le_trans hl hb, x⟩)⟩⟩
theorem PerO.snoc {f lo W v r p} {x0 x1 : Int} (h0 : x0 = g2 f p 0) (h1 : x1 = g2 f p 1) (h : W.ownsRow lo 65 3 v (r.length + 1) ((pcI f r).map iv ++ [.int .i64 p, .int .i64 x0, .int .i64 x1])) : PerO f lo W v (r ++ [p]) := by
  refine ⟨?_⟩
  rw [List.length_append, List.length_singleton, pcI_app, List.map_append]
  subst h0 h1
  exact h
theorem Pers.kept {Z f W B A n c r} (h : Pers f W A n c r) (k : Kept Z W B) (hz : ∀ a, A = some a → ¬ Z a.block) : Pers f B A n c r :=
  ⟨h.len, h.cap, h.max, fun hn => let ⟨b, o, e, hc⟩ := h.at_ hn; ⟨b, o, e, fun j hj => ⟨k.cell (p := ⟨b, o + j * 3, none⟩) (hz ⟨b, o, none⟩ e) (hc j hj).1, k.cell (p := ⟨b, o + j * 3 + 1, none⟩) (hz ⟨b, o, none⟩ e) (hc j hj).2.1, k.cell (p := ⟨b, o + j * 3 + 2, none⟩) (hz ⟨b, o, none⟩ e) (hc j hj).2.2⟩⟩⟩
theorem PE.kept {Z W B g n f} (h : PE W g n f) (k : Kept Z W B) (hz : ¬ Z g) : PE B g n f := ⟨fun i hi => k.cell hz (h.c0 i hi), fun i hi => k.cell hz (h.c1 i hi), fun i hi => k.cell hz (h.c2 i hi)⟩
/-- A row of people that may be handed on. -/
structure RowM (Z : Nat → Prop) (f : List (List Int)) (W : World) (A : Option Addr) (n c : Nat) (r : List Nat) : Prop where
  pers : Pers f W A n c r
  pos : 0 < n
  out : ∀ a, A = some a → ¬ Z a.block
theorem RowM.kept {Z f W B A n c r} (h : RowM Z f W A n c r) (k : Kept Z W B) : RowM Z f B A n c r := ⟨h.pers.kept k h.out, h.pos, h.out⟩
theorem upR_none {f : List (List Int)} {i : Nat} (h : g2 f i 0 < 0) : ∀ k, upR f k i = [[i]]
  | 0 => rfl
  | k + 1 => by rw [upR, if_pos h]
theorem upR_hd (f : List (List Int)) (i : Nat) : ∀ k, ∃ R, upR f k i = [i] :: R
  | 0 => ⟨_, rfl⟩
  | _ + 1 => ⟨_, rfl⟩
theorem upR_two {f : List (List Int)} {i p q : Nat} (hp : g2 f i 0 = p) (hq : g2 f i 1 = q) (k : Nat) (base : List Nat) (pre : List (List Nat)) :
    pre ++ (upR f (k + 1) i).map (base ++ ·) = pre ++ [base ++ [i]] ++ (upR f k p).map (base ++ [i] ++ ·) ++ (upR f k q).map (base ++ [i] ++ ·) := by
  rw [upR, if_neg (by omega), hp, hq, Int.toNat_natCast, Int.toNat_natCast, List.map_cons, List.map_map, List.map_append]
  simp [Function.comp_def]
/-- The recursive call, on the way. -/
structure RGo (f : List (List Int)) (g n m c p l : Nat) (x0 x1 : Int) (A : Option Addr) (r : List Nat) (Fn : World → Prop) (W0 : World) (L : Array Bool) (u26 u27 u28 u29 u30 u31 u32 u33 u34 : Value)  (W : World) : Prop where
  h0 : On L 0 → u26 = .slice (some ⟨g, 0, none⟩) n n
  h1 : On L 1 → u27 = .slice A m c
  h2 : On L 2 → On L 5 ∨ PerO f W0.heap.size W u28 r
  h3 : On L 3 → u29 = .agg #[.int .i64 p, .int .i64 x0, .int .i64 x1]
  h4 : On L 4 → On L 5 ∨ ∃ G, u30 = .slice (some ⟨G, 0, none⟩) 1 1 ∧ Blk W G 65 #[.int .i64 p, .int .i64 x0, .int .i64 x1]
  h5 : On L 5 → On L 7 ∨ PerO f W0.heap.size W u31 (r ++ [p])
  h6 : On L 6 → u32 = .func (.yield l) #[] #[]
  h7 : On L 7 → u33 = .bool true
  h8 : On L 8 → u34 = .bool false
  bw : On L 7 ∨ Below W0.heap.size W0 W
  a4 : On L 4 → On L 3
  a5 : On L 5 → On L 2 ∧ On L 3 ∧ On L 4
  fin : On L 7 → (On L 2 ∧ On L 3 ∧ On L 4 ∧ On L 5) ∧ Fn W

/-- What goUp says. -/
def UpC (f : List (List Int)) (g n : Nat) (Z : Nat → Prop) (N0 l : Nat) (J : List (List Nat) → World → Prop) (XS : List (List Nat)) (k : Nat) : Prop :=
  ∀ i base pre suf A c W, pre ++ (upR f k i).map (base ++ ·) ++ suf = XS → i ≤ k → i < n → base.length + i ≤ 6 → N0 ≤ W.heap.size → PE W g n f → RowM Z f W A (base.length + 1) c (base ++ [i]) → J pre W →
    Calls Try.prog 87 #[.slice (some ⟨g, 0, none⟩) n n, .slice A (base.length + 1) c, .func (.yield l) #[] #[]] W fun e B => e = .returned (.bool true) ∧ J (pre ++ (upR f k i).map (base ++ ·)) B ∧ Kept Z W B
set_option maxRecDepth 100000 in
set_option maxHeartbeats 8000000 in
theorem goUp_any (f : List (List Int)) (g n : Nat) (v : VPe f) (hn : f.length = n) (Z : Nat → Prop) (N0 l : Nat) (hZ : ∀ k, Z k → k < N0) (hgZ : ¬ Z g) (J : List (List Nat) → World → Prop) (hJ : ∀ s A B, J s A → Below A.heap.size A B → J s B)
    (XS : List (List Nat)) (hY : ∀ m pre A n c r W, J pre W → RowM Z f W A n c r → pre ++ [r] <+: XS → YieldAt Fence.wide m Try.prog l #[.slice A n c] W fun e B => e = .returned (.bool true) ∧ J (pre ++ [r]) B ∧ Kept Z W B) : ∀ k, UpC f g n Z N0 l J XS k := by
  have step : ∀ k, (∀ k', k = k' + 1 → UpC f g n Z N0 l J XS k') → UpC f g n Z N0 l J XS k := by
    intro k IH i base pre suf A c W hxs hik hi hbi hN0 HE HR HJ0
    obtain ⟨RH, hRH⟩ := upR_hd f i k
    have HXS := Lib.hid hxs
    have HJ := Lib.hid hJ
    have HZ := Lib.hid hZ
    obtain ⟨fn, tmps, assign, body, hy, hR⟩ := hY 0 pre A (base.length + 1) c (base ++ [i]) W HJ0 HR ⟨RH.map (base ++ ·) ++ suf, by rw [← hxs, hRH]; simp⟩
    have HRND := Lib.hid hR
    obtain ⟨r, hr⟩ : ∃ r, r = base ++ [i] := ⟨_, rfl⟩
    obtain ⟨m, hm⟩ : ∃ m, m = base.length + 1 := ⟨_, rfl⟩
    have HRQ := Lib.hid hr
    have HMQ := Lib.hid hm
    rw [← hm] at HR hy ⊢
    rw [← hr] at HR HRND
    have HRM := Lib.hid HR
    have HPEX := Lib.hid HE
    have HGZ := Lib.hid hgZ
    have HIK := Lib.hid hik
    have HIN := Lib.hid hi
    have HBI := Lib.hid hbi
    have HN0 := Lib.hid hN0
    have hm1 : 0 < m := by omega
    have hm2 : m ≤ 7 := by omega
    have hpar := v.par (i := i) (by omega)
    have HPAR := Lib.hid hpar
    have HMLEN := Lib.hid HR.pers.len
    have HLAST := Lib.hid (show r.getD (m - 1) 0 = i by rw [hr, hm]; simp [List.getD])
    have HIH := Lib.hid IH
    have HV := Lib.hid v
    have HLN := Lib.hid hn
    clear hJ hZ hY hr hm HR HE hgZ hik hi hbi hN0 HJ0 hR hpar IH v hn hxs hRH
    go_enter Try.func87, Try.ntmps87
    go_upto_region 1 with (fail)
    refine (wpIn_wide (n := 1)).1 ?_
    gi_wp2_with (refine HRND.out.mono ?_; rintro e B1 ⟨rfl, hJ1, hk1⟩)
    have HK1 := Lib.hid hk1
    have HJ1 : Hid (J (pre ++ [base ++ [i]]) B1) := Lib.hid (by rw [← HRQ.out]; exact hJ1)
    have HRM1 := Lib.hid (HRM.out.kept hk1)
    have HPE1 := Lib.hid (HPEX.out.kept hk1 HGZ.out)
    clear hJ1 hk1 HRND hy
    obtain ⟨b, o, hA, hc⟩ := HRM1.out.pers.at_ hm1
    subst hA
    obtain ⟨km, hkm⟩ : ∃ km, km + 1 = m := ⟨m - 1, by omega⟩
    have hkl : km < m := by omega
    have hmc := HRM1.out.pers.cap
    have wr1 : IntKind.i64.wrap ((m : Int) - 1) = (km : Int) := by rw [wrap_in64 (by omega)]; omega
    obtain ⟨c1, c2, c3⟩ := hc km hkl
    have hi1 : r.getD km 0 = i := by have := HLAST.out; rwa [show m - 1 = km by omega] at this
    rw [hi1] at c1 c2 c3
    have HKM := Lib.hid hkm
    clear hc hkm hi1
    have HPV : Hid (peV f i = .agg #[.int .i64 i, .int .i64 (g2 f i 0), .int .i64 (g2 f i 1)]) := Lib.hid rfl
    rcases HPAR.out with ⟨hp, hq⟩ | ⟨hp, hq, _⟩
    · have HPA := Lib.hid (fun W => HPV.out ▸ parentsNone_any (.slice (some ⟨g, 0, none⟩) n n) f i hp W)
      have HEND := Lib.hid (show (upR f k i).map (base ++ ·) = [base ++ [i]] by rw [upR_none (by omega)]; rfl)
      clear HPV HPAR hp hq
      generalize g2 f i 0 = x at *
      generalize g2 f i 1 = y at *
      go_wp2_with fail
      refine (HPA.out _).mono ?_
      rintro e w2 ⟨rfl, hb⟩
      have HF := Lib.hid (show J (pre ++ [base ++ [i]]) w2 ∧ Kept Z W w2 from ⟨HJ.out _ _ _ HJ1.out hb, HK1.out.trans (Kept.up _ hb)⟩)
      clear hb HPA c1 c2 c3
      go_wp2
      go_loopw [22] (fun i_ wr => i_ = .int .i64 0 ∧ Hid (J (pre ++ [base ++ [i]]) wr ∧ Kept Z W wr)) (fun _ _ => 0)
      case atStart => exact ⟨rfl, HF⟩
      case round =>
        clear HF
        obtain ⟨rfl, HF⟩ := hrel
        go_wp2
        go_ret
        exact ⟨rfl, by rw [HEND.out]; exact HF.out.1, HF.out.2⟩
    · obtain ⟨p, ep⟩ : ∃ p : Nat, g2 f i 0 = p := ⟨_, (Int.toNat_of_nonneg hp.1).symm⟩
      obtain ⟨q, eq⟩ : ∃ q : Nat, g2 f i 1 = q := ⟨_, (Int.toNat_of_nonneg hq.1).symm⟩
      have hpi : p < i := by omega
      have hqi : q < i := by omega
      obtain ⟨k, rfl⟩ : ∃ k', k = k' + 1 := ⟨k - 1, by have := HIK.out; omega⟩
      have HEND := Lib.hid (upR_two (f := f) ep eq k base pre)
      have HPA := Lib.hid (fun W h => HPV.out ▸ parentsTwo_any g n f i p q ep eq (by have := HIN.out; omega) (by have := HIN.out; omega) W h)
      have HPQ := Lib.hid (show p < i ∧ q < i from ⟨hpi, hqi⟩)
      clear HPV HPAR hp hq ep eq hpi hqi
      generalize g2 f i 0 = x at *
      generalize g2 f i 1 = y at *
      go_wp2_with fail
      refine (HPA.out _ HPE1.out).mono ?_
      rintro e w2 ⟨h, rfl, hp2, hlo, hb⟩
      -- what holds between two parents
      obtain ⟨sf, hsf⟩ : ∃ sf : Nat → Nat, sf = fun j => if j = 0 then p else q := ⟨_, rfl⟩
      obtain ⟨ac, hac⟩ : ∃ ac : Nat → List (List Nat), ac = fun j => if j = 0 then pre ++ [base ++ [i]] else if j = 1 then pre ++ [base ++ [i]] ++ (upR f k p).map (base ++ [i] ++ ·) else pre ++ [base ++ [i]] ++ (upR f k p).map (base ++ [i] ++ ·) ++ (upR f k q).map (base ++ [i] ++ ·) := ⟨_, rfl⟩
      have HSB := Lib.hid (show ∀ j, j < 2 → sf j < i by intro j hj; rw [hsf]; show (if j = 0 then p else q) < i; have := HPQ.out; split <;> omega)
      have HAC := Lib.hid (show ∀ j, j < 2 → ac j ++ (upR f k (sf j)).map (base ++ [i] ++ ·) = ac (j + 1) by
        intro j hj
        rw [hac, hsf]
        match j, hj with
        | 0, _ => rfl
        | 1, _ => rfl)
      have HSX := Lib.hid (show ∀ j, j < 2 → ∃ su, ac j ++ (upR f k (sf j)).map (base ++ [i] ++ ·) ++ su = XS by
        intro j hj
        rw [hac, hsf]
        have hx := HXS.out
        rw [HEND.out] at hx
        match j, hj with
        | 0, _ => exact ⟨(upR f k q).map (base ++ [i] ++ ·) ++ suf, by rw [← hx]; simp⟩
        | 1, _ => exact ⟨suf, by rw [← hx]; simp⟩)
      have HA0 := Lib.hid (show ac 0 = pre ++ [base ++ [i]] by rw [hac]; rfl)
      have HA2 := Lib.hid (show ac 2 = pre ++ (upR f (k + 1) i).map (base ++ ·) by rw [hac, HEND.out]; rfl)
      have HCS := Lib.hid (show ∀ (W' : World), Kept Z w2 W' → ∀ j, j < 2 → W'.cell? ⟨h, j * 3, none⟩ = some (.int .i64 (sf j)) ∧ W'.cell? ⟨h, j * 3 + 1, none⟩ = some (.int .i64 (g2 f (sf j) 0)) ∧ W'.cell? ⟨h, j * 3 + 2, none⟩ = some (.int .i64 (g2 f (sf j) 1)) by
        intro W' hk j hj
        have hz : ¬ Z h := fun e => by have := HZ.out _ e; have := HN0.out; have := HK1.out.size; omega
        obtain ⟨⟨a0, a1, a2⟩, a3, a4, a5⟩ := hp2
        rw [hsf]
        match j, hj with
        | 0, _ => exact ⟨hk.cell (p := ⟨h, 0, none⟩) hz a0, hk.cell (p := ⟨h, 1, none⟩) hz a1, hk.cell (p := ⟨h, 2, none⟩) hz a2⟩
        | 1, _ => exact ⟨hk.cell (p := ⟨h, 3, none⟩) hz a3, hk.cell (p := ⟨h, 4, none⟩) hz a4, hk.cell (p := ⟨h, 5, none⟩) hz a5⟩)
      have HF := Lib.hid (show J (ac 0) w2 ∧ Kept Z w2 w2 by rw [HA0.out]; exact ⟨HJ.out _ _ _ HJ1.out hb, Kept.refl _ _⟩)
      have HK2 := Lib.hid (HK1.out.trans (Kept.up Z hb))
      have HRM2 := Lib.hid (HRM1.out.kept (Kept.up Z hb))
      have HPE2 := Lib.hid (HPE1.out.kept (Kept.up Z hb) HGZ.out)
      clear hb HPA hp2 hlo hsf hac c1 c2 c3 HEND
      go_wp2
      go_loopw [22] (fun i_ wr => ∃ j : Nat, j ≤ 2 ∧ i_ = .int .i64 j ∧ Hid (J (ac j) wr ∧ Kept Z w2 wr)) (fun i_ _ => 2 - (intOf i_).toNat)
      case atStart => exact ⟨0, by omega, rfl, HF⟩
      case round =>
        clear HF
        obtain ⟨j, hj, rfl, HF⟩ := hrel
        by_cases hlt : j < 2
        · obtain ⟨c1, c2, c3⟩ := HCS.out wr HF.out.2 j hlt
          have hlt2 : (j : Int) < 2 := by omega
          have HSJ := Lib.hid (HSB.out j hlt)
          have HACJ := Lib.hid (HAC.out j hlt)
          obtain ⟨su, hsu⟩ := HSX.out j hlt
          have HSU := Lib.hid hsu
          clear hsu
          generalize hs : sf j = s at *
          have hx0 : ∃ x0, x0 = g2 f s 0 := ⟨_, rfl⟩
          obtain ⟨x0, hx0⟩ := hx0
          obtain ⟨x1, hx1⟩ : ∃ x1, x1 = g2 f s 1 := ⟨_, rfl⟩
          rw [← hx0] at c2
          rw [← hx1] at c3
          have HX0 := Lib.hid hx0
          have HX1 := Lib.hid hx1
          clear hx0 hx1 hs
          have bx := blk_new wr 65 #[.int .i64 s, .int .i64 x0, .int .i64 x1]
          have e1 := blk_cell bx (i := 0) rfl
          have e2 := blk_cell bx (i := 1) rfl
          have e3 := blk_cell bx (i := 2) rfl
          have HB8a := Lib.hid bx
          have HUP := Lib.hid (below_alloc wr (.cells #[.int .i64 s, .int .i64 x0, .int .i64 x1] 65))
          clear bx
          have HUP2 := Lib.hid (Kept.up Z HUP.out)
          have HF0 := Lib.hid (show J (ac j) (wr.alloc (.cells #[.int .i64 s, .int .i64 x0, .int .i64 x1] 65)) ∧ Kept Z w2 (wr.alloc (.cells #[.int .i64 s, .int .i64 x0, .int .i64 x1] 65)) from ⟨HJ.out _ _ _ HF.out.1 HUP.out, HF.out.2.trans HUP2.out⟩)
          go_upto_region 6 with (fail)
          clear HUP HUP2 HF HCS c1 c2 c3 e1 e2 e3
          generalize wr.alloc (.cells #[.int .i64 s, .int .i64 x0, .int .i64 x1] 65) = W0 at *
          have HB8 := HB8a
          have HPR := Lib.hid ((HRM2.out.kept HF0.out.2).pers)
          have HM0 := Lib.hid hm1
          have HRL := Lib.hid (show r.length ≤ 10 by have := HMLEN.out; omega)
          have HP1 := Lib.hid (show 0 < (r ++ [s]).length by simp)
          have HP2 := Lib.hid (show (r ++ [s]).length ≤ 1000 by have := HMLEN.out; simp; omega)
          obtain ⟨m1, hm1_⟩ : ∃ m1, (r ++ [s]).length = m1 := ⟨_, rfl⟩
          have HM1 := Lib.hid hm1_
          clear hm1_
          obtain ⟨Fn, hFn⟩ : ∃ Fn : World → Prop, Fn = fun W' => J (ac (j + 1)) W' ∧ Kept Z W0 W' := ⟨_, rfl⟩
          have HFN := Lib.hid hFn
          have HIHs := Lib.hid (show ∀ W gg cc, Below W0.heap.size W0 W → W0.heap.size ≤ gg → Pers f W (some ⟨gg, 0, none⟩) m1 cc (r ++ [s]) →
              Calls Try.prog 87 #[.slice (some ⟨g, 0, none⟩) n n, .slice (some ⟨gg, 0, none⟩) m1 cc, .func (.yield l) #[] #[]] W fun e B => e = .returned (.bool true) ∧ Fn B by
            intro W' gg cc hB hg hpp
            have hsz := HF0.out.2.size
            have hs2 := HK2.out.size
            have hn0 := HN0.out
            have hsi := HSJ.out
            have hik := HIK.out
            have hin := HIN.out
            have hbi := HBI.out
            have hml := HMLEN.out
            have hmq := HMQ.out
            have hm11 : m1 = r.length + 1 := by rw [← HM1.out]; simp
            subst hm11
            refine (HIH.out k rfl s r (ac j) su (some ⟨gg, 0, none⟩) cc W' (by rw [HRQ.out]; exact HSU.out) (by omega) (by omega) (by omega) (by have := hB.size; omega) ((HPE2.out.kept HF0.out.2 HGZ.out).keep (Keep.below hB)) ⟨hpp, by omega, fun a ha e => ?_⟩ (HJ.out _ _ _ HF0.out.1 hB)).mono ?_
            · injection ha with ha
              subst ha
              have := HZ.out _ e
              have : gg < N0 := this
              omega
            · rintro e B ⟨rfl, h1, h2⟩
              rw [hFn]
              refine ⟨rfl, ?_, (Kept.up Z hB).trans h2⟩
              show J (ac (j + 1)) B
              rw [← HACJ.out, ← HRQ.out]
              exact h1)
          clear hFn
          obtain ⟨i0, hi0, hz0, hz1, hz2⟩ := info_parts Try.infoP
          apply region_put [26, 27, 28, 29, 30, 31, 32, 33, 34] (fun us v => ∃ u26 u27 u28 u29 u30 u31 u32, us = [u26, u27, u28, u29, u30, u31, u32, .bool true, .bool false] ∧ Hid (Fn v))
          refine wp_region_invF (rs := [0, 1, 2, 3, 4, 5, 6, 7, 8]) [26, 27, 28, 29, 30, 31, 32, 33, 34] (fun L us W => ∃ u26 u27 u28 u29 u30 u31 u32 u33 u34, us = [u26, u27, u28, u29, u30, u31, u32, u33, u34] ∧ RGo f g n m c s l x0 x1 (some ⟨b, o, none⟩) r Fn W0 L u26 u27 u28 u29 u30 u31 u32 u33 u34 W) (by kernel_rfl) ?_ (by kernel_rfl) (by kernel_rfl) ?_ ?_
          · refine ⟨[u26, u27, u28, u29, u30, u31, u32, u33, u34], ?_, u26, u27, u28, u29, u30, u31, u32, u33, u34, rfl, ?_⟩
            · simp only [frmL, Act.put, List.setIfInBounds_toArray, List.set_cons_zero, List.set_cons_succ]
            exact ⟨fun o => o.not_start.elim, fun o => o.not_start.elim, fun o => o.not_start.elim, fun o => o.not_start.elim, fun o => o.not_start.elim, fun o => o.not_start.elim, fun o => o.not_start.elim, fun o => o.not_start.elim, fun o => o.not_start.elim, .inr (Quiet.below ⟨1, rfl⟩), fun o => o.not_start.elim, fun o => o.not_start.elim, fun o => o.not_start.elim⟩
          · refine StepsI.cons (i := 0) (ws := []) rfl (by kernel_rfl) (fun L a W hI hno hon hw K hK => ?_) ?_
            · obtain ⟨_, rfl, u26, u27, u28, u29, u30, u31, u32, u33, u34, rfl, H⟩ := hI
              simp only [List.getElem_toArray, List.getElem_cons_zero]
              simp only [frmL, Act.put, List.setIfInBounds_toArray, List.set_cons_zero, List.set_cons_succ]
              go_simp
              have HN := H
              refine hK.out _ _ ⟨[.slice (some ⟨g, 0, none⟩) n n, u27, u28, u29, u30, u31, u32, u33, u34], ?_, .slice (some ⟨g, 0, none⟩) n n, u27, u28, u29, u30, u31, u32, u33, u34, rfl, ?_⟩
              · simp only [frmL, Act.put, List.setIfInBounds_toArray, List.set_cons_zero, List.set_cons_succ]
              · exact ⟨fun _ => rfl, fun o => HN.h1 (o.of_set (by decide)), fun o => (HN.h2 (o.of_set (by decide))).imp On.old id, fun o => HN.h3 (o.of_set (by decide)), fun o => (HN.h4 (o.of_set (by decide))).imp On.old id, fun o => (HN.h5 (o.of_set (by decide))).imp On.old id, fun o => HN.h6 (o.of_set (by decide)), fun o => HN.h7 (o.of_set (by decide)), fun o => HN.h8 (o.of_set (by decide)), HN.bw.imp On.old id, fun o => (HN.a4 (o.of_set (by decide))).old, fun o => (fun ⟨a, b, d⟩ => ⟨a.old, b.old, d.old⟩) (HN.a5 (o.of_set (by decide))), fun o => (fun ⟨⟨a, b, d, e⟩, x⟩ => ⟨⟨a.old, b.old, d.old, e.old⟩, x⟩) (HN.fin (o.of_set (by decide)))⟩
            refine StepsI.cons (i := 1) (ws := []) rfl (by kernel_rfl) (fun L a W hI hno hon hw K hK => ?_) ?_
            · obtain ⟨_, rfl, u26, u27, u28, u29, u30, u31, u32, u33, u34, rfl, H⟩ := hI
              simp only [List.getElem_toArray, List.getElem_cons_zero, List.getElem_cons_succ]
              simp only [frmL, Act.put, List.setIfInBounds_toArray, List.set_cons_zero, List.set_cons_succ]
              go_simp
              have HN := H
              refine hK.out _ _ ⟨[u26, .slice (some ⟨b, o, none⟩) m c, u28, u29, u30, u31, u32, u33, u34], ?_, u26, .slice (some ⟨b, o, none⟩) m c, u28, u29, u30, u31, u32, u33, u34, rfl, ?_⟩
              · simp only [frmL, Act.put, List.setIfInBounds_toArray, List.set_cons_zero, List.set_cons_succ]
              · exact ⟨fun o => HN.h0 (o.of_set (by decide)), fun _ => rfl, fun o => (HN.h2 (o.of_set (by decide))).imp On.old id, fun o => HN.h3 (o.of_set (by decide)), fun o => (HN.h4 (o.of_set (by decide))).imp On.old id, fun o => (HN.h5 (o.of_set (by decide))).imp On.old id, fun o => HN.h6 (o.of_set (by decide)), fun o => HN.h7 (o.of_set (by decide)), fun o => HN.h8 (o.of_set (by decide)), HN.bw.imp On.old id, fun o => (HN.a4 (o.of_set (by decide))).old, fun o => (fun ⟨a, b, d⟩ => ⟨a.old, b.old, d.old⟩) (HN.a5 (o.of_set (by decide))), fun o => (fun ⟨⟨a, b, d, e⟩, x⟩ => ⟨⟨a.old, b.old, d.old, e.old⟩, x⟩) (HN.fin (o.of_set (by decide)))⟩
            refine StepsI.cons (i := 2) (ws := [1]) rfl (by kernel_rfl) (fun L a W hI hno hon hw K hK => ?_) ?_
            · obtain ⟨_, rfl, u26, u27, u28, u29, u30, u31, u32, u33, u34, rfl, H⟩ := hI
              simp only [List.getElem_toArray, List.getElem_cons_zero, List.getElem_cons_succ]
              obtain rfl := H.h1 (hw 1 (by simp))
              simp only [frmL, Act.put, List.setIfInBounds_toArray, List.set_cons_zero, List.set_cons_succ]
              have hB := H.bw.resolve_left (fun o => hno (H.fin o).1.1)
              have HPW := Lib.hid (HPR.out.keep (Keep.below hB))
              have HN := H
              go_simp
              go_wp2_with (go_at_call 91; (with_reducible refine (cloneQ_any f (some ⟨b, o, none⟩) m c r W HPW.out HM0.out).mono ?_); rintro e w9 ⟨v9, rfl, ho, hb⟩)
              refine hK.out _ _ ⟨[u26, .slice (some ⟨b, o, none⟩) m c, v9, u29, u30, u31, u32, u33, u34], ?_, u26, .slice (some ⟨b, o, none⟩) m c, v9, u29, u30, u31, u32, u33, u34, rfl, ?_⟩
              · simp only [frmL, Act.put, List.setIfInBounds_toArray, List.set_cons_zero, List.set_cons_succ]
              · exact ⟨fun o => HN.h0 (o.of_set (by decide)), fun o => HN.h1 (o.of_set (by decide)), fun _ => .inr (ho.lower hB.size), fun o => HN.h3 (o.of_set (by decide)), fun o => (H.h4 (o.of_set (by decide))).imp On.old (fun ⟨G, e, d⟩ => ⟨G, e, blk_below d hb⟩), fun o => (H.h5 (o.of_set (by decide))).imp On.old (fun x => x.below hb), fun o => HN.h6 (o.of_set (by decide)), fun o => HN.h7 (o.of_set (by decide)), fun o => HN.h8 (o.of_set (by decide)), H.bw.imp On.old (fun x => below_up x hb), fun o => (HN.a4 (o.of_set (by decide))).old, fun o => (fun ⟨a, b, d⟩ => ⟨a.old, b.old, d.old⟩) (HN.a5 (o.of_set (by decide))), fun o => absurd (H.fin (o.of_set (by decide))).1.1 hno⟩
            refine StepsI.cons (i := 3) (ws := []) rfl (by kernel_rfl) (fun L a W hI hno hon hw K hK => ?_) ?_
            · obtain ⟨_, rfl, u26, u27, u28, u29, u30, u31, u32, u33, u34, rfl, H⟩ := hI
              simp only [List.getElem_toArray, List.getElem_cons_zero, List.getElem_cons_succ]
              simp only [frmL, Act.put, List.setIfInBounds_toArray, List.set_cons_zero, List.set_cons_succ]
              have hB := H.bw.resolve_left (fun o => hno (H.fin o).1.2.1)
              have hbb := blk_below HB8.out hB
              have c0 := blk_cell hbb (i := 0) rfl
              have c1 := blk_cell hbb (i := 1) rfl
              have c2 := blk_cell hbb (i := 2) rfl
              go_simp
              have HN := H
              refine hK.out _ _ ⟨[u26, u27, u28, .agg #[.int .i64 s, .int .i64 x0, .int .i64 x1], u30, u31, u32, u33, u34], ?_, u26, u27, u28, .agg #[.int .i64 s, .int .i64 x0, .int .i64 x1], u30, u31, u32, u33, u34, rfl, ?_⟩
              · simp only [frmL, Act.put, List.setIfInBounds_toArray, List.set_cons_zero, List.set_cons_succ]
              · exact ⟨fun o => HN.h0 (o.of_set (by decide)), fun o => HN.h1 (o.of_set (by decide)), fun o => (HN.h2 (o.of_set (by decide))).imp On.old id, fun _ => rfl, fun o => (HN.h4 (o.of_set (by decide))).imp On.old id, fun o => (HN.h5 (o.of_set (by decide))).imp On.old id, fun o => HN.h6 (o.of_set (by decide)), fun o => HN.h7 (o.of_set (by decide)), fun o => HN.h8 (o.of_set (by decide)), HN.bw.imp On.old id, fun o => (HN.a4 (o.of_set (by decide))).old, fun o => (fun ⟨a, b, d⟩ => ⟨a.old, b.old, d.old⟩) (HN.a5 (o.of_set (by decide))), fun o => (fun ⟨⟨a, b, d, e⟩, x⟩ => ⟨⟨a.old, b.old, d.old, e.old⟩, x⟩) (HN.fin (o.of_set (by decide)))⟩
            refine StepsI.cons (i := 4) (ws := [3]) rfl (by kernel_rfl) (fun L a W hI hno hon hw K hK => ?_) ?_
            · obtain ⟨_, rfl, u26, u27, u28, u29, u30, u31, u32, u33, u34, rfl, H⟩ := hI
              simp only [List.getElem_toArray, List.getElem_cons_zero, List.getElem_cons_succ]
              obtain rfl := H.h3 (hw 3 (by simp))
              simp only [frmL, Act.put, List.setIfInBounds_toArray, List.set_cons_zero, List.set_cons_succ]
              go_simp
              have HN := H
              refine hK.out _ _ ⟨[u26, u27, u28, .agg #[.int .i64 s, .int .i64 x0, .int .i64 x1], .slice (some ⟨W.heap.size, 0, none⟩) 1 1, u31, u32, u33, u34], ?_, u26, u27, u28, .agg #[.int .i64 s, .int .i64 x0, .int .i64 x1], .slice (some ⟨W.heap.size, 0, none⟩) 1 1, u31, u32, u33, u34, rfl, ?_⟩
              · simp only [frmL, Act.put, List.setIfInBounds_toArray, List.set_cons_zero, List.set_cons_succ]
              · exact ⟨fun o => HN.h0 (o.of_set (by decide)), fun o => HN.h1 (o.of_set (by decide)), fun o => (H.h2 (o.of_set (by decide))).imp On.old (fun x => x.below (below_alloc W (.cells #[.int .i64 s, .int .i64 x0, .int .i64 x1] 65))), fun o => HN.h3 (o.of_set (by decide)), fun _ => .inr ⟨_, rfl, blk_new _ _ _⟩, fun o => (H.h5 (o.of_set (by decide))).imp On.old (fun x => x.below (below_alloc W (.cells #[.int .i64 s, .int .i64 x0, .int .i64 x1] 65))), fun o => HN.h6 (o.of_set (by decide)), fun o => HN.h7 (o.of_set (by decide)), fun o => HN.h8 (o.of_set (by decide)), H.bw.imp On.old (fun x => below_up x (below_alloc W (.cells #[.int .i64 s, .int .i64 x0, .int .i64 x1] 65))), fun _ => (hw 3 (by simp)).old, fun o => (fun ⟨a, b, d⟩ => ⟨a.old, b.old, d.old⟩) (HN.a5 (o.of_set (by decide))), fun o => absurd (H.fin (o.of_set (by decide))).1.2.2.1 hno⟩
            refine StepsI.cons (i := 5) (ws := [2, 4, 2]) rfl (by kernel_rfl) (fun L a W hI hno hon hw K hK => ?_) ?_
            · obtain ⟨_, rfl, u26, u27, u28, u29, u30, u31, u32, u33, u34, rfl, H⟩ := hI
              simp only [List.getElem_toArray, List.getElem_cons_zero, List.getElem_cons_succ]
              have hB := H.bw.resolve_left (fun o => hno (H.fin o).1.2.2.2)
              have ho := (H.h2 (hw 2 (by simp))).resolve_left hno
              obtain ⟨G, rfl, hG⟩ := (H.h4 (hw 4 (by simp))).resolve_left hno
              simp only [frmL, Act.put, List.setIfInBounds_toArray, List.set_cons_zero, List.set_cons_succ]
              rw [if_pos (by rfl)]
              have hlw := hB.size
              refine wp_append_lies W _ _ _ rfl W0.heap.size 65 i0 _ 3 24 Try.underlying58 hi0 hz0 hz1 hz2 rfl (by omega) u28 r.length ((pcI f r).map iv) rfl ho.own ⟨G, 0, none⟩ 1 1 [.int .i64 s, .int .i64 x0, .int .i64 x1] rfl (by rfl) (World.news_of_block (w := W) (cs := #[.int .i64 s, .int .i64 x0, .int .i64 x1]) (t := 65) (fr := (0, 0)) hG) (by simp [Value.oneCell']) (by omega) (by have := HRL.out; unfold maxLen; omega) (by have := HRL.out; omega) (by omega) W.heap.size rfl ?_
              intro gg cap w9 hown1 hgrow hat hlt1
              simp only [Act.put, List.setIfInBounds_toArray, List.set_cons_zero, List.set_cons_succ]
              have HN := H
              refine hK.out _ _ ⟨[u26, u27, u28, u29, .slice (some ⟨G, 0, none⟩) 1 1, .slice (some ⟨gg, 0, none⟩) (r.length + 1) cap, u32, u33, u34], ?_, u26, u27, u28, u29, .slice (some ⟨G, 0, none⟩) 1 1, .slice (some ⟨gg, 0, none⟩) (r.length + 1) cap, u32, u33, u34, rfl, ?_⟩
              · simp only [frmL, Act.put, List.setIfInBounds_toArray, List.set_cons_zero, List.set_cons_succ]
              · exact ⟨fun o => HN.h0 (o.of_set (by decide)), fun o => HN.h1 (o.of_set (by decide)), fun _ => .inl hon, fun o => HN.h3 (o.of_set (by decide)), fun _ => .inl hon, fun _ => .inr (PerO.snoc HX0.out HX1.out hown1), fun o => HN.h6 (o.of_set (by decide)), fun o => HN.h7 (o.of_set (by decide)), fun o => HN.h8 (o.of_set (by decide)), .inr (hB.trans (grown_low hgrow (fun k hk => (ho.own.lt k hk).1) hB.size)), fun o => (HN.a4 (o.of_set (by decide))).old, fun _ => ⟨(hw 2 (by simp)).old, (H.a4 (hw 4 (by simp))).old, (hw 4 (by simp)).old⟩, fun o => absurd (H.fin (o.of_set (by decide))).1.2.2.2 hno⟩
            refine StepsI.cons (i := 6) (ws := []) rfl (by kernel_rfl) (fun L a W hI hno hon hw K hK => ?_) ?_
            · obtain ⟨_, rfl, u26, u27, u28, u29, u30, u31, u32, u33, u34, rfl, H⟩ := hI
              simp only [List.getElem_toArray, List.getElem_cons_zero, List.getElem_cons_succ]
              simp only [frmL, Act.put, List.setIfInBounds_toArray, List.set_cons_zero, List.set_cons_succ]
              go_simp
              have HN := H
              refine hK.out _ _ ⟨[u26, u27, u28, u29, u30, u31, .func (.yield l) #[] #[], u33, u34], ?_, u26, u27, u28, u29, u30, u31, .func (.yield l) #[] #[], u33, u34, rfl, ?_⟩
              · simp only [frmL, Act.put, List.setIfInBounds_toArray, List.set_cons_zero, List.set_cons_succ]
              · exact ⟨fun o => HN.h0 (o.of_set (by decide)), fun o => HN.h1 (o.of_set (by decide)), fun o => (HN.h2 (o.of_set (by decide))).imp On.old id, fun o => HN.h3 (o.of_set (by decide)), fun o => (HN.h4 (o.of_set (by decide))).imp On.old id, fun o => (HN.h5 (o.of_set (by decide))).imp On.old id, fun _ => rfl, fun o => HN.h7 (o.of_set (by decide)), fun o => HN.h8 (o.of_set (by decide)), HN.bw.imp On.old id, fun o => (HN.a4 (o.of_set (by decide))).old, fun o => (fun ⟨a, b, d⟩ => ⟨a.old, b.old, d.old⟩) (HN.a5 (o.of_set (by decide))), fun o => (fun ⟨⟨a, b, d, e⟩, x⟩ => ⟨⟨a.old, b.old, d.old, e.old⟩, x⟩) (HN.fin (o.of_set (by decide)))⟩
            refine StepsI.cons (i := 7) (ws := [0, 5, 6, 5]) rfl (by kernel_rfl) (fun L a W hI hno hon hw K hK => ?_) ?_
            · obtain ⟨_, rfl, u26, u27, u28, u29, u30, u31, u32, u33, u34, rfl, H⟩ := hI
              simp only [List.getElem_toArray, List.getElem_cons_zero, List.getElem_cons_succ]
              obtain rfl := H.h0 (hw 0 (by simp))
              obtain rfl := H.h6 (hw 6 (by simp))
              have hB := H.bw.resolve_left hno
              have HON := H.a5 (hw 5 (by simp))
              obtain ⟨cc, gg, rfl, hgl, hpp⟩ := ((H.h5 (hw 5 (by simp))).resolve_left hno).pers HP1.out HP2.out
              rw [HM1.out] at H hpp ⊢
              simp only [frmL, Act.put, List.setIfInBounds_toArray, List.set_cons_zero, List.set_cons_succ]
              have HIW := Lib.hid (HIHs.out W gg cc hB hgl hpp)
              have HN := H
              go_simp
              go_wp2_with (go_at_call 87; (with_reducible refine HIW.out.mono ?_); rintro e w9 ⟨rfl, hfn⟩)
              refine hK.out _ _ ⟨[.slice (some ⟨g, 0, none⟩) n n, u27, u28, u29, u30, .slice (some ⟨gg, 0, none⟩) m1 cc, .func (.yield l) #[] #[], .bool true, u34], ?_, .slice (some ⟨g, 0, none⟩) n n, u27, u28, u29, u30, .slice (some ⟨gg, 0, none⟩) m1 cc, .func (.yield l) #[] #[], .bool true, u34, rfl, ?_⟩
              · simp only [frmL, Act.put, List.setIfInBounds_toArray, List.set_cons_zero, List.set_cons_succ]
              · exact ⟨fun o => HN.h0 (o.of_set (by decide)), fun o => HN.h1 (o.of_set (by decide)), fun _ => .inl (hw 5 (by simp)).old, fun o => HN.h3 (o.of_set (by decide)), fun _ => .inl (hw 5 (by simp)).old, fun _ => .inl hon, fun o => HN.h6 (o.of_set (by decide)), fun _ => rfl, fun o => HN.h8 (o.of_set (by decide)), .inl hon, fun o => (HN.a4 (o.of_set (by decide))).old, fun o => (fun ⟨a, b, d⟩ => ⟨a.old, b.old, d.old⟩) (HN.a5 (o.of_set (by decide))), fun _ => ⟨⟨HON.1.old, HON.2.1.old, HON.2.2.old, (hw 5 (by simp)).old⟩, hfn⟩⟩
            refine StepsI.cons (i := 8) (ws := [7]) rfl (by kernel_rfl) (fun L a W hI hno hon hw K hK => ?_) ?_
            · obtain ⟨_, rfl, u26, u27, u28, u29, u30, u31, u32, u33, u34, rfl, H⟩ := hI
              simp only [List.getElem_toArray, List.getElem_cons_zero, List.getElem_cons_succ]
              obtain rfl := H.h7 (hw 7 (by simp))
              simp only [frmL, Act.put, List.setIfInBounds_toArray, List.set_cons_zero, List.set_cons_succ]
              go_simp
              have HN := H
              refine hK.out _ _ ⟨[u26, u27, u28, u29, u30, u31, u32, .bool true, .bool false], ?_, u26, u27, u28, u29, u30, u31, u32, .bool true, .bool false, rfl, ?_⟩
              · simp only [frmL, Act.put, List.setIfInBounds_toArray, List.set_cons_zero, List.set_cons_succ]
              · exact ⟨fun o => HN.h0 (o.of_set (by decide)), fun o => HN.h1 (o.of_set (by decide)), fun o => (HN.h2 (o.of_set (by decide))).imp On.old id, fun o => HN.h3 (o.of_set (by decide)), fun o => (HN.h4 (o.of_set (by decide))).imp On.old id, fun o => (HN.h5 (o.of_set (by decide))).imp On.old id, fun o => HN.h6 (o.of_set (by decide)), fun o => HN.h7 (o.of_set (by decide)), fun _ => rfl, HN.bw.imp On.old id, fun o => (HN.a4 (o.of_set (by decide))).old, fun o => (fun ⟨a, b, d⟩ => ⟨a.old, b.old, d.old⟩) (HN.a5 (o.of_set (by decide))), fun o => (fun ⟨⟨a, b, d, e⟩, x⟩ => ⟨⟨a.old, b.old, d.old, e.old⟩, x⟩) (HN.fin (o.of_set (by decide)))⟩
            exact StepsI.nil
          · rintro L us W hL ⟨u26, u27, u28, u29, u30, u31, u32, u33, u34, rfl, H⟩
            obtain rfl := H.h7 (hL 7 (by simp))
            obtain rfl := H.h8 (hL 8 (by simp))
            exact PutQ.mk _ rfl ⟨_, _, _, _, _, _, _, rfl, Lib.hid (H.fin (hL 7 (by simp))).2⟩
          · rintro _ V ⟨v26, v27, v28, v29, v30, v31, v32, rfl, HV2⟩
            simp only [frmL, Act.put, List.setIfInBounds_toArray, List.set_cons_zero, List.set_cons_succ]
            have HF9 : Hid (J (ac (j + 1)) V ∧ Kept Z w2 V) := Lib.hid (by have h := HV2.out; rw [HFN.out] at h; exact ⟨h.1, HF0.out.2.trans h.2⟩)
            clear HV2 HFN HIHs HF0 HB8 HB8a HPR
            go_wp2
            go_roundw
            case rel => exact ⟨j + 1, by omega, by go_num, HF9⟩
            case measure => simp [intOf]; omega
        · obtain rfl : j = 2 := by omega
          go_wp2
          go_ret
          exact ⟨rfl, by rw [← HA2.out]; exact HF.out.1, HK2.out.trans HF.out.2⟩
  intro k
  induction k with
  | zero => exact step 0 (fun k' h => absurd h (by omega))
  | succ k ih => exact step (k + 1) (fun k' h => by obtain rfl : k = k' := by omega
                                                    exact ih)
end Go.Proofs.Ytjmfkodbilknlaa

/- The functions that are made: rows up from a person. -/
namespace Go.Proofs.Ytjmfkodbilknlaa
open Go.RowKit Go.Shelf
attribute [local go_sem] Oper.semAt_some

/-- A row that is handed on: where it lies, its room, its people. -/
structure RowB where
  A : Option Addr
  c : Nat
  r : List Nat
def RowB.enc (x : RowB) : Array Value := #[.slice x.A x.r.length x.c]
def RowB.ok (Z : Nat → Prop) (f : List (List Int)) (x : RowB) (W : World) : Prop := RowM Z f W x.A x.r.length x.c x.r
set_option maxRecDepth 100000 in
set_option maxHeartbeats 1600000 in
theorem rowsUp_any (g n i : Nat) (f : List (List Int)) (w : World) :
    Calls Try.prog 71 #[.slice (some ⟨g, 0, none⟩) n n, peV f i] w fun e w' => e = .returned (.func (.func 86) #[] #[.pointer (some ⟨w.heap.size, 0, none⟩), .pointer (some ⟨w.heap.size + 1, 0, none⟩)]) ∧
      Below w.heap.size w w' ∧ Blk w' w.heap.size 59 #[.slice (some ⟨g, 0, none⟩) n n] ∧ Blk w' (w.heap.size + 1) 65 #[.int .i64 i, .int .i64 (g2 f i 0), .int .i64 (g2 f i 1)] := by
  unfold peV
  generalize g2 f i 0 = x
  generalize g2 f i 1 = y
  have HB := Lib.hid (below_up (below_alloc w (.cells #[.slice (some ⟨g, 0, none⟩) n n] 59)) (below_alloc _ (.cells #[.int .i64 i, .int .i64 x, .int .i64 y] 65)))
  have H1 := Lib.hid (blk_old (blk_new w 59 #[.slice (some ⟨g, 0, none⟩) n n]) (.cells #[.int .i64 i, .int .i64 x, .int .i64 y] 65))
  have H2 := Lib.hid (blk_new (w.alloc (.cells #[.slice (some ⟨g, 0, none⟩) n n] 59)) 65 #[.int .i64 i, .int .i64 x, .int .i64 y])
  rw [World.size_alloc] at H2
  go_enter Try.func71, Try.ntmps71
  go_wp2
  go_ret
  exact ⟨rfl, HB.out, H1.out, H2.out⟩
set_option maxRecDepth 100000 in
set_option maxHeartbeats 1600000 in
theorem rowsUp1_hands (g n i b1 b2 : Nat) (f : List (List Int)) (v : VPe f) (hn : f.length = n) (hi : i < n) (Z : Nat → Prop) (W : World) (hZ : ∀ k, Z k → k < W.heap.size) (hgZ : ¬ Z g) (HE : PE W g n f)
    (h1 : Blk W b1 59 #[.slice (some ⟨g, 0, none⟩) n n]) (h2 : Blk W b2 65 #[.int .i64 i, .int .i64 (g2 f i 0), .int .i64 (g2 f i 1)]) :
    Hands Try.prog 86 #[.pointer (some ⟨b1, 0, none⟩), .pointer (some ⟨b2, 0, none⟩)] RowB.enc RowB.r (RowB.ok Z f) Z (upR f i i) W := by
  intro l J k hJ hY h0
  refine (callsIn_wide (n := k)).2 ?_
  have n6 := v.n6
  have hb := below_alloc W (.cells #[.int .i64 i, .int .i64 (g2 f i 0), .int .i64 (g2 f i 1)] 65)
  have hk := Kept.up Z hb
  have hrow : RowM Z f (W.alloc (.cells #[.int .i64 i, .int .i64 (g2 f i 0), .int .i64 (g2 f i 1)] 65)) (some ⟨W.heap.size, 0, none⟩) 1 1 [i] := by
    have bx := blk_new W 65 #[.int .i64 i, .int .i64 (g2 f i 0), .int .i64 (g2 f i 1)]
    refine ⟨⟨rfl, Nat.le_refl _, by omega, fun _ => ⟨_, 0, rfl, fun j hj => ?_⟩⟩, by omega, fun a ha e => ?_⟩
    · obtain rfl : j = 0 := by omega
      exact ⟨blk_cell bx (i := 0) rfl, blk_cell bx (i := 1) rfl, blk_cell bx (i := 2) rfl⟩
    · injection ha with ha
      subst ha
      exact absurd (hZ _ e) (by simp)
  have hup := goUp_any f g n v hn Z W.heap.size l hZ hgZ J (fun s A B h hb => hJ s A B h (Kept.up _ hb)) (upR f i i)
    (fun m pre A n c r W' h hr hp => by
      obtain rfl := hr.pers.len
      exact hY pre ⟨A, c, r⟩ m W' h hr hp)
    i i [] [] [] (some ⟨W.heap.size, 0, none⟩) 1 (W.alloc (.cells #[.int .i64 i, .int .i64 (g2 f i 0), .int .i64 (g2 f i 1)] 65)) (by simp) (Nat.le_refl _) hi (by simp; omega) hb.size (HE.keep (Keep.below hb)) hrow (hJ _ _ _ h0 (Kept.up _ hb))
  rw [show ([] : List (List Nat)) ++ (upR f i i).map (([] : List Nat) ++ ·) = upR f i i by simp] at hup
  have HUP := Lib.hid hup
  have HK := Lib.hid hk
  have c0 := blk_cell h1 (i := 0) rfl
  have p0 := blk_cell h2 (i := 0) rfl
  have p1 := blk_cell h2 (i := 1) rfl
  have p2 := blk_cell h2 (i := 2) rfl
  clear hup hk hrow hb hJ hY h0 HE h1 h2 hZ hgZ v hn hi n6
  generalize g2 f i 0 = x at *
  generalize g2 f i 1 = y at *
  show Calls Try.prog 86 #[.func (.yield l) #[] #[], .pointer (some ⟨b1, 0, none⟩), .pointer (some ⟨b2, 0, none⟩)] W _
  go_enter Try.func86, Try.ntmps86
  go_wp2_with fail
  refine HUP.out.mono ?_
  rintro e B ⟨rfl, hj, hkk⟩
  have HJB := Lib.hid hj
  have HKB := Lib.hid (HK.out.trans hkk)
  clear hj hkk HUP c0 p0 p1 p2
  go_wp2
  go_end0
  exact ⟨⟨_, rfl⟩, HJB.out, HKB.out⟩
set_option maxRecDepth 100000 in
set_option maxHeartbeats 1600000 in
theorem paths_any (g n i j : Nat) (f : List (List Int)) (w : World) :
    Calls Try.prog 45 #[.slice (some ⟨g, 0, none⟩) n n, peV f i, peV f j] w fun e w' => e = .returned (.func (.func 70) #[] #[.pointer (some ⟨w.heap.size, 0, none⟩), .pointer (some ⟨w.heap.size + 1, 0, none⟩), .pointer (some ⟨w.heap.size + 1 + 1, 0, none⟩)]) ∧
      Below w.heap.size w w' ∧ Blk w' w.heap.size 59 #[.slice (some ⟨g, 0, none⟩) n n] ∧ Blk w' (w.heap.size + 1) 65 #[.int .i64 i, .int .i64 (g2 f i 0), .int .i64 (g2 f i 1)] ∧ Blk w' (w.heap.size + 1 + 1) 65 #[.int .i64 j, .int .i64 (g2 f j 0), .int .i64 (g2 f j 1)] := by
  unfold peV
  generalize g2 f i 0 = x
  generalize g2 f i 1 = y
  generalize g2 f j 0 = x'
  generalize g2 f j 1 = y'
  have HB := Lib.hid (below_up (below_up (below_alloc w (.cells #[.slice (some ⟨g, 0, none⟩) n n] 59)) (below_alloc _ (.cells #[.int .i64 i, .int .i64 x, .int .i64 y] 65))) (below_alloc _ (.cells #[.int .i64 j, .int .i64 x', .int .i64 y'] 65)))
  have H1 := Lib.hid (blk_old (blk_old (blk_new w 59 #[.slice (some ⟨g, 0, none⟩) n n]) (.cells #[.int .i64 i, .int .i64 x, .int .i64 y] 65)) (.cells #[.int .i64 j, .int .i64 x', .int .i64 y'] 65))
  have H2 := Lib.hid (blk_old (blk_new (w.alloc (.cells #[.slice (some ⟨g, 0, none⟩) n n] 59)) 65 #[.int .i64 i, .int .i64 x, .int .i64 y]) (.cells #[.int .i64 j, .int .i64 x', .int .i64 y'] 65))
  have H3 := Lib.hid (blk_new ((w.alloc (.cells #[.slice (some ⟨g, 0, none⟩) n n] 59)).alloc (.cells #[.int .i64 i, .int .i64 x, .int .i64 y] 65)) 65 #[.int .i64 j, .int .i64 x', .int .i64 y'])
  rw [World.size_alloc] at H2
  simp only [World.size_alloc] at H3
  go_enter Try.func45, Try.ntmps45
  go_wp2
  go_ret
  exact ⟨rfl, HB.out, H1.out, H2.out, H3.out⟩
end Go.Proofs.Ytjmfkodbilknlaa

/- All two rows that meet at their ends are handed on. -/
namespace Go.Proofs.Ytjmfkodbilknlaa
open Go.RowKit Go.Shelf
attribute [local go_sem] Oper.semAt_some

/-- Two rows that are handed on. -/
structure PairB where
  A : Option Addr
  c : Nat
  r : List Nat
  A2 : Option Addr
  c2 : Nat
  r2 : List Nat
def PairB.enc (x : PairB) : Array Value := #[.slice x.A x.r.length x.c, .slice x.A2 x.r2.length x.c2]
def PairB.val (x : PairB) : List Nat × List Nat := (x.r, x.r2)
def PairB.ok (Z : Nat → Prop) (f : List (List Int)) (x : PairB) (W : World) : Prop := RowM Z f W x.A x.r.length x.c x.r ∧ RowM Z f W x.A2 x.r2.length x.c2 x.r2
def prsM (r : List Nat) (L : List (List Nat)) : List (List Nat × List Nat) := (L.filter fun o => meetB r o).map fun o => (r, o)
def prsO (f : List (List Int)) (j : Nat) (r : List Nat) : List (List Nat × List Nat) := prsM r (upR f j j)
def prsL (f : List (List Int)) (i j : Nat) : List (List Nat × List Nat) := (upR f i i).flatMap (prsO f j)
theorem prsM_yes {r o : List Nat} (h : meetB r o = true) (L : List (List Nat)) : prsM r (L ++ [o]) = prsM r L ++ [(r, o)] := by
  unfold prsM; rw [List.filter_append, List.map_append]; simp [h]
theorem prsM_no {r o : List Nat} (h : meetB r o = false) (L : List (List Nat)) : prsM r (L ++ [o]) = prsM r L := by
  unfold prsM; rw [List.filter_append, List.map_append]; simp [h]
theorem prs_pre {f : List (List Int)} {i j : Nat} {rx ry : List Nat} {pre pre2 : List (List Nat)} (h : meetB rx ry = true) (h1 : pre ++ [rx] <+: upR f i i) (h2 : pre2 ++ [ry] <+: upR f j j) : pre.flatMap (prsO f j) ++ prsM rx pre2 ++ [(rx, ry)] <+: prsL f i j := by
  obtain ⟨s1, e1⟩ := h1
  obtain ⟨s2, e2⟩ := h2
  refine ⟨prsM rx s2 ++ s1.flatMap (prsO f j), ?_⟩
  unfold prsL
  rw [← e1, List.flatMap_append, List.flatMap_append]
  have : [rx].flatMap (prsO f j) = prsM rx pre2 ++ [(rx, ry)] ++ prsM rx s2 := by
    simp only [List.flatMap_cons, List.flatMap_nil, List.append_nil]
    unfold prsO
    rw [← e2, ← prsM_yes h]
    unfold prsM
    rw [List.filter_append, List.map_append]
  rw [this]; simp
theorem RowM.weak {Z Z' : Nat → Prop} {f W A n c r} (h : RowM Z f W A n c r) (hz : ∀ k, Z' k → Z k) : RowM Z' f W A n c r := ⟨h.pers, h.pos, fun a e k => h.out a e (hz _ k)⟩
theorem Kept.blk {Z : Nat → Prop} {A B : World} (k : Kept Z A B) {b : Nat} {t : TypeId} {cs : Array Value} (h : Blk A b t cs) (hz : ¬ Z b) : Blk B b t cs := k.at h hz
theorem RoundIn.inR {F : Fence} {m l' : Nat} {P : Program} {l : Nat} {f : FuncId} {tmps : Array Value} {assign body : Code} {w : World} {R : Ending → World → Prop} (h : RoundIn F m P l f tmps assign body w R) : RoundIn (F.inRound l') m P l f tmps assign body w R := h
set_option maxRecDepth 100000 in
set_option maxHeartbeats 8000000 in
theorem paths1_hands (g n i j b1 b2 b3 : Nat) (f : List (List Int)) (v : VPe f) (hn : f.length = n) (hi : i < n) (hj : j < n) (Z : Nat → Prop) (W : World) (hZ : ∀ k, Z k → k < W.heap.size) (hgZ : ¬ Z g) (HE : PE W g n f)
    (h1 : Blk W b1 59 #[.slice (some ⟨g, 0, none⟩) n n]) (h2 : Blk W b2 65 #[.int .i64 i, .int .i64 (g2 f i 0), .int .i64 (g2 f i 1)]) (h3 : Blk W b3 65 #[.int .i64 j, .int .i64 (g2 f j 0), .int .i64 (g2 f j 1)]) (z1 : ¬ Z b1) (z3 : ¬ Z b3) :
    Hands Try.prog 70 #[.pointer (some ⟨b1, 0, none⟩), .pointer (some ⟨b2, 0, none⟩), .pointer (some ⟨b3, 0, none⟩)] PairB.enc PairB.val (PairB.ok Z f) Z (prsL f i j) W := by
  intro l J k hJ hY h0
  have HJ := Lib.hid hJ
  have HY := Lib.hid hY
  have HZ := Lib.hid hZ
  have hb := below_alloc W (.cells #[.func (.yield l) #[] #[]] 86)
  have HB := Lib.hid hb
  have H1 := Lib.hid (blk_below h1 hb)
  have H3 := Lib.hid (blk_below h3 hb)
  have H4 := Lib.hid (blk_new W 86 #[.func (.yield l) #[] #[]])
  have HPE := Lib.hid (HE.keep (Keep.below hb))
  have HJ0 := Lib.hid (hJ _ _ _ h0 (Kept.up _ hb))
  have HL1 := Lib.hid (blk_lt h1)
  have HL3 := Lib.hid (blk_lt h3)
  have HRU : Hid (∀ (i : Nat) (w : World), Calls Try.prog 71 #[.slice (some ⟨g, 0, none⟩) n n, .agg #[.int .i64 i, .int .i64 (g2 f i 0), .int .i64 (g2 f i 1)]] w fun e w' => e = .returned (.func (.func 86) #[] #[.pointer (some ⟨w.heap.size, 0, none⟩), .pointer (some ⟨w.heap.size + 1, 0, none⟩)]) ∧
      Below w.heap.size w w' ∧ Blk w' w.heap.size 59 #[.slice (some ⟨g, 0, none⟩) n n] ∧ Blk w' (w.heap.size + 1) 65 #[.int .i64 i, .int .i64 (g2 f i 0), .int .i64 (g2 f i 1)]) := Lib.hid (fun i w => rowsUp_any g n i f w)
  have HRI := Lib.hid (HRU.out i (W.alloc (.cells #[.func (.yield l) #[] #[]] 86)))
  have c1 := blk_cell H1.out (i := 0) rfl
  have c2 := blk_cell (blk_below h2 hb) (i := 0) rfl
  have c3 := blk_cell (blk_below h2 hb) (i := 1) rfl
  have c4 := blk_cell (blk_below h2 hb) (i := 2) rfl
  have HV := Lib.hid v
  have HN := Lib.hid hn
  have HI := Lib.hid hi
  have HJN := Lib.hid hj
  have HGZ := Lib.hid hgZ
  have HZ1 := Lib.hid z1
  have HZ3 := Lib.hid z3
  clear hJ hY hZ hb h1 h2 h3 h0 HE v hn hi hj hgZ z1 z3
  refine callsIn_of_wp_marks (F := Fence.wide) (n := k) Try.func70 rfl trivial ?_ rfl
  simp only [Try.ntmps70, List.size_toArray, List.length_cons, List.length_nil, Nat.reduceAdd, Nat.reduceSub, Array.replicate_succ, Array.replicate_zero, List.push_toArray, List.append_toArray, List.nil_append, List.cons_append]
  refine wpIn_wide.2 ?_
  go_wp2_with (go_at_call 71; refine HRI.out.mono ?_; rintro e w0 ⟨rfl, hb0, hr1, hr2⟩)
  simp only [World.size_alloc] at hr1 hr2
  have HU1 := Lib.hid hr1
  have HU2 := Lib.hid hr2
  have HB0 := Lib.hid hb0
  have HS0 := Lib.hid hb0.size
  clear c1 c2 c3 c4 hr1 hr2 hb0 HRI
  refine (wpIn_wide (n := k)).1 ?_
  have HPE0 := Lib.hid (HPE.out.keep (Keep.below HB0.out))
  have H10 := Lib.hid (blk_below H1.out HB0.out)
  have H30 := Lib.hid (blk_below H3.out HB0.out)
  have H40 := Lib.hid (blk_below H4.out HB0.out)
  have HJ00 := Lib.hid (HJ.out _ _ _ HJ0.out (Kept.up _ HB0.out))
  have HWW := Lib.hid (show W.heap.size < w0.heap.size by have := HS0.out; simp at this; omega)
  have HK0 := Lib.hid ((Kept.up Z HB.out).trans (Kept.up Z HB0.out))
  refine over_outer k (gf := 86) (encs := RowB.enc) (val := RowB.r) (Px := RowB.ok (fun k => Z k ∨ k = w0.heap.size + 1) f) (Z := Z) (xs := upR f i i) rfl (enters_of Try.func86 (by kernel_rfl) rfl) (fun _ => rfl) (fun k h => by have := HZ.out k h; have := HWW.out; omega) ?hseq
    (fun pre A => J (pre.flatMap (prsO f j)) A ∧ Kept (fun k => Z k ∨ w0.heap.size ≤ k) w0 A) ?hI ?h0 ?hround ?hdone
  case hseq =>
    intro W' hw' hlt
    have hsz := hw'.size
    have hw := HWW.out
    have hgl := cell_lt (HPE0.out.c0 i HI.out)
    refine rowsUp1_hands g n i _ _ f HV.out HN.out HI.out _ W' (fun k h => ?_) (fun h => ?_) (HPE0.out.keep (Keep.below hw')) (blk_below HU1.out hw') (blk_below HU2.out hw')
    · rcases h with h | h
      · have := HZ.out _ h; omega
      · omega
    · rcases h with h | h
      · exact HGZ.out h
      · have : g < w0.heap.size := hgl
        omega
  case hI =>
    rintro s A B ⟨h1, h2⟩ hk
    exact ⟨HJ.out _ _ _ h1 (hk.mono fun k _ h => by have := HWW.out; omega), h2.trans (hk.mono fun k _ h => .inr h)⟩
  case h0 => exact ⟨HJ00.out, Kept.refl _ _⟩
  case hround =>
    rintro m0 pre ⟨Ax, cx, rx⟩ A ⟨hJA, hKA⟩ hx hpx hlt
    have HPX := Lib.hid (show pre ++ [rx] <+: upR f i i from hpx)
    have HJA := Lib.hid hJA
    have HKA := Lib.hid hKA
    have HX := Lib.hid hx
    have HLT := Lib.hid hlt
    clear hJA hKA hx hlt hpx
    simp only [RowB.enc]
    gi_wp2
    refine ⟨below_alloc _ _, ?_⟩
    rintro W2 hk2 ⟨r0, hr0⟩
    have hba := below_alloc A (.cells #[.slice Ax rx.length cx] 58)
    have hw := HWW.out
    have hlt := HLT.out
    have hgl := cell_lt (HPE0.out.c0 i HI.out)
    have hl1 := blk_lt H10.out
    have hl3 := blk_lt H30.out
    have hl4 := blk_lt H40.out
    have HK2 := Lib.hid (show Kept (fun k => Z k ∨ w0.heap.size ≤ k) w0 W2 from (HKA.out.trans (Kept.up _ hba)).trans (hk2.mono fun k _ e => .inr (by omega)))
    have HJ2 := Lib.hid (HJ.out _ _ _ HJA.out (((Kept.up (fun k => W.heap.size ≤ k) hba)).trans (hk2.mono fun k _ e => by omega)))
    have HX2 := Lib.hid (show RowM Z f W2 Ax rx.length cx rx from ((HX.out.kept (Kept.up _ hba)).kept (hk2.mono fun k _ e => .inr e)).weak (fun k h => .inl h))
    have H5 := Lib.hid (hk2.blk (blk_new A 58 #[.slice Ax rx.length cx]) (by omega))
    have H1b := Lib.hid (HK2.out.blk H10.out (fun e => e.elim HZ1.out (by omega)))
    have H3b := Lib.hid (HK2.out.blk H30.out (fun e => e.elim HZ3.out (by omega)))
    have H4b := Lib.hid (HK2.out.blk H40.out (fun e => e.elim (fun e => by have := HZ.out _ e; omega) (by omega)))
    have HPE2 := Lib.hid (HPE0.out.kept HK2.out (fun e => e.elim HGZ.out (fun e => by have : g < w0.heap.size := hgl; omega)))
    have HS2 := Lib.hid HK2.out.size
    have HA2 := Lib.hid (show A.heap.size < W2.heap.size from blk_lt H5.out)
    have HR0 := Lib.hid hr0
    have c1 := blk_cell H1b.out (i := 0) rfl
    have c2 := blk_cell H3b.out (i := 0) rfl
    have c3 := blk_cell H3b.out (i := 1) rfl
    have c4 := blk_cell H3b.out (i := 2) rfl
    have HRI := Lib.hid (CallsIn.inRound (w0.heap.size + 1) ((callsIn_wide (n := m0)).2 (HRU.out j W2)))
    clear hba hw hlt hgl hl1 hl3 hl4 hk2 hr0
    have hdd : ∀ k : Nat, (Fence.wide.depth.isSome = true → 1 ≤ k) := fun k h => by simp [Fence.wide] at h
    gi_wp2_with (refine ⟨trivial, ?_⟩; refine ⟨hdd _, ?_⟩; refine CallsIn.mono (CallsIn.inRound (w0.heap.size + 1) (callsIn_wide.2 (HRU.out j W2))) ?_; rintro e wi ⟨rfl, hbi, hr1, hr2⟩)
    have HW2i := Lib.hid (blk_lt hr1)
    have HBI := Lib.hid hbi
    have H4i := Lib.hid (blk_below H4b.out hbi)
    have H5i := Lib.hid (blk_below H5.out hbi)
    have HPEi := Lib.hid (HPE2.out.keep (Keep.below hbi))
    have HXi := Lib.hid (HX2.out.kept (Kept.up Z hbi))
    have HJi := Lib.hid (HJ.out _ _ _ HJ2.out (Kept.up _ hbi))
    have HU1i := Lib.hid hr1
    have HU2i := Lib.hid hr2
    have hr0i := (hbi.block _ (Array.getElem?_eq_some_iff.1 HR0.out).1).trans HR0.out
    clear c1 c2 c3 c4 hbi hr1 hr2 HRI
    refine over_inner m0 hr0i (gf := 86) (encs := RowB.enc) (val := RowB.r) (Px := RowB.ok (fun k => Z k ∨ k = wi.heap.size) f) (Z := Z) (xs := upR f j j) rfl (enters_of Try.func86 (by kernel_rfl) rfl) (fun _ => rfl) (fun k h => by have := HZ.out k h; have := HWW.out; have := HS2.out; have := HW2i.out; omega) ?hseq2
      (fun pre2 B => J (pre.flatMap (prsO f j) ++ prsM rx pre2) B ∧ Kept (fun k => Z k ∨ wi.heap.size ≤ k) wi B) ?hI2 ?h02 ?hround2 ?hdone2
    case hseq2 =>
      intro W' hw' hlt
      have hsz := hw'.size
      have hw := HWW.out
      have hs2 := HS2.out
      have hwi := HW2i.out
      have hgl := cell_lt (HPEi.out.c0 i HI.out)
      refine rowsUp1_hands g n j _ _ f HV.out HN.out HJN.out _ W' (fun k h => ?_) (fun h => ?_) (HPEi.out.keep (Keep.below hw')) (blk_below HU1i.out hw') (blk_below HU2i.out hw')
      · rcases h with h | h
        · have := HZ.out _ h; omega
        · omega
      · rcases h with h | h
        · exact HGZ.out h
        · have : g < wi.heap.size := hgl
          omega
    case hI2 =>
      rintro s A B ⟨h1, h2⟩ hk
      exact ⟨HJ.out _ _ _ h1 (hk.mono fun k _ h => by have := HWW.out; have := HS2.out; have := HW2i.out; omega), h2.trans (hk.mono fun k _ h => .inr h)⟩
    case h02 => exact ⟨by simpa [prsM] using HJi.out, Kept.refl _ _⟩
    case hround2 =>
      rintro m2 pre2 ⟨Ay, cy, ry⟩ B ⟨hJB, hKB⟩ hy hpy hlt2
      have HPY := Lib.hid (show pre2 ++ [ry] <+: upR f j j from hpy)
      have HJB := Lib.hid hJB
      have HKB := Lib.hid hKB
      have HYY := Lib.hid hy
      clear hJB hKB hy hr0i hpy
      simp only [RowB.enc]
      gi_wp2
      refine ⟨Below.refl _ _, ?_⟩
      rintro W4 hk4 ⟨r4, hr4⟩
      have hw := HWW.out
      have hs2 := HS2.out
      have hwi := HW2i.out
      have hlt := HLT.out
      have ha2 := HA2.out
      have HK4 := Lib.hid (show Kept (fun k => Z k ∨ wi.heap.size ≤ k) wi W4 from HKB.out.trans (hk4.mono fun k _ e => .inr (by omega)))
      have HJ4 := Lib.hid (HJ.out _ _ _ HJB.out (hk4.mono fun k _ e => by omega))
      have hxl : ∀ a, Ax = some a → a.block < wi.heap.size := fun a ha => by
        obtain ⟨b, o, e, hc⟩ := HXi.out.pers.at_ HXi.out.pos
        rw [ha] at e; injection e with e; subst e
        exact cell_lt (hc 0 HXi.out.pos).1
      have HX4 := Lib.hid (show RowM Z f W4 Ax rx.length cx rx from ⟨HXi.out.pers.kept HK4.out (fun a ha e => e.elim (HXi.out.out a ha) (fun e => by have := hxl a ha; omega)), HXi.out.pos, HXi.out.out⟩)
      have HY4 := Lib.hid (show RowM Z f W4 Ay ry.length cy ry from (HYY.out.kept (hk4.mono fun k _ e => .inr e)).weak (fun k h => .inl h))
      have H44 := Lib.hid (HK4.out.blk H4i.out (fun e => e.elim (fun e => by have := HZ.out _ e; omega) (by have := blk_lt H4i.out; omega)))
      have H54 := Lib.hid (HK4.out.blk H5i.out (fun e => e.elim (fun e => by have := HZ.out _ e; omega) (by have := blk_lt H5i.out; omega)))
      have HME := Lib.hid (meetAtEnds_any f Ax Ay rx.length cx ry.length cy rx ry W4 HX4.out.pers HY4.out.pers HX4.out.pos HY4.out.pos)
      have c5 := blk_cell H54.out (i := 0) rfl
      clear hw hs2 hwi hlt ha2 hxl hk4 hr4
      by_cases hm : meetB rx ry = true
      · rw [hm] at HME
        have HM := Lib.hid hm
        clear hm
        gi_wp2
        refine ⟨trivial, hdd _, ?_⟩
        refine CallsIn.mono (CallsIn.inRound wi.heap.size (callsIn_wide.2 HME.out)) ?_
        rintro e w5 ⟨rfl, hb5⟩
        have HB5 := Lib.hid hb5
        have c6 := blk_cell (blk_below H54.out hb5) (i := 0) rfl
        have c7 := blk_cell (blk_below H44.out hb5) (i := 0) rfl
        clear hb5 c5
        obtain ⟨fn, tmps, assign, body, hy5, hR5⟩ := HY.out _ ⟨Ax, cx, rx, Ay, cy, ry⟩ (m2 - 1) w5 (HJ.out _ _ _ HJ4.out (Kept.up _ HB5.out)) ⟨HX4.out.kept (Kept.up _ HB5.out), HY4.out.kept (Kept.up _ HB5.out)⟩ (prs_pre HM.out HPX.out HPY.out)
        simp only [PairB.enc] at hy5
        gi_wp2
        refine ⟨hdd _, ?_⟩
        refine RoundIn.mono (RoundIn.inR hR5) ?_
        rintro e w6 ⟨rfl, hj6, hk6⟩
        have HJ6 := Lib.hid hj6
        have HK6 := Lib.hid hk6
        clear hy5 hR5 c6 c7 hj6 hk6
        gi_wp2
        refine ⟨(Kept.up _ HB5.out).trans HK6.out, ?_, ?_⟩
        · rw [prsM_yes HM.out, ← List.append_assoc]; exact HJ6.out
        · exact HK4.out.trans ((Kept.up _ HB5.out).trans (HK6.out.mono fun k _ h => .inl h))
      · have hm : meetB rx ry = false := by simpa using hm
        rw [hm] at HME
        have HM := Lib.hid hm
        clear hm
        gi_wp2
        refine ⟨trivial, hdd _, ?_⟩
        refine CallsIn.mono (CallsIn.inRound wi.heap.size (callsIn_wide.2 HME.out)) ?_
        rintro e w5 ⟨rfl, hb5⟩
        have HB5 := Lib.hid hb5
        clear hb5 c5
        gi_wp2
        refine ⟨fun _ h => (by cases h), ?_⟩
        gi_wp2
        refine ⟨Kept.up _ HB5.out, ?_, ?_⟩
        · rw [prsM_no HM.out]; exact HJ.out _ _ _ HJ4.out (Kept.up _ HB5.out)
        · exact HK4.out.trans (Kept.up _ HB5.out)
    case hdone2 =>
      rintro B ⟨hJB, hKB⟩ hKZ
      refine ⟨rfl, (Kept.up Z HBI.out).trans hKZ, ?_, ?_⟩
      · rw [List.flatMap_append]
        simpa [prsO] using hJB
      · exact (HK2.out.trans ((Kept.up _ HBI.out).trans (hKZ.mono fun k _ h => .inl h)))
  case hdone =>
    rintro W' ⟨hJ', hK'⟩ hD
    have hkp := Kept.put (fun k => w0.heap.size ≤ k) W' w0.heap.size (.deferred none) (Nat.le_refl _)
    refine ⟨by simp, .inl ⟨_, _, rfl, run_takeDeferred hD, ?_⟩⟩
    refine ⟨_, results_none rfl _ _ _, ⟨_, rfl⟩, HJ.out _ _ _ hJ' (hkp.mono fun k _ h => by have := HWW.out; omega), HK0.out.trans ((hK'.trans (hkp.mono fun k _ h => .inr h)).mono fun k hk h => h.elim id (fun e => absurd hk (by omega)))⟩
end Go.Proofs.Ytjmfkodbilknlaa

/- A region that draws its order in a round of a loop over a function, by an invariant. -/
namespace Go.Proofs.Ytjmfkodbilknlaa
open Go.RowKit Go.Shelf

def noDefer (ops : Array Oper) : Bool := ops.toList.all fun o => match o.op with
  | .defer _ => false
  | _ => true
theorem noDefer_at {ops : Array Oper} (h : noDefer ops = true) {i : Nat} {o : Oper} (ho : ops[i]? = some o) (c : Call) : o.op ≠ .defer c := by
  intro e
  have hm : o ∈ ops.toList := by
    obtain ⟨hi, rfl⟩ := Array.getElem?_eq_some_iff.1 ho
    simp
  have := List.all_eq_true.1 h o hm
  rw [e] at this
  cases this
section
variable {P : Program} {ops : Array Oper} {Q : Exit → Act → World → Prop} {l n : Nat}
theorem opsIn_of (hd : noDefer ops = true) (hQ : ¬ LetsOut Q) : ∀ L a w, wpOps P ops Q L a w → wpOpsIn (Fence.wide.inRound l) n P ops Q L a w
  | [], a, w, h => h
  | i :: rest, a, w, h => by
    have ih := opsIn_of hd hQ rest
    have hdd : ∀ k : Nat, ((Fence.wide.inRound l).depth.isSome = true → 1 ≤ k) := fun k h => by simp [Fence.wide] at h
    simp only [wpOps] at h
    simp only [wpOpsIn]
    cases ho : ops[i]? with
    | none => simp only [ho] at h; exact ih _ _ h
    | some o =>
      simp only [ho] at h
      simp only []
      split
      · rename_i hw
        rw [if_pos hw] at h
        rcases h with h | ⟨_, h⟩
        · refine ⟨fun _ _ => trivial, ?_⟩
          rw [Oper.semAt_eq _ _ _ (noDefer_at hd ho)]
          unfold Oper.wp at h
          generalize (execOp a.eval o).run P w = r at h ⊢
          cases r with
          | ok x w' =>
            cases x <;> simp only [Oper.upon, Oper.uponIn] at h ⊢ <;>
              first
                | exact ih _ _ h
                | exact ⟨hdd _, (CallsIn.inRound l (callsIn_wide.2 h)).mono (fun e w'' he => by cases e <;> first | exact ih _ _ he | exact he)⟩
                | exact ⟨hdd _, fun c cs _ => let ⟨v, w2, r, s⟩ := h c cs; ⟨v, w2, ih _ _ r, stepsIn_wide.2 s⟩⟩
                | exact h.elim
          | halt x w' => cases x <;> simp only [Oper.upon, Oper.uponIn] at h ⊢ <;> first | exact h | exact h.elim
        · exact absurd h hQ
      · rename_i hw
        rw [if_neg hw] at h
        exact ⟨fun _ _ => trivial, ih _ _ h⟩
theorem region_round_inv {id : Nat} {a : Act} {w : World} {rs : List Nat} (ds : List Nat) (J : Array Bool → List Value → World → Prop) (hm : P.follows .mixedOrders = true) (hd : noDefer ops = true) (hQ : ¬ LetsOut Q)
    (h0 : ∃ us, a = frmL a ds us ∧ J (Array.replicate ops.size false) us w.drew)
    (hr : List.range ops.size = rs) (he : earlierB ops = true) (hs : StepsI P ops Q (FI a ds J) rs) (hend : ∀ L us w, (∀ i, i ∈ rs → On L i) → J L us w → Q .normal (frmL a ds us) w) : (Code.region id ops true).wpIn (Fence.wide.inRound l) n P Q a w :=
  wpIn_region_draw fun t => by
    simp only [Region.schedule, hm, Bool.true_or, if_true]
    refine opsIn_of hd hQ _ _ _ (wpAny_sound ops.size t _ a _ ?_)
    exact wpAny_inv (I := FI a ds J) (fun i hi => hs i (by rw [← hr]; exact List.mem_range.2 hi)) he (fun L a' w h ⟨us, e, hJ⟩ => by subst e; exact hend L us w (fun i hi => h i (by rw [← hr] at hi; exact List.mem_range.1 hi)) hJ) ops.size _ a _ (by simp)
      (by rw [Array.toList_replicate]; exact Nat.le_trans List.countP_le_length (by simp)) h0
end
theorem putQ_out (a : Act) (ds : List Nat) (F : List Value → World → Prop) : ¬ LetsOut (PutQ a ds F) := fun ⟨_, _, h⟩ => h
end Go.Proofs.Ytjmfkodbilknlaa

/- Kin and inbred, by the program. -/
namespace Go.Proofs.Ytjmfkodbilknlaa
open Go.RowKit

/-- What kin says of people whose numbers together are less than N. -/
def KinC (N g n : Nat) (f : List (List Int)) : Prop := ∀ i j : Nat, i < n → j < n → i + j < N → ∀ w : World, PE w g n f →
  Calls Try.prog 54 #[.slice (some ⟨g, 0, none⟩) n n, peV f i, peV f j] w (Ret (fK (kK f i j)) w)
/-- The boxes of a person that is asked about and of the result. -/
structure IX (w : World) (W : World) : Prop where
  b1 : Blk W (w.heap.size + 1) 25 #[.int .i64 0, .int .i64 0]
  up : Below w.heap.size w W
theorem IX.next {w W W'} (h : IX w W) (k : Below W.heap.size W W') : IX w W' := ⟨blk_below h.b1 k, below_up h.up k⟩
set_option maxRecDepth 100000 in
set_option maxHeartbeats 2000000 in
theorem inbredI_of (N g n : Nat) (f : List (List Int)) (v : VPe f) (hn : f.length = n) (IH : KinC N g n f) (i : Nat) (hi : i < n) (hN : 2 * i ≤ N) (w : World) (HE : PE w g n f) :
    Calls Try.prog 48 #[.slice (some ⟨g, 0, none⟩) n n, peV f i] w (Ret (fK (bK f i)) w) := by
  have hpar := v.par (i := i) (by omega)
  have b1 := blk_new (w.alloc (.cells #[.int .i64 i, .int .i64 (g2 f i 0), .int .i64 (g2 f i 1)] 65)) 25 #[.int .i64 0, .int .i64 0]
  rw [World.size_alloc] at b1
  have HI := Lib.hid (show IX w ((w.alloc (.cells #[.int .i64 i, .int .i64 (g2 f i 0), .int .i64 (g2 f i 1)] 65)).alloc (.cells #[.int .i64 0, .int .i64 0] 25)) from ⟨b1, below_up (below_alloc _ _) (below_alloc _ _)⟩)
  have bp := blk_old (blk_new w 65 #[.int .i64 i, .int .i64 (g2 f i 0), .int .i64 (g2 f i 1)]) (.cells #[.int .i64 0, .int .i64 0] 25)
  have p0 := blk_cell bp (i := 0) rfl
  have p1 := blk_cell bp (i := 1) rfl
  have p2 := blk_cell bp (i := 2) rfl
  have HPE := Lib.hid (HE.keep (Keep.below HI.out.up))
  have HPV : Hid (peV f i = .agg #[.int .i64 i, .int .i64 (g2 f i 0), .int .i64 (g2 f i 1)]) := Lib.hid rfl
  obtain ⟨U, D, hform⟩ := fK_form (bK f i)
  have HFORM := Lib.hid hform
  clear b1 bp hform
  rcases hpar with ⟨hp, hq⟩ | ⟨hp, hq, _⟩
  · have HK := Lib.hid (show bK f i = 0 by unfold bK; rw [if_pos (by omega)])
    have HPA := Lib.hid (fun W => HPV.out ▸ parentsNone_any (.slice (some ⟨g, 0, none⟩) n n) f i hp W)
    have HC := Lib.hid (fun W => fracK_impl 0 1 (bK f i) W (by omega) (by omega) (by rw [HK.out]; rfl))
    rw [HFORM.out] at HC ⊢
    rw [HPV.out]
    clear HPV HK hp hq v IH HE
    generalize g2 f i 0 = x at *
    generalize g2 f i 1 = y at *
    have qT : ∀ (w : World) (a : Option Addr) (n c n' c' : Nat), (binOp .eql 58 (.slice a n c) (.slice none n' c')).run Try.prog w = .ok (.bool a.isNone) w := fun w a n c n' c' => Lib.run_eql_slice_nil w _ _ a n c n' c' Try.underlying58
    go_enter Try.func48, Try.ntmps48
    go_wp2_with fail
    refine (HPA.out _).mono ?_
    rintro e w2 ⟨rfl, hb⟩
    have HI := Lib.hid (HI.out.next hb)
    clear hb HPA p0 p1 p2
    go_wp2_with fail
    refine (HC.out _).mono ?_
    rintro e w3 ⟨rfl, hb⟩
    have HI := Lib.hid (HI.out.next hb)
    clear hb HC
    have d0 := blk_cell HI.out.b1 (i := 0) rfl
    have d1 := blk_cell HI.out.b1 (i := 1) rfl
    have f0 := blk_frozen HI.out.b1 0
    have f1 := blk_frozen HI.out.b1 1
    go_wp2
    clear d0 d1 f0 f1
    have B1 := blk_set (blk_set HI.out.b1 0 (.int .i64 U)) 1 (.int .i64 D)
    have r0 := blk_cell B1 (i := 0) (v := .int .i64 U) rfl
    have r1 := blk_cell B1 (i := 1) (v := .int .i64 D) rfl
    have HBX := Lib.hid ((HI.out.up.setCell (p := ⟨w.heap.size + 1, 0, none⟩) (Nat.le_succ _) (.int .i64 U)).setCell (p := ⟨w.heap.size + 1, 1, none⟩) (Nat.le_succ _) (.int .i64 D))
    clear B1
    generalize ((w3.setCell ⟨w.heap.size + 1, 0, none⟩ (.int .i64 U)).setCell ⟨w.heap.size + 1, 1, none⟩ (.int .i64 D)) = WE at *
    refine bodyPost_ret (v := .agg #[.int .i64 U, .int .i64 D]) (by simp [results, Try.results48, go_sem, r0, r1]) rfl ?_
    exact ⟨rfl, HBX.out⟩
  · obtain ⟨p, ep⟩ : ∃ p : Nat, g2 f i 0 = p := ⟨_, (Int.toNat_of_nonneg hp.1).symm⟩
    obtain ⟨q, eq⟩ : ∃ q : Nat, g2 f i 1 = q := ⟨_, (Int.toNat_of_nonneg hq.1).symm⟩
    have HK := Lib.hid (show kK f p q = bK f i by unfold bK; rw [if_neg (by omega), ep, eq, Int.toNat_natCast, Int.toNat_natCast])
    have HPA := Lib.hid (fun W h => HPV.out ▸ parentsTwo_any g n f i p q ep eq (by omega) (by omega) W h)
    have HC := Lib.hid (fun W h => IH p q (by omega) (by omega) (by omega) W h)
    rw [HK.out] at HC
    rw [HFORM.out] at HC ⊢
    rw [HPV.out]
    have HPP : Hid (peV f p = .agg #[.int .i64 p, .int .i64 (g2 f p 0), .int .i64 (g2 f p 1)]) := Lib.hid rfl
    have HPQ : Hid (peV f q = .agg #[.int .i64 q, .int .i64 (g2 f q 0), .int .i64 (g2 f q 1)]) := Lib.hid rfl
    rw [HPP.out, HPQ.out] at HC
    clear HPV HK hp hq v IH HE ep eq HPP HPQ
    generalize g2 f i 0 = x at *
    generalize g2 f i 1 = y at *
    have qT : ∀ (w : World) (a : Option Addr) (n c n' c' : Nat), (binOp .eql 58 (.slice a n c) (.slice none n' c')).run Try.prog w = .ok (.bool a.isNone) w := fun w a n c n' c' => Lib.run_eql_slice_nil w _ _ a n c n' c' Try.underlying58
    go_enter Try.func48, Try.ntmps48
    go_wp2_with fail
    refine (HPA.out _ HPE.out).mono ?_
    rintro e w2 ⟨h, rfl, hp2, _, hb⟩
    have HI := Lib.hid (HI.out.next hb)
    have HPE := Lib.hid (HPE.out.keep (Keep.below hb))
    clear hb HPA p0 p1 p2
    obtain ⟨⟨a0, a1, a2⟩, a3, a4, a5⟩ := hp2
    go_wp2
    go_still_tail 7, (by kernel_rfl)
    have HI := Lib.hid (HI.out.next (Quiet.below (B := w2.heap.size) (w' := w2.drew) ⟨1, rfl⟩))
    have HPE := Lib.hid (show PE w2.drew g n f from HPE.out.keep (Keep.drewN _ 1))
    change wpList _ _ _ _ _ w2.drew
    generalize w2.drew = w3 at *
    go_wp2_with fail
    refine (HC.out _ HPE.out).mono ?_
    rintro e w4 ⟨rfl, hb⟩
    have HI := Lib.hid (HI.out.next hb)
    clear hb HC
    have d0 := blk_cell HI.out.b1 (i := 0) rfl
    have d1 := blk_cell HI.out.b1 (i := 1) rfl
    have f0 := blk_frozen HI.out.b1 0
    have f1 := blk_frozen HI.out.b1 1
    go_wp2
    clear d0 d1 f0 f1
    have B1 := blk_set (blk_set HI.out.b1 0 (.int .i64 U)) 1 (.int .i64 D)
    have r0 := blk_cell B1 (i := 0) (v := .int .i64 U) rfl
    have r1 := blk_cell B1 (i := 1) (v := .int .i64 D) rfl
    have HBX := Lib.hid ((HI.out.up.setCell (p := ⟨w.heap.size + 1, 0, none⟩) (Nat.le_succ _) (.int .i64 U)).setCell (p := ⟨w.heap.size + 1, 1, none⟩) (Nat.le_succ _) (.int .i64 D))
    clear B1
    generalize ((w4.setCell ⟨w.heap.size + 1, 0, none⟩ (.int .i64 U)).setCell ⟨w.heap.size + 1, 1, none⟩ (.int .i64 D)) = WE at *
    refine bodyPost_ret (v := .agg #[.int .i64 U, .int .i64 D]) (by simp [results, Try.results48, go_sem, r0, r1]) rfl ?_
    exact ⟨rfl, HBX.out⟩

/-- The boxes of kin: the result's, both people's. -/
structure KY (w : World) (a7 a8 : Nat) (f : List (List Int)) (i j : Nat) (W : World) : Prop where
  b6 : Blk W (w.heap.size + 1 + 1) 25 #[.int .i64 0, .int .i64 0]
  b7 : Blk W a7 65 #[.int .i64 i, .int .i64 (g2 f i 0), .int .i64 (g2 f i 1)]
  b8 : Blk W a8 65 #[.int .i64 j, .int .i64 (g2 f j 0), .int .i64 (g2 f j 1)]
  ne : a7 ≠ a8
  l7 : w.heap.size + 1 + 1 < a7
  l8 : w.heap.size + 1 + 1 < a8
  up : Below w.heap.size w W
/-- The boxes of kin: the result's, the earlier one's, and the sum's. -/
structure KX (w : World) (a7 a9 : Nat) (f : List (List Int)) (e : Nat) (U D : Int) (W : World) : Prop where
  b6 : Blk W (w.heap.size + 1 + 1) 25 #[.int .i64 0, .int .i64 0]
  b7 : Blk W a7 65 #[.int .i64 e, .int .i64 (g2 f e 0), .int .i64 (g2 f e 1)]
  b9 : Blk W a9 25 #[.int .i64 U, .int .i64 D]
  l9 : w.heap.size + 1 + 1 < a9
  ne : a7 ≠ a9
  up : Below w.heap.size w W
theorem KX.next {w a7 a9 f e U D W W'} (h : KX w a7 a9 f e U D W) (k : Below W.heap.size W W') : KX w a7 a9 f e U D W' := ⟨blk_below h.b6 k, blk_below h.b7 k, blk_below h.b9 k, h.l9, h.ne, below_up h.up k⟩
theorem KX.set {w a7 a9 f e U D W} (h : KX w a7 a9 f e U D W) (U' D' : Int) : KX w a7 a9 f e U' D' ((W.setCell ⟨a9, 0, none⟩ (.int .i64 U')).setCell ⟨a9, 1, none⟩ (.int .i64 D')) := by
  have hl := h.l9
  refine ⟨blk_other (blk_other h.b6 (p := ⟨a9, 0, none⟩) (by show w.heap.size + 1 + 1 ≠ a9; omega) _) (p := ⟨a9, 1, none⟩) (by show w.heap.size + 1 + 1 ≠ a9; omega) _, blk_other (blk_other h.b7 (p := ⟨a9, 0, none⟩) h.ne _) (p := ⟨a9, 1, none⟩) h.ne _, blk_set (blk_set h.b9 0 _) 1 _, hl, h.ne, (h.up.setCell (p := ⟨a9, 0, none⟩) (by show w.heap.size ≤ a9; omega) _).setCell (p := ⟨a9, 1, none⟩) (by show w.heap.size ≤ a9; omega) _⟩
theorem KY.next {w a7 a8 f i j W W'} (h : KY w a7 a8 f i j W) (k : Below W.heap.size W W') : KY w a7 a8 f i j W' := ⟨blk_below h.b6 k, blk_below h.b7 k, blk_below h.b8 k, h.ne, h.l7, h.l8, below_up h.up k⟩
theorem KY.swap {w a7 a8 f i j V} (h : KY w a7 a8 f i j V) : KY w a7 a8 f j i ((((((V.setCell ⟨a7, 0, none⟩ (.int .i64 j)).setCell ⟨a7, 1, none⟩ (.int .i64 (g2 f j 0))).setCell ⟨a7, 2, none⟩ (.int .i64 (g2 f j 1))).setCell ⟨a8, 0, none⟩ (.int .i64 i)).setCell ⟨a8, 1, none⟩ (.int .i64 (g2 f i 0))).setCell ⟨a8, 2, none⟩ (.int .i64 (g2 f i 1))) := by
  have h7 := h.l7
  have h8 := h.l8
  have n7 : ∀ k, w.heap.size + 1 + 1 ≠ (⟨a7, k, none⟩ : Addr).block := fun k => by show w.heap.size + 1 + 1 ≠ a7; omega
  have n8 : ∀ k, w.heap.size + 1 + 1 ≠ (⟨a8, k, none⟩ : Addr).block := fun k => by show w.heap.size + 1 + 1 ≠ a8; omega
  have l7 : ∀ k, w.heap.size ≤ (⟨a7, k, none⟩ : Addr).block := fun k => by show w.heap.size ≤ a7; omega
  have l8 : ∀ k, w.heap.size ≤ (⟨a8, k, none⟩ : Addr).block := fun k => by show w.heap.size ≤ a8; omega
  refine ⟨?_, ?_, ?_, h.ne, h7, h8, ?_⟩
  · exact blk_other (blk_other (blk_other (blk_other (blk_other (blk_other h.b6 (n7 0) _) (n7 1) _) (n7 2) _) (n8 0) _) (n8 1) _) (n8 2) _
  · exact blk_other (p := ⟨a8, 2, none⟩) (blk_other (p := ⟨a8, 1, none⟩) (blk_other (p := ⟨a8, 0, none⟩) (blk_set (blk_set (blk_set h.b7 0 _) 1 _) 2 _) h.ne _) h.ne _) h.ne _
  · exact blk_set (blk_set (blk_set (blk_other (p := ⟨a7, 2, none⟩) (blk_other (p := ⟨a7, 1, none⟩) (blk_other (p := ⟨a7, 0, none⟩) h.b8 h.ne.symm _) h.ne.symm _) h.ne.symm _) 0 _) 1 _) 2 _
  · exact (((((h.up.setCell (l7 0) _).setCell (l7 1) _).setCell (l7 2) _).setCell (l8 0) _).setCell (l8 1) _).setCell (l8 2) _
def tg (x y : Int) : Nat → Int
  | 0 => 0
  | 1 => x
  | _ => x + y
set_option maxRecDepth 100000 in
set_option maxHeartbeats 4000000 in
theorem kinI_any (g n : Nat) (f : List (List Int)) (v : VPe f) (hn : f.length = n) : ∀ N, KinC N g n f
  | 0 => fun i j hi hj h => absurd h (by omega)
  | N + 1 => by
    have IH := kinI_any g n f v hn N
    intro i j hi hj hN w HE
    have n6 := v.n6
    have HB3 := Lib.hid (below_up (below_up (below_alloc w (.cells #[.int .i64 i, .int .i64 (g2 f i 0), .int .i64 (g2 f i 1)] 65)) (below_alloc _ (.cells #[.int .i64 j, .int .i64 (g2 f j 0), .int .i64 (g2 f j 1)] 65))) (below_alloc _ (.cells #[.int .i64 0, .int .i64 0] 25)))
    have b4 := blk_old (blk_old (blk_new w 65 #[.int .i64 i, .int .i64 (g2 f i 0), .int .i64 (g2 f i 1)]) (.cells #[.int .i64 j, .int .i64 (g2 f j 0), .int .i64 (g2 f j 1)] 65)) (.cells #[.int .i64 0, .int .i64 0] 25)
    have b5 := blk_old (blk_new (w.alloc (.cells #[.int .i64 i, .int .i64 (g2 f i 0), .int .i64 (g2 f i 1)] 65)) 65 #[.int .i64 j, .int .i64 (g2 f j 0), .int .i64 (g2 f j 1)]) (.cells #[.int .i64 0, .int .i64 0] 25)
    have b6 := blk_new ((w.alloc (.cells #[.int .i64 i, .int .i64 (g2 f i 0), .int .i64 (g2 f i 1)] 65)).alloc (.cells #[.int .i64 j, .int .i64 (g2 f j 0), .int .i64 (g2 f j 1)] 65)) 25 #[.int .i64 0, .int .i64 0]
    rw [World.size_alloc] at b5
    simp only [World.size_alloc] at b6
    have HB6 := Lib.hid b6
    have HPE := Lib.hid (HE.keep (Keep.below HB3.out))
    have p0 := blk_cell b4 (i := 0) rfl
    have p1 := blk_cell b4 (i := 1) rfl
    have p2 := blk_cell b4 (i := 2) rfl
    have s0 := blk_cell b5 (i := 0) rfl
    have s1 := blk_cell b5 (i := 1) rfl
    have s2 := blk_cell b5 (i := 2) rfl
    have HPI : Hid (peV f i = .agg #[.int .i64 i, .int .i64 (g2 f i 0), .int .i64 (g2 f i 1)]) := Lib.hid rfl
    have HPJ : Hid (peV f j = .agg #[.int .i64 j, .int .i64 (g2 f j 0), .int .i64 (g2 f j 1)]) := Lib.hid rfl
    clear b4 b5 b6
    by_cases hij : i = j
    · subst hij
      have HIB := Lib.hid (fun W h => inbredI_of N g n f v hn IH i hi (by omega) W h)
      have hbd := bK_bd f i
      have hkb := kK_bK v (i := i) (by omega)
      have HV : Hid (frV (64 + bK f i) (64 * 2 ^ 1) = fK (kK f i i)) := Lib.hid (frV_K (by decide) (by omega))
      have HH := Lib.hid (fun W => HV.out ▸ halved_any (bK f i) 1 (by omega) (by omega) W)
      obtain ⟨U, D, hform⟩ := fK_form (kK f i i)
      rw [hform] at HH ⊢
      rw [HPI.out] at HIB ⊢
      clear hform HV hbd hkb v IH HE HPI HPJ
      generalize g2 f i 0 = x at *
      generalize g2 f i 1 = y at *
      go_enter Try.func54, Try.ntmps54
      go_wp2_with fail
      refine (HIB.out _ HPE.out).mono ?_
      rintro e w2 ⟨rfl, hb⟩
      have HB3 := Lib.hid (below_up HB3.out hb)
      have HB6 := Lib.hid (blk_below HB6.out hb)
      clear hb HIB p0 p1 p2 s0 s1 s2
      go_wp2_with fail
      refine (HH.out _).mono ?_
      rintro e w3 ⟨rfl, hb⟩
      have HB3 := Lib.hid (below_up HB3.out hb)
      have HB6 := Lib.hid (blk_below HB6.out hb)
      clear hb HH
      have d0 := blk_cell HB6.out (i := 0) rfl
      have d1 := blk_cell HB6.out (i := 1) rfl
      have f0 := blk_frozen HB6.out 0
      have f1 := blk_frozen HB6.out 1
      go_wp2
      clear d0 d1 f0 f1
      have B1 := blk_set (blk_set HB6.out 0 (.int .i64 U)) 1 (.int .i64 D)
      have r0 := blk_cell B1 (i := 0) (v := .int .i64 U) rfl
      have r1 := blk_cell B1 (i := 1) (v := .int .i64 D) rfl
      have hle : w.heap.size ≤ w.heap.size + 1 + 1 := by omega
      have HBX := Lib.hid ((HB3.out.setCell (p := ⟨w.heap.size + 1 + 1, 0, none⟩) hle (.int .i64 U)).setCell (p := ⟨w.heap.size + 1 + 1, 1, none⟩) hle (.int .i64 D))
      clear B1
      generalize ((w3.setCell ⟨w.heap.size + 1 + 1, 0, none⟩ (.int .i64 U)).setCell ⟨w.heap.size + 1 + 1, 1, none⟩ (.int .i64 D)) = WE at *
      refine bodyPost_ret (v := .agg #[.int .i64 U, .int .i64 D]) (by simp [results, Try.results54, go_sem, r0, r1]) rfl ?_
      exact ⟨rfl, HBX.out⟩
    · have e2 : ((i : Int) == (j : Int)) = false := by simp; omega
      obtain ⟨U6, D6, hform⟩ := fK_form (kK f i j)
      have HFORM := Lib.hid hform
      rw [hform, HPI.out, HPJ.out]
      clear hform HPI HPJ
      go_enter Try.func54, Try.ntmps54
      go_wp2
      generalize ((w.alloc (.cells #[.int .i64 i, .int .i64 (g2 f i 0), .int .i64 (g2 f i 1)] 65)).alloc (.cells #[.int .i64 j, .int .i64 (g2 f j 0), .int .i64 (g2 f j 1)] 65)).alloc (.cells #[.int .i64 0, .int .i64 0] 25) = W3 at *
      have HZ1 := Keep.below (below_alloc W3 (.cells #[.int .i64 0, .int .i64 0, .int .i64 0] 65))
      have HZ2 := Keep.below (below_alloc (W3.alloc (.cells #[.int .i64 0, .int .i64 0, .int .i64 0] 65)) (.cells #[.int .i64 0, .int .i64 0, .int .i64 0] 65))
      have p0a := HZ1 _ _ p0
      have p0b := HZ2 _ _ p0a
      have p1a := HZ1 _ _ p1
      have p1b := HZ2 _ _ p1a
      have p2a := HZ1 _ _ p2
      have p2b := HZ2 _ _ p2a
      have s0a := HZ1 _ _ s0
      have s0b := HZ2 _ _ s0a
      have s1a := HZ1 _ _ s1
      have s1b := HZ2 _ _ s1a
      have s2a := HZ1 _ _ s2
      have s2b := HZ2 _ _ s2a
      have HZc := Keep.below (below_alloc (W3.alloc (.cells #[.int .i64 0, .int .i64 0, .int .i64 0] 65)) (.cells #[.int .i64 i, .int .i64 (g2 f i 0), .int .i64 (g2 f i 1)] 65))
      have HZd := Keep.below (below_up (below_alloc W3 (.cells #[.int .i64 i, .int .i64 (g2 f i 0), .int .i64 (g2 f i 1)] 65)) (below_alloc _ (.cells #[.int .i64 0, .int .i64 0, .int .i64 0] 65)))
      have s0c := HZc _ _ s0a
      have s0q := HZd _ _ s0
      have s1c := HZc _ _ s1a
      have s1q := HZd _ _ s1
      have s2c := HZc _ _ s2a
      have s2q := HZd _ _ s2
      clear HZ1 HZ2 HZc HZd
      apply region_put [19, 20, 7, 8] (fun us v => ∃ a7 a8, us = [.agg #[.int .i64 i, .int .i64 (g2 f i 0), .int .i64 (g2 f i 1)], .agg #[.int .i64 j, .int .i64 (g2 f j 0), .int .i64 (g2 f j 1)], .pointer (some ⟨a7, 0, none⟩), .pointer (some ⟨a8, 0, none⟩)] ∧ Hid (KY w a7 a8 f i j v))
      · have HL := blk_lt HB6.out
        have HE1 : Hid (KY w W3.heap.size (W3.heap.size + 1) f i j ((W3.alloc (.cells #[.int .i64 i, .int .i64 (g2 f i 0), .int .i64 (g2 f i 1)] 65)).alloc (.cells #[.int .i64 j, .int .i64 (g2 f j 0), .int .i64 (g2 f j 1)] 65)).drew) := Lib.hid ⟨blk_old (blk_old HB6.out _) _, blk_old (blk_new W3 _ _) _, by have b := blk_new (W3.alloc (.cells #[.int .i64 i, .int .i64 (g2 f i 0), .int .i64 (g2 f i 1)] 65)) 65 #[.int .i64 j, .int .i64 (g2 f j 0), .int .i64 (g2 f j 1)]; rw [World.size_alloc] at b; exact b, by omega, HL, by omega, below_quiet (below_up (below_up HB3.out (below_alloc _ _)) (below_alloc _ _)) ⟨1, rfl⟩⟩
        have HE2 : Hid (KY w (W3.heap.size + 1) W3.heap.size f i j ((W3.alloc (.cells #[.int .i64 j, .int .i64 (g2 f j 0), .int .i64 (g2 f j 1)] 65)).alloc (.cells #[.int .i64 i, .int .i64 (g2 f i 0), .int .i64 (g2 f i 1)] 65)).drew) := Lib.hid ⟨blk_old (blk_old HB6.out _) _, by have b := blk_new (W3.alloc (.cells #[.int .i64 j, .int .i64 (g2 f j 0), .int .i64 (g2 f j 1)] 65)) 65 #[.int .i64 i, .int .i64 (g2 f i 0), .int .i64 (g2 f i 1)]; rw [World.size_alloc] at b; exact b, blk_old (blk_new W3 _ _) _, by omega, by omega, HL, below_quiet (below_up (below_up HB3.out (below_alloc _ _)) (below_alloc _ _)) ⟨1, rfl⟩⟩
        clear HL
        go_region
        all_goals first
          | exact PutQ.mk _ (by simp only [frmL, Act.put, List.setIfInBounds_toArray, List.set_cons_zero, List.set_cons_succ]) ⟨_, _, rfl, HE1⟩
          | exact PutQ.mk _ (by simp only [frmL, Act.put, List.setIfInBounds_toArray, List.set_cons_zero, List.set_cons_succ]) ⟨_, _, rfl, HE2⟩
          | fail
      · rintro _ V ⟨a7, a8, rfl, HK⟩
        simp only [frmL, Act.put, List.setIfInBounds_toArray, List.set_cons_zero, List.set_cons_succ]
        clear HB3 HB6 HPE p0 p0a p0b p1 p1a p1b p2 p2a p2b s0 s0a s0b s1 s1a s1b s2 s2a s2b s0c s0q s1c s1q s2c s2q
        have t0 := blk_cell HK.out.b7 (i := 0) rfl
        have t1 := blk_cell HK.out.b7 (i := 1) rfl
        have t2 := blk_cell HK.out.b7 (i := 2) rfl
        have u0 := blk_cell HK.out.b8 (i := 0) rfl
        have u1 := blk_cell HK.out.b8 (i := 1) rfl
        have u2 := blk_cell HK.out.b8 (i := 2) rfl
        by_cases hlt : j < i
        · have x0 := blk_frozen HK.out.b7 0
          have x1 := blk_frozen HK.out.b7 1
          have x2 := blk_frozen HK.out.b7 2
          have y0 := blk_frozen HK.out.b8 0
          have y1 := blk_frozen HK.out.b8 1
          have y2 := blk_frozen HK.out.b8 2
          have e3 : decide ((j : Int) < (i : Int)) = true := by simp; omega
          have hne := HK.out.ne
          have hne2 := HK.out.ne.symm
          have HK := Lib.hid HK.out.swap
          have lb := blk_cell HK.out.b8 (i := 0) rfl
          have HC0 : Hid (∀ W, Calls Try.prog 44 #[.int .i64 0, .int .i64 1] W (Ret (.agg #[.int .i64 (frU 0 64), .int .i64 (frD 0 64)]) W)) := Lib.hid (fun W => fracK_impl 0 1 0 W (by omega) (by omega) rfl)
          have HF2 := Lib.hid (fun W => fracOf_any 2 1 W (by unfold Mid; omega) (by unfold Mid; omega) (by omega))
          clear lb
          go_wp2_with fail
          refine (HC0.out _).mono ?_
          rintro e w4 ⟨rfl, hb⟩
          have HK4 := Lib.hid (HK.out.next hb)
          clear hb HK HC0
          have HX := Lib.hid (show KX w a7 w4.heap.size f j (frU 0 64) (frD 0 64) (w4.alloc (.cells #[.int .i64 (frU 0 64), .int .i64 (frD 0 64)] 25)) from
            ⟨blk_old HK4.out.b6 _, blk_old HK4.out.b7 _, blk_new w4 _ _, Nat.lt_of_lt_of_le HK4.out.l7 (Nat.le_of_lt (blk_lt HK4.out.b7)), Nat.ne_of_lt (blk_lt HK4.out.b7), below_up HK4.out.up (below_alloc _ _)⟩)
          have g8 := blk_old HK4.out.b8 (.cells #[.int .i64 (frU 0 64), .int .i64 (frD 0 64)] 25)
          have k0 := blk_cell g8 (i := 0) rfl
          have k1 := blk_cell g8 (i := 1) rfl
          have k2 := blk_cell g8 (i := 2) rfl
          clear g8 HK4
          have HOF := Lib.hid (kK_off v (i := i) (j := j) (by omega) (by omega))
          rcases v.par (i := i) (by omega) with ⟨hp, hq⟩ | ⟨hp, hq, _⟩
          · have HPA : Hid (∀ W, Calls Try.prog 74 #[.slice (some ⟨g, 0, none⟩) n n, .agg #[.int .i64 i, .int .i64 (g2 f i 0), .int .i64 (g2 f i 1)]] W (Ret (.slice none 0 0) W)) := Lib.hid (fun W => parentsNone_any (.slice (some ⟨g, 0, none⟩) n n) f i hp W)
            have HOV : Hid (∀ W, Calls Try.prog 73 #[.agg #[.int .i64 (frU 0 64), .int .i64 (frD 0 64)], frV 2 1] W (Ret (.agg #[.int .i64 U6, .int .i64 D6]) W)) := Lib.hid (fun W => by
              have h := overK_impl 0 64 2 1 (kK f i j) 64 W (by omega) (by omega) (by omega) (by omega) (by omega) (by have := HOF.out; rw [if_pos (by omega)] at this; omega)
              have e9 : frV (kK f i j) 64 = .agg #[.int .i64 U6, .int .i64 D6] := HFORM.out
              rw [e9] at h
              exact h)
            clear HOF hp hq IH
            generalize frU 0 64 = U0 at *
            generalize frD 0 64 = D0 at *
            go_wp2_with fail
            generalize w4.alloc (.cells #[.int .i64 U0, .int .i64 D0] 25) = W5 at *
            generalize w4.heap.size = a9 at *
            refine (HPA.out _).mono ?_
            rintro e w6 ⟨rfl, hb⟩
            have HX := Lib.hid (HX.out.next hb)
            clear hb HPA k0 k1 k2
            go_wp2
            go_loopw [33] (fun i_ wr => i_ = .int .i64 0 ∧ Hid (KX w a7 a9 f j U0 D0 wr)) (fun _ _ => 0)
            case atStart => exact ⟨rfl, HX⟩
            case round =>
              clear HX
              obtain ⟨rfl, HX⟩ := hrel
              have m0 := blk_cell HX.out.b9 (i := 0) rfl
              have m1 := blk_cell HX.out.b9 (i := 1) rfl
              go_wp2
              go_region_law ((first
                | (go_simp; go_at_call 44; (with_reducible refine (HF2.out _).mono ?_); rintro e x1 ⟨rfl, hb⟩; have HX := Lib.hid ((HX.out.next (Quiet.below ⟨1, rfl⟩)).next hb); have m0 := blk_cell HX.out.b9 (i := 0) rfl; have m1 := blk_cell HX.out.b9 (i := 1) rfl; clear hb)
                | (go_simp; go_at_call 73; (with_reducible refine (HOV.out _).mono ?_); rintro e x2 ⟨rfl, hb⟩; have HX := Lib.hid (HX.out.next hb); have d0 := blk_cell HX.out.b6 (i := 0) rfl; have d1 := blk_cell HX.out.b6 (i := 1) rfl; have f0 := blk_frozen HX.out.b6 0; have f1 := blk_frozen HX.out.b6 1; clear hb)
                | fail))
              all_goals
                have B1 := blk_set (blk_set HX.out.b6 0 (.int .i64 U6)) 1 (.int .i64 D6)
                have r0 := blk_cell B1 (i := 0) (v := .int .i64 U6) rfl
                have r1 := blk_cell B1 (i := 1) (v := .int .i64 D6) rfl
                have hle : w.heap.size ≤ w.heap.size + 1 + 1 := by omega
                have HBX := Lib.hid ((HX.out.up.setCell (p := ⟨w.heap.size + 1 + 1, 0, none⟩) hle (.int .i64 U6)).setCell (p := ⟨w.heap.size + 1 + 1, 1, none⟩) hle (.int .i64 D6))
                clear d0 d1 f0 f1 m0 m1 B1
                go_wp2
                generalize ((x2.setCell ⟨w.heap.size + 1 + 1, 0, none⟩ (.int .i64 U6)).setCell ⟨w.heap.size + 1 + 1, 1, none⟩ (.int .i64 D6)) = WE at *
                refine bodyPost_ret (v := .agg #[.int .i64 U6, .int .i64 D6]) (by simp [results, Try.results54, go_sem, r0, r1]) rfl ?_
                exact ⟨rfl, HBX.out⟩
          · obtain ⟨p, ep⟩ : ∃ p : Nat, g2 f i 0 = p := ⟨_, (Int.toNat_of_nonneg hp.1).symm⟩
            obtain ⟨q, eq⟩ : ∃ q : Nat, g2 f i 1 = q := ⟨_, (Int.toNat_of_nonneg hq.1).symm⟩
            have HPA : Hid (∀ W, PE W g n f → Calls Try.prog 74 #[.slice (some ⟨g, 0, none⟩) n n, .agg #[.int .i64 i, .int .i64 (g2 f i 0), .int .i64 (g2 f i 1)]] W fun e w' => ∃ h, e = .returned (.slice (some ⟨h, 0, none⟩) 2 2) ∧ P2 w' h f p q ∧ W.heap.size ≤ h ∧ Below W.heap.size W w') := Lib.hid (fun W h => parentsTwo_any g n f i p q ep eq (by omega) (by omega) W h)
            have hof : 2 * kK f i j = kK f p j + kK f q j := by have := HOF.out; rw [if_neg (by omega), ep, eq, Int.toNat_natCast, Int.toNat_natCast] at this; exact this
            have hb1 := kK_bd f p j
            have hb2 := kK_bd f q j
            have HKIN0 : Hid (∀ W, PE W g n f → Calls Try.prog 54 #[.slice (some ⟨g, 0, none⟩) n n, .agg #[.int .i64 p, .int .i64 (g2 f p 0), .int .i64 (g2 f p 1)], .agg #[.int .i64 j, .int .i64 (g2 f j 0), .int .i64 (g2 f j 1)]] W (Ret (fK (kK f p j)) W)) := Lib.hid (fun W h => IH p j (by omega) (by omega) (by omega) W h)
            have HKIN1 : Hid (∀ W, PE W g n f → Calls Try.prog 54 #[.slice (some ⟨g, 0, none⟩) n n, .agg #[.int .i64 q, .int .i64 (g2 f q 0), .int .i64 (g2 f q 1)], .agg #[.int .i64 j, .int .i64 (g2 f j 0), .int .i64 (g2 f j 1)]] W (Ret (fK (kK f q j)) W)) := Lib.hid (fun W h => IH q j (by omega) (by omega) (by omega) W h)
            have HPLU0 : Hid (∀ W, Calls Try.prog 46 #[.agg #[.int .i64 (frU (tg (kK f p j) (kK f q j) 0) 64), .int .i64 (frD (tg (kK f p j) (kK f q j) 0) 64)], fK (kK f p j)] W (Ret (.agg #[.int .i64 (frU (tg (kK f p j) (kK f q j) 1) 64), .int .i64 (frD (tg (kK f p j) (kK f q j) 1) 64)]) W)) := Lib.hid (fun W => by
              have h := plusK_impl 0 (kK f p j) W (by omega) (by omega)
              rw [Int.zero_add] at h
              exact h)
            have HPLU1 : Hid (∀ W, Calls Try.prog 46 #[.agg #[.int .i64 (frU (tg (kK f p j) (kK f q j) 1) 64), .int .i64 (frD (tg (kK f p j) (kK f q j) 1) 64)], fK (kK f q j)] W (Ret (.agg #[.int .i64 (frU (tg (kK f p j) (kK f q j) 2) 64), .int .i64 (frD (tg (kK f p j) (kK f q j) 2) 64)]) W)) := Lib.hid (fun W => plusK_impl (kK f p j) (kK f q j) W (by omega) (by omega))
            have HOV : Hid (∀ W, Calls Try.prog 73 #[.agg #[.int .i64 (frU (tg (kK f p j) (kK f q j) 2) 64), .int .i64 (frD (tg (kK f p j) (kK f q j) 2) 64)], frV 2 1] W (Ret (.agg #[.int .i64 U6, .int .i64 D6]) W)) := Lib.hid (fun W => by
              have h := overK_impl (kK f p j + kK f q j) 64 2 1 (kK f i j) 64 W (by omega) (by omega) (by omega) (by omega) (by omega) (by omega)
              have e9 : frV (kK f i j) 64 = .agg #[.int .i64 U6, .int .i64 D6] := HFORM.out
              rw [e9] at h
              exact h)
            clear HOF hp hq IH hb1 hb2 hof ep eq
            have HX := Lib.hid (show KX w a7 w4.heap.size f j (frU (tg (kK f p j) (kK f q j) 0) 64) (frD (tg (kK f p j) (kK f q j) 0) 64) (w4.alloc (.cells #[.int .i64 (frU 0 64), .int .i64 (frD 0 64)] 25)) from HX.out)
            have HE := Lib.hid HE
            go_wp2_with fail
            generalize w4.alloc (.cells #[.int .i64 (frU 0 64), .int .i64 (frD 0 64)] 25) = W5 at *
            have HA9 := Lib.hid (blk_lt HX.out.b9)
            generalize w4.heap.size = a9 at *
            refine (HPA.out _ (HE.out.keep (Keep.below HX.out.up))).mono ?_
            rintro e w6 ⟨h, rfl, hp2, hh, hb⟩
            have HNE := Lib.hid (show h ≠ a9 from fun e => by have := HA9.out; omega)
            have HX := Lib.hid (HX.out.next hb)
            have HP2 := Lib.hid hp2
            clear hb HPA k0 k1 k2 hp2 hh HA9
            go_wp2
            go_loopw [33] (fun i_ wr => ∃ k : Nat, k ≤ 2 ∧ i_ = .int .i64 k ∧ Hid (KX w a7 a9 f j (frU (tg (kK f p j) (kK f q j) k) 64) (frD (tg (kK f p j) (kK f q j) k) 64) wr) ∧ Hid (P2 wr h f p q)) (fun i_ _ => 2 - (intOf i_).toNat)
            case atStart => exact ⟨0, by omega, rfl, HX, HP2⟩
            case round =>
              clear HX HP2
              obtain ⟨k, hk, rfl, HX, HP2⟩ := hrel
              rcases (show k = 0 ∨ k = 1 ∨ k = 2 by omega) with rfl | rfl | rfl
              · skip
                have a0 := HP2.out.1.1
                have a1 := HP2.out.1.2.1
                have a2 := HP2.out.1.2.2
                have HKI := Lib.hid (HKIN0.out)
                have HPL := Lib.hid (HPLU0.out)
                have HX7 := Lib.hid (HX.out.next (below_alloc wr (.cells #[.int .i64 p, .int .i64 (g2 f p 0), .int .i64 (g2 f p 1)] 65)))
                have HP27 := Lib.hid (HP2.out.keep (Keep.below (below_alloc wr (.cells #[.int .i64 p, .int .i64 (g2 f p 0), .int .i64 (g2 f p 1)] 65))))
                have b11 := blk_new wr 65 #[.int .i64 p, .int .i64 (g2 f p 0), .int .i64 (g2 f p 1)]
                have z0 := blk_cell b11 (i := 0) rfl
                have z1 := blk_cell b11 (i := 1) rfl
                have z2 := blk_cell b11 (i := 2) rfl
                have y0 := blk_cell HX7.out.b7 (i := 0) rfl
                have y1 := blk_cell HX7.out.b7 (i := 1) rfl
                have y2 := blk_cell HX7.out.b7 (i := 2) rfl
                have m0 := blk_cell HX7.out.b9 (i := 0) rfl
                have m1 := blk_cell HX7.out.b9 (i := 1) rfl
                clear b11 HX HP2
                go_wp2
                clear a0 a1 a2
                generalize wr.alloc (.cells #[.int .i64 p, .int .i64 (g2 f p 0), .int .i64 (g2 f p 1)] 65) = W7 at *
                have HPE7 := Lib.hid (show PE W7.drew g n f from HE.out.keep (Keep.below (HX7.out.next (Quiet.below (w' := W7.drew) ⟨1, rfl⟩)).up))
                go_region_law ((first
                  | (go_simp; go_at_call 54; (with_reducible refine (HKI.out _ HPE7.out).mono ?_); rintro e x1 ⟨rfl, hb⟩; have HX := Lib.hid ((HX7.out.next (Quiet.below ⟨1, rfl⟩)).next hb); have HP2 := Lib.hid ((HP27.out.keep (Keep.drewN _ 1)).keep (Keep.below hb)); have m2 := blk_cell HX.out.b9 (i := 0) rfl; have m3 := blk_cell HX.out.b9 (i := 1) rfl; clear hb)
                  | (go_simp; go_at_call 46; (with_reducible refine (HPL.out _).mono ?_); rintro e x2 ⟨rfl, hb⟩; have HX := Lib.hid (HX.out.next hb); have HP2 := Lib.hid (HP2.out.keep (Keep.below hb)); have d0 := blk_cell HX.out.b9 (i := 0) rfl; have d1 := blk_cell HX.out.b9 (i := 1) rfl; have f0 := blk_frozen HX.out.b9 0; have f1 := blk_frozen HX.out.b9 1; clear hb)
                  | fail))
                all_goals
                  have HX := Lib.hid (HX.out.set (frU (tg (kK f p j) (kK f q j) 1) 64) (frD (tg (kK f p j) (kK f q j) 1) 64))
                  have HP2 := Lib.hid ((HP2.out.set HNE.out 0 (.int .i64 (frU (tg (kK f p j) (kK f q j) 1) 64))).set HNE.out 1 (.int .i64 (frD (tg (kK f p j) (kK f q j) 1) 64)))
                  clear d0 d1 f0 f1 m0 m1 m2 m3 z0 z1 z2 y0 y1 y2 HX7 HP27 HPE7
                  go_wp2
                  go_roundw
                  case rel => exact ⟨1, by omega, rfl, Lib.hid (by exact HX.out), Lib.hid (by exact HP2.out)⟩
                  case measure => simp [intOf]
              · skip
                have a0 := HP2.out.2.1
                have a1 := HP2.out.2.2.1
                have a2 := HP2.out.2.2.2
                have HKI := Lib.hid (HKIN1.out)
                have HPL := Lib.hid (HPLU1.out)
                have HX7 := Lib.hid (HX.out.next (below_alloc wr (.cells #[.int .i64 q, .int .i64 (g2 f q 0), .int .i64 (g2 f q 1)] 65)))
                have HP27 := Lib.hid (HP2.out.keep (Keep.below (below_alloc wr (.cells #[.int .i64 q, .int .i64 (g2 f q 0), .int .i64 (g2 f q 1)] 65))))
                have b11 := blk_new wr 65 #[.int .i64 q, .int .i64 (g2 f q 0), .int .i64 (g2 f q 1)]
                have z0 := blk_cell b11 (i := 0) rfl
                have z1 := blk_cell b11 (i := 1) rfl
                have z2 := blk_cell b11 (i := 2) rfl
                have y0 := blk_cell HX7.out.b7 (i := 0) rfl
                have y1 := blk_cell HX7.out.b7 (i := 1) rfl
                have y2 := blk_cell HX7.out.b7 (i := 2) rfl
                have m0 := blk_cell HX7.out.b9 (i := 0) rfl
                have m1 := blk_cell HX7.out.b9 (i := 1) rfl
                clear b11 HX HP2
                go_wp2
                clear a0 a1 a2
                generalize wr.alloc (.cells #[.int .i64 q, .int .i64 (g2 f q 0), .int .i64 (g2 f q 1)] 65) = W7 at *
                have HPE7 := Lib.hid (show PE W7.drew g n f from HE.out.keep (Keep.below (HX7.out.next (Quiet.below (w' := W7.drew) ⟨1, rfl⟩)).up))
                go_region_law ((first
                  | (go_simp; go_at_call 54; (with_reducible refine (HKI.out _ HPE7.out).mono ?_); rintro e x1 ⟨rfl, hb⟩; have HX := Lib.hid ((HX7.out.next (Quiet.below ⟨1, rfl⟩)).next hb); have HP2 := Lib.hid ((HP27.out.keep (Keep.drewN _ 1)).keep (Keep.below hb)); have m2 := blk_cell HX.out.b9 (i := 0) rfl; have m3 := blk_cell HX.out.b9 (i := 1) rfl; clear hb)
                  | (go_simp; go_at_call 46; (with_reducible refine (HPL.out _).mono ?_); rintro e x2 ⟨rfl, hb⟩; have HX := Lib.hid (HX.out.next hb); have HP2 := Lib.hid (HP2.out.keep (Keep.below hb)); have d0 := blk_cell HX.out.b9 (i := 0) rfl; have d1 := blk_cell HX.out.b9 (i := 1) rfl; have f0 := blk_frozen HX.out.b9 0; have f1 := blk_frozen HX.out.b9 1; clear hb)
                  | fail))
                all_goals
                  have HX := Lib.hid (HX.out.set (frU (tg (kK f p j) (kK f q j) 2) 64) (frD (tg (kK f p j) (kK f q j) 2) 64))
                  have HP2 := Lib.hid ((HP2.out.set HNE.out 0 (.int .i64 (frU (tg (kK f p j) (kK f q j) 2) 64))).set HNE.out 1 (.int .i64 (frD (tg (kK f p j) (kK f q j) 2) 64)))
                  clear d0 d1 f0 f1 m0 m1 m2 m3 z0 z1 z2 y0 y1 y2 HX7 HP27 HPE7
                  go_wp2
                  go_roundw
                  case rel => exact ⟨2, by omega, rfl, Lib.hid (by exact HX.out), Lib.hid (by exact HP2.out)⟩
                  case measure => simp [intOf]
              · have m0 := blk_cell HX.out.b9 (i := 0) rfl
                have m1 := blk_cell HX.out.b9 (i := 1) rfl
                go_wp2
                go_region_law ((first
                  | (go_simp; go_at_call 44; (with_reducible refine (HF2.out _).mono ?_); rintro e x1 ⟨rfl, hb⟩; have HX := Lib.hid ((HX.out.next (Quiet.below ⟨1, rfl⟩)).next hb); have m0 := blk_cell HX.out.b9 (i := 0) rfl; have m1 := blk_cell HX.out.b9 (i := 1) rfl; clear hb)
                  | (go_simp; go_at_call 73; (with_reducible refine (HOV.out _).mono ?_); rintro e x2 ⟨rfl, hb⟩; have HX := Lib.hid (HX.out.next hb); have d0 := blk_cell HX.out.b6 (i := 0) rfl; have d1 := blk_cell HX.out.b6 (i := 1) rfl; have f0 := blk_frozen HX.out.b6 0; have f1 := blk_frozen HX.out.b6 1; clear hb)
                  | fail))
                all_goals
                  have B1 := blk_set (blk_set HX.out.b6 0 (.int .i64 U6)) 1 (.int .i64 D6)
                  have r0 := blk_cell B1 (i := 0) (v := .int .i64 U6) rfl
                  have r1 := blk_cell B1 (i := 1) (v := .int .i64 D6) rfl
                  have hle : w.heap.size ≤ w.heap.size + 1 + 1 := by omega
                  have HBX := Lib.hid ((HX.out.up.setCell (p := ⟨w.heap.size + 1 + 1, 0, none⟩) hle (.int .i64 U6)).setCell (p := ⟨w.heap.size + 1 + 1, 1, none⟩) hle (.int .i64 D6))
                  clear d0 d1 f0 f1 m0 m1 B1
                  go_wp2
                  generalize ((x2.setCell ⟨w.heap.size + 1 + 1, 0, none⟩ (.int .i64 U6)).setCell ⟨w.heap.size + 1 + 1, 1, none⟩ (.int .i64 D6)) = WE at *
                  refine bodyPost_ret (v := .agg #[.int .i64 U6, .int .i64 D6]) (by simp [results, Try.results54, go_sem, r0, r1]) rfl ?_
                  exact ⟨rfl, HBX.out⟩
        · have e3 : decide ((j : Int) < (i : Int)) = false := by simp; omega
          have lb := blk_cell HK.out.b8 (i := 0) rfl
          have HC0 : Hid (∀ W, Calls Try.prog 44 #[.int .i64 0, .int .i64 1] W (Ret (.agg #[.int .i64 (frU 0 64), .int .i64 (frD 0 64)]) W)) := Lib.hid (fun W => fracK_impl 0 1 0 W (by omega) (by omega) rfl)
          have HF2 := Lib.hid (fun W => fracOf_any 2 1 W (by unfold Mid; omega) (by unfold Mid; omega) (by omega))
          clear lb
          go_wp2_with fail
          refine (HC0.out _).mono ?_
          rintro e w4 ⟨rfl, hb⟩
          have HK4 := Lib.hid (HK.out.next hb)
          clear hb HK HC0
          have HX := Lib.hid (show KX w a7 w4.heap.size f i (frU 0 64) (frD 0 64) (w4.alloc (.cells #[.int .i64 (frU 0 64), .int .i64 (frD 0 64)] 25)) from
            ⟨blk_old HK4.out.b6 _, blk_old HK4.out.b7 _, blk_new w4 _ _, Nat.lt_of_lt_of_le HK4.out.l7 (Nat.le_of_lt (blk_lt HK4.out.b7)), Nat.ne_of_lt (blk_lt HK4.out.b7), below_up HK4.out.up (below_alloc _ _)⟩)
          have g8 := blk_old HK4.out.b8 (.cells #[.int .i64 (frU 0 64), .int .i64 (frD 0 64)] 25)
          have k0 := blk_cell g8 (i := 0) rfl
          have k1 := blk_cell g8 (i := 1) rfl
          have k2 := blk_cell g8 (i := 2) rfl
          clear g8 HK4
          have HOF := Lib.hid (kK_off v (i := j) (j := i) (by omega) (by omega))
          rcases v.par (i := j) (by omega) with ⟨hp, hq⟩ | ⟨hp, hq, _⟩
          · have HPA : Hid (∀ W, Calls Try.prog 74 #[.slice (some ⟨g, 0, none⟩) n n, .agg #[.int .i64 j, .int .i64 (g2 f j 0), .int .i64 (g2 f j 1)]] W (Ret (.slice none 0 0) W)) := Lib.hid (fun W => parentsNone_any (.slice (some ⟨g, 0, none⟩) n n) f j hp W)
            have HOV : Hid (∀ W, Calls Try.prog 73 #[.agg #[.int .i64 (frU 0 64), .int .i64 (frD 0 64)], frV 2 1] W (Ret (.agg #[.int .i64 U6, .int .i64 D6]) W)) := Lib.hid (fun W => by
              have h := overK_impl 0 64 2 1 (kK f i j) 64 W (by omega) (by omega) (by omega) (by omega) (by omega) (by have := HOF.out; rw [if_pos (by omega)] at this; rw [kK_symm f i j]; omega)
              have e9 : frV (kK f i j) 64 = .agg #[.int .i64 U6, .int .i64 D6] := HFORM.out
              rw [e9] at h
              exact h)
            clear HOF hp hq IH
            generalize frU 0 64 = U0 at *
            generalize frD 0 64 = D0 at *
            go_wp2_with fail
            generalize w4.alloc (.cells #[.int .i64 U0, .int .i64 D0] 25) = W5 at *
            generalize w4.heap.size = a9 at *
            refine (HPA.out _).mono ?_
            rintro e w6 ⟨rfl, hb⟩
            have HX := Lib.hid (HX.out.next hb)
            clear hb HPA k0 k1 k2
            go_wp2
            go_loopw [33] (fun i_ wr => i_ = .int .i64 0 ∧ Hid (KX w a7 a9 f i U0 D0 wr)) (fun _ _ => 0)
            case atStart => exact ⟨rfl, HX⟩
            case round =>
              clear HX
              obtain ⟨rfl, HX⟩ := hrel
              have m0 := blk_cell HX.out.b9 (i := 0) rfl
              have m1 := blk_cell HX.out.b9 (i := 1) rfl
              go_wp2
              go_region_law ((first
                | (go_simp; go_at_call 44; (with_reducible refine (HF2.out _).mono ?_); rintro e x1 ⟨rfl, hb⟩; have HX := Lib.hid ((HX.out.next (Quiet.below ⟨1, rfl⟩)).next hb); have m0 := blk_cell HX.out.b9 (i := 0) rfl; have m1 := blk_cell HX.out.b9 (i := 1) rfl; clear hb)
                | (go_simp; go_at_call 73; (with_reducible refine (HOV.out _).mono ?_); rintro e x2 ⟨rfl, hb⟩; have HX := Lib.hid (HX.out.next hb); have d0 := blk_cell HX.out.b6 (i := 0) rfl; have d1 := blk_cell HX.out.b6 (i := 1) rfl; have f0 := blk_frozen HX.out.b6 0; have f1 := blk_frozen HX.out.b6 1; clear hb)
                | fail))
              all_goals
                have B1 := blk_set (blk_set HX.out.b6 0 (.int .i64 U6)) 1 (.int .i64 D6)
                have r0 := blk_cell B1 (i := 0) (v := .int .i64 U6) rfl
                have r1 := blk_cell B1 (i := 1) (v := .int .i64 D6) rfl
                have hle : w.heap.size ≤ w.heap.size + 1 + 1 := by omega
                have HBX := Lib.hid ((HX.out.up.setCell (p := ⟨w.heap.size + 1 + 1, 0, none⟩) hle (.int .i64 U6)).setCell (p := ⟨w.heap.size + 1 + 1, 1, none⟩) hle (.int .i64 D6))
                clear d0 d1 f0 f1 m0 m1 B1
                go_wp2
                generalize ((x2.setCell ⟨w.heap.size + 1 + 1, 0, none⟩ (.int .i64 U6)).setCell ⟨w.heap.size + 1 + 1, 1, none⟩ (.int .i64 D6)) = WE at *
                refine bodyPost_ret (v := .agg #[.int .i64 U6, .int .i64 D6]) (by simp [results, Try.results54, go_sem, r0, r1]) rfl ?_
                exact ⟨rfl, HBX.out⟩
          · obtain ⟨p, ep⟩ : ∃ p : Nat, g2 f j 0 = p := ⟨_, (Int.toNat_of_nonneg hp.1).symm⟩
            obtain ⟨q, eq⟩ : ∃ q : Nat, g2 f j 1 = q := ⟨_, (Int.toNat_of_nonneg hq.1).symm⟩
            have HPA : Hid (∀ W, PE W g n f → Calls Try.prog 74 #[.slice (some ⟨g, 0, none⟩) n n, .agg #[.int .i64 j, .int .i64 (g2 f j 0), .int .i64 (g2 f j 1)]] W fun e w' => ∃ h, e = .returned (.slice (some ⟨h, 0, none⟩) 2 2) ∧ P2 w' h f p q ∧ W.heap.size ≤ h ∧ Below W.heap.size W w') := Lib.hid (fun W h => parentsTwo_any g n f j p q ep eq (by omega) (by omega) W h)
            have hof : 2 * kK f j i = kK f p i + kK f q i := by have := HOF.out; rw [if_neg (by omega), ep, eq, Int.toNat_natCast, Int.toNat_natCast] at this; exact this
            have hb1 := kK_bd f p i
            have hb2 := kK_bd f q i
            have HKIN0 : Hid (∀ W, PE W g n f → Calls Try.prog 54 #[.slice (some ⟨g, 0, none⟩) n n, .agg #[.int .i64 p, .int .i64 (g2 f p 0), .int .i64 (g2 f p 1)], .agg #[.int .i64 i, .int .i64 (g2 f i 0), .int .i64 (g2 f i 1)]] W (Ret (fK (kK f p i)) W)) := Lib.hid (fun W h => IH p i (by omega) (by omega) (by omega) W h)
            have HKIN1 : Hid (∀ W, PE W g n f → Calls Try.prog 54 #[.slice (some ⟨g, 0, none⟩) n n, .agg #[.int .i64 q, .int .i64 (g2 f q 0), .int .i64 (g2 f q 1)], .agg #[.int .i64 i, .int .i64 (g2 f i 0), .int .i64 (g2 f i 1)]] W (Ret (fK (kK f q i)) W)) := Lib.hid (fun W h => IH q i (by omega) (by omega) (by omega) W h)
            have HPLU0 : Hid (∀ W, Calls Try.prog 46 #[.agg #[.int .i64 (frU (tg (kK f p i) (kK f q i) 0) 64), .int .i64 (frD (tg (kK f p i) (kK f q i) 0) 64)], fK (kK f p i)] W (Ret (.agg #[.int .i64 (frU (tg (kK f p i) (kK f q i) 1) 64), .int .i64 (frD (tg (kK f p i) (kK f q i) 1) 64)]) W)) := Lib.hid (fun W => by
              have h := plusK_impl 0 (kK f p i) W (by omega) (by omega)
              rw [Int.zero_add] at h
              exact h)
            have HPLU1 : Hid (∀ W, Calls Try.prog 46 #[.agg #[.int .i64 (frU (tg (kK f p i) (kK f q i) 1) 64), .int .i64 (frD (tg (kK f p i) (kK f q i) 1) 64)], fK (kK f q i)] W (Ret (.agg #[.int .i64 (frU (tg (kK f p i) (kK f q i) 2) 64), .int .i64 (frD (tg (kK f p i) (kK f q i) 2) 64)]) W)) := Lib.hid (fun W => plusK_impl (kK f p i) (kK f q i) W (by omega) (by omega))
            have HOV : Hid (∀ W, Calls Try.prog 73 #[.agg #[.int .i64 (frU (tg (kK f p i) (kK f q i) 2) 64), .int .i64 (frD (tg (kK f p i) (kK f q i) 2) 64)], frV 2 1] W (Ret (.agg #[.int .i64 U6, .int .i64 D6]) W)) := Lib.hid (fun W => by
              have h := overK_impl (kK f p i + kK f q i) 64 2 1 (kK f i j) 64 W (by omega) (by omega) (by omega) (by omega) (by omega) (by rw [kK_symm f i j]; omega)
              have e9 : frV (kK f i j) 64 = .agg #[.int .i64 U6, .int .i64 D6] := HFORM.out
              rw [e9] at h
              exact h)
            clear HOF hp hq IH hb1 hb2 hof ep eq
            have HX := Lib.hid (show KX w a7 w4.heap.size f i (frU (tg (kK f p i) (kK f q i) 0) 64) (frD (tg (kK f p i) (kK f q i) 0) 64) (w4.alloc (.cells #[.int .i64 (frU 0 64), .int .i64 (frD 0 64)] 25)) from HX.out)
            have HE := Lib.hid HE
            go_wp2_with fail
            generalize w4.alloc (.cells #[.int .i64 (frU 0 64), .int .i64 (frD 0 64)] 25) = W5 at *
            have HA9 := Lib.hid (blk_lt HX.out.b9)
            generalize w4.heap.size = a9 at *
            refine (HPA.out _ (HE.out.keep (Keep.below HX.out.up))).mono ?_
            rintro e w6 ⟨h, rfl, hp2, hh, hb⟩
            have HNE := Lib.hid (show h ≠ a9 from fun e => by have := HA9.out; omega)
            have HX := Lib.hid (HX.out.next hb)
            have HP2 := Lib.hid hp2
            clear hb HPA k0 k1 k2 hp2 hh HA9
            go_wp2
            go_loopw [33] (fun i_ wr => ∃ k : Nat, k ≤ 2 ∧ i_ = .int .i64 k ∧ Hid (KX w a7 a9 f i (frU (tg (kK f p i) (kK f q i) k) 64) (frD (tg (kK f p i) (kK f q i) k) 64) wr) ∧ Hid (P2 wr h f p q)) (fun i_ _ => 2 - (intOf i_).toNat)
            case atStart => exact ⟨0, by omega, rfl, HX, HP2⟩
            case round =>
              clear HX HP2
              obtain ⟨k, hk, rfl, HX, HP2⟩ := hrel
              rcases (show k = 0 ∨ k = 1 ∨ k = 2 by omega) with rfl | rfl | rfl
              · skip
                have a0 := HP2.out.1.1
                have a1 := HP2.out.1.2.1
                have a2 := HP2.out.1.2.2
                have HKI := Lib.hid (HKIN0.out)
                have HPL := Lib.hid (HPLU0.out)
                have HX7 := Lib.hid (HX.out.next (below_alloc wr (.cells #[.int .i64 p, .int .i64 (g2 f p 0), .int .i64 (g2 f p 1)] 65)))
                have HP27 := Lib.hid (HP2.out.keep (Keep.below (below_alloc wr (.cells #[.int .i64 p, .int .i64 (g2 f p 0), .int .i64 (g2 f p 1)] 65))))
                have b11 := blk_new wr 65 #[.int .i64 p, .int .i64 (g2 f p 0), .int .i64 (g2 f p 1)]
                have z0 := blk_cell b11 (i := 0) rfl
                have z1 := blk_cell b11 (i := 1) rfl
                have z2 := blk_cell b11 (i := 2) rfl
                have y0 := blk_cell HX7.out.b7 (i := 0) rfl
                have y1 := blk_cell HX7.out.b7 (i := 1) rfl
                have y2 := blk_cell HX7.out.b7 (i := 2) rfl
                have m0 := blk_cell HX7.out.b9 (i := 0) rfl
                have m1 := blk_cell HX7.out.b9 (i := 1) rfl
                clear b11 HX HP2
                go_wp2
                clear a0 a1 a2
                generalize wr.alloc (.cells #[.int .i64 p, .int .i64 (g2 f p 0), .int .i64 (g2 f p 1)] 65) = W7 at *
                have HPE7 := Lib.hid (show PE W7.drew g n f from HE.out.keep (Keep.below (HX7.out.next (Quiet.below (w' := W7.drew) ⟨1, rfl⟩)).up))
                go_region_law ((first
                  | (go_simp; go_at_call 54; (with_reducible refine (HKI.out _ HPE7.out).mono ?_); rintro e x1 ⟨rfl, hb⟩; have HX := Lib.hid ((HX7.out.next (Quiet.below ⟨1, rfl⟩)).next hb); have HP2 := Lib.hid ((HP27.out.keep (Keep.drewN _ 1)).keep (Keep.below hb)); have m2 := blk_cell HX.out.b9 (i := 0) rfl; have m3 := blk_cell HX.out.b9 (i := 1) rfl; clear hb)
                  | (go_simp; go_at_call 46; (with_reducible refine (HPL.out _).mono ?_); rintro e x2 ⟨rfl, hb⟩; have HX := Lib.hid (HX.out.next hb); have HP2 := Lib.hid (HP2.out.keep (Keep.below hb)); have d0 := blk_cell HX.out.b9 (i := 0) rfl; have d1 := blk_cell HX.out.b9 (i := 1) rfl; have f0 := blk_frozen HX.out.b9 0; have f1 := blk_frozen HX.out.b9 1; clear hb)
                  | fail))
                all_goals
                  have HX := Lib.hid (HX.out.set (frU (tg (kK f p i) (kK f q i) 1) 64) (frD (tg (kK f p i) (kK f q i) 1) 64))
                  have HP2 := Lib.hid ((HP2.out.set HNE.out 0 (.int .i64 (frU (tg (kK f p i) (kK f q i) 1) 64))).set HNE.out 1 (.int .i64 (frD (tg (kK f p i) (kK f q i) 1) 64)))
                  clear d0 d1 f0 f1 m0 m1 m2 m3 z0 z1 z2 y0 y1 y2 HX7 HP27 HPE7
                  go_wp2
                  go_roundw
                  case rel => exact ⟨1, by omega, rfl, Lib.hid (by exact HX.out), Lib.hid (by exact HP2.out)⟩
                  case measure => simp [intOf]
              · skip
                have a0 := HP2.out.2.1
                have a1 := HP2.out.2.2.1
                have a2 := HP2.out.2.2.2
                have HKI := Lib.hid (HKIN1.out)
                have HPL := Lib.hid (HPLU1.out)
                have HX7 := Lib.hid (HX.out.next (below_alloc wr (.cells #[.int .i64 q, .int .i64 (g2 f q 0), .int .i64 (g2 f q 1)] 65)))
                have HP27 := Lib.hid (HP2.out.keep (Keep.below (below_alloc wr (.cells #[.int .i64 q, .int .i64 (g2 f q 0), .int .i64 (g2 f q 1)] 65))))
                have b11 := blk_new wr 65 #[.int .i64 q, .int .i64 (g2 f q 0), .int .i64 (g2 f q 1)]
                have z0 := blk_cell b11 (i := 0) rfl
                have z1 := blk_cell b11 (i := 1) rfl
                have z2 := blk_cell b11 (i := 2) rfl
                have y0 := blk_cell HX7.out.b7 (i := 0) rfl
                have y1 := blk_cell HX7.out.b7 (i := 1) rfl
                have y2 := blk_cell HX7.out.b7 (i := 2) rfl
                have m0 := blk_cell HX7.out.b9 (i := 0) rfl
                have m1 := blk_cell HX7.out.b9 (i := 1) rfl
                clear b11 HX HP2
                go_wp2
                clear a0 a1 a2
                generalize wr.alloc (.cells #[.int .i64 q, .int .i64 (g2 f q 0), .int .i64 (g2 f q 1)] 65) = W7 at *
                have HPE7 := Lib.hid (show PE W7.drew g n f from HE.out.keep (Keep.below (HX7.out.next (Quiet.below (w' := W7.drew) ⟨1, rfl⟩)).up))
                go_region_law ((first
                  | (go_simp; go_at_call 54; (with_reducible refine (HKI.out _ HPE7.out).mono ?_); rintro e x1 ⟨rfl, hb⟩; have HX := Lib.hid ((HX7.out.next (Quiet.below ⟨1, rfl⟩)).next hb); have HP2 := Lib.hid ((HP27.out.keep (Keep.drewN _ 1)).keep (Keep.below hb)); have m2 := blk_cell HX.out.b9 (i := 0) rfl; have m3 := blk_cell HX.out.b9 (i := 1) rfl; clear hb)
                  | (go_simp; go_at_call 46; (with_reducible refine (HPL.out _).mono ?_); rintro e x2 ⟨rfl, hb⟩; have HX := Lib.hid (HX.out.next hb); have HP2 := Lib.hid (HP2.out.keep (Keep.below hb)); have d0 := blk_cell HX.out.b9 (i := 0) rfl; have d1 := blk_cell HX.out.b9 (i := 1) rfl; have f0 := blk_frozen HX.out.b9 0; have f1 := blk_frozen HX.out.b9 1; clear hb)
                  | fail))
                all_goals
                  have HX := Lib.hid (HX.out.set (frU (tg (kK f p i) (kK f q i) 2) 64) (frD (tg (kK f p i) (kK f q i) 2) 64))
                  have HP2 := Lib.hid ((HP2.out.set HNE.out 0 (.int .i64 (frU (tg (kK f p i) (kK f q i) 2) 64))).set HNE.out 1 (.int .i64 (frD (tg (kK f p i) (kK f q i) 2) 64)))
                  clear d0 d1 f0 f1 m0 m1 m2 m3 z0 z1 z2 y0 y1 y2 HX7 HP27 HPE7
                  go_wp2
                  go_roundw
                  case rel => exact ⟨2, by omega, rfl, Lib.hid (by exact HX.out), Lib.hid (by exact HP2.out)⟩
                  case measure => simp [intOf]
              · have m0 := blk_cell HX.out.b9 (i := 0) rfl
                have m1 := blk_cell HX.out.b9 (i := 1) rfl
                go_wp2
                go_region_law ((first
                  | (go_simp; go_at_call 44; (with_reducible refine (HF2.out _).mono ?_); rintro e x1 ⟨rfl, hb⟩; have HX := Lib.hid ((HX.out.next (Quiet.below ⟨1, rfl⟩)).next hb); have m0 := blk_cell HX.out.b9 (i := 0) rfl; have m1 := blk_cell HX.out.b9 (i := 1) rfl; clear hb)
                  | (go_simp; go_at_call 73; (with_reducible refine (HOV.out _).mono ?_); rintro e x2 ⟨rfl, hb⟩; have HX := Lib.hid (HX.out.next hb); have d0 := blk_cell HX.out.b6 (i := 0) rfl; have d1 := blk_cell HX.out.b6 (i := 1) rfl; have f0 := blk_frozen HX.out.b6 0; have f1 := blk_frozen HX.out.b6 1; clear hb)
                  | fail))
                all_goals
                  have B1 := blk_set (blk_set HX.out.b6 0 (.int .i64 U6)) 1 (.int .i64 D6)
                  have r0 := blk_cell B1 (i := 0) (v := .int .i64 U6) rfl
                  have r1 := blk_cell B1 (i := 1) (v := .int .i64 D6) rfl
                  have hle : w.heap.size ≤ w.heap.size + 1 + 1 := by omega
                  have HBX := Lib.hid ((HX.out.up.setCell (p := ⟨w.heap.size + 1 + 1, 0, none⟩) hle (.int .i64 U6)).setCell (p := ⟨w.heap.size + 1 + 1, 1, none⟩) hle (.int .i64 D6))
                  clear d0 d1 f0 f1 m0 m1 B1
                  go_wp2
                  generalize ((x2.setCell ⟨w.heap.size + 1 + 1, 0, none⟩ (.int .i64 U6)).setCell ⟨w.heap.size + 1 + 1, 1, none⟩ (.int .i64 D6)) = WE at *
                  refine bodyPost_ret (v := .agg #[.int .i64 U6, .int .i64 D6]) (by simp [results, Try.results54, go_sem, r0, r1]) rfl ?_
                  exact ⟨rfl, HBX.out⟩

end Go.Proofs.Ytjmfkodbilknlaa

/- What the rows that meet count, one after another. -/
namespace Go.Proofs.Ytjmfkodbilknlaa
open Go.RowKit

def smP (f : List (List Int)) : List (List Nat × List Nat) → Int
  | [] => 0
  | p :: L => wtP f p.1 p.2 + smP f L
theorem smP_app (f : List (List Int)) : ∀ L M, smP f (L ++ M) = smP f L + smP f M
  | [], M => by simp [smP]
  | p :: L, M => by rw [List.cons_append, smP, smP, smP_app f L M]; omega
theorem smP_M (f : List (List Int)) (r : List Nat) : ∀ L, smP f (prsM r L) = sm1 (fun o => wtP f r o) L
  | [] => rfl
  | o :: L => by
    have ih := smP_M f r L
    have e : prsM r (o :: L) = prsM r [o] ++ prsM r L := by unfold prsM; rw [← List.map_append, ← List.filter_append]; rfl
    rw [e, smP_app, ih, sm1]
    congr 1
    by_cases h : meetB r o = true
    · have : prsM r [o] = [(r, o)] := by simp [prsM, h]
      rw [this, smP, smP]; simp
    · have h' : meetB r o = false := by simpa using h
      have : prsM r [o] = [] := by simp [prsM, h']
      rw [this, smP]; unfold wtP; rw [h']; rfl
theorem smP_L (f : List (List Int)) (j : Nat) : ∀ L, smP f (L.flatMap (prsO f j)) = sm1 (fun r => sm1 (fun o => wtP f r o) (upR f j j)) L
  | [] => rfl
  | r :: L => by
    rw [List.flatMap_cons, smP_app, smP_L f j L, sm1]
    congr 1
    exact smP_M f r _
theorem smP_all {f : List (List Int)} (v : VPe f) {i j : Nat} (hi : i < f.length) (hj : j < f.length) : smP f (prsL f i j) = 1024 * kK f i j := by
  unfold prsL
  rw [smP_L]
  exact paths_kin v (i + j) i j i j rfl (Nat.le_refl _) (Nat.le_refl _) hi hj
theorem mem_prsL {f : List (List Int)} {i j : Nat} {r o : List Nat} (h : (r, o) ∈ prsL f i j) : r ∈ upR f i i ∧ o ∈ upR f j j ∧ meetB r o = true := by
  unfold prsL at h
  obtain ⟨x, hx, hm⟩ := List.mem_flatMap.1 h
  unfold prsO prsM at hm
  obtain ⟨y, hy, e⟩ := List.mem_map.1 hm
  injection e with e1 e2
  subst e1 e2
  obtain ⟨h1, h2⟩ := List.mem_filter.1 hy
  exact ⟨hx, h1, h2⟩
theorem smP_nn {f : List (List Int)} (hw : ∀ r o, 0 ≤ wtP f r o) : ∀ L, 0 ≤ smP f L
  | [] => Int.le_refl _
  | p :: L => by have h1 := smP_nn hw L; have h2 := hw p.1 p.2; rw [smP]; omega
theorem wtP_bd {f : List (List Int)} (r o : List Nat) : 0 ≤ wtP f r o := by
  unfold wtP
  split
  · have := (kK_bd f (r.getLastD 0) (r.getLastD 0)).1
    exact Int.mul_nonneg this (Int.le_of_lt (Int.pow_pos (by decide)))
  · exact Int.le_refl _
theorem smP_bd {f : List (List Int)} (v : VPe f) {i j : Nat} (hi : i < f.length) (hj : j < f.length) {P : List (List Nat × List Nat)} (h : P <+: prsL f i j) : 0 ≤ smP f P ∧ smP f P ≤ 65536 := by
  obtain ⟨s, e⟩ := h
  have h1 := smP_all v hi hj
  rw [← e, smP_app] at h1
  have h2 := smP_nn (f := f) (fun r o => wtP_bd r o) s
  have h3 := (kK_bd f i j).2
  exact ⟨smP_nn (fun r o => wtP_bd r o) P, by omega⟩
/-- What the program adds for two rows. -/
theorem term_fL {f : List (List Int)} (v : VPe f) {i j : Nat} (hi : i < f.length) (hj : j < f.length) {r o : List Nat} (h : (r, o) ∈ prsL f i j) :
    r.getD (r.length - 1) 0 < f.length ∧ r.length + o.length - 1 ≤ 11 ∧ 1 ≤ r.length ∧ 1 ≤ o.length ∧ r.length ≤ 6 ∧ o.length ≤ 6 ∧
      frV (64 + bK f (r.getD (r.length - 1) 0)) (64 * 2 ^ (r.length + o.length - 1)) = fL (wtP f r o) := by
  obtain ⟨h1, h2, h3⟩ := mem_prsL h
  have n6 := v.n6
  obtain ⟨a1, a2, a3⟩ := upR_in v (Nat.le_refl _) hi h1
  obtain ⟨b1, b2, _⟩ := upR_in v (Nat.le_refl _) hj h2
  have l1 : 1 ≤ r.length := List.length_pos_iff.2 a1
  have l2 : 1 ≤ o.length := List.length_pos_iff.2 b1
  have hmem : r.getD (r.length - 1) 0 ∈ r := getD_memP (by omega)
  have he := a3 _ hmem
  have hlt : r.getD (r.length - 1) 0 < f.length := by omega
  have hl : r.getLastD 0 = r.getD (r.length - 1) 0 := by
    have := last_getD (r := r) (k := r.length - 1) (by omega)
    rw [List.getLastD_eq_getLast?, this]; rfl
  refine ⟨hlt, by omega, l1, l2, by omega, by omega, ?_⟩
  have hk := kK_bK v hlt
  have hp : (1 : Int) ≤ 2 ^ (r.length + o.length - 1) := (pow2_bd (by omega)).1
  refine frV_L (by omega) ?_
  unfold wtP
  rw [if_pos h3, hl, ← hk]
  generalize r.getD (r.length - 1) 0 = e
  have e1 : kK f e e * 2 ^ (12 - r.length - o.length) * (64 * 2 ^ (r.length + o.length - 1)) = kK f e e * 131072 := by
    rw [show (64 : Int) = 2 ^ 6 from rfl, ← Int.pow_add, Int.mul_assoc, ← Int.pow_add, show 12 - r.length - o.length + (6 + (r.length + o.length - 1)) = 17 by omega]; rfl
  rw [e1]; omega
theorem Kept.set {Z : Nat → Prop} (W : World) (p : Addr) (u : Value) (hz : Z p.block) : Kept Z W (W.setCell p u) :=
  ⟨rfl, rfl, rfl, by show W.heap.size ≤ (W.heap.modify _ _).size; rw [Array.size_modify]; exact Nat.le_refl _, fun k _ hk => Below.heap_setCell W p u k (fun e => hk (e ▸ hz))⟩
end Go.Proofs.Ytjmfkodbilknlaa

/- KinOf, InbredOf and HelpPays, by the program. -/
namespace Go.Proofs.Ytjmfkodbilknlaa
open Go.RowKit

theorem AF_two {f : List (List Int)} {i j : Int} : AF f [i, j] ↔ KOk f i j :=
  ⟨fun h => ⟨h.1, h.2 0 (by simp), h.2 1 (by simp)⟩, fun h => ⟨h.v, fun k hk => by
    have : k = 0 ∨ k = 1 := by simp at hk; omega
    rcases this with rfl | rfl
    · exact h.i
    · exact h.j⟩⟩
theorem AF_one {f : List (List Int)} {i : Int} : AF f [i] ↔ IOk f i :=
  ⟨fun h => ⟨h.1, h.2 0 (by simp)⟩, fun h => ⟨h.v, fun k hk => by
    have : k = 0 := by simp at hk; omega
    subst this
    exact h.i⟩⟩
theorem Ints.solo (w : World) (x : Int) (hx : -9223372036854775808 ≤ x ∧ x ≤ 9223372036854775807) : Ints (w.alloc (.cells #[.int .i64 x] 3)) (some ⟨w.heap.size, 0, none⟩) 1 1 [x] :=
  ⟨rfl, Nat.le_refl _, by omega, fun z hz => by simp at hz; omega, fun _ => ⟨_, _, rfl, fun k hk => by
    have h : k = 0 := by omega
    subst h
    simp only [World.cell?, Nat.zero_add, heap_alloc_new]; rfl⟩⟩
set_option maxRecDepth 100000 in
set_option maxHeartbeats 4000000 in
theorem KinOf_impl (A : Option Addr) (n c : Nat) (f : List (List Int)) (i j : Int) (w : World) (hx : IntRows w A n c f) (hi : Fit i) (hj : Fit j) :
    Calls Try.prog 15 #[.slice A n c, .int .i64 i, .int .i64 j] w (Ret (.tuple #[kinF f i j, .bool (pb (KOk f i j))]) w) := by
  have hm := hx.max
  have HLN := Lib.hid hx.len
  have HPF0 := Lib.hid (PF.start w)
  have hb2 := below_alloc (w.alloc (.cells #[.int .i64 0, .int .i64 0] 25)) (.cells #[.int .i64 i, .int .i64 j] 3)
  have HPF := Lib.hid (HPF0.out.up hb2)
  have HXA := Lib.hid (hx.keep HPF.out.keep)
  have hnum := Ints.two (w.alloc (.cells #[.int .i64 0, .int .i64 0] 25)) i j hi hj
  rw [World.size_alloc] at hnum
  have HC := Lib.hid (areFolk_any A n c f _ 2 2 [i, j] _ HXA.out hnum)
  rw [pb_congr AF_two] at HC
  clear hx hi hj hb2 hnum HPF0
  by_cases hok : KOk f i j
  · rw [pb_true hok] at HC
    have hv := hok.v
    obtain ⟨i, rfl, hi2⟩ := nat_of hok.i
    obtain ⟨j, rfl, hj2⟩ := nat_of hok.j
    have HPO := Lib.hid (fun W h => peopleOf_any A n c f hv W h)
    have hin : i < n := by rw [← HLN.out]; exact hi2
    have hjn : j < n := by rw [← HLN.out]; exact hj2
    have hn6 : n ≤ 6 := by rw [← HLN.out]; exact hv.n6
    have HK := Lib.hid (fun g W h => kinI_any g n f hv HLN.out (i + j + 1) i j hin hjn (by omega) W h)
    rw [kinF_yes hok, pb_true hok]
    obtain ⟨U, D, hform⟩ := fK_form (kK f i j)
    have HFORM := Lib.hid hform
    rw [hform] at HK
    have HPI : Hid (peV f i = .agg #[.int .i64 i, .int .i64 (g2 f i 0), .int .i64 (g2 f i 1)]) := Lib.hid rfl
    have HPJ : Hid (peV f j = .agg #[.int .i64 j, .int .i64 (g2 f j 0), .int .i64 (g2 f j 1)]) := Lib.hid rfl
    rw [HPI.out, HPJ.out] at HK
    clear hform hok hv hi2 hj2 HPI HPJ
    go_enter Try.func15, Try.ntmps15
    go_wp2_with fail
    refine HC.out.mono ?_
    rintro e w1 ⟨rfl, hq⟩
    have hb := hq.below (B := ((w.alloc (.cells #[.int .i64 0, .int .i64 0] 25)).alloc (.cells #[.int .i64 i, .int .i64 j] 3)).heap.size)
    have HPF := Lib.hid (HPF.out.up hb)
    have HXA := Lib.hid (HXA.out.keep (Keep.below hb))
    clear hb hq HC
    go_wp2_with fail
    refine (HPO.out _ HXA.out).mono ?_
    rintro e w2 ⟨g, rfl, hpe, hb⟩
    have HPF := Lib.hid (HPF.out.up hb)
    have HPE := Lib.hid hpe
    have i0 := hpe.c0 i hin
    have i1 := hpe.c1 i hin
    have i2 := hpe.c2 i hin
    have j0 := hpe.c0 j hjn
    have j1 := hpe.c1 j hjn
    have j2 := hpe.c2 j hjn
    clear hb hpe HPO HXA
    generalize g2 f i 0 = x0 at *
    generalize g2 f i 1 = x1 at *
    generalize g2 f j 0 = y0 at *
    generalize g2 f j 1 = y1 at *
    go_wp2
    go_still_tail 9, (by kernel_rfl)
    have HPF := Lib.hid (show PF w w2.drew from HPF.out.up (Quiet.below ⟨1, rfl⟩))
    have HPE := Lib.hid (show PE w2.drew g n f from HPE.out.keep (Keep.drewN _ 1))
    change wpList _ _ _ _ _ w2.drew
    generalize w2.drew = w3 at *
    go_wp2_with fail
    refine (HK.out _ _ HPE.out).mono ?_
    rintro e w4 ⟨rfl, hb⟩
    have HPF := Lib.hid (HPF.out.up hb)
    clear hb HK i0 i1 i2 j0 j1 j2
    have c0 := blk_cell HPF.out.box (i := 0) rfl
    have c1 := blk_cell HPF.out.box (i := 1) rfl
    have f0 := blk_frozen HPF.out.box 0
    have f1 := blk_frozen HPF.out.box 1
    go_wp2
    clear c0 c1 f0 f1
    have B1 := blk_set (blk_set HPF.out.box 0 (.int .i64 U)) 1 (.int .i64 D)
    have r0 := blk_cell B1 (i := 0) (v := .int .i64 U) rfl
    have r1 := blk_cell B1 (i := 1) (v := .int .i64 D) rfl
    have HBX := Lib.hid ((HPF.out.below.setCell (p := ⟨w.heap.size, 0, none⟩) (Nat.le_refl _) (.int .i64 U)).setCell (p := ⟨w.heap.size, 1, none⟩) (Nat.le_refl _) (.int .i64 D))
    clear B1 HPF
    generalize (w4.setCell ⟨w.heap.size, 0, none⟩ (.int .i64 U)).setCell ⟨w.heap.size, 1, none⟩ (.int .i64 D) = WE at *
    refine bodyPost_ret (v := .tuple #[.agg #[.int .i64 U, .int .i64 D], .bool true]) (by simp [results, Try.results15, go_sem, r0, r1]) rfl ?_
    exact ⟨by rw [HFORM.out], HBX.out⟩
  · rw [pb_false hok] at HC
    rw [kinF_no hok, pb_false hok]
    clear hok
    go_enter Try.func15, Try.ntmps15
    go_wp2_with fail
    refine HC.out.mono ?_
    rintro e w1 ⟨rfl, hq⟩
    have HPF := Lib.hid (HPF.out.up (hq.below (B := ((w.alloc (.cells #[.int .i64 0, .int .i64 0] 25)).alloc (.cells #[.int .i64 i, .int .i64 j] 3)).heap.size)))
    clear hq HC
    have c0 := blk_cell HPF.out.box (i := 0) rfl
    have c1 := blk_cell HPF.out.box (i := 1) rfl
    have f0 := blk_frozen HPF.out.box 0
    have f1 := blk_frozen HPF.out.box 1
    go_wp2
    clear c0 c1 f0 f1
    have B1 := blk_set (blk_set HPF.out.box 0 (.int .i64 0)) 1 (.int .i64 0)
    have r0 := blk_cell B1 (i := 0) (v := .int .i64 0) rfl
    have r1 := blk_cell B1 (i := 1) (v := .int .i64 0) rfl
    have HBX := Lib.hid ((HPF.out.below.setCell (p := ⟨w.heap.size, 0, none⟩) (Nat.le_refl _) (.int .i64 0)).setCell (p := ⟨w.heap.size, 1, none⟩) (Nat.le_refl _) (.int .i64 0))
    clear B1 HPF
    generalize (w1.setCell ⟨w.heap.size, 0, none⟩ (.int .i64 0)).setCell ⟨w.heap.size, 1, none⟩ (.int .i64 0) = WE at *
    refine bodyPost_ret (v := .tuple #[.agg #[.int .i64 0, .int .i64 0], .bool false]) (by simp [results, Try.results15, go_sem, r0, r1]) rfl ?_
    exact ⟨rfl, HBX.out⟩

end Go.Proofs.Ytjmfkodbilknlaa

/- KinByPaths, by the program. -/
namespace Go.Proofs.Ytjmfkodbilknlaa
open Go.RowKit Go.Shelf
attribute [local go_sem] Oper.semAt_some

theorem region_putIn {F : Fence} {n : Nat} {P : Program} {c : Code} {Q : Exit → Act → World → Prop} {a : Act} {w : World} (ds : List Nat) (G : List Value → World → Prop) (h : c.wpIn F n P (PutQ a ds G) a w) (k : ∀ us v, G us v → Q .normal (frmL a ds us) v) : c.wpIn F n P Q a w :=
  wpIn_mono h (fun e b v h => by
    cases e <;> first | exact (h : False).elim | (obtain ⟨us, rfl, hf⟩ := (h : ∃ us, b = frmL a ds us ∧ G us v); exact k us v hf))
/-- The region that adds a term, on the way. -/
structure RKq (W2 : World) (b9 g n ga oa n1 c1 n2 c2 la lab e t : Nat) (A2 : Option Addr) (S z x y be : Int) (L : Array Bool) (u34 u35 u36 u37 u38 u39 u40 u41 u42 u43 u44 u45 u46 u47 u48 u49 u50 : Value) (X : Int) (W : World) : Prop where
  st : Blk W b9 25 #[.int .i64 (frU X 65536), .int .i64 (frD X 65536)]
  kp : Kept (fun k => k = b9) W2 W
  hX : On L 17 ∨ X = S
  h0 : On L 0 → u34 = .agg #[.int .i64 (frU S 65536), .int .i64 (frD S 65536)]
  h1 : On L 1 → u35 = .slice (some ⟨g, 0, none⟩) n n
  h2 : On L 2 → u36 = .slice (some ⟨ga, oa, none⟩) n1 c1
  h3 : On L 3 → u37 = .slice (some ⟨ga, oa, none⟩) n1 c1
  h4 : On L 4 → u38 = .int .i64 n1
  h5 : On L 5 → u39 = .int .i64 la
  h6 : On L 6 → u40 = .pointer (some ⟨ga, oa + la * 3, none⟩)
  h7 : On L 7 → u41 = .agg #[.int .i64 e, .int .i64 x, .int .i64 y]
  h8 : On L 8 → u42 = fK be
  h9 : On L 9 → u43 = .slice (some ⟨ga, oa, none⟩) n1 c1
  h10 : On L 10 → u44 = .int .i64 n1
  h11 : On L 11 → u45 = .slice A2 n2 c2
  h12 : On L 12 → u46 = .int .i64 n2
  h13 : On L 13 → u47 = .int .i64 lab
  h14 : On L 14 → u48 = .int .i64 t
  h15 : On L 15 → u49 = .agg #[.int .i64 (frU z 65536), .int .i64 (frD z 65536)]
  h16 : On L 16 → u50 = .agg #[.int .i64 (frU (S + z) 65536), .int .i64 (frD (S + z) 65536)]
  h17 : On L 17 → On L 0 ∧ X = S + z
theorem RKq.up {W2 b9 g n ga oa n1 c1 n2 c2 la lab e t A2 S z x y be L u34 u35 u36 u37 u38 u39 u40 u41 u42 u43 u44 u45 u46 u47 u48 u49 u50 X W W'} (Hy : RKq W2 b9 g n ga oa n1 c1 n2 c2 la lab e t A2 S z x y be L u34 u35 u36 u37 u38 u39 u40 u41 u42 u43 u44 u45 u46 u47 u48 u49 u50 X W) (k : Below W.heap.size W W') : RKq W2 b9 g n ga oa n1 c1 n2 c2 la lab e t A2 S z x y be L u34 u35 u36 u37 u38 u39 u40 u41 u42 u43 u44 u45 u46 u47 u48 u49 u50 X W' :=
  ⟨blk_below Hy.st k, Hy.kp.trans (Kept.up _ k), Hy.hX, fun o => (Hy.h0 o), fun o => (Hy.h1 o), fun o => (Hy.h2 o), fun o => (Hy.h3 o), fun o => (Hy.h4 o), fun o => (Hy.h5 o), fun o => (Hy.h6 o), fun o => (Hy.h7 o), fun o => (Hy.h8 o), fun o => (Hy.h9 o), fun o => (Hy.h10 o), fun o => (Hy.h11 o), fun o => (Hy.h12 o), fun o => (Hy.h13 o), fun o => (Hy.h14 o), fun o => (Hy.h15 o), fun o => (Hy.h16 o), fun o => (Hy.h17 o)⟩

set_option maxRecDepth 100000 in
set_option maxHeartbeats 10000000 in
theorem KinByPaths_impl (A : Option Addr) (n c : Nat) (f : List (List Int)) (i j : Int) (w : World) (hx : IntRows w A n c f) (hi : Fit i) (hj : Fit j) :
    Calls Try.prog 11 #[.slice A n c, .int .i64 i, .int .i64 j] w (Ret (.tuple #[kinF f i j, .bool (pb (KOk f i j))]) w) := by
  have hm := hx.max
  have HLN := Lib.hid hx.len
  have HPF0 := Lib.hid (PF.start w)
  have hb2 := below_alloc (w.alloc (.cells #[.int .i64 0, .int .i64 0] 25)) (.cells #[.int .i64 i, .int .i64 j] 3)
  have HPF := Lib.hid (HPF0.out.up hb2)
  have HXA := Lib.hid (hx.keep HPF.out.keep)
  have hnum := Ints.two (w.alloc (.cells #[.int .i64 0, .int .i64 0] 25)) i j hi hj
  rw [World.size_alloc] at hnum
  have HC := Lib.hid (areFolk_any A n c f _ 2 2 [i, j] _ HXA.out hnum)
  rw [pb_congr AF_two] at HC
  clear hx hi hj hb2 hnum HPF0
  by_cases hok : KOk f i j
  · rw [pb_true hok] at HC
    have hv := hok.v
    obtain ⟨i, rfl, hi2⟩ := nat_of hok.i
    obtain ⟨j, rfl, hj2⟩ := nat_of hok.j
    have HPO := Lib.hid (fun W h => peopleOf_any A n c f hv W h)
    have hin : i < n := by rw [← HLN.out]; exact hi2
    have hjn : j < n := by rw [← HLN.out]; exact hj2
    have hn6 : n ≤ 6 := by rw [← HLN.out]; exact hv.n6
    have HV := Lib.hid hv
    have HI := Lib.hid hi2
    have HJ := Lib.hid hj2
    rw [kinF_yes hok, pb_true hok]
    have HC0 : Hid (∀ W, Calls Try.prog 44 #[.int .i64 0, .int .i64 1] W (Ret (.agg #[.int .i64 (frU 0 65536), .int .i64 (frD 0 65536)]) W)) := Lib.hid (fun W => by
      have h := fracOf_any 0 1 W (by unfold Mid; omega) (by unfold Mid; omega) (by omega)
      rw [frV_L (x := 0) (by omega) (by omega)] at h
      exact h)
    clear hok hv hi2 hj2
    refine (callsIn_wide (n := 1)).1 ?_
    refine callsIn_of_wp_marks (F := Fence.wide) (n := 1) Try.func11 rfl trivial ?_ rfl
    simp only [Try.ntmps11, List.size_toArray, List.length_cons, List.length_nil, Nat.reduceAdd, Nat.reduceSub, Array.replicate_succ, Array.replicate_zero, List.push_toArray, List.append_toArray, List.nil_append, List.cons_append]
    refine wpIn_wide.2 ?_
    go_wp2_with fail
    refine HC.out.mono ?_
    rintro e w1 ⟨rfl, hq⟩
    have hb := hq.below (B := ((w.alloc (.cells #[.int .i64 0, .int .i64 0] 25)).alloc (.cells #[.int .i64 i, .int .i64 j] 3)).heap.size)
    have HPF := Lib.hid (HPF.out.up hb)
    have HXA := Lib.hid (HXA.out.keep (Keep.below hb))
    clear hb hq HC
    go_wp2_with fail
    refine (HPO.out _ HXA.out).mono ?_
    rintro e w2 ⟨g, rfl, hpe, hb⟩
    have hb8 := below_alloc w2 (.cells #[.slice (some ⟨g, 0, none⟩) n n] 59)
    have HWB1 := Lib.hid (blk_lt (HPF.out.up hb).box)
    have HG8 := Lib.hid (cell_lt (hpe.c0 i hin))
    have HPF := Lib.hid ((HPF.out.up hb).up hb8)
    have HPE := Lib.hid (hpe.keep (Keep.below hb8))
    have H8 := Lib.hid (blk_new w2 59 #[.slice (some ⟨g, 0, none⟩) n n])
    clear hb hb8 hpe HPO HXA
    have HB8L := Lib.hid (blk_lt H8.out)
    have HWB0 := Lib.hid (show w.heap.size < w2.heap.size from HWB1.out)
    generalize hb8 : w2.heap.size = b8 at *
    go_wp2_with fail
    generalize w2.alloc (.cells #[.slice (some ⟨g, 0, none⟩) n n] 59) = w3 at *
    refine (HC0.out _).mono ?_
    rintro e w4 ⟨rfl, hb⟩
    have HL8 := Lib.hid (show b8 < w4.heap.size from Nat.lt_of_lt_of_le HB8L.out hb.size)
    have hb9 := below_alloc w4 (.cells #[.int .i64 (frU 0 65536), .int .i64 (frD 0 65536)] 25)
    have HPF := Lib.hid ((HPF.out.up hb).up hb9)
    have HPE := Lib.hid ((HPE.out.keep (Keep.below hb)).keep (Keep.below hb9))
    have H8 := Lib.hid (blk_below (blk_below H8.out hb) hb9)
    have H9 := Lib.hid (blk_new w4 25 #[.int .i64 (frU 0 65536), .int .i64 (frD 0 65536)])
    clear hb hb9 HC0
    have c8 := blk_cell H8.out (i := 0) rfl
    have i0 := HPE.out.c0 i hin
    have i1 := HPE.out.c1 i hin
    have i2 := HPE.out.c2 i hin
    have j0 := HPE.out.c0 j hjn
    have j1 := HPE.out.c1 j hjn
    have j2 := HPE.out.c2 j hjn
    have HPT : Hid (∀ w : World, Calls Try.prog 45 #[.slice (some ⟨g, 0, none⟩) n n, .agg #[.int .i64 i, .int .i64 (g2 f i 0), .int .i64 (g2 f i 1)], .agg #[.int .i64 j, .int .i64 (g2 f j 0), .int .i64 (g2 f j 1)]] w fun e w' => e = .returned (.func (.func 70) #[] #[.pointer (some ⟨w.heap.size, 0, none⟩), .pointer (some ⟨w.heap.size + 1, 0, none⟩), .pointer (some ⟨w.heap.size + 1 + 1, 0, none⟩)]) ∧
      Below w.heap.size w w' ∧ Blk w' w.heap.size 59 #[.slice (some ⟨g, 0, none⟩) n n] ∧ Blk w' (w.heap.size + 1) 65 #[.int .i64 i, .int .i64 (g2 f i 0), .int .i64 (g2 f i 1)] ∧ Blk w' (w.heap.size + 1 + 1) 65 #[.int .i64 j, .int .i64 (g2 f j 0), .int .i64 (g2 f j 1)]) := Lib.hid (fun w => paths_any g n i j f w)
    generalize hu0 : frU 0 65536 = U0 at *
    generalize hd0 : frD 0 65536 = D0 at *
    have HU0 := Lib.hid hu0
    have HD0 := Lib.hid hd0
    clear hu0 hd0
    go_wp2
    generalize hb9 : w4.heap.size = b9 at *
    generalize w4.alloc (.cells #[.int .i64 U0, .int .i64 D0] 25) = w5 at *
    go_still_tail 9, (by kernel_rfl)
    have hq := Quiet.below (B := w5.heap.size) (w := w5) (w' := w5.drew) ⟨1, rfl⟩
    have HPF := Lib.hid (show PF w w5.drew from HPF.out.up hq)
    have HPE := Lib.hid (show PE w5.drew g n f from HPE.out.keep (Keep.below hq))
    have H8 := Lib.hid (blk_below H8.out hq)
    have H9 := Lib.hid (blk_below H9.out hq)
    clear hq c8 i0 i1 i2 j0 j1 j2
    change wpList _ _ _ _ _ w5.drew
    generalize w5.drew = w5 at *
    go_wp2_with fail
    refine (HPT.out _).mono ?_
    rintro e w6 ⟨rfl, hb6, hp1, hp2, hp3⟩
    have HPF := Lib.hid (HPF.out.up hb6)
    have HPE := Lib.hid (HPE.out.keep (Keep.below hb6))
    have H8 := Lib.hid (blk_below H8.out hb6)
    have HL5 := Lib.hid (blk_lt H9.out)
    have H9 := Lib.hid (blk_below H9.out hb6)
    have HP1 := Lib.hid hp1
    have HP2 := Lib.hid hp2
    have HP3 := Lib.hid hp3
    clear hb6 hp1 hp2 hp3 HPT
    go_wp2
    refine (wpIn_wide (n := 1)).1 ?_
    have HW6 := Lib.hid (blk_lt HP1.out)
    have HWS := Lib.hid HPF.out.below.size
    have HWB : Hid (w.heap.size < b9) := Lib.hid (Nat.lt_trans HWB0.out HL8.out)
    have HGB : Hid (g < b9) := Lib.hid (Nat.lt_trans HG8.out HL8.out)
    have HIN := Lib.hid hin
    have HJN := Lib.hid hjn
    refine over_outer 1 (gf := 70) (encs := PairB.enc) (val := PairB.val) (Px := PairB.ok (fun k => k = b9 ∨ k = w6.heap.size + 1) f) (Z := fun k => k = b9) (xs := prsL f i j) rfl (enters_of Try.func70 (by kernel_rfl) rfl) (fun _ => rfl) (fun k h => by rw [h]; exact blk_lt H9.out) ?hseq
      (fun pre A => Below w.heap.size w A ∧ Blk A b9 25 #[.int .i64 (frU (smP f pre) 65536), .int .i64 (frD (smP f pre) 65536)] ∧ Kept (fun k => k = b9 ∨ w6.heap.size ≤ k) w6 A) ?hI ?h0 ?hround ?hdone
    case hseq =>
      intro W' hw' hlt
      have h5 := HL5.out
      have h6 := HW6.out
      have hg := HGB.out
      have h9 := blk_lt H9.out
      have hsz := hw'.size
      have h63 := blk_lt HP3.out
      exact paths1_hands g n i j _ _ _ f HV.out HLN.out HIN.out HJN.out _ W' (fun k h => by rcases h with h | h <;> omega) (fun h => by rcases h with h | h <;> omega) (HPE.out.keep (Keep.below hw')) (blk_below HP1.out hw') (blk_below HP2.out hw') (blk_below HP3.out hw') (fun h => by rcases h with h | h <;> omega) (fun h => by rcases h with h | h <;> omega)
    case hI =>
      rintro s A B ⟨h1, h2, h3⟩ hk
      have hws := HWS.out
      have h9 := blk_lt H9.out
      exact ⟨Kept.below h1 hk (fun i hi => by omega), hk.blk h2 (by omega), h3.trans (hk.mono fun k _ h => .inr h)⟩
    case h0 =>
      refine ⟨HPF.out.below, ?_, Kept.refl _ _⟩
      have h := H9.out
      rw [← HU0.out, ← HD0.out] at h
      exact h
    case hround =>
      rintro m0 pre ⟨A1, c1, r1, A2, c2, r2⟩ A ⟨hb, h9, hk⟩ hx hpx hlt
      simp only [PairB.enc]
      gi_wp2
      refine ⟨Below.refl _ _, ?_⟩
      rintro W2 hk2 ⟨r0, hr0⟩
      clear hr0
      have HPFX := Lib.hid (show pre ++ [(r1, r2)] <+: prsL f i j from hpx)
      have hmem : (r1, r2) ∈ prsL f i j := hpx.subset (by simp [PairB.val])
      obtain ⟨t1, t2, t3, t4, t5, t6, t7⟩ := term_fL HV.out HI.out HJ.out hmem
      have hw6 := HW6.out
      have hk62 := (hk.trans (hk2.mono fun k _ (h : k = w6.heap.size + 1) => .inr (by omega)))
      have HK62 := Lib.hid hk62
      have HR1 := Lib.hid ((show RowM (fun k => k = b9 ∨ k = w6.heap.size + 1) f A A1 r1.length c1 r1 from hx.1).kept (hk2.mono fun k _ h => .inr h))
      have HST := Lib.hid (hk2.blk h9 (by have := blk_lt H9.out; omega))
      have HB2 := Lib.hid (Kept.below hb hk2 (fun i hi => by have := HWS.out; omega))
      have HLEN2 := Lib.hid (hx.2).pers.cap
      clear hx hpx hmem hb h9 hk hk2 hk62
      have H8b := Lib.hid (HK62.out.blk H8.out (fun h => by have := HL8.out; have := blk_lt H8.out; rcases h with h | h <;> omega))
      have HPE2 := Lib.hid (HPE.out.kept HK62.out (fun h => by have := HGB.out; have := blk_lt H9.out; rcases h with h | h <;> omega))
      obtain ⟨ga, oa, eA, hce⟩ := HR1.out.pers.at_ HR1.out.pos
      subst eA
      obtain ⟨la, hla⟩ : ∃ la, la = r1.length - 1 := ⟨_, rfl⟩
      obtain ⟨e, he⟩ : ∃ e, e = r1.getD (r1.length - 1) 0 := ⟨_, rfl⟩
      obtain ⟨t, ht⟩ : ∃ t, t = r1.length + r2.length - 1 := ⟨_, rfl⟩
      obtain ⟨n1, hn1⟩ : ∃ n1, n1 = r1.length := ⟨_, rfl⟩
      obtain ⟨n2, hn2⟩ : ∃ n2, n2 = r2.length := ⟨_, rfl⟩
      obtain ⟨lab, hlab⟩ : ∃ lab, lab = n1 + n2 := ⟨_, rfl⟩
      obtain ⟨z, hz⟩ : ∃ z, z = wtP f r1 r2 := ⟨_, rfl⟩
      obtain ⟨S, hS⟩ : ∃ S, S = smP f pre := ⟨_, rfl⟩
      obtain ⟨ce0, ce1, ce2⟩ := hce (r1.length - 1) (by omega)
      rw [← he, ← hla] at ce0 ce1 ce2
      have hSb := smP_bd HV.out HI.out HJ.out (List.IsPrefix.trans ⟨[(r1, r2)], rfl⟩ HPFX.out)
      have hSz := smP_bd HV.out HI.out HJ.out HPFX.out
      rw [smP_app, smP, smP, ← hS] at hSz
      rw [← hS] at hSb
      have hzz : 0 ≤ z := by rw [hz]; exact wtP_bd r1 r2
      have hsz2 : S + z ≤ 65536 := by rw [hz]; have := hSz.2; simp only [Int.add_zero] at this; exact this
      rw [← he, ← ht, ← hz] at t7
      rw [← he] at t1
      obtain ⟨x, hx⟩ : ∃ x, x = g2 f e 0 := ⟨_, rfl⟩
      obtain ⟨y, hy⟩ : ∃ y, y = g2 f e 1 := ⟨_, rfl⟩
      obtain ⟨be, hbe⟩ : ∃ be, be = bK f e := ⟨_, rfl⟩
      have hbb := bK_bd f e
      have HIB : Hid (∀ W, PE W g n f → Calls Try.prog 48 #[.slice (some ⟨g, 0, none⟩) n n, .agg #[.int .i64 e, .int .i64 x, .int .i64 y]] W (Ret (fK be) W)) := Lib.hid (fun W h => by
        rw [hx, hy, hbe]
        exact inbredI_of (2 * e) g n f HV.out HLN.out (kinI_any g n f HV.out HLN.out (2 * e)) e (by rw [← HLN.out]; exact t1) (Nat.le_refl _) W h)
      have HHV : Hid (∀ W, Calls Try.prog 47 #[fK be, .int .i64 t] W (Ret (.agg #[.int .i64 (frU z 65536), .int .i64 (frD z 65536)]) W)) := Lib.hid (fun W => by
        have h := halved_any be t (by rw [hbe]; omega) (by omega) W
        rw [hbe, t7] at h
        rw [hbe]
        exact h)
      have HPL : Hid (∀ W, Calls Try.prog 46 #[.agg #[.int .i64 (frU S 65536), .int .i64 (frD S 65536)], .agg #[.int .i64 (frU z 65536), .int .i64 (frD z 65536)]] W (Ret (.agg #[.int .i64 (frU (S + z) 65536), .int .i64 (frD (S + z) 65536)]) W)) := Lib.hid (fun W => by
        have a1 := frU_le (u := S) (d := 65536) (B := 65536) (by omega) hSb.1 hSb.2
        have a2 := frU_le (u := z) (d := 65536) (B := 65536) (by omega) hzz (by omega)
        have a3 := frD_bd (u := S) (d := 65536) (B := 65536) (by omega) (by omega)
        have a4 := frD_bd (u := z) (d := 65536) (B := 65536) (by omega) (by omega)
        have h := plusKI_any (frU S 65536) (frD S 65536) (frU z 65536) (frD z 65536) W (by omega) (by omega) (by omega) (by omega)
        rw [fL_plus] at h
        exact h)
      have HW5 := Lib.hid (show IntKind.i64.wrap ((n1 : Int) - 1) = (la : Int) by rw [wrap_in64 (by omega)]; omega)
      have HW13 := Lib.hid (show IntKind.i64.wrap ((n1 : Int) + (n2 : Int)) = (lab : Int) by rw [wrap_in64 (by omega)]; omega)
      have HW14 := Lib.hid (show IntKind.i64.wrap ((lab : Int) - 1) = (t : Int) by rw [wrap_in64 (by omega)]; omega)
      have HLL := Lib.hid (show la < n1 by omega)
      have HC1 := Lib.hid (show n1 ≤ c1 by rw [hn1]; exact HR1.out.pers.cap)
      have HNA := Lib.hid (show ¬ ga = b9 from fun h => HR1.out.out _ rfl (.inl h))
      have HN8 := Lib.hid (show ¬ b8 = b9 from Nat.ne_of_lt HL8.out)
      have HNG := Lib.hid (show ¬ g = b9 from Nat.ne_of_lt HGB.out)
      have C8 := Lib.hid (blk_cell H8b.out (i := 0) rfl)
      rw [← hx] at ce1
      rw [← hy] at ce2
      have CE0 := Lib.hid ce0
      have CE1 := Lib.hid ce1
      have CE2 := Lib.hid ce2
      rw [← hn1, ← hn2]
      have HST1 : Hid (Blk W2 b9 25 #[.int .i64 (frU S 65536), .int .i64 (frD S 65536)]) := Lib.hid (by rw [hS]; exact HST.out)
      have HEQ := Lib.hid (show smP f (pre ++ [(r1, r2)]) = S + z by rw [smP_app, smP, smP, ← hS, ← hz]; simp)
      clear t1 t2 t3 t4 t5 t6 t7 hw6 hce hla he ht hn1 hn2 hlab hz hS ce0 ce1 ce2 hSb hSz hzz hsz2 hx hy hbe hbb HST
      refine wpIn_block ?_
      apply region_putIn [34, 35, 36, 37, 38, 39, 40, 41, 42, 43, 44, 45, 46, 47, 48, 49, 50] (fun _ v => Hid (Kept (fun k => k = b9) W2 v ∧ Blk v b9 25 #[.int .i64 (frU (S + z) 65536), .int .i64 (frD (S + z) 65536)]))
      refine region_round_inv (rs := [0, 1, 2, 3, 4, 5, 6, 7, 8, 9, 10, 11, 12, 13, 14, 15, 16, 17]) [34, 35, 36, 37, 38, 39, 40, 41, 42, 43, 44, 45, 46, 47, 48, 49, 50] (fun L us W => ∃ u34 u35 u36 u37 u38 u39 u40 u41 u42 u43 u44 u45 u46 u47 u48 u49 u50 X, us = [u34, u35, u36, u37, u38, u39, u40, u41, u42, u43, u44, u45, u46, u47, u48, u49, u50] ∧ RKq W2 b9 g n ga oa n1 c1 n2 c2 la lab e t A2 S z x y be L u34 u35 u36 u37 u38 u39 u40 u41 u42 u43 u44 u45 u46 u47 u48 u49 u50 X W) (by kernel_rfl) (by kernel_rfl) (putQ_out _ _ _) ?_ (by kernel_rfl) (by kernel_rfl) ?_ ?_
      · refine ⟨[undef, undef, undef, undef, undef, undef, undef, undef, undef, undef, undef, undef, undef, undef, undef, undef, undef], ?_, undef, undef, undef, undef, undef, undef, undef, undef, undef, undef, undef, undef, undef, undef, undef, undef, undef, S, rfl, ?_⟩
        · simp only [frmL, Act.put, List.setIfInBounds_toArray, List.set_cons_zero, List.set_cons_succ]
        exact ⟨blk_below HST1.out (Quiet.below ⟨1, rfl⟩), Kept.up _ (Quiet.below ⟨1, rfl⟩), .inr rfl, fun o => o.not_start.elim, fun o => o.not_start.elim, fun o => o.not_start.elim, fun o => o.not_start.elim, fun o => o.not_start.elim, fun o => o.not_start.elim, fun o => o.not_start.elim, fun o => o.not_start.elim, fun o => o.not_start.elim, fun o => o.not_start.elim, fun o => o.not_start.elim, fun o => o.not_start.elim, fun o => o.not_start.elim, fun o => o.not_start.elim, fun o => o.not_start.elim, fun o => o.not_start.elim, fun o => o.not_start.elim, fun o => o.not_start.elim⟩
      · refine StepsI.cons (i := 0) (ws := []) rfl (by kernel_rfl) (fun L a W hI hno hon hw K hK => ?_) ?_
        · obtain ⟨_, rfl, u34, u35, u36, u37, u38, u39, u40, u41, u42, u43, u44, u45, u46, u47, u48, u49, u50, X, rfl, H⟩ := hI
          simp only [List.getElem_toArray, List.getElem_cons_zero]
          obtain rfl := (H.hX.resolve_left (fun o => hno (H.h17 o).1)).symm
          simp only [frmL, Act.put, List.setIfInBounds_toArray, List.set_cons_zero, List.set_cons_succ]
          have c0 := blk_cell H.st (i := 0) rfl
          have c1 := blk_cell H.st (i := 1) rfl
          go_simp
          have HN := H
          refine hK.out _ _ ⟨[.agg #[.int .i64 (frU S 65536), .int .i64 (frD S 65536)], u35, u36, u37, u38, u39, u40, u41, u42, u43, u44, u45, u46, u47, u48, u49, u50], ?_, .agg #[.int .i64 (frU S 65536), .int .i64 (frD S 65536)], u35, u36, u37, u38, u39, u40, u41, u42, u43, u44, u45, u46, u47, u48, u49, u50, S, rfl, ?_⟩
          · simp only [frmL, Act.put, List.setIfInBounds_toArray, List.set_cons_zero, List.set_cons_succ]
          · exact ⟨HN.st, HN.kp, HN.hX.imp On.old id, fun _ => rfl, fun o => HN.h1 (o.of_set (by decide)), fun o => HN.h2 (o.of_set (by decide)), fun o => HN.h3 (o.of_set (by decide)), fun o => HN.h4 (o.of_set (by decide)), fun o => HN.h5 (o.of_set (by decide)), fun o => HN.h6 (o.of_set (by decide)), fun o => HN.h7 (o.of_set (by decide)), fun o => HN.h8 (o.of_set (by decide)), fun o => HN.h9 (o.of_set (by decide)), fun o => HN.h10 (o.of_set (by decide)), fun o => HN.h11 (o.of_set (by decide)), fun o => HN.h12 (o.of_set (by decide)), fun o => HN.h13 (o.of_set (by decide)), fun o => HN.h14 (o.of_set (by decide)), fun o => HN.h15 (o.of_set (by decide)), fun o => HN.h16 (o.of_set (by decide)), fun o => (HN.h17 (o.of_set (by decide))).imp On.old id⟩
        refine StepsI.cons (i := 1) (ws := []) rfl (by kernel_rfl) (fun L a W hI hno hon hw K hK => ?_) ?_
        · obtain ⟨_, rfl, u34, u35, u36, u37, u38, u39, u40, u41, u42, u43, u44, u45, u46, u47, u48, u49, u50, X, rfl, H⟩ := hI
          simp only [List.getElem_toArray, List.getElem_cons_zero, List.getElem_cons_succ]
          simp only [frmL, Act.put, List.setIfInBounds_toArray, List.set_cons_zero, List.set_cons_succ]
          have c0 := H.kp.cell (p := ⟨b8, 0, none⟩) HN8.out C8.out
          go_simp
          have HN := H
          refine hK.out _ _ ⟨[u34, .slice (some ⟨g, 0, none⟩) n n, u36, u37, u38, u39, u40, u41, u42, u43, u44, u45, u46, u47, u48, u49, u50], ?_, u34, .slice (some ⟨g, 0, none⟩) n n, u36, u37, u38, u39, u40, u41, u42, u43, u44, u45, u46, u47, u48, u49, u50, X, rfl, ?_⟩
          · simp only [frmL, Act.put, List.setIfInBounds_toArray, List.set_cons_zero, List.set_cons_succ]
          · exact ⟨HN.st, HN.kp, HN.hX.imp On.old id, fun o => HN.h0 (o.of_set (by decide)), fun _ => rfl, fun o => HN.h2 (o.of_set (by decide)), fun o => HN.h3 (o.of_set (by decide)), fun o => HN.h4 (o.of_set (by decide)), fun o => HN.h5 (o.of_set (by decide)), fun o => HN.h6 (o.of_set (by decide)), fun o => HN.h7 (o.of_set (by decide)), fun o => HN.h8 (o.of_set (by decide)), fun o => HN.h9 (o.of_set (by decide)), fun o => HN.h10 (o.of_set (by decide)), fun o => HN.h11 (o.of_set (by decide)), fun o => HN.h12 (o.of_set (by decide)), fun o => HN.h13 (o.of_set (by decide)), fun o => HN.h14 (o.of_set (by decide)), fun o => HN.h15 (o.of_set (by decide)), fun o => HN.h16 (o.of_set (by decide)), fun o => (HN.h17 (o.of_set (by decide))).imp On.old id⟩
        refine StepsI.cons (i := 2) (ws := []) rfl (by kernel_rfl) (fun L a W hI hno hon hw K hK => ?_) ?_
        · obtain ⟨_, rfl, u34, u35, u36, u37, u38, u39, u40, u41, u42, u43, u44, u45, u46, u47, u48, u49, u50, X, rfl, H⟩ := hI
          simp only [List.getElem_toArray, List.getElem_cons_zero, List.getElem_cons_succ]
          simp only [frmL, Act.put, List.setIfInBounds_toArray, List.set_cons_zero, List.set_cons_succ]
          go_simp
          have HN := H
          refine hK.out _ _ ⟨[u34, u35, .slice (some ⟨ga, oa, none⟩) n1 c1, u37, u38, u39, u40, u41, u42, u43, u44, u45, u46, u47, u48, u49, u50], ?_, u34, u35, .slice (some ⟨ga, oa, none⟩) n1 c1, u37, u38, u39, u40, u41, u42, u43, u44, u45, u46, u47, u48, u49, u50, X, rfl, ?_⟩
          · simp only [frmL, Act.put, List.setIfInBounds_toArray, List.set_cons_zero, List.set_cons_succ]
          · exact ⟨HN.st, HN.kp, HN.hX.imp On.old id, fun o => HN.h0 (o.of_set (by decide)), fun o => HN.h1 (o.of_set (by decide)), fun _ => rfl, fun o => HN.h3 (o.of_set (by decide)), fun o => HN.h4 (o.of_set (by decide)), fun o => HN.h5 (o.of_set (by decide)), fun o => HN.h6 (o.of_set (by decide)), fun o => HN.h7 (o.of_set (by decide)), fun o => HN.h8 (o.of_set (by decide)), fun o => HN.h9 (o.of_set (by decide)), fun o => HN.h10 (o.of_set (by decide)), fun o => HN.h11 (o.of_set (by decide)), fun o => HN.h12 (o.of_set (by decide)), fun o => HN.h13 (o.of_set (by decide)), fun o => HN.h14 (o.of_set (by decide)), fun o => HN.h15 (o.of_set (by decide)), fun o => HN.h16 (o.of_set (by decide)), fun o => (HN.h17 (o.of_set (by decide))).imp On.old id⟩
        refine StepsI.cons (i := 3) (ws := []) rfl (by kernel_rfl) (fun L a W hI hno hon hw K hK => ?_) ?_
        · obtain ⟨_, rfl, u34, u35, u36, u37, u38, u39, u40, u41, u42, u43, u44, u45, u46, u47, u48, u49, u50, X, rfl, H⟩ := hI
          simp only [List.getElem_toArray, List.getElem_cons_zero, List.getElem_cons_succ]
          simp only [frmL, Act.put, List.setIfInBounds_toArray, List.set_cons_zero, List.set_cons_succ]
          go_simp
          have HN := H
          refine hK.out _ _ ⟨[u34, u35, u36, .slice (some ⟨ga, oa, none⟩) n1 c1, u38, u39, u40, u41, u42, u43, u44, u45, u46, u47, u48, u49, u50], ?_, u34, u35, u36, .slice (some ⟨ga, oa, none⟩) n1 c1, u38, u39, u40, u41, u42, u43, u44, u45, u46, u47, u48, u49, u50, X, rfl, ?_⟩
          · simp only [frmL, Act.put, List.setIfInBounds_toArray, List.set_cons_zero, List.set_cons_succ]
          · exact ⟨HN.st, HN.kp, HN.hX.imp On.old id, fun o => HN.h0 (o.of_set (by decide)), fun o => HN.h1 (o.of_set (by decide)), fun o => HN.h2 (o.of_set (by decide)), fun _ => rfl, fun o => HN.h4 (o.of_set (by decide)), fun o => HN.h5 (o.of_set (by decide)), fun o => HN.h6 (o.of_set (by decide)), fun o => HN.h7 (o.of_set (by decide)), fun o => HN.h8 (o.of_set (by decide)), fun o => HN.h9 (o.of_set (by decide)), fun o => HN.h10 (o.of_set (by decide)), fun o => HN.h11 (o.of_set (by decide)), fun o => HN.h12 (o.of_set (by decide)), fun o => HN.h13 (o.of_set (by decide)), fun o => HN.h14 (o.of_set (by decide)), fun o => HN.h15 (o.of_set (by decide)), fun o => HN.h16 (o.of_set (by decide)), fun o => (HN.h17 (o.of_set (by decide))).imp On.old id⟩
        refine StepsI.cons (i := 4) (ws := [3]) rfl (by kernel_rfl) (fun L a W hI hno hon hw K hK => ?_) ?_
        · obtain ⟨_, rfl, u34, u35, u36, u37, u38, u39, u40, u41, u42, u43, u44, u45, u46, u47, u48, u49, u50, X, rfl, H⟩ := hI
          simp only [List.getElem_toArray, List.getElem_cons_zero, List.getElem_cons_succ]
          obtain rfl := H.h3 (hw 3 (by simp))
          simp only [frmL, Act.put, List.setIfInBounds_toArray, List.set_cons_zero, List.set_cons_succ]
          go_simp
          have HN := H
          refine hK.out _ _ ⟨[u34, u35, u36, .slice (some ⟨ga, oa, none⟩) n1 c1, .int .i64 n1, u39, u40, u41, u42, u43, u44, u45, u46, u47, u48, u49, u50], ?_, u34, u35, u36, .slice (some ⟨ga, oa, none⟩) n1 c1, .int .i64 n1, u39, u40, u41, u42, u43, u44, u45, u46, u47, u48, u49, u50, X, rfl, ?_⟩
          · simp only [frmL, Act.put, List.setIfInBounds_toArray, List.set_cons_zero, List.set_cons_succ]
          · exact ⟨HN.st, HN.kp, HN.hX.imp On.old id, fun o => HN.h0 (o.of_set (by decide)), fun o => HN.h1 (o.of_set (by decide)), fun o => HN.h2 (o.of_set (by decide)), fun o => HN.h3 (o.of_set (by decide)), fun _ => rfl, fun o => HN.h5 (o.of_set (by decide)), fun o => HN.h6 (o.of_set (by decide)), fun o => HN.h7 (o.of_set (by decide)), fun o => HN.h8 (o.of_set (by decide)), fun o => HN.h9 (o.of_set (by decide)), fun o => HN.h10 (o.of_set (by decide)), fun o => HN.h11 (o.of_set (by decide)), fun o => HN.h12 (o.of_set (by decide)), fun o => HN.h13 (o.of_set (by decide)), fun o => HN.h14 (o.of_set (by decide)), fun o => HN.h15 (o.of_set (by decide)), fun o => HN.h16 (o.of_set (by decide)), fun o => (HN.h17 (o.of_set (by decide))).imp On.old id⟩
        refine StepsI.cons (i := 5) (ws := [4]) rfl (by kernel_rfl) (fun L a W hI hno hon hw K hK => ?_) ?_
        · obtain ⟨_, rfl, u34, u35, u36, u37, u38, u39, u40, u41, u42, u43, u44, u45, u46, u47, u48, u49, u50, X, rfl, H⟩ := hI
          simp only [List.getElem_toArray, List.getElem_cons_zero, List.getElem_cons_succ]
          obtain rfl := H.h4 (hw 4 (by simp))
          simp only [frmL, Act.put, List.setIfInBounds_toArray, List.set_cons_zero, List.set_cons_succ]
          have hwr := HW5.out
          go_simp
          have HN := H
          refine hK.out _ _ ⟨[u34, u35, u36, u37, .int .i64 n1, .int .i64 la, u40, u41, u42, u43, u44, u45, u46, u47, u48, u49, u50], ?_, u34, u35, u36, u37, .int .i64 n1, .int .i64 la, u40, u41, u42, u43, u44, u45, u46, u47, u48, u49, u50, X, rfl, ?_⟩
          · simp only [frmL, Act.put, List.setIfInBounds_toArray, List.set_cons_zero, List.set_cons_succ]
          · exact ⟨HN.st, HN.kp, HN.hX.imp On.old id, fun o => HN.h0 (o.of_set (by decide)), fun o => HN.h1 (o.of_set (by decide)), fun o => HN.h2 (o.of_set (by decide)), fun o => HN.h3 (o.of_set (by decide)), fun o => HN.h4 (o.of_set (by decide)), fun _ => rfl, fun o => HN.h6 (o.of_set (by decide)), fun o => HN.h7 (o.of_set (by decide)), fun o => HN.h8 (o.of_set (by decide)), fun o => HN.h9 (o.of_set (by decide)), fun o => HN.h10 (o.of_set (by decide)), fun o => HN.h11 (o.of_set (by decide)), fun o => HN.h12 (o.of_set (by decide)), fun o => HN.h13 (o.of_set (by decide)), fun o => HN.h14 (o.of_set (by decide)), fun o => HN.h15 (o.of_set (by decide)), fun o => HN.h16 (o.of_set (by decide)), fun o => (HN.h17 (o.of_set (by decide))).imp On.old id⟩
        refine StepsI.cons (i := 6) (ws := [2, 5]) rfl (by kernel_rfl) (fun L a W hI hno hon hw K hK => ?_) ?_
        · obtain ⟨_, rfl, u34, u35, u36, u37, u38, u39, u40, u41, u42, u43, u44, u45, u46, u47, u48, u49, u50, X, rfl, H⟩ := hI
          simp only [List.getElem_toArray, List.getElem_cons_zero, List.getElem_cons_succ]
          obtain rfl := H.h2 (hw 2 (by simp))
          obtain rfl := H.h5 (hw 5 (by simp))
          simp only [frmL, Act.put, List.setIfInBounds_toArray, List.set_cons_zero, List.set_cons_succ]
          have hll := HLL.out
          go_simp
          have HN := H
          refine hK.out _ _ ⟨[u34, u35, .slice (some ⟨ga, oa, none⟩) n1 c1, u37, u38, .int .i64 la, .pointer (some ⟨ga, oa + la * 3, none⟩), u41, u42, u43, u44, u45, u46, u47, u48, u49, u50], ?_, u34, u35, .slice (some ⟨ga, oa, none⟩) n1 c1, u37, u38, .int .i64 la, .pointer (some ⟨ga, oa + la * 3, none⟩), u41, u42, u43, u44, u45, u46, u47, u48, u49, u50, X, rfl, ?_⟩
          · simp only [frmL, Act.put, List.setIfInBounds_toArray, List.set_cons_zero, List.set_cons_succ]
          · exact ⟨HN.st, HN.kp, HN.hX.imp On.old id, fun o => HN.h0 (o.of_set (by decide)), fun o => HN.h1 (o.of_set (by decide)), fun o => HN.h2 (o.of_set (by decide)), fun o => HN.h3 (o.of_set (by decide)), fun o => HN.h4 (o.of_set (by decide)), fun o => HN.h5 (o.of_set (by decide)), fun _ => rfl, fun o => HN.h7 (o.of_set (by decide)), fun o => HN.h8 (o.of_set (by decide)), fun o => HN.h9 (o.of_set (by decide)), fun o => HN.h10 (o.of_set (by decide)), fun o => HN.h11 (o.of_set (by decide)), fun o => HN.h12 (o.of_set (by decide)), fun o => HN.h13 (o.of_set (by decide)), fun o => HN.h14 (o.of_set (by decide)), fun o => HN.h15 (o.of_set (by decide)), fun o => HN.h16 (o.of_set (by decide)), fun o => (HN.h17 (o.of_set (by decide))).imp On.old id⟩
        refine StepsI.cons (i := 7) (ws := [6]) rfl (by kernel_rfl) (fun L a W hI hno hon hw K hK => ?_) ?_
        · obtain ⟨_, rfl, u34, u35, u36, u37, u38, u39, u40, u41, u42, u43, u44, u45, u46, u47, u48, u49, u50, X, rfl, H⟩ := hI
          simp only [List.getElem_toArray, List.getElem_cons_zero, List.getElem_cons_succ]
          obtain rfl := H.h6 (hw 6 (by simp))
          simp only [frmL, Act.put, List.setIfInBounds_toArray, List.set_cons_zero, List.set_cons_succ]
          have c0 := H.kp.cell (p := ⟨ga, oa + la * 3, none⟩) HNA.out CE0.out
          have c1 := H.kp.cell (p := ⟨ga, oa + la * 3 + 1, none⟩) HNA.out CE1.out
          have c2 := H.kp.cell (p := ⟨ga, oa + la * 3 + 2, none⟩) HNA.out CE2.out
          go_simp
          have HN := H
          refine hK.out _ _ ⟨[u34, u35, u36, u37, u38, u39, .pointer (some ⟨ga, oa + la * 3, none⟩), .agg #[.int .i64 e, .int .i64 x, .int .i64 y], u42, u43, u44, u45, u46, u47, u48, u49, u50], ?_, u34, u35, u36, u37, u38, u39, .pointer (some ⟨ga, oa + la * 3, none⟩), .agg #[.int .i64 e, .int .i64 x, .int .i64 y], u42, u43, u44, u45, u46, u47, u48, u49, u50, X, rfl, ?_⟩
          · simp only [frmL, Act.put, List.setIfInBounds_toArray, List.set_cons_zero, List.set_cons_succ]
          · exact ⟨HN.st, HN.kp, HN.hX.imp On.old id, fun o => HN.h0 (o.of_set (by decide)), fun o => HN.h1 (o.of_set (by decide)), fun o => HN.h2 (o.of_set (by decide)), fun o => HN.h3 (o.of_set (by decide)), fun o => HN.h4 (o.of_set (by decide)), fun o => HN.h5 (o.of_set (by decide)), fun o => HN.h6 (o.of_set (by decide)), fun _ => rfl, fun o => HN.h8 (o.of_set (by decide)), fun o => HN.h9 (o.of_set (by decide)), fun o => HN.h10 (o.of_set (by decide)), fun o => HN.h11 (o.of_set (by decide)), fun o => HN.h12 (o.of_set (by decide)), fun o => HN.h13 (o.of_set (by decide)), fun o => HN.h14 (o.of_set (by decide)), fun o => HN.h15 (o.of_set (by decide)), fun o => HN.h16 (o.of_set (by decide)), fun o => (HN.h17 (o.of_set (by decide))).imp On.old id⟩
        refine StepsI.cons (i := 8) (ws := [1, 7]) rfl (by kernel_rfl) (fun L a W hI hno hon hw K hK => ?_) ?_
        · obtain ⟨_, rfl, u34, u35, u36, u37, u38, u39, u40, u41, u42, u43, u44, u45, u46, u47, u48, u49, u50, X, rfl, H⟩ := hI
          simp only [List.getElem_toArray, List.getElem_cons_zero, List.getElem_cons_succ]
          obtain rfl := H.h1 (hw 1 (by simp))
          obtain rfl := H.h7 (hw 7 (by simp))
          simp only [frmL, Act.put, List.setIfInBounds_toArray, List.set_cons_zero, List.set_cons_succ]
          go_simp
          go_wp2_with (go_at_call 48; (with_reducible refine (HIB.out _ (HPE2.out.kept H.kp HNG.out)).mono ?_); rintro e w9 ⟨rfl, hb⟩)
          have HN := H.up hb
          refine hK.out _ _ ⟨[u34, .slice (some ⟨g, 0, none⟩) n n, u36, u37, u38, u39, u40, .agg #[.int .i64 e, .int .i64 x, .int .i64 y], fK be, u43, u44, u45, u46, u47, u48, u49, u50], ?_, u34, .slice (some ⟨g, 0, none⟩) n n, u36, u37, u38, u39, u40, .agg #[.int .i64 e, .int .i64 x, .int .i64 y], fK be, u43, u44, u45, u46, u47, u48, u49, u50, X, rfl, ?_⟩
          · simp only [frmL, Act.put, List.setIfInBounds_toArray, List.set_cons_zero, List.set_cons_succ]
          · exact ⟨HN.st, HN.kp, HN.hX.imp On.old id, fun o => HN.h0 (o.of_set (by decide)), fun o => HN.h1 (o.of_set (by decide)), fun o => HN.h2 (o.of_set (by decide)), fun o => HN.h3 (o.of_set (by decide)), fun o => HN.h4 (o.of_set (by decide)), fun o => HN.h5 (o.of_set (by decide)), fun o => HN.h6 (o.of_set (by decide)), fun o => HN.h7 (o.of_set (by decide)), fun _ => rfl, fun o => HN.h9 (o.of_set (by decide)), fun o => HN.h10 (o.of_set (by decide)), fun o => HN.h11 (o.of_set (by decide)), fun o => HN.h12 (o.of_set (by decide)), fun o => HN.h13 (o.of_set (by decide)), fun o => HN.h14 (o.of_set (by decide)), fun o => HN.h15 (o.of_set (by decide)), fun o => HN.h16 (o.of_set (by decide)), fun o => (HN.h17 (o.of_set (by decide))).imp On.old id⟩
        refine StepsI.cons (i := 9) (ws := []) rfl (by kernel_rfl) (fun L a W hI hno hon hw K hK => ?_) ?_
        · obtain ⟨_, rfl, u34, u35, u36, u37, u38, u39, u40, u41, u42, u43, u44, u45, u46, u47, u48, u49, u50, X, rfl, H⟩ := hI
          simp only [List.getElem_toArray, List.getElem_cons_zero, List.getElem_cons_succ]
          simp only [frmL, Act.put, List.setIfInBounds_toArray, List.set_cons_zero, List.set_cons_succ]
          go_simp
          have HN := H
          refine hK.out _ _ ⟨[u34, u35, u36, u37, u38, u39, u40, u41, u42, .slice (some ⟨ga, oa, none⟩) n1 c1, u44, u45, u46, u47, u48, u49, u50], ?_, u34, u35, u36, u37, u38, u39, u40, u41, u42, .slice (some ⟨ga, oa, none⟩) n1 c1, u44, u45, u46, u47, u48, u49, u50, X, rfl, ?_⟩
          · simp only [frmL, Act.put, List.setIfInBounds_toArray, List.set_cons_zero, List.set_cons_succ]
          · exact ⟨HN.st, HN.kp, HN.hX.imp On.old id, fun o => HN.h0 (o.of_set (by decide)), fun o => HN.h1 (o.of_set (by decide)), fun o => HN.h2 (o.of_set (by decide)), fun o => HN.h3 (o.of_set (by decide)), fun o => HN.h4 (o.of_set (by decide)), fun o => HN.h5 (o.of_set (by decide)), fun o => HN.h6 (o.of_set (by decide)), fun o => HN.h7 (o.of_set (by decide)), fun o => HN.h8 (o.of_set (by decide)), fun _ => rfl, fun o => HN.h10 (o.of_set (by decide)), fun o => HN.h11 (o.of_set (by decide)), fun o => HN.h12 (o.of_set (by decide)), fun o => HN.h13 (o.of_set (by decide)), fun o => HN.h14 (o.of_set (by decide)), fun o => HN.h15 (o.of_set (by decide)), fun o => HN.h16 (o.of_set (by decide)), fun o => (HN.h17 (o.of_set (by decide))).imp On.old id⟩
        refine StepsI.cons (i := 10) (ws := [9]) rfl (by kernel_rfl) (fun L a W hI hno hon hw K hK => ?_) ?_
        · obtain ⟨_, rfl, u34, u35, u36, u37, u38, u39, u40, u41, u42, u43, u44, u45, u46, u47, u48, u49, u50, X, rfl, H⟩ := hI
          simp only [List.getElem_toArray, List.getElem_cons_zero, List.getElem_cons_succ]
          obtain rfl := H.h9 (hw 9 (by simp))
          simp only [frmL, Act.put, List.setIfInBounds_toArray, List.set_cons_zero, List.set_cons_succ]
          go_simp
          have HN := H
          refine hK.out _ _ ⟨[u34, u35, u36, u37, u38, u39, u40, u41, u42, .slice (some ⟨ga, oa, none⟩) n1 c1, .int .i64 n1, u45, u46, u47, u48, u49, u50], ?_, u34, u35, u36, u37, u38, u39, u40, u41, u42, .slice (some ⟨ga, oa, none⟩) n1 c1, .int .i64 n1, u45, u46, u47, u48, u49, u50, X, rfl, ?_⟩
          · simp only [frmL, Act.put, List.setIfInBounds_toArray, List.set_cons_zero, List.set_cons_succ]
          · exact ⟨HN.st, HN.kp, HN.hX.imp On.old id, fun o => HN.h0 (o.of_set (by decide)), fun o => HN.h1 (o.of_set (by decide)), fun o => HN.h2 (o.of_set (by decide)), fun o => HN.h3 (o.of_set (by decide)), fun o => HN.h4 (o.of_set (by decide)), fun o => HN.h5 (o.of_set (by decide)), fun o => HN.h6 (o.of_set (by decide)), fun o => HN.h7 (o.of_set (by decide)), fun o => HN.h8 (o.of_set (by decide)), fun o => HN.h9 (o.of_set (by decide)), fun _ => rfl, fun o => HN.h11 (o.of_set (by decide)), fun o => HN.h12 (o.of_set (by decide)), fun o => HN.h13 (o.of_set (by decide)), fun o => HN.h14 (o.of_set (by decide)), fun o => HN.h15 (o.of_set (by decide)), fun o => HN.h16 (o.of_set (by decide)), fun o => (HN.h17 (o.of_set (by decide))).imp On.old id⟩
        refine StepsI.cons (i := 11) (ws := []) rfl (by kernel_rfl) (fun L a W hI hno hon hw K hK => ?_) ?_
        · obtain ⟨_, rfl, u34, u35, u36, u37, u38, u39, u40, u41, u42, u43, u44, u45, u46, u47, u48, u49, u50, X, rfl, H⟩ := hI
          simp only [List.getElem_toArray, List.getElem_cons_zero, List.getElem_cons_succ]
          simp only [frmL, Act.put, List.setIfInBounds_toArray, List.set_cons_zero, List.set_cons_succ]
          go_simp
          have HN := H
          refine hK.out _ _ ⟨[u34, u35, u36, u37, u38, u39, u40, u41, u42, u43, u44, .slice A2 n2 c2, u46, u47, u48, u49, u50], ?_, u34, u35, u36, u37, u38, u39, u40, u41, u42, u43, u44, .slice A2 n2 c2, u46, u47, u48, u49, u50, X, rfl, ?_⟩
          · simp only [frmL, Act.put, List.setIfInBounds_toArray, List.set_cons_zero, List.set_cons_succ]
          · exact ⟨HN.st, HN.kp, HN.hX.imp On.old id, fun o => HN.h0 (o.of_set (by decide)), fun o => HN.h1 (o.of_set (by decide)), fun o => HN.h2 (o.of_set (by decide)), fun o => HN.h3 (o.of_set (by decide)), fun o => HN.h4 (o.of_set (by decide)), fun o => HN.h5 (o.of_set (by decide)), fun o => HN.h6 (o.of_set (by decide)), fun o => HN.h7 (o.of_set (by decide)), fun o => HN.h8 (o.of_set (by decide)), fun o => HN.h9 (o.of_set (by decide)), fun o => HN.h10 (o.of_set (by decide)), fun _ => rfl, fun o => HN.h12 (o.of_set (by decide)), fun o => HN.h13 (o.of_set (by decide)), fun o => HN.h14 (o.of_set (by decide)), fun o => HN.h15 (o.of_set (by decide)), fun o => HN.h16 (o.of_set (by decide)), fun o => (HN.h17 (o.of_set (by decide))).imp On.old id⟩
        refine StepsI.cons (i := 12) (ws := [11]) rfl (by kernel_rfl) (fun L a W hI hno hon hw K hK => ?_) ?_
        · obtain ⟨_, rfl, u34, u35, u36, u37, u38, u39, u40, u41, u42, u43, u44, u45, u46, u47, u48, u49, u50, X, rfl, H⟩ := hI
          simp only [List.getElem_toArray, List.getElem_cons_zero, List.getElem_cons_succ]
          obtain rfl := H.h11 (hw 11 (by simp))
          simp only [frmL, Act.put, List.setIfInBounds_toArray, List.set_cons_zero, List.set_cons_succ]
          go_simp
          have HN := H
          refine hK.out _ _ ⟨[u34, u35, u36, u37, u38, u39, u40, u41, u42, u43, u44, .slice A2 n2 c2, .int .i64 n2, u47, u48, u49, u50], ?_, u34, u35, u36, u37, u38, u39, u40, u41, u42, u43, u44, .slice A2 n2 c2, .int .i64 n2, u47, u48, u49, u50, X, rfl, ?_⟩
          · simp only [frmL, Act.put, List.setIfInBounds_toArray, List.set_cons_zero, List.set_cons_succ]
          · exact ⟨HN.st, HN.kp, HN.hX.imp On.old id, fun o => HN.h0 (o.of_set (by decide)), fun o => HN.h1 (o.of_set (by decide)), fun o => HN.h2 (o.of_set (by decide)), fun o => HN.h3 (o.of_set (by decide)), fun o => HN.h4 (o.of_set (by decide)), fun o => HN.h5 (o.of_set (by decide)), fun o => HN.h6 (o.of_set (by decide)), fun o => HN.h7 (o.of_set (by decide)), fun o => HN.h8 (o.of_set (by decide)), fun o => HN.h9 (o.of_set (by decide)), fun o => HN.h10 (o.of_set (by decide)), fun o => HN.h11 (o.of_set (by decide)), fun _ => rfl, fun o => HN.h13 (o.of_set (by decide)), fun o => HN.h14 (o.of_set (by decide)), fun o => HN.h15 (o.of_set (by decide)), fun o => HN.h16 (o.of_set (by decide)), fun o => (HN.h17 (o.of_set (by decide))).imp On.old id⟩
        refine StepsI.cons (i := 13) (ws := [10, 12]) rfl (by kernel_rfl) (fun L a W hI hno hon hw K hK => ?_) ?_
        · obtain ⟨_, rfl, u34, u35, u36, u37, u38, u39, u40, u41, u42, u43, u44, u45, u46, u47, u48, u49, u50, X, rfl, H⟩ := hI
          simp only [List.getElem_toArray, List.getElem_cons_zero, List.getElem_cons_succ]
          obtain rfl := H.h10 (hw 10 (by simp))
          obtain rfl := H.h12 (hw 12 (by simp))
          simp only [frmL, Act.put, List.setIfInBounds_toArray, List.set_cons_zero, List.set_cons_succ]
          have hwr := HW13.out
          go_simp
          have HN := H
          refine hK.out _ _ ⟨[u34, u35, u36, u37, u38, u39, u40, u41, u42, u43, .int .i64 n1, u45, .int .i64 n2, .int .i64 lab, u48, u49, u50], ?_, u34, u35, u36, u37, u38, u39, u40, u41, u42, u43, .int .i64 n1, u45, .int .i64 n2, .int .i64 lab, u48, u49, u50, X, rfl, ?_⟩
          · simp only [frmL, Act.put, List.setIfInBounds_toArray, List.set_cons_zero, List.set_cons_succ]
          · exact ⟨HN.st, HN.kp, HN.hX.imp On.old id, fun o => HN.h0 (o.of_set (by decide)), fun o => HN.h1 (o.of_set (by decide)), fun o => HN.h2 (o.of_set (by decide)), fun o => HN.h3 (o.of_set (by decide)), fun o => HN.h4 (o.of_set (by decide)), fun o => HN.h5 (o.of_set (by decide)), fun o => HN.h6 (o.of_set (by decide)), fun o => HN.h7 (o.of_set (by decide)), fun o => HN.h8 (o.of_set (by decide)), fun o => HN.h9 (o.of_set (by decide)), fun o => HN.h10 (o.of_set (by decide)), fun o => HN.h11 (o.of_set (by decide)), fun o => HN.h12 (o.of_set (by decide)), fun _ => rfl, fun o => HN.h14 (o.of_set (by decide)), fun o => HN.h15 (o.of_set (by decide)), fun o => HN.h16 (o.of_set (by decide)), fun o => (HN.h17 (o.of_set (by decide))).imp On.old id⟩
        refine StepsI.cons (i := 14) (ws := [13]) rfl (by kernel_rfl) (fun L a W hI hno hon hw K hK => ?_) ?_
        · obtain ⟨_, rfl, u34, u35, u36, u37, u38, u39, u40, u41, u42, u43, u44, u45, u46, u47, u48, u49, u50, X, rfl, H⟩ := hI
          simp only [List.getElem_toArray, List.getElem_cons_zero, List.getElem_cons_succ]
          obtain rfl := H.h13 (hw 13 (by simp))
          simp only [frmL, Act.put, List.setIfInBounds_toArray, List.set_cons_zero, List.set_cons_succ]
          have hwr := HW14.out
          go_simp
          have HN := H
          refine hK.out _ _ ⟨[u34, u35, u36, u37, u38, u39, u40, u41, u42, u43, u44, u45, u46, .int .i64 lab, .int .i64 t, u49, u50], ?_, u34, u35, u36, u37, u38, u39, u40, u41, u42, u43, u44, u45, u46, .int .i64 lab, .int .i64 t, u49, u50, X, rfl, ?_⟩
          · simp only [frmL, Act.put, List.setIfInBounds_toArray, List.set_cons_zero, List.set_cons_succ]
          · exact ⟨HN.st, HN.kp, HN.hX.imp On.old id, fun o => HN.h0 (o.of_set (by decide)), fun o => HN.h1 (o.of_set (by decide)), fun o => HN.h2 (o.of_set (by decide)), fun o => HN.h3 (o.of_set (by decide)), fun o => HN.h4 (o.of_set (by decide)), fun o => HN.h5 (o.of_set (by decide)), fun o => HN.h6 (o.of_set (by decide)), fun o => HN.h7 (o.of_set (by decide)), fun o => HN.h8 (o.of_set (by decide)), fun o => HN.h9 (o.of_set (by decide)), fun o => HN.h10 (o.of_set (by decide)), fun o => HN.h11 (o.of_set (by decide)), fun o => HN.h12 (o.of_set (by decide)), fun o => HN.h13 (o.of_set (by decide)), fun _ => rfl, fun o => HN.h15 (o.of_set (by decide)), fun o => HN.h16 (o.of_set (by decide)), fun o => (HN.h17 (o.of_set (by decide))).imp On.old id⟩
        refine StepsI.cons (i := 15) (ws := [8, 14, 8]) rfl (by kernel_rfl) (fun L a W hI hno hon hw K hK => ?_) ?_
        · obtain ⟨_, rfl, u34, u35, u36, u37, u38, u39, u40, u41, u42, u43, u44, u45, u46, u47, u48, u49, u50, X, rfl, H⟩ := hI
          simp only [List.getElem_toArray, List.getElem_cons_zero, List.getElem_cons_succ]
          obtain rfl := H.h8 (hw 8 (by simp))
          obtain rfl := H.h14 (hw 14 (by simp))
          simp only [frmL, Act.put, List.setIfInBounds_toArray, List.set_cons_zero, List.set_cons_succ]
          go_simp
          go_wp2_with (go_at_call 47; (with_reducible refine (HHV.out _).mono ?_); rintro e w9 ⟨rfl, hb⟩)
          have HN := H.up hb
          refine hK.out _ _ ⟨[u34, u35, u36, u37, u38, u39, u40, u41, fK be, u43, u44, u45, u46, u47, .int .i64 t, .agg #[.int .i64 (frU z 65536), .int .i64 (frD z 65536)], u50], ?_, u34, u35, u36, u37, u38, u39, u40, u41, fK be, u43, u44, u45, u46, u47, .int .i64 t, .agg #[.int .i64 (frU z 65536), .int .i64 (frD z 65536)], u50, X, rfl, ?_⟩
          · simp only [frmL, Act.put, List.setIfInBounds_toArray, List.set_cons_zero, List.set_cons_succ]
          · exact ⟨HN.st, HN.kp, HN.hX.imp On.old id, fun o => HN.h0 (o.of_set (by decide)), fun o => HN.h1 (o.of_set (by decide)), fun o => HN.h2 (o.of_set (by decide)), fun o => HN.h3 (o.of_set (by decide)), fun o => HN.h4 (o.of_set (by decide)), fun o => HN.h5 (o.of_set (by decide)), fun o => HN.h6 (o.of_set (by decide)), fun o => HN.h7 (o.of_set (by decide)), fun o => HN.h8 (o.of_set (by decide)), fun o => HN.h9 (o.of_set (by decide)), fun o => HN.h10 (o.of_set (by decide)), fun o => HN.h11 (o.of_set (by decide)), fun o => HN.h12 (o.of_set (by decide)), fun o => HN.h13 (o.of_set (by decide)), fun o => HN.h14 (o.of_set (by decide)), fun _ => rfl, fun o => HN.h16 (o.of_set (by decide)), fun o => (HN.h17 (o.of_set (by decide))).imp On.old id⟩
        refine StepsI.cons (i := 16) (ws := [0, 15, 15]) rfl (by kernel_rfl) (fun L a W hI hno hon hw K hK => ?_) ?_
        · obtain ⟨_, rfl, u34, u35, u36, u37, u38, u39, u40, u41, u42, u43, u44, u45, u46, u47, u48, u49, u50, X, rfl, H⟩ := hI
          simp only [List.getElem_toArray, List.getElem_cons_zero, List.getElem_cons_succ]
          obtain rfl := H.h0 (hw 0 (by simp))
          obtain rfl := H.h15 (hw 15 (by simp))
          simp only [frmL, Act.put, List.setIfInBounds_toArray, List.set_cons_zero, List.set_cons_succ]
          go_simp
          go_wp2_with (go_at_call 46; (with_reducible refine (HPL.out _).mono ?_); rintro e w9 ⟨rfl, hb⟩)
          have HN := H.up hb
          refine hK.out _ _ ⟨[.agg #[.int .i64 (frU S 65536), .int .i64 (frD S 65536)], u35, u36, u37, u38, u39, u40, u41, u42, u43, u44, u45, u46, u47, u48, .agg #[.int .i64 (frU z 65536), .int .i64 (frD z 65536)], .agg #[.int .i64 (frU (S + z) 65536), .int .i64 (frD (S + z) 65536)]], ?_, .agg #[.int .i64 (frU S 65536), .int .i64 (frD S 65536)], u35, u36, u37, u38, u39, u40, u41, u42, u43, u44, u45, u46, u47, u48, .agg #[.int .i64 (frU z 65536), .int .i64 (frD z 65536)], .agg #[.int .i64 (frU (S + z) 65536), .int .i64 (frD (S + z) 65536)], X, rfl, ?_⟩
          · simp only [frmL, Act.put, List.setIfInBounds_toArray, List.set_cons_zero, List.set_cons_succ]
          · exact ⟨HN.st, HN.kp, HN.hX.imp On.old id, fun o => HN.h0 (o.of_set (by decide)), fun o => HN.h1 (o.of_set (by decide)), fun o => HN.h2 (o.of_set (by decide)), fun o => HN.h3 (o.of_set (by decide)), fun o => HN.h4 (o.of_set (by decide)), fun o => HN.h5 (o.of_set (by decide)), fun o => HN.h6 (o.of_set (by decide)), fun o => HN.h7 (o.of_set (by decide)), fun o => HN.h8 (o.of_set (by decide)), fun o => HN.h9 (o.of_set (by decide)), fun o => HN.h10 (o.of_set (by decide)), fun o => HN.h11 (o.of_set (by decide)), fun o => HN.h12 (o.of_set (by decide)), fun o => HN.h13 (o.of_set (by decide)), fun o => HN.h14 (o.of_set (by decide)), fun o => HN.h15 (o.of_set (by decide)), fun _ => rfl, fun o => (HN.h17 (o.of_set (by decide))).imp On.old id⟩
        refine StepsI.cons (i := 17) (ws := [16, 16, 0, 1, 2, 3, 4, 5, 6, 7, 8, 9, 10, 11, 12, 13, 14, 15, 16]) rfl (by kernel_rfl) (fun L a W hI hno hon hw K hK => ?_) ?_
        · obtain ⟨_, rfl, u34, u35, u36, u37, u38, u39, u40, u41, u42, u43, u44, u45, u46, u47, u48, u49, u50, X, rfl, H⟩ := hI
          simp only [List.getElem_toArray, List.getElem_cons_zero, List.getElem_cons_succ]
          obtain rfl := H.h16 (hw 16 (by simp))
          simp only [frmL, Act.put, List.setIfInBounds_toArray, List.set_cons_zero, List.set_cons_succ]
          have c0 := blk_cell H.st (i := 0) rfl
          have c1 := blk_cell H.st (i := 1) rfl
          have f0 := blk_frozen H.st 0
          have f1 := blk_frozen H.st 1
          go_simp
          have HN := H
          refine hK.out _ _ ⟨[u34, u35, u36, u37, u38, u39, u40, u41, u42, u43, u44, u45, u46, u47, u48, u49, .agg #[.int .i64 (frU (S + z) 65536), .int .i64 (frD (S + z) 65536)]], ?_, u34, u35, u36, u37, u38, u39, u40, u41, u42, u43, u44, u45, u46, u47, u48, u49, .agg #[.int .i64 (frU (S + z) 65536), .int .i64 (frD (S + z) 65536)], S + z, rfl, ?_⟩
          · simp only [frmL, Act.put, List.setIfInBounds_toArray, List.set_cons_zero, List.set_cons_succ]
          · exact ⟨blk_set (blk_set H.st 0 _) 1 _, (H.kp.trans (Kept.set _ ⟨b9, 0, none⟩ _ rfl)).trans (Kept.set _ ⟨b9, 1, none⟩ _ rfl), .inl hon, fun o => HN.h0 (o.of_set (by decide)), fun o => HN.h1 (o.of_set (by decide)), fun o => HN.h2 (o.of_set (by decide)), fun o => HN.h3 (o.of_set (by decide)), fun o => HN.h4 (o.of_set (by decide)), fun o => HN.h5 (o.of_set (by decide)), fun o => HN.h6 (o.of_set (by decide)), fun o => HN.h7 (o.of_set (by decide)), fun o => HN.h8 (o.of_set (by decide)), fun o => HN.h9 (o.of_set (by decide)), fun o => HN.h10 (o.of_set (by decide)), fun o => HN.h11 (o.of_set (by decide)), fun o => HN.h12 (o.of_set (by decide)), fun o => HN.h13 (o.of_set (by decide)), fun o => HN.h14 (o.of_set (by decide)), fun o => HN.h15 (o.of_set (by decide)), fun o => HN.h16 (o.of_set (by decide)), fun _ => ⟨(hw 0 (by simp)).old, rfl⟩⟩
        exact StepsI.nil
      · rintro L us W hL ⟨u34, u35, u36, u37, u38, u39, u40, u41, u42, u43, u44, u45, u46, u47, u48, u49, u50, X, rfl, H⟩
        refine PutQ.mk _ rfl (Lib.hid ⟨H.kp, ?_⟩)
        have h := H.st
        rw [(H.h17 (hL 17 (by simp))).2] at h
        exact h
      · rintro us v HF9
        have hk9 := HF9.out.1
        refine ⟨rfl, hk9, Kept.below HB2.out hk9 (fun i hi => by have := HWB.out; omega), ?_, HK62.out.trans (hk9.mono fun k _ h => .inl h)⟩
        show Blk v b9 25 #[.int .i64 (frU (smP f (pre ++ [(r1, r2)])) 65536), .int .i64 (frD (smP f (pre ++ [(r1, r2)])) 65536)]
        rw [HEQ.out]
        exact HF9.out.2
    case hdone =>
      rintro W' ⟨h1, h2, h3⟩ hD
      have HD1 := Lib.hid hD
      have HB1 := Lib.hid h1
      have h9 := blk_lt H9.out
      have h6l := blk_lt HPF.out.box
      have HX6 := Lib.hid (h3.blk HPF.out.box (fun e => by have := HWB.out; omega))
      have HSM := Lib.hid (smP_all HV.out HI.out HJ.out)
      have c0 := blk_cell h2 (i := 0) rfl
      have c1 := blk_cell h2 (i := 1) rfl
      have f0 := blk_frozen HX6.out 0
      have f1 := blk_frozen HX6.out 1
      have d0 := blk_cell HX6.out (i := 0) rfl
      have d1 := blk_cell HX6.out (i := 1) rfl
      clear hD h1 h2 h3 h9 h6l
      go_wp2
      clear c0 c1 f0 f1 d0 d1
      have B1 := blk_set (blk_set HX6.out 0 (.int .i64 (frU (smP f (prsL f i j)) 65536))) 1 (.int .i64 (frD (smP f (prsL f i j)) 65536))
      have hks := ((Kept.set (Z := fun k => k = w.heap.size) W' ⟨w.heap.size, 0, none⟩ (.int .i64 (frU (smP f (prsL f i j)) 65536)) rfl).trans (Kept.set _ ⟨w.heap.size, 1, none⟩ (.int .i64 (frD (smP f (prsL f i j)) 65536)) rfl))
      have hD2 := hks.at HD1.out (by have := HWS.out; have := blk_lt HPF.out.box; omega)
      have HBX := Lib.hid (Kept.below HB1.out hks (fun i hi => by omega))
      generalize (W'.setCell ⟨w.heap.size, 0, none⟩ (.int .i64 (frU (smP f (prsL f i j)) 65536))).setCell ⟨w.heap.size, 1, none⟩ (.int .i64 (frD (smP f (prsL f i j)) 65536)) = WE at *
      have hkp := Kept.put (fun k => k = w6.heap.size) WE w6.heap.size (.deferred none) rfl
      have B2 := hkp.blk B1 (by have := blk_lt HPF.out.box; omega)
      have r0 := blk_cell B2 (i := 0) (v := .int .i64 (frU (smP f (prsL f i j)) 65536)) rfl
      have r1 := blk_cell B2 (i := 1) (v := .int .i64 (frD (smP f (prsL f i j)) 65536)) rfl
      have HBY := Lib.hid (Kept.below HBX.out hkp (fun i hi => by have := HWS.out; omega))
      refine ⟨by simp, .inl ⟨_, _, rfl, run_takeDeferred hD2, ?_⟩⟩
      refine ⟨.tuple #[.agg #[.int .i64 (frU (smP f (prsL f i j)) 65536), .int .i64 (frD (smP f (prsL f i j)) 65536)], .bool true], by simp [results, Try.results11, go_sem, r0, r1], ?_⟩
      refine ⟨?_, HBY.out⟩
      rw [HSM.out]
      have e9 := fL_K (kK f i j)
      rw [← e9]
      rfl
  · rw [pb_false hok] at HC
    rw [kinF_no hok, pb_false hok]
    clear hok
    go_enter Try.func11, Try.ntmps11
    go_wp2_with fail
    refine HC.out.mono ?_
    rintro e w1 ⟨rfl, hq⟩
    have HPF := Lib.hid (HPF.out.up (hq.below (B := ((w.alloc (.cells #[.int .i64 0, .int .i64 0] 25)).alloc (.cells #[.int .i64 i, .int .i64 j] 3)).heap.size)))
    clear hq HC
    have c0 := blk_cell HPF.out.box (i := 0) rfl
    have c1 := blk_cell HPF.out.box (i := 1) rfl
    have f0 := blk_frozen HPF.out.box 0
    have f1 := blk_frozen HPF.out.box 1
    go_wp2
    clear c0 c1 f0 f1
    have B1 := blk_set (blk_set HPF.out.box 0 (.int .i64 0)) 1 (.int .i64 0)
    have r0 := blk_cell B1 (i := 0) (v := .int .i64 0) rfl
    have r1 := blk_cell B1 (i := 1) (v := .int .i64 0) rfl
    have HBX := Lib.hid ((HPF.out.below.setCell (p := ⟨w.heap.size, 0, none⟩) (Nat.le_refl _) (.int .i64 0)).setCell (p := ⟨w.heap.size, 1, none⟩) (Nat.le_refl _) (.int .i64 0))
    clear B1 HPF
    generalize (w1.setCell ⟨w.heap.size, 0, none⟩ (.int .i64 0)).setCell ⟨w.heap.size, 1, none⟩ (.int .i64 0) = WE at *
    refine bodyPost_ret (v := .tuple #[.agg #[.int .i64 0, .int .i64 0], .bool false]) (by simp [results, Try.results11, go_sem, r0, r1]) rfl ?_
    exact ⟨rfl, HBX.out⟩
end Go.Proofs.Ytjmfkodbilknlaa

