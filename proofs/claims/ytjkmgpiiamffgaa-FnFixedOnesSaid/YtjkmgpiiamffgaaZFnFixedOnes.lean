/- The law FnFixedOnes holds: for every code, of what it draws, the program tells both chances to be fixed as the model does; the one is the other times the odds, and with both strategies exchanged they are exchanged. No condition. -/
import Derived.Test.YtjkmgpiiamffgaaQ15
namespace Go.Proofs.Ytjkmgpiiamffgaa
open Go.ChangeShapes Go.WideShapes Go.ChangeAt Go.RowKit Go.Deep
theorem fixed_bd {a : List (List Int)} {n : Nat} (h : CR a n) : 1 ≤ fxT a n ∧ fxT a n ≤ 1107168750 := (h.fx (i := 0) (Nat.zero_le _)).2
theorem fixed_num {a : List (List Int)} {n : Nat} (h : CR a n) : fxU a n 1 = upP (pfA a n) (n - 1) ∧ fxT a n - fxU a n (n - 1) = upP (pgA a n) (n - 1) := by
  rw [fxU_one, h.fx_last]
  unfold numP
  have e := up_dn (pfA a n) (n - 1) (n - 1) (Nat.le_refl _)
  rw [Nat.sub_self] at e ⊢
  constructor
  · rw [e]; simp [upP]
  · simp [dnP]
structure RF9 (w0 : World) (b o cv n : Nat) (rb ro cc : Nat → Nat) (x y z t X D U V : Int) (L : Array Bool) (u75 u76 u77 u78 u79 u80 u81 u82 u83 u84 u85 u86 u87 u88 u89 u90 u91 u92 u93 u94 u95 u96 u97 u98 u99 u74 u100 u101 u102 u13 u14 u15 : Value) (q85 : Nat) (q96 : Nat) (q97 : Nat) (q13 : Nat) (q14 : Nat) (a13 : Int) (b13 : Int) (a14 : Int) (b14 : Int) (W : World) : Prop where
  bl : Below w0.heap.size w0 W
  h0 : On L 0 → u75 = .slice (some ⟨b, o, none⟩) 2 cv
  h1 : On L 1 → u76 = .pointer (some ⟨b, o + 1, none⟩)
  h2 : On L 2 → u77 = .slice (some ⟨rb 1, ro 1, none⟩) 2 (cc 1)
  h3 : On L 3 → u78 = .pointer (some ⟨rb 1, ro 1 + 1, none⟩)
  h4 : On L 4 → u79 = .int .i64 t
  h5 : On L 5 → u80 = .slice (some ⟨b, o, none⟩) 2 cv
  h6 : On L 6 → u81 = .pointer (some ⟨b, o + 1, none⟩)
  h7 : On L 7 → u82 = .slice (some ⟨rb 1, ro 1, none⟩) 2 (cc 1)
  h8 : On L 8 → u83 = .pointer (some ⟨rb 1, ro 1, none⟩)
  h9 : On L 9 → u84 = .int .i64 z
  h11 : On L 11 → u86 = .slice (some ⟨b, o, none⟩) 2 cv
  h12 : On L 12 → u87 = .pointer (some ⟨b, o, none⟩)
  h13 : On L 13 → u88 = .slice (some ⟨rb 0, ro 0, none⟩) 2 (cc 0)
  h14 : On L 14 → u89 = .pointer (some ⟨rb 0, ro 0 + 1, none⟩)
  h15 : On L 15 → u90 = .int .i64 y
  h16 : On L 16 → u91 = .slice (some ⟨b, o, none⟩) 2 cv
  h17 : On L 17 → u92 = .pointer (some ⟨b, o, none⟩)
  h18 : On L 18 → u93 = .slice (some ⟨rb 0, ro 0, none⟩) 2 (cc 0)
  h19 : On L 19 → u94 = .pointer (some ⟨rb 0, ro 0, none⟩)
  h20 : On L 20 → u95 = .int .i64 x
  h23 : On L 23 → u98 = .int .i64 n
  h24 : On L 24 → u99 = .tuple #[.agg #[.int .i64 U, .int .i64 V], .agg #[.int .i64 X, .int .i64 D], .bool true]
  h25 : On L 25 → u74 = .tuple #[.agg #[.int .i64 U, .int .i64 V], .agg #[.int .i64 X, .int .i64 D], .bool true]
  h26 : On L 26 → u100 = .agg #[.int .i64 U, .int .i64 V]
  h27 : On L 27 → u101 = .agg #[.int .i64 X, .int .i64 D]
  h28 : On L 28 → u102 = .bool true
  h33 : On L 33 → u15 = .bool true
  h10 : On L 10 → On L 24 ∨ (u85 = .slice (some ⟨q85, 0, none⟩) 2 2 ∧ Blk W q85 3 #[.int .i64 t, .int .i64 z])
  h21 : On L 21 → On L 24 ∨ (u96 = .slice (some ⟨q96, 0, none⟩) 2 2 ∧ Blk W q96 3 #[.int .i64 y, .int .i64 x])
  h22 : On L 22 → On L 24 ∨ (u97 = .slice (some ⟨q97, 0, none⟩) 2 2 ∧ IntRows W (some ⟨q97, 0, none⟩) 2 2 [[t, z], [y, x]])
  h29 : On L 29 → u13 = .pointer (some ⟨q13, 0, none⟩) ∧ w0.heap.size ≤ q13 ∧ Blk W q13 27 #[.int .i64 a13, .int .i64 b13]
  h30 : On L 30 → u14 = .pointer (some ⟨q14, 0, none⟩) ∧ w0.heap.size ≤ q14 ∧ Blk W q14 27 #[.int .i64 a14, .int .i64 b14]
  hne : On L 29 → On L 30 → q13 ≠ q14
  hs31 : On L 31 → On L 29 ∧ (a13 = U ∧ b13 = V)
  hs32 : On L 32 → On L 30 ∧ (a14 = X ∧ b14 = D)
  w22 : On L 24 → On L 22
theorem RF9.up {w0 b o cv n rb ro cc x y z t X D U V L u75 u76 u77 u78 u79 u80 u81 u82 u83 u84 u85 u86 u87 u88 u89 u90 u91 u92 u93 u94 u95 u96 u97 u98 u99 u74 u100 u101 u102 u13 u14 u15 q85 q96 q97 q13 q14 a13 b13 a14 b14 W W'} (Hy : RF9 w0 b o cv n rb ro cc x y z t X D U V L u75 u76 u77 u78 u79 u80 u81 u82 u83 u84 u85 u86 u87 u88 u89 u90 u91 u92 u93 u94 u95 u96 u97 u98 u99 u74 u100 u101 u102 u13 u14 u15 q85 q96 q97 q13 q14 a13 b13 a14 b14 W) (k : Below W.heap.size W W') : RF9 w0 b o cv n rb ro cc x y z t X D U V L u75 u76 u77 u78 u79 u80 u81 u82 u83 u84 u85 u86 u87 u88 u89 u90 u91 u92 u93 u94 u95 u96 u97 u98 u99 u74 u100 u101 u102 u13 u14 u15 q85 q96 q97 q13 q14 a13 b13 a14 b14 W' :=
  ⟨below_up Hy.bl k, Hy.h0, Hy.h1, Hy.h2, Hy.h3, Hy.h4, Hy.h5, Hy.h6, Hy.h7, Hy.h8, Hy.h9, Hy.h11, Hy.h12, Hy.h13, Hy.h14, Hy.h15, Hy.h16, Hy.h17, Hy.h18, Hy.h19, Hy.h20, Hy.h23, Hy.h24, Hy.h25, Hy.h26, Hy.h27, Hy.h28, Hy.h33, fun o => (Hy.h10 o).imp id (fun ⟨a, d⟩ => ⟨a, blk_below d k⟩), fun o => (Hy.h21 o).imp id (fun ⟨a, d⟩ => ⟨a, blk_below d k⟩), fun o => (Hy.h22 o).imp id (fun ⟨a, d⟩ => ⟨a, d.keep (Keep.below k)⟩), fun o => let ⟨a, b, d⟩ := (Hy.h29 o); ⟨a, b, blk_below d k⟩, fun o => let ⟨a, b, d⟩ := (Hy.h30 o); ⟨a, b, blk_below d k⟩, Hy.hne, Hy.hs31, Hy.hs32, Hy.w22⟩

set_option maxRecDepth 100000 in
set_option maxHeartbeats 16000000 in
theorem fnFixedOnes_calls (A : Option Addr) (n c : Nat) (w : World) (hx : Bytes w A n c) :
    Calls Try.prog 6 #[.slice A n c] w fun e w' => e = .returned (.bool true) ∧ Below w.heap.size w w' := by
  have hmx := hx.max
  have H0 := Lib.hid (DrawFixedOnes_any A n c w hx)
  clear hx
  by_cases hs : 1048576 < n
  · go_enter Try.func6, Try.ntmps6
    go_wp2
    go_ret
    exact ⟨rfl, Below.refl _ _⟩
  · go_enter Try.func6, Try.ntmps6
    go_wp2_with fail
    refine H0.out.mono ?_
    rintro e w1 ⟨Av, l, cv, gg, xss, n, rfl, ⟨n1, n2⟩, hsm, hown, hb⟩
    have HR := Lib.hid hown.rows
    have B1 := Lib.hid hb
    clear hsm hown hb H0
    by_cases hv : CQ xss n
    · obtain ⟨n, rfl, hcr⟩ := hv.nat
      have hn6 := hcr.n6
      have hn2 := hcr.n2
      obtain ⟨b, o, rb, ro, cc, rfl, rfl, tab⟩ := hcr.tab HR.out
      have HT := Lib.hid tab
      obtain ⟨V1, V2, V3⟩ := fo_yes hcr
      have hT := fixed_bd hcr
      obtain ⟨e1, e2⟩ := fixed_num hcr
      rw [e1] at V1
      rw [e2] at V2
      have HCI := Lib.hid (fun W h => FixedOnes_impl (some ⟨b, o, none⟩) 2 cv xss (n : Int) W h ⟨by omega, by omega⟩)
      have HCS := Lib.hid (fun W h => FixedOnes_spec (some ⟨b, o, none⟩) 2 cv xss (n : Int) W h ⟨by omega, by omega⟩)
      have HOD := Lib.hid (fun W h => OddsOf_impl (some ⟨b, o, none⟩) 2 cv xss (n : Int) W h ⟨by omega, by omega⟩)
      have HFL := Lib.hid (fun A l c W h => FixedOnes_impl A l c (flp xss) (n : Int) W h ⟨by omega, by omega⟩)
      rw [hcr.fo_flp.1, hcr.fo_flp.2, V1, V2, pb_true hcr.flp.cq] at HFL
      rw [V1, V2, V3] at HCI HCS
      rw [(od_yes hcr).1, (od_yes hcr).2] at HOD
      obtain ⟨p1, p2⟩ := up_bd hcr.fg.f hcr.fg.m5 (k := n - 1) (Nat.le_refl _)
      obtain ⟨p3, p4⟩ := up_bd hcr.fg.g hcr.fg.m5 (k := n - 1) (Nat.le_refl _)
      generalize upP (pfA xss n) (n - 1) = F at *
      generalize upP (pgA xss n) (n - 1) = G at *
      generalize fxT xss n = T at *
      obtain ⟨hT1, hT2⟩ := hT
      have t1 := fr_tim (u := G) (d := T) (v := F) (e := G) (by omega) (by omega)
      have t2 := fr_eq (u := G * F) (d := T * G) (v := F) (e := T) (Int.mul_pos (by omega) (by omega)) (by omega) (by grind)
      have a1 := frU_bd (u := G) (d := T) (B := 1200000000) (by omega) (by omega)
      have a2 := frD_bd (u := G) (d := T) (B := 1200000000) (by omega) (by omega)
      have a3 := frU_bd (u := F) (d := G) (B := 1200000000) (by omega) (by omega)
      have a4 := frD_bd (u := F) (d := G) (B := 1200000000) (by omega) (by omega)
      have HTM := Lib.hid (fun W => timesOfH_any (frU G T) (frD G T) (frU F G) (frD F G) W a1 a3 a2 a4)
      unfold frV at HCI HCS HFL HOD HTM
      rw [t1.1, t1.2, t2.1, t2.2] at HTM
      have bx := hcr.p.bd (i := 0) (j := 0) (by omega) (by omega)
      have by_ := hcr.p.bd (i := 0) (j := 1) (by omega) (by omega)
      have bz := hcr.p.bd (i := 1) (j := 0) (by omega) (by omega)
      have bt := hcr.p.bd (i := 1) (j := 1) (by omega) (by omega)
      unfold flp at HFL
      clear t1 t2 a1 a2 a3 a4 tab hv hcr V1 V2 V3 e1 e2 p1 p2 p3 p4 hT1 hT2
      generalize frU F T = X at *
      generalize frD F T = D at *
      generalize frU G T = U at *
      generalize frD G T = V at *
      generalize frU F G = M at *
      generalize frD F G = E at *
      generalize hgx : g2 xss 0 0 = x at *
      generalize hgy : g2 xss 0 1 = y at *
      generalize hgz : g2 xss 1 0 = z at *
      generalize hgt : g2 xss 1 1 = t at *
      have HXY := Lib.hid (And.intro hgx (And.intro hgy (And.intro hgz hgt)))
      clear hgx hgy hgz hgt
      have HC := Lib.hid (HCI.out w1 HR.out)
      go_wp2_with fail
      refine HC.out.mono ?_
      rintro e w2 ⟨rfl, hb⟩
      have hbb := below_up hb (below_up (below_alloc w2 (.cells #[.int .i64 X, .int .i64 D] 27)) (below_alloc (w2.alloc (.cells #[.int .i64 X, .int .i64 D] 27)) (.cells #[.int .i64 U, .int .i64 V] 27)))
      have HR2 := Lib.hid (HR.out.keep (Keep.below hbb))
      have HT2 := Lib.hid (HT.out.keep (Keep.below hbb))
      have B2 := Lib.hid (below_up B1.out hbb)
      have P2 := Lib.hid (blk_old (blk_new w2 27 #[.int .i64 X, .int .i64 D]) (.cells #[.int .i64 U, .int .i64 V] 27))
      have Q2 := Lib.hid (show Blk ((w2.alloc (.cells #[.int .i64 X, .int .i64 D] 27)).alloc (.cells #[.int .i64 U, .int .i64 V] 27)) (w2.heap.size + 1) 27 #[.int .i64 U, .int .i64 V] from by have h := blk_new (w2.alloc (.cells #[.int .i64 X, .int .i64 D] 27)) 27 #[.int .i64 U, .int .i64 V]; rw [World.size_alloc] at h; exact h)
      clear hb hbb HC HR HT B1
      go_wp2_with fail
      generalize (w2.alloc (.cells #[.int .i64 X, .int .i64 D] 27)).alloc (.cells #[.int .i64 U, .int .i64 V] 27) = w2a at *
      refine (HCS.out w2a HR2.out).mono ?_
      rintro e w3 ⟨rfl, hb⟩
      have hbb := below_up hb (below_up (below_alloc w3 (.cells #[.int .i64 X, .int .i64 D] 27)) (below_alloc (w3.alloc (.cells #[.int .i64 X, .int .i64 D] 27)) (.cells #[.int .i64 U, .int .i64 V] 27)))
      have HR3 := Lib.hid (HR2.out.keep (Keep.below hbb))
      have HT3 := Lib.hid (HT2.out.keep (Keep.below hbb))
      have B3 := Lib.hid (below_up B2.out hbb)
      have P3 := Lib.hid (blk_below P2.out hbb)
      have Q3 := Lib.hid (blk_below Q2.out hbb)
      have q7 := blk_cell P3.out (i := 0) rfl
      have q8 := blk_cell P3.out (i := 1) rfl
      have q9 := blk_cell Q3.out (i := 0) rfl
      have q10 := blk_cell Q3.out (i := 1) rfl
      clear hb hbb HR2 HT2 B2 P2 Q2 HCI HCS
      go_wp2_with fail
      clear q7 q8 q9 q10
      generalize (w3.alloc (.cells #[.int .i64 X, .int .i64 D] 27)).alloc (.cells #[.int .i64 U, .int .i64 V] 27) = w3a at *
      refine (HOD.out w3a HR3.out).mono ?_
      rintro e w4 ⟨rfl, hb⟩
      have hbb := below_up hb (below_alloc w4 (.cells #[.int .i64 M, .int .i64 E] 27))
      have HT4 := Lib.hid (HT3.out.keep (Keep.below hbb))
      have B4 := Lib.hid (below_up B3.out hbb)
      have P4 := Lib.hid (blk_below P3.out hbb)
      have Q4 := Lib.hid (blk_below Q3.out hbb)
      have O4 := Lib.hid (blk_new w4 27 #[.int .i64 M, .int .i64 E])
      clear hb hbb HR3 HT3 B3 P3 Q3 HOD
      go_wp2
      generalize w4.alloc (.cells #[.int .i64 M, .int .i64 E] 27) = w5 at *
      have HS0 := Lib.hid (show (w5.cell? ⟨b, o, none⟩ = some (.slice (some ⟨rb 0, ro 0, none⟩) 2 (cc 0)) ∧ w5.cell? ⟨b, o + 1, none⟩ = some (.slice (some ⟨rb 1, ro 1, none⟩) 2 (cc 1))) ∧ (w5.cell? ⟨rb 0, ro 0, none⟩ = some (.int .i64 x) ∧ w5.cell? ⟨rb 0, ro 0 + 1, none⟩ = some (.int .i64 y)) ∧ (w5.cell? ⟨rb 1, ro 1, none⟩ = some (.int .i64 z) ∧ w5.cell? ⟨rb 1, ro 1 + 1, none⟩ = some (.int .i64 t)) from by
        have h0 := HT4.out.row 0 (by omega)
        have h1 := HT4.out.row 1 (by omega)
        have h2 := HT4.out.cell 0 0 (by omega) (by omega)
        have h3 := HT4.out.cell 0 1 (by omega) (by omega)
        have h4 := HT4.out.cell 1 0 (by omega) (by omega)
        have h5 := HT4.out.cell 1 1 (by omega) (by omega)
        simp only [Nat.add_zero, HXY.out.1, HXY.out.2.1, HXY.out.2.2.1, HXY.out.2.2.2] at h0 h2 h3 h4 h5
        exact ⟨⟨h0, h1⟩, ⟨h2, h3⟩, h4, h5⟩)
      refine wp_region_invF (rs := [0, 1, 2, 3, 4, 5, 6, 7, 8, 9, 10, 11, 12, 13, 14, 15, 16, 17, 18, 19, 20, 21, 22, 23, 24, 25, 26, 27, 28, 29, 30, 31, 32, 33]) [75, 76, 77, 78, 79, 80, 81, 82, 83, 84, 85, 86, 87, 88, 89, 90, 91, 92, 93, 94, 95, 96, 97, 98, 99, 74, 100, 101, 102, 13, 14, 15] (fun L us W => ∃ u75 u76 u77 u78 u79 u80 u81 u82 u83 u84 u85 u86 u87 u88 u89 u90 u91 u92 u93 u94 u95 u96 u97 u98 u99 u74 u100 u101 u102 u13 u14 u15 q85 q96 q97 q13 q14 a13 b13 a14 b14, us = [u75, u76, u77, u78, u79, u80, u81, u82, u83, u84, u85, u86, u87, u88, u89, u90, u91, u92, u93, u94, u95, u96, u97, u98, u99, u74, u100, u101, u102, u13, u14, u15] ∧ RF9 w5 b o cv n rb ro cc x y z t X D U V L u75 u76 u77 u78 u79 u80 u81 u82 u83 u84 u85 u86 u87 u88 u89 u90 u91 u92 u93 u94 u95 u96 u97 u98 u99 u74 u100 u101 u102 u13 u14 u15 q85 q96 q97 q13 q14 a13 b13 a14 b14 W) (by kernel_rfl) ?_ (by kernel_rfl) (by kernel_rfl) ?_ ?_
      · refine ⟨[undef, undef, undef, undef, undef, undef, undef, undef, undef, undef, undef, undef, undef, undef, undef, undef, undef, undef, undef, undef, undef, undef, undef, undef, undef, undef, undef, undef, undef, undef, undef, undef], ?_, undef, undef, undef, undef, undef, undef, undef, undef, undef, undef, undef, undef, undef, undef, undef, undef, undef, undef, undef, undef, undef, undef, undef, undef, undef, undef, undef, undef, undef, undef, undef, undef, 0, 0, 0, 0, 0, 0, 0, 0, 0, rfl, ?_⟩
        · simp only [frmL, Act.put, List.setIfInBounds_toArray, List.set_cons_zero, List.set_cons_succ]
        exact ⟨Quiet.below ⟨1, rfl⟩, fun o => o.not_start.elim, fun o => o.not_start.elim, fun o => o.not_start.elim, fun o => o.not_start.elim, fun o => o.not_start.elim, fun o => o.not_start.elim, fun o => o.not_start.elim, fun o => o.not_start.elim, fun o => o.not_start.elim, fun o => o.not_start.elim, fun o => o.not_start.elim, fun o => o.not_start.elim, fun o => o.not_start.elim, fun o => o.not_start.elim, fun o => o.not_start.elim, fun o => o.not_start.elim, fun o => o.not_start.elim, fun o => o.not_start.elim, fun o => o.not_start.elim, fun o => o.not_start.elim, fun o => o.not_start.elim, fun o => o.not_start.elim, fun o => o.not_start.elim, fun o => o.not_start.elim, fun o => o.not_start.elim, fun o => o.not_start.elim, fun o => o.not_start.elim, fun o => o.not_start.elim, fun o => o.not_start.elim, fun o => o.not_start.elim, fun o => o.not_start.elim, fun o => o.not_start.elim, fun o _ => o.not_start.elim, fun o => o.not_start.elim, fun o => o.not_start.elim, fun o => o.not_start.elim⟩
      · refine StepsI.cons (i := 0) (ws := []) rfl (by kernel_rfl) (fun L a W hI hno hon hw K hK => ?_) ?_
        · obtain ⟨_, rfl, u75, u76, u77, u78, u79, u80, u81, u82, u83, u84, u85, u86, u87, u88, u89, u90, u91, u92, u93, u94, u95, u96, u97, u98, u99, u74, u100, u101, u102, u13, u14, u15, q85, q96, q97, q13, q14, a13, b13, a14, b14, rfl, H⟩ := hI
          simp only [List.getElem_toArray, List.getElem_cons_zero]
          simp only [frmL, Act.put, List.setIfInBounds_toArray, List.set_cons_zero, List.set_cons_succ]
          go_simp
          have HN := H
          refine hK.out _ _ ⟨[.slice (some ⟨b, o, none⟩) 2 cv, u76, u77, u78, u79, u80, u81, u82, u83, u84, u85, u86, u87, u88, u89, u90, u91, u92, u93, u94, u95, u96, u97, u98, u99, u74, u100, u101, u102, u13, u14, u15], ?_, .slice (some ⟨b, o, none⟩) 2 cv, u76, u77, u78, u79, u80, u81, u82, u83, u84, u85, u86, u87, u88, u89, u90, u91, u92, u93, u94, u95, u96, u97, u98, u99, u74, u100, u101, u102, u13, u14, u15, q85, q96, q97, q13, q14, a13, b13, a14, b14, rfl, ?_⟩
          · simp only [frmL, Act.put, List.setIfInBounds_toArray, List.set_cons_zero, List.set_cons_succ]
          · exact ⟨HN.bl, fun _ => rfl, fun o => HN.h1 (o.of_set (by decide)), fun o => HN.h2 (o.of_set (by decide)), fun o => HN.h3 (o.of_set (by decide)), fun o => HN.h4 (o.of_set (by decide)), fun o => HN.h5 (o.of_set (by decide)), fun o => HN.h6 (o.of_set (by decide)), fun o => HN.h7 (o.of_set (by decide)), fun o => HN.h8 (o.of_set (by decide)), fun o => HN.h9 (o.of_set (by decide)), fun o => HN.h11 (o.of_set (by decide)), fun o => HN.h12 (o.of_set (by decide)), fun o => HN.h13 (o.of_set (by decide)), fun o => HN.h14 (o.of_set (by decide)), fun o => HN.h15 (o.of_set (by decide)), fun o => HN.h16 (o.of_set (by decide)), fun o => HN.h17 (o.of_set (by decide)), fun o => HN.h18 (o.of_set (by decide)), fun o => HN.h19 (o.of_set (by decide)), fun o => HN.h20 (o.of_set (by decide)), fun o => HN.h23 (o.of_set (by decide)), fun o => HN.h24 (o.of_set (by decide)), fun o => HN.h25 (o.of_set (by decide)), fun o => HN.h26 (o.of_set (by decide)), fun o => HN.h27 (o.of_set (by decide)), fun o => HN.h28 (o.of_set (by decide)), fun o => HN.h33 (o.of_set (by decide)), fun o => (HN.h10 (o.of_set (by decide))).imp On.old id, fun o => (HN.h21 (o.of_set (by decide))).imp On.old id, fun o => (HN.h22 (o.of_set (by decide))).imp On.old id, fun o => HN.h29 (o.of_set (by decide)), fun o => HN.h30 (o.of_set (by decide)), fun o o2 => HN.hne (o.of_set (by decide)) (o2.of_set (by decide)), fun o => (HN.hs31 (o.of_set (by decide))).imp On.old id, fun o => (HN.hs32 (o.of_set (by decide))).imp On.old id, fun o => (HN.w22 (o.of_set (by decide))).old⟩
        refine StepsI.cons (i := 1) (ws := [0]) rfl (by kernel_rfl) (fun L a W hI hno hon hw K hK => ?_) ?_
        · obtain ⟨_, rfl, u75, u76, u77, u78, u79, u80, u81, u82, u83, u84, u85, u86, u87, u88, u89, u90, u91, u92, u93, u94, u95, u96, u97, u98, u99, u74, u100, u101, u102, u13, u14, u15, q85, q96, q97, q13, q14, a13, b13, a14, b14, rfl, H⟩ := hI
          simp only [List.getElem_toArray, List.getElem_cons_zero, List.getElem_cons_succ]
          obtain rfl := H.h0 (hw 0 (by simp))
          simp only [frmL, Act.put, List.setIfInBounds_toArray, List.set_cons_zero, List.set_cons_succ]
          go_simp
          have HN := H
          refine hK.out _ _ ⟨[.slice (some ⟨b, o, none⟩) 2 cv, .pointer (some ⟨b, o + 1, none⟩), u77, u78, u79, u80, u81, u82, u83, u84, u85, u86, u87, u88, u89, u90, u91, u92, u93, u94, u95, u96, u97, u98, u99, u74, u100, u101, u102, u13, u14, u15], ?_, .slice (some ⟨b, o, none⟩) 2 cv, .pointer (some ⟨b, o + 1, none⟩), u77, u78, u79, u80, u81, u82, u83, u84, u85, u86, u87, u88, u89, u90, u91, u92, u93, u94, u95, u96, u97, u98, u99, u74, u100, u101, u102, u13, u14, u15, q85, q96, q97, q13, q14, a13, b13, a14, b14, rfl, ?_⟩
          · simp only [frmL, Act.put, List.setIfInBounds_toArray, List.set_cons_zero, List.set_cons_succ]
          · exact ⟨HN.bl, fun o => HN.h0 (o.of_set (by decide)), fun _ => rfl, fun o => HN.h2 (o.of_set (by decide)), fun o => HN.h3 (o.of_set (by decide)), fun o => HN.h4 (o.of_set (by decide)), fun o => HN.h5 (o.of_set (by decide)), fun o => HN.h6 (o.of_set (by decide)), fun o => HN.h7 (o.of_set (by decide)), fun o => HN.h8 (o.of_set (by decide)), fun o => HN.h9 (o.of_set (by decide)), fun o => HN.h11 (o.of_set (by decide)), fun o => HN.h12 (o.of_set (by decide)), fun o => HN.h13 (o.of_set (by decide)), fun o => HN.h14 (o.of_set (by decide)), fun o => HN.h15 (o.of_set (by decide)), fun o => HN.h16 (o.of_set (by decide)), fun o => HN.h17 (o.of_set (by decide)), fun o => HN.h18 (o.of_set (by decide)), fun o => HN.h19 (o.of_set (by decide)), fun o => HN.h20 (o.of_set (by decide)), fun o => HN.h23 (o.of_set (by decide)), fun o => HN.h24 (o.of_set (by decide)), fun o => HN.h25 (o.of_set (by decide)), fun o => HN.h26 (o.of_set (by decide)), fun o => HN.h27 (o.of_set (by decide)), fun o => HN.h28 (o.of_set (by decide)), fun o => HN.h33 (o.of_set (by decide)), fun o => (HN.h10 (o.of_set (by decide))).imp On.old id, fun o => (HN.h21 (o.of_set (by decide))).imp On.old id, fun o => (HN.h22 (o.of_set (by decide))).imp On.old id, fun o => HN.h29 (o.of_set (by decide)), fun o => HN.h30 (o.of_set (by decide)), fun o o2 => HN.hne (o.of_set (by decide)) (o2.of_set (by decide)), fun o => (HN.hs31 (o.of_set (by decide))).imp On.old id, fun o => (HN.hs32 (o.of_set (by decide))).imp On.old id, fun o => (HN.w22 (o.of_set (by decide))).old⟩
        refine StepsI.cons (i := 2) (ws := [1]) rfl (by kernel_rfl) (fun L a W hI hno hon hw K hK => ?_) ?_
        · obtain ⟨_, rfl, u75, u76, u77, u78, u79, u80, u81, u82, u83, u84, u85, u86, u87, u88, u89, u90, u91, u92, u93, u94, u95, u96, u97, u98, u99, u74, u100, u101, u102, u13, u14, u15, q85, q96, q97, q13, q14, a13, b13, a14, b14, rfl, H⟩ := hI
          simp only [List.getElem_toArray, List.getElem_cons_zero, List.getElem_cons_succ]
          obtain rfl := H.h1 (hw 1 (by simp))
          simp only [frmL, Act.put, List.setIfInBounds_toArray, List.set_cons_zero, List.set_cons_succ]
          have c0 := Keep.below H.bl _ _ HS0.out.1.2
          go_simp
          have HN := H
          refine hK.out _ _ ⟨[u75, .pointer (some ⟨b, o + 1, none⟩), .slice (some ⟨rb 1, ro 1, none⟩) 2 (cc 1), u78, u79, u80, u81, u82, u83, u84, u85, u86, u87, u88, u89, u90, u91, u92, u93, u94, u95, u96, u97, u98, u99, u74, u100, u101, u102, u13, u14, u15], ?_, u75, .pointer (some ⟨b, o + 1, none⟩), .slice (some ⟨rb 1, ro 1, none⟩) 2 (cc 1), u78, u79, u80, u81, u82, u83, u84, u85, u86, u87, u88, u89, u90, u91, u92, u93, u94, u95, u96, u97, u98, u99, u74, u100, u101, u102, u13, u14, u15, q85, q96, q97, q13, q14, a13, b13, a14, b14, rfl, ?_⟩
          · simp only [frmL, Act.put, List.setIfInBounds_toArray, List.set_cons_zero, List.set_cons_succ]
          · exact ⟨HN.bl, fun o => HN.h0 (o.of_set (by decide)), fun o => HN.h1 (o.of_set (by decide)), fun _ => rfl, fun o => HN.h3 (o.of_set (by decide)), fun o => HN.h4 (o.of_set (by decide)), fun o => HN.h5 (o.of_set (by decide)), fun o => HN.h6 (o.of_set (by decide)), fun o => HN.h7 (o.of_set (by decide)), fun o => HN.h8 (o.of_set (by decide)), fun o => HN.h9 (o.of_set (by decide)), fun o => HN.h11 (o.of_set (by decide)), fun o => HN.h12 (o.of_set (by decide)), fun o => HN.h13 (o.of_set (by decide)), fun o => HN.h14 (o.of_set (by decide)), fun o => HN.h15 (o.of_set (by decide)), fun o => HN.h16 (o.of_set (by decide)), fun o => HN.h17 (o.of_set (by decide)), fun o => HN.h18 (o.of_set (by decide)), fun o => HN.h19 (o.of_set (by decide)), fun o => HN.h20 (o.of_set (by decide)), fun o => HN.h23 (o.of_set (by decide)), fun o => HN.h24 (o.of_set (by decide)), fun o => HN.h25 (o.of_set (by decide)), fun o => HN.h26 (o.of_set (by decide)), fun o => HN.h27 (o.of_set (by decide)), fun o => HN.h28 (o.of_set (by decide)), fun o => HN.h33 (o.of_set (by decide)), fun o => (HN.h10 (o.of_set (by decide))).imp On.old id, fun o => (HN.h21 (o.of_set (by decide))).imp On.old id, fun o => (HN.h22 (o.of_set (by decide))).imp On.old id, fun o => HN.h29 (o.of_set (by decide)), fun o => HN.h30 (o.of_set (by decide)), fun o o2 => HN.hne (o.of_set (by decide)) (o2.of_set (by decide)), fun o => (HN.hs31 (o.of_set (by decide))).imp On.old id, fun o => (HN.hs32 (o.of_set (by decide))).imp On.old id, fun o => (HN.w22 (o.of_set (by decide))).old⟩
        refine StepsI.cons (i := 3) (ws := [2]) rfl (by kernel_rfl) (fun L a W hI hno hon hw K hK => ?_) ?_
        · obtain ⟨_, rfl, u75, u76, u77, u78, u79, u80, u81, u82, u83, u84, u85, u86, u87, u88, u89, u90, u91, u92, u93, u94, u95, u96, u97, u98, u99, u74, u100, u101, u102, u13, u14, u15, q85, q96, q97, q13, q14, a13, b13, a14, b14, rfl, H⟩ := hI
          simp only [List.getElem_toArray, List.getElem_cons_zero, List.getElem_cons_succ]
          obtain rfl := H.h2 (hw 2 (by simp))
          simp only [frmL, Act.put, List.setIfInBounds_toArray, List.set_cons_zero, List.set_cons_succ]
          go_simp
          have HN := H
          refine hK.out _ _ ⟨[u75, u76, .slice (some ⟨rb 1, ro 1, none⟩) 2 (cc 1), .pointer (some ⟨rb 1, ro 1 + 1, none⟩), u79, u80, u81, u82, u83, u84, u85, u86, u87, u88, u89, u90, u91, u92, u93, u94, u95, u96, u97, u98, u99, u74, u100, u101, u102, u13, u14, u15], ?_, u75, u76, .slice (some ⟨rb 1, ro 1, none⟩) 2 (cc 1), .pointer (some ⟨rb 1, ro 1 + 1, none⟩), u79, u80, u81, u82, u83, u84, u85, u86, u87, u88, u89, u90, u91, u92, u93, u94, u95, u96, u97, u98, u99, u74, u100, u101, u102, u13, u14, u15, q85, q96, q97, q13, q14, a13, b13, a14, b14, rfl, ?_⟩
          · simp only [frmL, Act.put, List.setIfInBounds_toArray, List.set_cons_zero, List.set_cons_succ]
          · exact ⟨HN.bl, fun o => HN.h0 (o.of_set (by decide)), fun o => HN.h1 (o.of_set (by decide)), fun o => HN.h2 (o.of_set (by decide)), fun _ => rfl, fun o => HN.h4 (o.of_set (by decide)), fun o => HN.h5 (o.of_set (by decide)), fun o => HN.h6 (o.of_set (by decide)), fun o => HN.h7 (o.of_set (by decide)), fun o => HN.h8 (o.of_set (by decide)), fun o => HN.h9 (o.of_set (by decide)), fun o => HN.h11 (o.of_set (by decide)), fun o => HN.h12 (o.of_set (by decide)), fun o => HN.h13 (o.of_set (by decide)), fun o => HN.h14 (o.of_set (by decide)), fun o => HN.h15 (o.of_set (by decide)), fun o => HN.h16 (o.of_set (by decide)), fun o => HN.h17 (o.of_set (by decide)), fun o => HN.h18 (o.of_set (by decide)), fun o => HN.h19 (o.of_set (by decide)), fun o => HN.h20 (o.of_set (by decide)), fun o => HN.h23 (o.of_set (by decide)), fun o => HN.h24 (o.of_set (by decide)), fun o => HN.h25 (o.of_set (by decide)), fun o => HN.h26 (o.of_set (by decide)), fun o => HN.h27 (o.of_set (by decide)), fun o => HN.h28 (o.of_set (by decide)), fun o => HN.h33 (o.of_set (by decide)), fun o => (HN.h10 (o.of_set (by decide))).imp On.old id, fun o => (HN.h21 (o.of_set (by decide))).imp On.old id, fun o => (HN.h22 (o.of_set (by decide))).imp On.old id, fun o => HN.h29 (o.of_set (by decide)), fun o => HN.h30 (o.of_set (by decide)), fun o o2 => HN.hne (o.of_set (by decide)) (o2.of_set (by decide)), fun o => (HN.hs31 (o.of_set (by decide))).imp On.old id, fun o => (HN.hs32 (o.of_set (by decide))).imp On.old id, fun o => (HN.w22 (o.of_set (by decide))).old⟩
        refine StepsI.cons (i := 4) (ws := [3]) rfl (by kernel_rfl) (fun L a W hI hno hon hw K hK => ?_) ?_
        · obtain ⟨_, rfl, u75, u76, u77, u78, u79, u80, u81, u82, u83, u84, u85, u86, u87, u88, u89, u90, u91, u92, u93, u94, u95, u96, u97, u98, u99, u74, u100, u101, u102, u13, u14, u15, q85, q96, q97, q13, q14, a13, b13, a14, b14, rfl, H⟩ := hI
          simp only [List.getElem_toArray, List.getElem_cons_zero, List.getElem_cons_succ]
          obtain rfl := H.h3 (hw 3 (by simp))
          simp only [frmL, Act.put, List.setIfInBounds_toArray, List.set_cons_zero, List.set_cons_succ]
          have c0 := Keep.below H.bl _ _ HS0.out.2.2.2
          go_simp
          have HN := H
          refine hK.out _ _ ⟨[u75, u76, u77, .pointer (some ⟨rb 1, ro 1 + 1, none⟩), .int .i64 t, u80, u81, u82, u83, u84, u85, u86, u87, u88, u89, u90, u91, u92, u93, u94, u95, u96, u97, u98, u99, u74, u100, u101, u102, u13, u14, u15], ?_, u75, u76, u77, .pointer (some ⟨rb 1, ro 1 + 1, none⟩), .int .i64 t, u80, u81, u82, u83, u84, u85, u86, u87, u88, u89, u90, u91, u92, u93, u94, u95, u96, u97, u98, u99, u74, u100, u101, u102, u13, u14, u15, q85, q96, q97, q13, q14, a13, b13, a14, b14, rfl, ?_⟩
          · simp only [frmL, Act.put, List.setIfInBounds_toArray, List.set_cons_zero, List.set_cons_succ]
          · exact ⟨HN.bl, fun o => HN.h0 (o.of_set (by decide)), fun o => HN.h1 (o.of_set (by decide)), fun o => HN.h2 (o.of_set (by decide)), fun o => HN.h3 (o.of_set (by decide)), fun _ => rfl, fun o => HN.h5 (o.of_set (by decide)), fun o => HN.h6 (o.of_set (by decide)), fun o => HN.h7 (o.of_set (by decide)), fun o => HN.h8 (o.of_set (by decide)), fun o => HN.h9 (o.of_set (by decide)), fun o => HN.h11 (o.of_set (by decide)), fun o => HN.h12 (o.of_set (by decide)), fun o => HN.h13 (o.of_set (by decide)), fun o => HN.h14 (o.of_set (by decide)), fun o => HN.h15 (o.of_set (by decide)), fun o => HN.h16 (o.of_set (by decide)), fun o => HN.h17 (o.of_set (by decide)), fun o => HN.h18 (o.of_set (by decide)), fun o => HN.h19 (o.of_set (by decide)), fun o => HN.h20 (o.of_set (by decide)), fun o => HN.h23 (o.of_set (by decide)), fun o => HN.h24 (o.of_set (by decide)), fun o => HN.h25 (o.of_set (by decide)), fun o => HN.h26 (o.of_set (by decide)), fun o => HN.h27 (o.of_set (by decide)), fun o => HN.h28 (o.of_set (by decide)), fun o => HN.h33 (o.of_set (by decide)), fun o => (HN.h10 (o.of_set (by decide))).imp On.old id, fun o => (HN.h21 (o.of_set (by decide))).imp On.old id, fun o => (HN.h22 (o.of_set (by decide))).imp On.old id, fun o => HN.h29 (o.of_set (by decide)), fun o => HN.h30 (o.of_set (by decide)), fun o o2 => HN.hne (o.of_set (by decide)) (o2.of_set (by decide)), fun o => (HN.hs31 (o.of_set (by decide))).imp On.old id, fun o => (HN.hs32 (o.of_set (by decide))).imp On.old id, fun o => (HN.w22 (o.of_set (by decide))).old⟩
        refine StepsI.cons (i := 5) (ws := []) rfl (by kernel_rfl) (fun L a W hI hno hon hw K hK => ?_) ?_
        · obtain ⟨_, rfl, u75, u76, u77, u78, u79, u80, u81, u82, u83, u84, u85, u86, u87, u88, u89, u90, u91, u92, u93, u94, u95, u96, u97, u98, u99, u74, u100, u101, u102, u13, u14, u15, q85, q96, q97, q13, q14, a13, b13, a14, b14, rfl, H⟩ := hI
          simp only [List.getElem_toArray, List.getElem_cons_zero, List.getElem_cons_succ]
          simp only [frmL, Act.put, List.setIfInBounds_toArray, List.set_cons_zero, List.set_cons_succ]
          go_simp
          have HN := H
          refine hK.out _ _ ⟨[u75, u76, u77, u78, u79, .slice (some ⟨b, o, none⟩) 2 cv, u81, u82, u83, u84, u85, u86, u87, u88, u89, u90, u91, u92, u93, u94, u95, u96, u97, u98, u99, u74, u100, u101, u102, u13, u14, u15], ?_, u75, u76, u77, u78, u79, .slice (some ⟨b, o, none⟩) 2 cv, u81, u82, u83, u84, u85, u86, u87, u88, u89, u90, u91, u92, u93, u94, u95, u96, u97, u98, u99, u74, u100, u101, u102, u13, u14, u15, q85, q96, q97, q13, q14, a13, b13, a14, b14, rfl, ?_⟩
          · simp only [frmL, Act.put, List.setIfInBounds_toArray, List.set_cons_zero, List.set_cons_succ]
          · exact ⟨HN.bl, fun o => HN.h0 (o.of_set (by decide)), fun o => HN.h1 (o.of_set (by decide)), fun o => HN.h2 (o.of_set (by decide)), fun o => HN.h3 (o.of_set (by decide)), fun o => HN.h4 (o.of_set (by decide)), fun _ => rfl, fun o => HN.h6 (o.of_set (by decide)), fun o => HN.h7 (o.of_set (by decide)), fun o => HN.h8 (o.of_set (by decide)), fun o => HN.h9 (o.of_set (by decide)), fun o => HN.h11 (o.of_set (by decide)), fun o => HN.h12 (o.of_set (by decide)), fun o => HN.h13 (o.of_set (by decide)), fun o => HN.h14 (o.of_set (by decide)), fun o => HN.h15 (o.of_set (by decide)), fun o => HN.h16 (o.of_set (by decide)), fun o => HN.h17 (o.of_set (by decide)), fun o => HN.h18 (o.of_set (by decide)), fun o => HN.h19 (o.of_set (by decide)), fun o => HN.h20 (o.of_set (by decide)), fun o => HN.h23 (o.of_set (by decide)), fun o => HN.h24 (o.of_set (by decide)), fun o => HN.h25 (o.of_set (by decide)), fun o => HN.h26 (o.of_set (by decide)), fun o => HN.h27 (o.of_set (by decide)), fun o => HN.h28 (o.of_set (by decide)), fun o => HN.h33 (o.of_set (by decide)), fun o => (HN.h10 (o.of_set (by decide))).imp On.old id, fun o => (HN.h21 (o.of_set (by decide))).imp On.old id, fun o => (HN.h22 (o.of_set (by decide))).imp On.old id, fun o => HN.h29 (o.of_set (by decide)), fun o => HN.h30 (o.of_set (by decide)), fun o o2 => HN.hne (o.of_set (by decide)) (o2.of_set (by decide)), fun o => (HN.hs31 (o.of_set (by decide))).imp On.old id, fun o => (HN.hs32 (o.of_set (by decide))).imp On.old id, fun o => (HN.w22 (o.of_set (by decide))).old⟩
        refine StepsI.cons (i := 6) (ws := [5]) rfl (by kernel_rfl) (fun L a W hI hno hon hw K hK => ?_) ?_
        · obtain ⟨_, rfl, u75, u76, u77, u78, u79, u80, u81, u82, u83, u84, u85, u86, u87, u88, u89, u90, u91, u92, u93, u94, u95, u96, u97, u98, u99, u74, u100, u101, u102, u13, u14, u15, q85, q96, q97, q13, q14, a13, b13, a14, b14, rfl, H⟩ := hI
          simp only [List.getElem_toArray, List.getElem_cons_zero, List.getElem_cons_succ]
          obtain rfl := H.h5 (hw 5 (by simp))
          simp only [frmL, Act.put, List.setIfInBounds_toArray, List.set_cons_zero, List.set_cons_succ]
          go_simp
          have HN := H
          refine hK.out _ _ ⟨[u75, u76, u77, u78, u79, .slice (some ⟨b, o, none⟩) 2 cv, .pointer (some ⟨b, o + 1, none⟩), u82, u83, u84, u85, u86, u87, u88, u89, u90, u91, u92, u93, u94, u95, u96, u97, u98, u99, u74, u100, u101, u102, u13, u14, u15], ?_, u75, u76, u77, u78, u79, .slice (some ⟨b, o, none⟩) 2 cv, .pointer (some ⟨b, o + 1, none⟩), u82, u83, u84, u85, u86, u87, u88, u89, u90, u91, u92, u93, u94, u95, u96, u97, u98, u99, u74, u100, u101, u102, u13, u14, u15, q85, q96, q97, q13, q14, a13, b13, a14, b14, rfl, ?_⟩
          · simp only [frmL, Act.put, List.setIfInBounds_toArray, List.set_cons_zero, List.set_cons_succ]
          · exact ⟨HN.bl, fun o => HN.h0 (o.of_set (by decide)), fun o => HN.h1 (o.of_set (by decide)), fun o => HN.h2 (o.of_set (by decide)), fun o => HN.h3 (o.of_set (by decide)), fun o => HN.h4 (o.of_set (by decide)), fun o => HN.h5 (o.of_set (by decide)), fun _ => rfl, fun o => HN.h7 (o.of_set (by decide)), fun o => HN.h8 (o.of_set (by decide)), fun o => HN.h9 (o.of_set (by decide)), fun o => HN.h11 (o.of_set (by decide)), fun o => HN.h12 (o.of_set (by decide)), fun o => HN.h13 (o.of_set (by decide)), fun o => HN.h14 (o.of_set (by decide)), fun o => HN.h15 (o.of_set (by decide)), fun o => HN.h16 (o.of_set (by decide)), fun o => HN.h17 (o.of_set (by decide)), fun o => HN.h18 (o.of_set (by decide)), fun o => HN.h19 (o.of_set (by decide)), fun o => HN.h20 (o.of_set (by decide)), fun o => HN.h23 (o.of_set (by decide)), fun o => HN.h24 (o.of_set (by decide)), fun o => HN.h25 (o.of_set (by decide)), fun o => HN.h26 (o.of_set (by decide)), fun o => HN.h27 (o.of_set (by decide)), fun o => HN.h28 (o.of_set (by decide)), fun o => HN.h33 (o.of_set (by decide)), fun o => (HN.h10 (o.of_set (by decide))).imp On.old id, fun o => (HN.h21 (o.of_set (by decide))).imp On.old id, fun o => (HN.h22 (o.of_set (by decide))).imp On.old id, fun o => HN.h29 (o.of_set (by decide)), fun o => HN.h30 (o.of_set (by decide)), fun o o2 => HN.hne (o.of_set (by decide)) (o2.of_set (by decide)), fun o => (HN.hs31 (o.of_set (by decide))).imp On.old id, fun o => (HN.hs32 (o.of_set (by decide))).imp On.old id, fun o => (HN.w22 (o.of_set (by decide))).old⟩
        refine StepsI.cons (i := 7) (ws := [6]) rfl (by kernel_rfl) (fun L a W hI hno hon hw K hK => ?_) ?_
        · obtain ⟨_, rfl, u75, u76, u77, u78, u79, u80, u81, u82, u83, u84, u85, u86, u87, u88, u89, u90, u91, u92, u93, u94, u95, u96, u97, u98, u99, u74, u100, u101, u102, u13, u14, u15, q85, q96, q97, q13, q14, a13, b13, a14, b14, rfl, H⟩ := hI
          simp only [List.getElem_toArray, List.getElem_cons_zero, List.getElem_cons_succ]
          obtain rfl := H.h6 (hw 6 (by simp))
          simp only [frmL, Act.put, List.setIfInBounds_toArray, List.set_cons_zero, List.set_cons_succ]
          have c0 := Keep.below H.bl _ _ HS0.out.1.2
          go_simp
          have HN := H
          refine hK.out _ _ ⟨[u75, u76, u77, u78, u79, u80, .pointer (some ⟨b, o + 1, none⟩), .slice (some ⟨rb 1, ro 1, none⟩) 2 (cc 1), u83, u84, u85, u86, u87, u88, u89, u90, u91, u92, u93, u94, u95, u96, u97, u98, u99, u74, u100, u101, u102, u13, u14, u15], ?_, u75, u76, u77, u78, u79, u80, .pointer (some ⟨b, o + 1, none⟩), .slice (some ⟨rb 1, ro 1, none⟩) 2 (cc 1), u83, u84, u85, u86, u87, u88, u89, u90, u91, u92, u93, u94, u95, u96, u97, u98, u99, u74, u100, u101, u102, u13, u14, u15, q85, q96, q97, q13, q14, a13, b13, a14, b14, rfl, ?_⟩
          · simp only [frmL, Act.put, List.setIfInBounds_toArray, List.set_cons_zero, List.set_cons_succ]
          · exact ⟨HN.bl, fun o => HN.h0 (o.of_set (by decide)), fun o => HN.h1 (o.of_set (by decide)), fun o => HN.h2 (o.of_set (by decide)), fun o => HN.h3 (o.of_set (by decide)), fun o => HN.h4 (o.of_set (by decide)), fun o => HN.h5 (o.of_set (by decide)), fun o => HN.h6 (o.of_set (by decide)), fun _ => rfl, fun o => HN.h8 (o.of_set (by decide)), fun o => HN.h9 (o.of_set (by decide)), fun o => HN.h11 (o.of_set (by decide)), fun o => HN.h12 (o.of_set (by decide)), fun o => HN.h13 (o.of_set (by decide)), fun o => HN.h14 (o.of_set (by decide)), fun o => HN.h15 (o.of_set (by decide)), fun o => HN.h16 (o.of_set (by decide)), fun o => HN.h17 (o.of_set (by decide)), fun o => HN.h18 (o.of_set (by decide)), fun o => HN.h19 (o.of_set (by decide)), fun o => HN.h20 (o.of_set (by decide)), fun o => HN.h23 (o.of_set (by decide)), fun o => HN.h24 (o.of_set (by decide)), fun o => HN.h25 (o.of_set (by decide)), fun o => HN.h26 (o.of_set (by decide)), fun o => HN.h27 (o.of_set (by decide)), fun o => HN.h28 (o.of_set (by decide)), fun o => HN.h33 (o.of_set (by decide)), fun o => (HN.h10 (o.of_set (by decide))).imp On.old id, fun o => (HN.h21 (o.of_set (by decide))).imp On.old id, fun o => (HN.h22 (o.of_set (by decide))).imp On.old id, fun o => HN.h29 (o.of_set (by decide)), fun o => HN.h30 (o.of_set (by decide)), fun o o2 => HN.hne (o.of_set (by decide)) (o2.of_set (by decide)), fun o => (HN.hs31 (o.of_set (by decide))).imp On.old id, fun o => (HN.hs32 (o.of_set (by decide))).imp On.old id, fun o => (HN.w22 (o.of_set (by decide))).old⟩
        refine StepsI.cons (i := 8) (ws := [7]) rfl (by kernel_rfl) (fun L a W hI hno hon hw K hK => ?_) ?_
        · obtain ⟨_, rfl, u75, u76, u77, u78, u79, u80, u81, u82, u83, u84, u85, u86, u87, u88, u89, u90, u91, u92, u93, u94, u95, u96, u97, u98, u99, u74, u100, u101, u102, u13, u14, u15, q85, q96, q97, q13, q14, a13, b13, a14, b14, rfl, H⟩ := hI
          simp only [List.getElem_toArray, List.getElem_cons_zero, List.getElem_cons_succ]
          obtain rfl := H.h7 (hw 7 (by simp))
          simp only [frmL, Act.put, List.setIfInBounds_toArray, List.set_cons_zero, List.set_cons_succ]
          go_simp
          have HN := H
          refine hK.out _ _ ⟨[u75, u76, u77, u78, u79, u80, u81, .slice (some ⟨rb 1, ro 1, none⟩) 2 (cc 1), .pointer (some ⟨rb 1, ro 1, none⟩), u84, u85, u86, u87, u88, u89, u90, u91, u92, u93, u94, u95, u96, u97, u98, u99, u74, u100, u101, u102, u13, u14, u15], ?_, u75, u76, u77, u78, u79, u80, u81, .slice (some ⟨rb 1, ro 1, none⟩) 2 (cc 1), .pointer (some ⟨rb 1, ro 1, none⟩), u84, u85, u86, u87, u88, u89, u90, u91, u92, u93, u94, u95, u96, u97, u98, u99, u74, u100, u101, u102, u13, u14, u15, q85, q96, q97, q13, q14, a13, b13, a14, b14, rfl, ?_⟩
          · simp only [frmL, Act.put, List.setIfInBounds_toArray, List.set_cons_zero, List.set_cons_succ]
          · exact ⟨HN.bl, fun o => HN.h0 (o.of_set (by decide)), fun o => HN.h1 (o.of_set (by decide)), fun o => HN.h2 (o.of_set (by decide)), fun o => HN.h3 (o.of_set (by decide)), fun o => HN.h4 (o.of_set (by decide)), fun o => HN.h5 (o.of_set (by decide)), fun o => HN.h6 (o.of_set (by decide)), fun o => HN.h7 (o.of_set (by decide)), fun _ => rfl, fun o => HN.h9 (o.of_set (by decide)), fun o => HN.h11 (o.of_set (by decide)), fun o => HN.h12 (o.of_set (by decide)), fun o => HN.h13 (o.of_set (by decide)), fun o => HN.h14 (o.of_set (by decide)), fun o => HN.h15 (o.of_set (by decide)), fun o => HN.h16 (o.of_set (by decide)), fun o => HN.h17 (o.of_set (by decide)), fun o => HN.h18 (o.of_set (by decide)), fun o => HN.h19 (o.of_set (by decide)), fun o => HN.h20 (o.of_set (by decide)), fun o => HN.h23 (o.of_set (by decide)), fun o => HN.h24 (o.of_set (by decide)), fun o => HN.h25 (o.of_set (by decide)), fun o => HN.h26 (o.of_set (by decide)), fun o => HN.h27 (o.of_set (by decide)), fun o => HN.h28 (o.of_set (by decide)), fun o => HN.h33 (o.of_set (by decide)), fun o => (HN.h10 (o.of_set (by decide))).imp On.old id, fun o => (HN.h21 (o.of_set (by decide))).imp On.old id, fun o => (HN.h22 (o.of_set (by decide))).imp On.old id, fun o => HN.h29 (o.of_set (by decide)), fun o => HN.h30 (o.of_set (by decide)), fun o o2 => HN.hne (o.of_set (by decide)) (o2.of_set (by decide)), fun o => (HN.hs31 (o.of_set (by decide))).imp On.old id, fun o => (HN.hs32 (o.of_set (by decide))).imp On.old id, fun o => (HN.w22 (o.of_set (by decide))).old⟩
        refine StepsI.cons (i := 9) (ws := [8]) rfl (by kernel_rfl) (fun L a W hI hno hon hw K hK => ?_) ?_
        · obtain ⟨_, rfl, u75, u76, u77, u78, u79, u80, u81, u82, u83, u84, u85, u86, u87, u88, u89, u90, u91, u92, u93, u94, u95, u96, u97, u98, u99, u74, u100, u101, u102, u13, u14, u15, q85, q96, q97, q13, q14, a13, b13, a14, b14, rfl, H⟩ := hI
          simp only [List.getElem_toArray, List.getElem_cons_zero, List.getElem_cons_succ]
          obtain rfl := H.h8 (hw 8 (by simp))
          simp only [frmL, Act.put, List.setIfInBounds_toArray, List.set_cons_zero, List.set_cons_succ]
          have c0 := Keep.below H.bl _ _ HS0.out.2.2.1
          go_simp
          have HN := H
          refine hK.out _ _ ⟨[u75, u76, u77, u78, u79, u80, u81, u82, .pointer (some ⟨rb 1, ro 1, none⟩), .int .i64 z, u85, u86, u87, u88, u89, u90, u91, u92, u93, u94, u95, u96, u97, u98, u99, u74, u100, u101, u102, u13, u14, u15], ?_, u75, u76, u77, u78, u79, u80, u81, u82, .pointer (some ⟨rb 1, ro 1, none⟩), .int .i64 z, u85, u86, u87, u88, u89, u90, u91, u92, u93, u94, u95, u96, u97, u98, u99, u74, u100, u101, u102, u13, u14, u15, q85, q96, q97, q13, q14, a13, b13, a14, b14, rfl, ?_⟩
          · simp only [frmL, Act.put, List.setIfInBounds_toArray, List.set_cons_zero, List.set_cons_succ]
          · exact ⟨HN.bl, fun o => HN.h0 (o.of_set (by decide)), fun o => HN.h1 (o.of_set (by decide)), fun o => HN.h2 (o.of_set (by decide)), fun o => HN.h3 (o.of_set (by decide)), fun o => HN.h4 (o.of_set (by decide)), fun o => HN.h5 (o.of_set (by decide)), fun o => HN.h6 (o.of_set (by decide)), fun o => HN.h7 (o.of_set (by decide)), fun o => HN.h8 (o.of_set (by decide)), fun _ => rfl, fun o => HN.h11 (o.of_set (by decide)), fun o => HN.h12 (o.of_set (by decide)), fun o => HN.h13 (o.of_set (by decide)), fun o => HN.h14 (o.of_set (by decide)), fun o => HN.h15 (o.of_set (by decide)), fun o => HN.h16 (o.of_set (by decide)), fun o => HN.h17 (o.of_set (by decide)), fun o => HN.h18 (o.of_set (by decide)), fun o => HN.h19 (o.of_set (by decide)), fun o => HN.h20 (o.of_set (by decide)), fun o => HN.h23 (o.of_set (by decide)), fun o => HN.h24 (o.of_set (by decide)), fun o => HN.h25 (o.of_set (by decide)), fun o => HN.h26 (o.of_set (by decide)), fun o => HN.h27 (o.of_set (by decide)), fun o => HN.h28 (o.of_set (by decide)), fun o => HN.h33 (o.of_set (by decide)), fun o => (HN.h10 (o.of_set (by decide))).imp On.old id, fun o => (HN.h21 (o.of_set (by decide))).imp On.old id, fun o => (HN.h22 (o.of_set (by decide))).imp On.old id, fun o => HN.h29 (o.of_set (by decide)), fun o => HN.h30 (o.of_set (by decide)), fun o o2 => HN.hne (o.of_set (by decide)) (o2.of_set (by decide)), fun o => (HN.hs31 (o.of_set (by decide))).imp On.old id, fun o => (HN.hs32 (o.of_set (by decide))).imp On.old id, fun o => (HN.w22 (o.of_set (by decide))).old⟩
        refine StepsI.cons (i := 10) (ws := [4, 9]) rfl (by kernel_rfl) (fun L a W hI hno hon hw K hK => ?_) ?_
        · obtain ⟨_, rfl, u75, u76, u77, u78, u79, u80, u81, u82, u83, u84, u85, u86, u87, u88, u89, u90, u91, u92, u93, u94, u95, u96, u97, u98, u99, u74, u100, u101, u102, u13, u14, u15, q85, q96, q97, q13, q14, a13, b13, a14, b14, rfl, H⟩ := hI
          simp only [List.getElem_toArray, List.getElem_cons_zero, List.getElem_cons_succ]
          obtain rfl := H.h4 (hw 4 (by simp))
          obtain rfl := H.h9 (hw 9 (by simp))
          simp only [frmL, Act.put, List.setIfInBounds_toArray, List.set_cons_zero, List.set_cons_succ]
          go_simp
          have HN := H.up (below_alloc W (.cells #[.int .i64 t, .int .i64 z] 3))
          refine hK.out _ _ ⟨[u75, u76, u77, u78, .int .i64 t, u80, u81, u82, u83, .int .i64 z, .slice (some ⟨W.heap.size, 0, none⟩) 2 2, u86, u87, u88, u89, u90, u91, u92, u93, u94, u95, u96, u97, u98, u99, u74, u100, u101, u102, u13, u14, u15], ?_, u75, u76, u77, u78, .int .i64 t, u80, u81, u82, u83, .int .i64 z, .slice (some ⟨W.heap.size, 0, none⟩) 2 2, u86, u87, u88, u89, u90, u91, u92, u93, u94, u95, u96, u97, u98, u99, u74, u100, u101, u102, u13, u14, u15, W.heap.size, q96, q97, q13, q14, a13, b13, a14, b14, rfl, ?_⟩
          · simp only [frmL, Act.put, List.setIfInBounds_toArray, List.set_cons_zero, List.set_cons_succ]
          · exact ⟨HN.bl, fun o => HN.h0 (o.of_set (by decide)), fun o => HN.h1 (o.of_set (by decide)), fun o => HN.h2 (o.of_set (by decide)), fun o => HN.h3 (o.of_set (by decide)), fun o => HN.h4 (o.of_set (by decide)), fun o => HN.h5 (o.of_set (by decide)), fun o => HN.h6 (o.of_set (by decide)), fun o => HN.h7 (o.of_set (by decide)), fun o => HN.h8 (o.of_set (by decide)), fun o => HN.h9 (o.of_set (by decide)), fun o => HN.h11 (o.of_set (by decide)), fun o => HN.h12 (o.of_set (by decide)), fun o => HN.h13 (o.of_set (by decide)), fun o => HN.h14 (o.of_set (by decide)), fun o => HN.h15 (o.of_set (by decide)), fun o => HN.h16 (o.of_set (by decide)), fun o => HN.h17 (o.of_set (by decide)), fun o => HN.h18 (o.of_set (by decide)), fun o => HN.h19 (o.of_set (by decide)), fun o => HN.h20 (o.of_set (by decide)), fun o => HN.h23 (o.of_set (by decide)), fun o => HN.h24 (o.of_set (by decide)), fun o => HN.h25 (o.of_set (by decide)), fun o => HN.h26 (o.of_set (by decide)), fun o => HN.h27 (o.of_set (by decide)), fun o => HN.h28 (o.of_set (by decide)), fun o => HN.h33 (o.of_set (by decide)), fun _ => .inr ⟨rfl, blk_new W 3 #[.int .i64 t, .int .i64 z]⟩, fun o => (HN.h21 (o.of_set (by decide))).imp On.old id, fun o => (HN.h22 (o.of_set (by decide))).imp On.old id, fun o => HN.h29 (o.of_set (by decide)), fun o => HN.h30 (o.of_set (by decide)), fun o o2 => HN.hne (o.of_set (by decide)) (o2.of_set (by decide)), fun o => (HN.hs31 (o.of_set (by decide))).imp On.old id, fun o => (HN.hs32 (o.of_set (by decide))).imp On.old id, fun o => (HN.w22 (o.of_set (by decide))).old⟩
        refine StepsI.cons (i := 11) (ws := []) rfl (by kernel_rfl) (fun L a W hI hno hon hw K hK => ?_) ?_
        · obtain ⟨_, rfl, u75, u76, u77, u78, u79, u80, u81, u82, u83, u84, u85, u86, u87, u88, u89, u90, u91, u92, u93, u94, u95, u96, u97, u98, u99, u74, u100, u101, u102, u13, u14, u15, q85, q96, q97, q13, q14, a13, b13, a14, b14, rfl, H⟩ := hI
          simp only [List.getElem_toArray, List.getElem_cons_zero, List.getElem_cons_succ]
          simp only [frmL, Act.put, List.setIfInBounds_toArray, List.set_cons_zero, List.set_cons_succ]
          go_simp
          have HN := H
          refine hK.out _ _ ⟨[u75, u76, u77, u78, u79, u80, u81, u82, u83, u84, u85, .slice (some ⟨b, o, none⟩) 2 cv, u87, u88, u89, u90, u91, u92, u93, u94, u95, u96, u97, u98, u99, u74, u100, u101, u102, u13, u14, u15], ?_, u75, u76, u77, u78, u79, u80, u81, u82, u83, u84, u85, .slice (some ⟨b, o, none⟩) 2 cv, u87, u88, u89, u90, u91, u92, u93, u94, u95, u96, u97, u98, u99, u74, u100, u101, u102, u13, u14, u15, q85, q96, q97, q13, q14, a13, b13, a14, b14, rfl, ?_⟩
          · simp only [frmL, Act.put, List.setIfInBounds_toArray, List.set_cons_zero, List.set_cons_succ]
          · exact ⟨HN.bl, fun o => HN.h0 (o.of_set (by decide)), fun o => HN.h1 (o.of_set (by decide)), fun o => HN.h2 (o.of_set (by decide)), fun o => HN.h3 (o.of_set (by decide)), fun o => HN.h4 (o.of_set (by decide)), fun o => HN.h5 (o.of_set (by decide)), fun o => HN.h6 (o.of_set (by decide)), fun o => HN.h7 (o.of_set (by decide)), fun o => HN.h8 (o.of_set (by decide)), fun o => HN.h9 (o.of_set (by decide)), fun _ => rfl, fun o => HN.h12 (o.of_set (by decide)), fun o => HN.h13 (o.of_set (by decide)), fun o => HN.h14 (o.of_set (by decide)), fun o => HN.h15 (o.of_set (by decide)), fun o => HN.h16 (o.of_set (by decide)), fun o => HN.h17 (o.of_set (by decide)), fun o => HN.h18 (o.of_set (by decide)), fun o => HN.h19 (o.of_set (by decide)), fun o => HN.h20 (o.of_set (by decide)), fun o => HN.h23 (o.of_set (by decide)), fun o => HN.h24 (o.of_set (by decide)), fun o => HN.h25 (o.of_set (by decide)), fun o => HN.h26 (o.of_set (by decide)), fun o => HN.h27 (o.of_set (by decide)), fun o => HN.h28 (o.of_set (by decide)), fun o => HN.h33 (o.of_set (by decide)), fun o => (HN.h10 (o.of_set (by decide))).imp On.old id, fun o => (HN.h21 (o.of_set (by decide))).imp On.old id, fun o => (HN.h22 (o.of_set (by decide))).imp On.old id, fun o => HN.h29 (o.of_set (by decide)), fun o => HN.h30 (o.of_set (by decide)), fun o o2 => HN.hne (o.of_set (by decide)) (o2.of_set (by decide)), fun o => (HN.hs31 (o.of_set (by decide))).imp On.old id, fun o => (HN.hs32 (o.of_set (by decide))).imp On.old id, fun o => (HN.w22 (o.of_set (by decide))).old⟩
        refine StepsI.cons (i := 12) (ws := [11]) rfl (by kernel_rfl) (fun L a W hI hno hon hw K hK => ?_) ?_
        · obtain ⟨_, rfl, u75, u76, u77, u78, u79, u80, u81, u82, u83, u84, u85, u86, u87, u88, u89, u90, u91, u92, u93, u94, u95, u96, u97, u98, u99, u74, u100, u101, u102, u13, u14, u15, q85, q96, q97, q13, q14, a13, b13, a14, b14, rfl, H⟩ := hI
          simp only [List.getElem_toArray, List.getElem_cons_zero, List.getElem_cons_succ]
          obtain rfl := H.h11 (hw 11 (by simp))
          simp only [frmL, Act.put, List.setIfInBounds_toArray, List.set_cons_zero, List.set_cons_succ]
          go_simp
          have HN := H
          refine hK.out _ _ ⟨[u75, u76, u77, u78, u79, u80, u81, u82, u83, u84, u85, .slice (some ⟨b, o, none⟩) 2 cv, .pointer (some ⟨b, o, none⟩), u88, u89, u90, u91, u92, u93, u94, u95, u96, u97, u98, u99, u74, u100, u101, u102, u13, u14, u15], ?_, u75, u76, u77, u78, u79, u80, u81, u82, u83, u84, u85, .slice (some ⟨b, o, none⟩) 2 cv, .pointer (some ⟨b, o, none⟩), u88, u89, u90, u91, u92, u93, u94, u95, u96, u97, u98, u99, u74, u100, u101, u102, u13, u14, u15, q85, q96, q97, q13, q14, a13, b13, a14, b14, rfl, ?_⟩
          · simp only [frmL, Act.put, List.setIfInBounds_toArray, List.set_cons_zero, List.set_cons_succ]
          · exact ⟨HN.bl, fun o => HN.h0 (o.of_set (by decide)), fun o => HN.h1 (o.of_set (by decide)), fun o => HN.h2 (o.of_set (by decide)), fun o => HN.h3 (o.of_set (by decide)), fun o => HN.h4 (o.of_set (by decide)), fun o => HN.h5 (o.of_set (by decide)), fun o => HN.h6 (o.of_set (by decide)), fun o => HN.h7 (o.of_set (by decide)), fun o => HN.h8 (o.of_set (by decide)), fun o => HN.h9 (o.of_set (by decide)), fun o => HN.h11 (o.of_set (by decide)), fun _ => rfl, fun o => HN.h13 (o.of_set (by decide)), fun o => HN.h14 (o.of_set (by decide)), fun o => HN.h15 (o.of_set (by decide)), fun o => HN.h16 (o.of_set (by decide)), fun o => HN.h17 (o.of_set (by decide)), fun o => HN.h18 (o.of_set (by decide)), fun o => HN.h19 (o.of_set (by decide)), fun o => HN.h20 (o.of_set (by decide)), fun o => HN.h23 (o.of_set (by decide)), fun o => HN.h24 (o.of_set (by decide)), fun o => HN.h25 (o.of_set (by decide)), fun o => HN.h26 (o.of_set (by decide)), fun o => HN.h27 (o.of_set (by decide)), fun o => HN.h28 (o.of_set (by decide)), fun o => HN.h33 (o.of_set (by decide)), fun o => (HN.h10 (o.of_set (by decide))).imp On.old id, fun o => (HN.h21 (o.of_set (by decide))).imp On.old id, fun o => (HN.h22 (o.of_set (by decide))).imp On.old id, fun o => HN.h29 (o.of_set (by decide)), fun o => HN.h30 (o.of_set (by decide)), fun o o2 => HN.hne (o.of_set (by decide)) (o2.of_set (by decide)), fun o => (HN.hs31 (o.of_set (by decide))).imp On.old id, fun o => (HN.hs32 (o.of_set (by decide))).imp On.old id, fun o => (HN.w22 (o.of_set (by decide))).old⟩
        refine StepsI.cons (i := 13) (ws := [12]) rfl (by kernel_rfl) (fun L a W hI hno hon hw K hK => ?_) ?_
        · obtain ⟨_, rfl, u75, u76, u77, u78, u79, u80, u81, u82, u83, u84, u85, u86, u87, u88, u89, u90, u91, u92, u93, u94, u95, u96, u97, u98, u99, u74, u100, u101, u102, u13, u14, u15, q85, q96, q97, q13, q14, a13, b13, a14, b14, rfl, H⟩ := hI
          simp only [List.getElem_toArray, List.getElem_cons_zero, List.getElem_cons_succ]
          obtain rfl := H.h12 (hw 12 (by simp))
          simp only [frmL, Act.put, List.setIfInBounds_toArray, List.set_cons_zero, List.set_cons_succ]
          have c0 := Keep.below H.bl _ _ HS0.out.1.1
          go_simp
          have HN := H
          refine hK.out _ _ ⟨[u75, u76, u77, u78, u79, u80, u81, u82, u83, u84, u85, u86, .pointer (some ⟨b, o, none⟩), .slice (some ⟨rb 0, ro 0, none⟩) 2 (cc 0), u89, u90, u91, u92, u93, u94, u95, u96, u97, u98, u99, u74, u100, u101, u102, u13, u14, u15], ?_, u75, u76, u77, u78, u79, u80, u81, u82, u83, u84, u85, u86, .pointer (some ⟨b, o, none⟩), .slice (some ⟨rb 0, ro 0, none⟩) 2 (cc 0), u89, u90, u91, u92, u93, u94, u95, u96, u97, u98, u99, u74, u100, u101, u102, u13, u14, u15, q85, q96, q97, q13, q14, a13, b13, a14, b14, rfl, ?_⟩
          · simp only [frmL, Act.put, List.setIfInBounds_toArray, List.set_cons_zero, List.set_cons_succ]
          · exact ⟨HN.bl, fun o => HN.h0 (o.of_set (by decide)), fun o => HN.h1 (o.of_set (by decide)), fun o => HN.h2 (o.of_set (by decide)), fun o => HN.h3 (o.of_set (by decide)), fun o => HN.h4 (o.of_set (by decide)), fun o => HN.h5 (o.of_set (by decide)), fun o => HN.h6 (o.of_set (by decide)), fun o => HN.h7 (o.of_set (by decide)), fun o => HN.h8 (o.of_set (by decide)), fun o => HN.h9 (o.of_set (by decide)), fun o => HN.h11 (o.of_set (by decide)), fun o => HN.h12 (o.of_set (by decide)), fun _ => rfl, fun o => HN.h14 (o.of_set (by decide)), fun o => HN.h15 (o.of_set (by decide)), fun o => HN.h16 (o.of_set (by decide)), fun o => HN.h17 (o.of_set (by decide)), fun o => HN.h18 (o.of_set (by decide)), fun o => HN.h19 (o.of_set (by decide)), fun o => HN.h20 (o.of_set (by decide)), fun o => HN.h23 (o.of_set (by decide)), fun o => HN.h24 (o.of_set (by decide)), fun o => HN.h25 (o.of_set (by decide)), fun o => HN.h26 (o.of_set (by decide)), fun o => HN.h27 (o.of_set (by decide)), fun o => HN.h28 (o.of_set (by decide)), fun o => HN.h33 (o.of_set (by decide)), fun o => (HN.h10 (o.of_set (by decide))).imp On.old id, fun o => (HN.h21 (o.of_set (by decide))).imp On.old id, fun o => (HN.h22 (o.of_set (by decide))).imp On.old id, fun o => HN.h29 (o.of_set (by decide)), fun o => HN.h30 (o.of_set (by decide)), fun o o2 => HN.hne (o.of_set (by decide)) (o2.of_set (by decide)), fun o => (HN.hs31 (o.of_set (by decide))).imp On.old id, fun o => (HN.hs32 (o.of_set (by decide))).imp On.old id, fun o => (HN.w22 (o.of_set (by decide))).old⟩
        refine StepsI.cons (i := 14) (ws := [13]) rfl (by kernel_rfl) (fun L a W hI hno hon hw K hK => ?_) ?_
        · obtain ⟨_, rfl, u75, u76, u77, u78, u79, u80, u81, u82, u83, u84, u85, u86, u87, u88, u89, u90, u91, u92, u93, u94, u95, u96, u97, u98, u99, u74, u100, u101, u102, u13, u14, u15, q85, q96, q97, q13, q14, a13, b13, a14, b14, rfl, H⟩ := hI
          simp only [List.getElem_toArray, List.getElem_cons_zero, List.getElem_cons_succ]
          obtain rfl := H.h13 (hw 13 (by simp))
          simp only [frmL, Act.put, List.setIfInBounds_toArray, List.set_cons_zero, List.set_cons_succ]
          go_simp
          have HN := H
          refine hK.out _ _ ⟨[u75, u76, u77, u78, u79, u80, u81, u82, u83, u84, u85, u86, u87, .slice (some ⟨rb 0, ro 0, none⟩) 2 (cc 0), .pointer (some ⟨rb 0, ro 0 + 1, none⟩), u90, u91, u92, u93, u94, u95, u96, u97, u98, u99, u74, u100, u101, u102, u13, u14, u15], ?_, u75, u76, u77, u78, u79, u80, u81, u82, u83, u84, u85, u86, u87, .slice (some ⟨rb 0, ro 0, none⟩) 2 (cc 0), .pointer (some ⟨rb 0, ro 0 + 1, none⟩), u90, u91, u92, u93, u94, u95, u96, u97, u98, u99, u74, u100, u101, u102, u13, u14, u15, q85, q96, q97, q13, q14, a13, b13, a14, b14, rfl, ?_⟩
          · simp only [frmL, Act.put, List.setIfInBounds_toArray, List.set_cons_zero, List.set_cons_succ]
          · exact ⟨HN.bl, fun o => HN.h0 (o.of_set (by decide)), fun o => HN.h1 (o.of_set (by decide)), fun o => HN.h2 (o.of_set (by decide)), fun o => HN.h3 (o.of_set (by decide)), fun o => HN.h4 (o.of_set (by decide)), fun o => HN.h5 (o.of_set (by decide)), fun o => HN.h6 (o.of_set (by decide)), fun o => HN.h7 (o.of_set (by decide)), fun o => HN.h8 (o.of_set (by decide)), fun o => HN.h9 (o.of_set (by decide)), fun o => HN.h11 (o.of_set (by decide)), fun o => HN.h12 (o.of_set (by decide)), fun o => HN.h13 (o.of_set (by decide)), fun _ => rfl, fun o => HN.h15 (o.of_set (by decide)), fun o => HN.h16 (o.of_set (by decide)), fun o => HN.h17 (o.of_set (by decide)), fun o => HN.h18 (o.of_set (by decide)), fun o => HN.h19 (o.of_set (by decide)), fun o => HN.h20 (o.of_set (by decide)), fun o => HN.h23 (o.of_set (by decide)), fun o => HN.h24 (o.of_set (by decide)), fun o => HN.h25 (o.of_set (by decide)), fun o => HN.h26 (o.of_set (by decide)), fun o => HN.h27 (o.of_set (by decide)), fun o => HN.h28 (o.of_set (by decide)), fun o => HN.h33 (o.of_set (by decide)), fun o => (HN.h10 (o.of_set (by decide))).imp On.old id, fun o => (HN.h21 (o.of_set (by decide))).imp On.old id, fun o => (HN.h22 (o.of_set (by decide))).imp On.old id, fun o => HN.h29 (o.of_set (by decide)), fun o => HN.h30 (o.of_set (by decide)), fun o o2 => HN.hne (o.of_set (by decide)) (o2.of_set (by decide)), fun o => (HN.hs31 (o.of_set (by decide))).imp On.old id, fun o => (HN.hs32 (o.of_set (by decide))).imp On.old id, fun o => (HN.w22 (o.of_set (by decide))).old⟩
        refine StepsI.cons (i := 15) (ws := [14]) rfl (by kernel_rfl) (fun L a W hI hno hon hw K hK => ?_) ?_
        · obtain ⟨_, rfl, u75, u76, u77, u78, u79, u80, u81, u82, u83, u84, u85, u86, u87, u88, u89, u90, u91, u92, u93, u94, u95, u96, u97, u98, u99, u74, u100, u101, u102, u13, u14, u15, q85, q96, q97, q13, q14, a13, b13, a14, b14, rfl, H⟩ := hI
          simp only [List.getElem_toArray, List.getElem_cons_zero, List.getElem_cons_succ]
          obtain rfl := H.h14 (hw 14 (by simp))
          simp only [frmL, Act.put, List.setIfInBounds_toArray, List.set_cons_zero, List.set_cons_succ]
          have c0 := Keep.below H.bl _ _ HS0.out.2.1.2
          go_simp
          have HN := H
          refine hK.out _ _ ⟨[u75, u76, u77, u78, u79, u80, u81, u82, u83, u84, u85, u86, u87, u88, .pointer (some ⟨rb 0, ro 0 + 1, none⟩), .int .i64 y, u91, u92, u93, u94, u95, u96, u97, u98, u99, u74, u100, u101, u102, u13, u14, u15], ?_, u75, u76, u77, u78, u79, u80, u81, u82, u83, u84, u85, u86, u87, u88, .pointer (some ⟨rb 0, ro 0 + 1, none⟩), .int .i64 y, u91, u92, u93, u94, u95, u96, u97, u98, u99, u74, u100, u101, u102, u13, u14, u15, q85, q96, q97, q13, q14, a13, b13, a14, b14, rfl, ?_⟩
          · simp only [frmL, Act.put, List.setIfInBounds_toArray, List.set_cons_zero, List.set_cons_succ]
          · exact ⟨HN.bl, fun o => HN.h0 (o.of_set (by decide)), fun o => HN.h1 (o.of_set (by decide)), fun o => HN.h2 (o.of_set (by decide)), fun o => HN.h3 (o.of_set (by decide)), fun o => HN.h4 (o.of_set (by decide)), fun o => HN.h5 (o.of_set (by decide)), fun o => HN.h6 (o.of_set (by decide)), fun o => HN.h7 (o.of_set (by decide)), fun o => HN.h8 (o.of_set (by decide)), fun o => HN.h9 (o.of_set (by decide)), fun o => HN.h11 (o.of_set (by decide)), fun o => HN.h12 (o.of_set (by decide)), fun o => HN.h13 (o.of_set (by decide)), fun o => HN.h14 (o.of_set (by decide)), fun _ => rfl, fun o => HN.h16 (o.of_set (by decide)), fun o => HN.h17 (o.of_set (by decide)), fun o => HN.h18 (o.of_set (by decide)), fun o => HN.h19 (o.of_set (by decide)), fun o => HN.h20 (o.of_set (by decide)), fun o => HN.h23 (o.of_set (by decide)), fun o => HN.h24 (o.of_set (by decide)), fun o => HN.h25 (o.of_set (by decide)), fun o => HN.h26 (o.of_set (by decide)), fun o => HN.h27 (o.of_set (by decide)), fun o => HN.h28 (o.of_set (by decide)), fun o => HN.h33 (o.of_set (by decide)), fun o => (HN.h10 (o.of_set (by decide))).imp On.old id, fun o => (HN.h21 (o.of_set (by decide))).imp On.old id, fun o => (HN.h22 (o.of_set (by decide))).imp On.old id, fun o => HN.h29 (o.of_set (by decide)), fun o => HN.h30 (o.of_set (by decide)), fun o o2 => HN.hne (o.of_set (by decide)) (o2.of_set (by decide)), fun o => (HN.hs31 (o.of_set (by decide))).imp On.old id, fun o => (HN.hs32 (o.of_set (by decide))).imp On.old id, fun o => (HN.w22 (o.of_set (by decide))).old⟩
        refine StepsI.cons (i := 16) (ws := []) rfl (by kernel_rfl) (fun L a W hI hno hon hw K hK => ?_) ?_
        · obtain ⟨_, rfl, u75, u76, u77, u78, u79, u80, u81, u82, u83, u84, u85, u86, u87, u88, u89, u90, u91, u92, u93, u94, u95, u96, u97, u98, u99, u74, u100, u101, u102, u13, u14, u15, q85, q96, q97, q13, q14, a13, b13, a14, b14, rfl, H⟩ := hI
          simp only [List.getElem_toArray, List.getElem_cons_zero, List.getElem_cons_succ]
          simp only [frmL, Act.put, List.setIfInBounds_toArray, List.set_cons_zero, List.set_cons_succ]
          go_simp
          have HN := H
          refine hK.out _ _ ⟨[u75, u76, u77, u78, u79, u80, u81, u82, u83, u84, u85, u86, u87, u88, u89, u90, .slice (some ⟨b, o, none⟩) 2 cv, u92, u93, u94, u95, u96, u97, u98, u99, u74, u100, u101, u102, u13, u14, u15], ?_, u75, u76, u77, u78, u79, u80, u81, u82, u83, u84, u85, u86, u87, u88, u89, u90, .slice (some ⟨b, o, none⟩) 2 cv, u92, u93, u94, u95, u96, u97, u98, u99, u74, u100, u101, u102, u13, u14, u15, q85, q96, q97, q13, q14, a13, b13, a14, b14, rfl, ?_⟩
          · simp only [frmL, Act.put, List.setIfInBounds_toArray, List.set_cons_zero, List.set_cons_succ]
          · exact ⟨HN.bl, fun o => HN.h0 (o.of_set (by decide)), fun o => HN.h1 (o.of_set (by decide)), fun o => HN.h2 (o.of_set (by decide)), fun o => HN.h3 (o.of_set (by decide)), fun o => HN.h4 (o.of_set (by decide)), fun o => HN.h5 (o.of_set (by decide)), fun o => HN.h6 (o.of_set (by decide)), fun o => HN.h7 (o.of_set (by decide)), fun o => HN.h8 (o.of_set (by decide)), fun o => HN.h9 (o.of_set (by decide)), fun o => HN.h11 (o.of_set (by decide)), fun o => HN.h12 (o.of_set (by decide)), fun o => HN.h13 (o.of_set (by decide)), fun o => HN.h14 (o.of_set (by decide)), fun o => HN.h15 (o.of_set (by decide)), fun _ => rfl, fun o => HN.h17 (o.of_set (by decide)), fun o => HN.h18 (o.of_set (by decide)), fun o => HN.h19 (o.of_set (by decide)), fun o => HN.h20 (o.of_set (by decide)), fun o => HN.h23 (o.of_set (by decide)), fun o => HN.h24 (o.of_set (by decide)), fun o => HN.h25 (o.of_set (by decide)), fun o => HN.h26 (o.of_set (by decide)), fun o => HN.h27 (o.of_set (by decide)), fun o => HN.h28 (o.of_set (by decide)), fun o => HN.h33 (o.of_set (by decide)), fun o => (HN.h10 (o.of_set (by decide))).imp On.old id, fun o => (HN.h21 (o.of_set (by decide))).imp On.old id, fun o => (HN.h22 (o.of_set (by decide))).imp On.old id, fun o => HN.h29 (o.of_set (by decide)), fun o => HN.h30 (o.of_set (by decide)), fun o o2 => HN.hne (o.of_set (by decide)) (o2.of_set (by decide)), fun o => (HN.hs31 (o.of_set (by decide))).imp On.old id, fun o => (HN.hs32 (o.of_set (by decide))).imp On.old id, fun o => (HN.w22 (o.of_set (by decide))).old⟩
        refine StepsI.cons (i := 17) (ws := [16]) rfl (by kernel_rfl) (fun L a W hI hno hon hw K hK => ?_) ?_
        · obtain ⟨_, rfl, u75, u76, u77, u78, u79, u80, u81, u82, u83, u84, u85, u86, u87, u88, u89, u90, u91, u92, u93, u94, u95, u96, u97, u98, u99, u74, u100, u101, u102, u13, u14, u15, q85, q96, q97, q13, q14, a13, b13, a14, b14, rfl, H⟩ := hI
          simp only [List.getElem_toArray, List.getElem_cons_zero, List.getElem_cons_succ]
          obtain rfl := H.h16 (hw 16 (by simp))
          simp only [frmL, Act.put, List.setIfInBounds_toArray, List.set_cons_zero, List.set_cons_succ]
          go_simp
          have HN := H
          refine hK.out _ _ ⟨[u75, u76, u77, u78, u79, u80, u81, u82, u83, u84, u85, u86, u87, u88, u89, u90, .slice (some ⟨b, o, none⟩) 2 cv, .pointer (some ⟨b, o, none⟩), u93, u94, u95, u96, u97, u98, u99, u74, u100, u101, u102, u13, u14, u15], ?_, u75, u76, u77, u78, u79, u80, u81, u82, u83, u84, u85, u86, u87, u88, u89, u90, .slice (some ⟨b, o, none⟩) 2 cv, .pointer (some ⟨b, o, none⟩), u93, u94, u95, u96, u97, u98, u99, u74, u100, u101, u102, u13, u14, u15, q85, q96, q97, q13, q14, a13, b13, a14, b14, rfl, ?_⟩
          · simp only [frmL, Act.put, List.setIfInBounds_toArray, List.set_cons_zero, List.set_cons_succ]
          · exact ⟨HN.bl, fun o => HN.h0 (o.of_set (by decide)), fun o => HN.h1 (o.of_set (by decide)), fun o => HN.h2 (o.of_set (by decide)), fun o => HN.h3 (o.of_set (by decide)), fun o => HN.h4 (o.of_set (by decide)), fun o => HN.h5 (o.of_set (by decide)), fun o => HN.h6 (o.of_set (by decide)), fun o => HN.h7 (o.of_set (by decide)), fun o => HN.h8 (o.of_set (by decide)), fun o => HN.h9 (o.of_set (by decide)), fun o => HN.h11 (o.of_set (by decide)), fun o => HN.h12 (o.of_set (by decide)), fun o => HN.h13 (o.of_set (by decide)), fun o => HN.h14 (o.of_set (by decide)), fun o => HN.h15 (o.of_set (by decide)), fun o => HN.h16 (o.of_set (by decide)), fun _ => rfl, fun o => HN.h18 (o.of_set (by decide)), fun o => HN.h19 (o.of_set (by decide)), fun o => HN.h20 (o.of_set (by decide)), fun o => HN.h23 (o.of_set (by decide)), fun o => HN.h24 (o.of_set (by decide)), fun o => HN.h25 (o.of_set (by decide)), fun o => HN.h26 (o.of_set (by decide)), fun o => HN.h27 (o.of_set (by decide)), fun o => HN.h28 (o.of_set (by decide)), fun o => HN.h33 (o.of_set (by decide)), fun o => (HN.h10 (o.of_set (by decide))).imp On.old id, fun o => (HN.h21 (o.of_set (by decide))).imp On.old id, fun o => (HN.h22 (o.of_set (by decide))).imp On.old id, fun o => HN.h29 (o.of_set (by decide)), fun o => HN.h30 (o.of_set (by decide)), fun o o2 => HN.hne (o.of_set (by decide)) (o2.of_set (by decide)), fun o => (HN.hs31 (o.of_set (by decide))).imp On.old id, fun o => (HN.hs32 (o.of_set (by decide))).imp On.old id, fun o => (HN.w22 (o.of_set (by decide))).old⟩
        refine StepsI.cons (i := 18) (ws := [17]) rfl (by kernel_rfl) (fun L a W hI hno hon hw K hK => ?_) ?_
        · obtain ⟨_, rfl, u75, u76, u77, u78, u79, u80, u81, u82, u83, u84, u85, u86, u87, u88, u89, u90, u91, u92, u93, u94, u95, u96, u97, u98, u99, u74, u100, u101, u102, u13, u14, u15, q85, q96, q97, q13, q14, a13, b13, a14, b14, rfl, H⟩ := hI
          simp only [List.getElem_toArray, List.getElem_cons_zero, List.getElem_cons_succ]
          obtain rfl := H.h17 (hw 17 (by simp))
          simp only [frmL, Act.put, List.setIfInBounds_toArray, List.set_cons_zero, List.set_cons_succ]
          have c0 := Keep.below H.bl _ _ HS0.out.1.1
          go_simp
          have HN := H
          refine hK.out _ _ ⟨[u75, u76, u77, u78, u79, u80, u81, u82, u83, u84, u85, u86, u87, u88, u89, u90, u91, .pointer (some ⟨b, o, none⟩), .slice (some ⟨rb 0, ro 0, none⟩) 2 (cc 0), u94, u95, u96, u97, u98, u99, u74, u100, u101, u102, u13, u14, u15], ?_, u75, u76, u77, u78, u79, u80, u81, u82, u83, u84, u85, u86, u87, u88, u89, u90, u91, .pointer (some ⟨b, o, none⟩), .slice (some ⟨rb 0, ro 0, none⟩) 2 (cc 0), u94, u95, u96, u97, u98, u99, u74, u100, u101, u102, u13, u14, u15, q85, q96, q97, q13, q14, a13, b13, a14, b14, rfl, ?_⟩
          · simp only [frmL, Act.put, List.setIfInBounds_toArray, List.set_cons_zero, List.set_cons_succ]
          · exact ⟨HN.bl, fun o => HN.h0 (o.of_set (by decide)), fun o => HN.h1 (o.of_set (by decide)), fun o => HN.h2 (o.of_set (by decide)), fun o => HN.h3 (o.of_set (by decide)), fun o => HN.h4 (o.of_set (by decide)), fun o => HN.h5 (o.of_set (by decide)), fun o => HN.h6 (o.of_set (by decide)), fun o => HN.h7 (o.of_set (by decide)), fun o => HN.h8 (o.of_set (by decide)), fun o => HN.h9 (o.of_set (by decide)), fun o => HN.h11 (o.of_set (by decide)), fun o => HN.h12 (o.of_set (by decide)), fun o => HN.h13 (o.of_set (by decide)), fun o => HN.h14 (o.of_set (by decide)), fun o => HN.h15 (o.of_set (by decide)), fun o => HN.h16 (o.of_set (by decide)), fun o => HN.h17 (o.of_set (by decide)), fun _ => rfl, fun o => HN.h19 (o.of_set (by decide)), fun o => HN.h20 (o.of_set (by decide)), fun o => HN.h23 (o.of_set (by decide)), fun o => HN.h24 (o.of_set (by decide)), fun o => HN.h25 (o.of_set (by decide)), fun o => HN.h26 (o.of_set (by decide)), fun o => HN.h27 (o.of_set (by decide)), fun o => HN.h28 (o.of_set (by decide)), fun o => HN.h33 (o.of_set (by decide)), fun o => (HN.h10 (o.of_set (by decide))).imp On.old id, fun o => (HN.h21 (o.of_set (by decide))).imp On.old id, fun o => (HN.h22 (o.of_set (by decide))).imp On.old id, fun o => HN.h29 (o.of_set (by decide)), fun o => HN.h30 (o.of_set (by decide)), fun o o2 => HN.hne (o.of_set (by decide)) (o2.of_set (by decide)), fun o => (HN.hs31 (o.of_set (by decide))).imp On.old id, fun o => (HN.hs32 (o.of_set (by decide))).imp On.old id, fun o => (HN.w22 (o.of_set (by decide))).old⟩
        refine StepsI.cons (i := 19) (ws := [18]) rfl (by kernel_rfl) (fun L a W hI hno hon hw K hK => ?_) ?_
        · obtain ⟨_, rfl, u75, u76, u77, u78, u79, u80, u81, u82, u83, u84, u85, u86, u87, u88, u89, u90, u91, u92, u93, u94, u95, u96, u97, u98, u99, u74, u100, u101, u102, u13, u14, u15, q85, q96, q97, q13, q14, a13, b13, a14, b14, rfl, H⟩ := hI
          simp only [List.getElem_toArray, List.getElem_cons_zero, List.getElem_cons_succ]
          obtain rfl := H.h18 (hw 18 (by simp))
          simp only [frmL, Act.put, List.setIfInBounds_toArray, List.set_cons_zero, List.set_cons_succ]
          go_simp
          have HN := H
          refine hK.out _ _ ⟨[u75, u76, u77, u78, u79, u80, u81, u82, u83, u84, u85, u86, u87, u88, u89, u90, u91, u92, .slice (some ⟨rb 0, ro 0, none⟩) 2 (cc 0), .pointer (some ⟨rb 0, ro 0, none⟩), u95, u96, u97, u98, u99, u74, u100, u101, u102, u13, u14, u15], ?_, u75, u76, u77, u78, u79, u80, u81, u82, u83, u84, u85, u86, u87, u88, u89, u90, u91, u92, .slice (some ⟨rb 0, ro 0, none⟩) 2 (cc 0), .pointer (some ⟨rb 0, ro 0, none⟩), u95, u96, u97, u98, u99, u74, u100, u101, u102, u13, u14, u15, q85, q96, q97, q13, q14, a13, b13, a14, b14, rfl, ?_⟩
          · simp only [frmL, Act.put, List.setIfInBounds_toArray, List.set_cons_zero, List.set_cons_succ]
          · exact ⟨HN.bl, fun o => HN.h0 (o.of_set (by decide)), fun o => HN.h1 (o.of_set (by decide)), fun o => HN.h2 (o.of_set (by decide)), fun o => HN.h3 (o.of_set (by decide)), fun o => HN.h4 (o.of_set (by decide)), fun o => HN.h5 (o.of_set (by decide)), fun o => HN.h6 (o.of_set (by decide)), fun o => HN.h7 (o.of_set (by decide)), fun o => HN.h8 (o.of_set (by decide)), fun o => HN.h9 (o.of_set (by decide)), fun o => HN.h11 (o.of_set (by decide)), fun o => HN.h12 (o.of_set (by decide)), fun o => HN.h13 (o.of_set (by decide)), fun o => HN.h14 (o.of_set (by decide)), fun o => HN.h15 (o.of_set (by decide)), fun o => HN.h16 (o.of_set (by decide)), fun o => HN.h17 (o.of_set (by decide)), fun o => HN.h18 (o.of_set (by decide)), fun _ => rfl, fun o => HN.h20 (o.of_set (by decide)), fun o => HN.h23 (o.of_set (by decide)), fun o => HN.h24 (o.of_set (by decide)), fun o => HN.h25 (o.of_set (by decide)), fun o => HN.h26 (o.of_set (by decide)), fun o => HN.h27 (o.of_set (by decide)), fun o => HN.h28 (o.of_set (by decide)), fun o => HN.h33 (o.of_set (by decide)), fun o => (HN.h10 (o.of_set (by decide))).imp On.old id, fun o => (HN.h21 (o.of_set (by decide))).imp On.old id, fun o => (HN.h22 (o.of_set (by decide))).imp On.old id, fun o => HN.h29 (o.of_set (by decide)), fun o => HN.h30 (o.of_set (by decide)), fun o o2 => HN.hne (o.of_set (by decide)) (o2.of_set (by decide)), fun o => (HN.hs31 (o.of_set (by decide))).imp On.old id, fun o => (HN.hs32 (o.of_set (by decide))).imp On.old id, fun o => (HN.w22 (o.of_set (by decide))).old⟩
        refine StepsI.cons (i := 20) (ws := [19]) rfl (by kernel_rfl) (fun L a W hI hno hon hw K hK => ?_) ?_
        · obtain ⟨_, rfl, u75, u76, u77, u78, u79, u80, u81, u82, u83, u84, u85, u86, u87, u88, u89, u90, u91, u92, u93, u94, u95, u96, u97, u98, u99, u74, u100, u101, u102, u13, u14, u15, q85, q96, q97, q13, q14, a13, b13, a14, b14, rfl, H⟩ := hI
          simp only [List.getElem_toArray, List.getElem_cons_zero, List.getElem_cons_succ]
          obtain rfl := H.h19 (hw 19 (by simp))
          simp only [frmL, Act.put, List.setIfInBounds_toArray, List.set_cons_zero, List.set_cons_succ]
          have c0 := Keep.below H.bl _ _ HS0.out.2.1.1
          go_simp
          have HN := H
          refine hK.out _ _ ⟨[u75, u76, u77, u78, u79, u80, u81, u82, u83, u84, u85, u86, u87, u88, u89, u90, u91, u92, u93, .pointer (some ⟨rb 0, ro 0, none⟩), .int .i64 x, u96, u97, u98, u99, u74, u100, u101, u102, u13, u14, u15], ?_, u75, u76, u77, u78, u79, u80, u81, u82, u83, u84, u85, u86, u87, u88, u89, u90, u91, u92, u93, .pointer (some ⟨rb 0, ro 0, none⟩), .int .i64 x, u96, u97, u98, u99, u74, u100, u101, u102, u13, u14, u15, q85, q96, q97, q13, q14, a13, b13, a14, b14, rfl, ?_⟩
          · simp only [frmL, Act.put, List.setIfInBounds_toArray, List.set_cons_zero, List.set_cons_succ]
          · exact ⟨HN.bl, fun o => HN.h0 (o.of_set (by decide)), fun o => HN.h1 (o.of_set (by decide)), fun o => HN.h2 (o.of_set (by decide)), fun o => HN.h3 (o.of_set (by decide)), fun o => HN.h4 (o.of_set (by decide)), fun o => HN.h5 (o.of_set (by decide)), fun o => HN.h6 (o.of_set (by decide)), fun o => HN.h7 (o.of_set (by decide)), fun o => HN.h8 (o.of_set (by decide)), fun o => HN.h9 (o.of_set (by decide)), fun o => HN.h11 (o.of_set (by decide)), fun o => HN.h12 (o.of_set (by decide)), fun o => HN.h13 (o.of_set (by decide)), fun o => HN.h14 (o.of_set (by decide)), fun o => HN.h15 (o.of_set (by decide)), fun o => HN.h16 (o.of_set (by decide)), fun o => HN.h17 (o.of_set (by decide)), fun o => HN.h18 (o.of_set (by decide)), fun o => HN.h19 (o.of_set (by decide)), fun _ => rfl, fun o => HN.h23 (o.of_set (by decide)), fun o => HN.h24 (o.of_set (by decide)), fun o => HN.h25 (o.of_set (by decide)), fun o => HN.h26 (o.of_set (by decide)), fun o => HN.h27 (o.of_set (by decide)), fun o => HN.h28 (o.of_set (by decide)), fun o => HN.h33 (o.of_set (by decide)), fun o => (HN.h10 (o.of_set (by decide))).imp On.old id, fun o => (HN.h21 (o.of_set (by decide))).imp On.old id, fun o => (HN.h22 (o.of_set (by decide))).imp On.old id, fun o => HN.h29 (o.of_set (by decide)), fun o => HN.h30 (o.of_set (by decide)), fun o o2 => HN.hne (o.of_set (by decide)) (o2.of_set (by decide)), fun o => (HN.hs31 (o.of_set (by decide))).imp On.old id, fun o => (HN.hs32 (o.of_set (by decide))).imp On.old id, fun o => (HN.w22 (o.of_set (by decide))).old⟩
        refine StepsI.cons (i := 21) (ws := [15, 20]) rfl (by kernel_rfl) (fun L a W hI hno hon hw K hK => ?_) ?_
        · obtain ⟨_, rfl, u75, u76, u77, u78, u79, u80, u81, u82, u83, u84, u85, u86, u87, u88, u89, u90, u91, u92, u93, u94, u95, u96, u97, u98, u99, u74, u100, u101, u102, u13, u14, u15, q85, q96, q97, q13, q14, a13, b13, a14, b14, rfl, H⟩ := hI
          simp only [List.getElem_toArray, List.getElem_cons_zero, List.getElem_cons_succ]
          obtain rfl := H.h15 (hw 15 (by simp))
          obtain rfl := H.h20 (hw 20 (by simp))
          simp only [frmL, Act.put, List.setIfInBounds_toArray, List.set_cons_zero, List.set_cons_succ]
          go_simp
          have HN := H.up (below_alloc W (.cells #[.int .i64 y, .int .i64 x] 3))
          refine hK.out _ _ ⟨[u75, u76, u77, u78, u79, u80, u81, u82, u83, u84, u85, u86, u87, u88, u89, .int .i64 y, u91, u92, u93, u94, .int .i64 x, .slice (some ⟨W.heap.size, 0, none⟩) 2 2, u97, u98, u99, u74, u100, u101, u102, u13, u14, u15], ?_, u75, u76, u77, u78, u79, u80, u81, u82, u83, u84, u85, u86, u87, u88, u89, .int .i64 y, u91, u92, u93, u94, .int .i64 x, .slice (some ⟨W.heap.size, 0, none⟩) 2 2, u97, u98, u99, u74, u100, u101, u102, u13, u14, u15, q85, W.heap.size, q97, q13, q14, a13, b13, a14, b14, rfl, ?_⟩
          · simp only [frmL, Act.put, List.setIfInBounds_toArray, List.set_cons_zero, List.set_cons_succ]
          · exact ⟨HN.bl, fun o => HN.h0 (o.of_set (by decide)), fun o => HN.h1 (o.of_set (by decide)), fun o => HN.h2 (o.of_set (by decide)), fun o => HN.h3 (o.of_set (by decide)), fun o => HN.h4 (o.of_set (by decide)), fun o => HN.h5 (o.of_set (by decide)), fun o => HN.h6 (o.of_set (by decide)), fun o => HN.h7 (o.of_set (by decide)), fun o => HN.h8 (o.of_set (by decide)), fun o => HN.h9 (o.of_set (by decide)), fun o => HN.h11 (o.of_set (by decide)), fun o => HN.h12 (o.of_set (by decide)), fun o => HN.h13 (o.of_set (by decide)), fun o => HN.h14 (o.of_set (by decide)), fun o => HN.h15 (o.of_set (by decide)), fun o => HN.h16 (o.of_set (by decide)), fun o => HN.h17 (o.of_set (by decide)), fun o => HN.h18 (o.of_set (by decide)), fun o => HN.h19 (o.of_set (by decide)), fun o => HN.h20 (o.of_set (by decide)), fun o => HN.h23 (o.of_set (by decide)), fun o => HN.h24 (o.of_set (by decide)), fun o => HN.h25 (o.of_set (by decide)), fun o => HN.h26 (o.of_set (by decide)), fun o => HN.h27 (o.of_set (by decide)), fun o => HN.h28 (o.of_set (by decide)), fun o => HN.h33 (o.of_set (by decide)), fun o => (HN.h10 (o.of_set (by decide))).imp On.old id, fun _ => .inr ⟨rfl, blk_new W 3 #[.int .i64 y, .int .i64 x]⟩, fun o => (HN.h22 (o.of_set (by decide))).imp On.old id, fun o => HN.h29 (o.of_set (by decide)), fun o => HN.h30 (o.of_set (by decide)), fun o o2 => HN.hne (o.of_set (by decide)) (o2.of_set (by decide)), fun o => (HN.hs31 (o.of_set (by decide))).imp On.old id, fun o => (HN.hs32 (o.of_set (by decide))).imp On.old id, fun o => (HN.w22 (o.of_set (by decide))).old⟩
        refine StepsI.cons (i := 22) (ws := [10, 21]) rfl (by kernel_rfl) (fun L a W hI hno hon hw K hK => ?_) ?_
        · obtain ⟨_, rfl, u75, u76, u77, u78, u79, u80, u81, u82, u83, u84, u85, u86, u87, u88, u89, u90, u91, u92, u93, u94, u95, u96, u97, u98, u99, u74, u100, u101, u102, u13, u14, u15, q85, q96, q97, q13, q14, a13, b13, a14, b14, rfl, H⟩ := hI
          simp only [List.getElem_toArray, List.getElem_cons_zero, List.getElem_cons_succ]
          have n24 : ¬ On L 24 := fun o => hno (H.w22 o)
          obtain ⟨rfl, hb85⟩ := (H.h10 (hw 10 (by simp))).resolve_left n24
          obtain ⟨rfl, hb96⟩ := (H.h21 (hw 21 (by simp))).resolve_left n24
          simp only [frmL, Act.put, List.setIfInBounds_toArray, List.set_cons_zero, List.set_cons_succ]
          go_simp
          have HN := H.up (below_alloc W (.cells #[.slice (some ⟨q85, 0, none⟩) 2 2, .slice (some ⟨q96, 0, none⟩) 2 2] 30))
          refine hK.out _ _ ⟨[u75, u76, u77, u78, u79, u80, u81, u82, u83, u84, .slice (some ⟨q85, 0, none⟩) 2 2, u86, u87, u88, u89, u90, u91, u92, u93, u94, u95, .slice (some ⟨q96, 0, none⟩) 2 2, .slice (some ⟨W.heap.size, 0, none⟩) 2 2, u98, u99, u74, u100, u101, u102, u13, u14, u15], ?_, u75, u76, u77, u78, u79, u80, u81, u82, u83, u84, .slice (some ⟨q85, 0, none⟩) 2 2, u86, u87, u88, u89, u90, u91, u92, u93, u94, u95, .slice (some ⟨q96, 0, none⟩) 2 2, .slice (some ⟨W.heap.size, 0, none⟩) 2 2, u98, u99, u74, u100, u101, u102, u13, u14, u15, q85, q96, W.heap.size, q13, q14, a13, b13, a14, b14, rfl, ?_⟩
          · simp only [frmL, Act.put, List.setIfInBounds_toArray, List.set_cons_zero, List.set_cons_succ]
          · exact ⟨HN.bl, fun o => HN.h0 (o.of_set (by decide)), fun o => HN.h1 (o.of_set (by decide)), fun o => HN.h2 (o.of_set (by decide)), fun o => HN.h3 (o.of_set (by decide)), fun o => HN.h4 (o.of_set (by decide)), fun o => HN.h5 (o.of_set (by decide)), fun o => HN.h6 (o.of_set (by decide)), fun o => HN.h7 (o.of_set (by decide)), fun o => HN.h8 (o.of_set (by decide)), fun o => HN.h9 (o.of_set (by decide)), fun o => HN.h11 (o.of_set (by decide)), fun o => HN.h12 (o.of_set (by decide)), fun o => HN.h13 (o.of_set (by decide)), fun o => HN.h14 (o.of_set (by decide)), fun o => HN.h15 (o.of_set (by decide)), fun o => HN.h16 (o.of_set (by decide)), fun o => HN.h17 (o.of_set (by decide)), fun o => HN.h18 (o.of_set (by decide)), fun o => HN.h19 (o.of_set (by decide)), fun o => HN.h20 (o.of_set (by decide)), fun o => HN.h23 (o.of_set (by decide)), fun o => HN.h24 (o.of_set (by decide)), fun o => HN.h25 (o.of_set (by decide)), fun o => HN.h26 (o.of_set (by decide)), fun o => HN.h27 (o.of_set (by decide)), fun o => HN.h28 (o.of_set (by decide)), fun o => HN.h33 (o.of_set (by decide)), fun o => (HN.h10 (o.of_set (by decide))).imp On.old id, fun o => (HN.h21 (o.of_set (by decide))).imp On.old id, fun _ => .inr ⟨rfl, rows_of (by omega) (by omega) (by omega) (by omega) (blk_below hb85 (below_alloc W _)) (blk_below hb96 (below_alloc W _)) (blk_new W 30 _)⟩, fun o => HN.h29 (o.of_set (by decide)), fun o => HN.h30 (o.of_set (by decide)), fun o o2 => HN.hne (o.of_set (by decide)) (o2.of_set (by decide)), fun o => (HN.hs31 (o.of_set (by decide))).imp On.old id, fun o => (HN.hs32 (o.of_set (by decide))).imp On.old id, fun o => (HN.w22 (o.of_set (by decide))).old⟩
        refine StepsI.cons (i := 23) (ws := []) rfl (by kernel_rfl) (fun L a W hI hno hon hw K hK => ?_) ?_
        · obtain ⟨_, rfl, u75, u76, u77, u78, u79, u80, u81, u82, u83, u84, u85, u86, u87, u88, u89, u90, u91, u92, u93, u94, u95, u96, u97, u98, u99, u74, u100, u101, u102, u13, u14, u15, q85, q96, q97, q13, q14, a13, b13, a14, b14, rfl, H⟩ := hI
          simp only [List.getElem_toArray, List.getElem_cons_zero, List.getElem_cons_succ]
          simp only [frmL, Act.put, List.setIfInBounds_toArray, List.set_cons_zero, List.set_cons_succ]
          go_simp
          have HN := H
          refine hK.out _ _ ⟨[u75, u76, u77, u78, u79, u80, u81, u82, u83, u84, u85, u86, u87, u88, u89, u90, u91, u92, u93, u94, u95, u96, u97, .int .i64 n, u99, u74, u100, u101, u102, u13, u14, u15], ?_, u75, u76, u77, u78, u79, u80, u81, u82, u83, u84, u85, u86, u87, u88, u89, u90, u91, u92, u93, u94, u95, u96, u97, .int .i64 n, u99, u74, u100, u101, u102, u13, u14, u15, q85, q96, q97, q13, q14, a13, b13, a14, b14, rfl, ?_⟩
          · simp only [frmL, Act.put, List.setIfInBounds_toArray, List.set_cons_zero, List.set_cons_succ]
          · exact ⟨HN.bl, fun o => HN.h0 (o.of_set (by decide)), fun o => HN.h1 (o.of_set (by decide)), fun o => HN.h2 (o.of_set (by decide)), fun o => HN.h3 (o.of_set (by decide)), fun o => HN.h4 (o.of_set (by decide)), fun o => HN.h5 (o.of_set (by decide)), fun o => HN.h6 (o.of_set (by decide)), fun o => HN.h7 (o.of_set (by decide)), fun o => HN.h8 (o.of_set (by decide)), fun o => HN.h9 (o.of_set (by decide)), fun o => HN.h11 (o.of_set (by decide)), fun o => HN.h12 (o.of_set (by decide)), fun o => HN.h13 (o.of_set (by decide)), fun o => HN.h14 (o.of_set (by decide)), fun o => HN.h15 (o.of_set (by decide)), fun o => HN.h16 (o.of_set (by decide)), fun o => HN.h17 (o.of_set (by decide)), fun o => HN.h18 (o.of_set (by decide)), fun o => HN.h19 (o.of_set (by decide)), fun o => HN.h20 (o.of_set (by decide)), fun _ => rfl, fun o => HN.h24 (o.of_set (by decide)), fun o => HN.h25 (o.of_set (by decide)), fun o => HN.h26 (o.of_set (by decide)), fun o => HN.h27 (o.of_set (by decide)), fun o => HN.h28 (o.of_set (by decide)), fun o => HN.h33 (o.of_set (by decide)), fun o => (HN.h10 (o.of_set (by decide))).imp On.old id, fun o => (HN.h21 (o.of_set (by decide))).imp On.old id, fun o => (HN.h22 (o.of_set (by decide))).imp On.old id, fun o => HN.h29 (o.of_set (by decide)), fun o => HN.h30 (o.of_set (by decide)), fun o o2 => HN.hne (o.of_set (by decide)) (o2.of_set (by decide)), fun o => (HN.hs31 (o.of_set (by decide))).imp On.old id, fun o => (HN.hs32 (o.of_set (by decide))).imp On.old id, fun o => (HN.w22 (o.of_set (by decide))).old⟩
        refine StepsI.cons (i := 24) (ws := [22, 23]) rfl (by kernel_rfl) (fun L a W hI hno hon hw K hK => ?_) ?_
        · obtain ⟨_, rfl, u75, u76, u77, u78, u79, u80, u81, u82, u83, u84, u85, u86, u87, u88, u89, u90, u91, u92, u93, u94, u95, u96, u97, u98, u99, u74, u100, u101, u102, u13, u14, u15, q85, q96, q97, q13, q14, a13, b13, a14, b14, rfl, H⟩ := hI
          simp only [List.getElem_toArray, List.getElem_cons_zero, List.getElem_cons_succ]
          obtain rfl := H.h23 (hw 23 (by simp))
          obtain ⟨rfl, hr97⟩ := (H.h22 (hw 22 (by simp))).resolve_left hno
          simp only [frmL, Act.put, List.setIfInBounds_toArray, List.set_cons_zero, List.set_cons_succ]
          go_simp
          go_wp2_with (go_at_call 26; (with_reducible refine (HFL.out _ _ _ W hr97).mono ?_); rintro e w9 ⟨rfl, hb⟩)
          have HN := H.up hb
          refine hK.out _ _ ⟨[u75, u76, u77, u78, u79, u80, u81, u82, u83, u84, u85, u86, u87, u88, u89, u90, u91, u92, u93, u94, u95, u96, .slice (some ⟨q97, 0, none⟩) 2 2, .int .i64 n, .tuple #[.agg #[.int .i64 U, .int .i64 V], .agg #[.int .i64 X, .int .i64 D], .bool true], u74, u100, u101, u102, u13, u14, u15], ?_, u75, u76, u77, u78, u79, u80, u81, u82, u83, u84, u85, u86, u87, u88, u89, u90, u91, u92, u93, u94, u95, u96, .slice (some ⟨q97, 0, none⟩) 2 2, .int .i64 n, .tuple #[.agg #[.int .i64 U, .int .i64 V], .agg #[.int .i64 X, .int .i64 D], .bool true], u74, u100, u101, u102, u13, u14, u15, q85, q96, q97, q13, q14, a13, b13, a14, b14, rfl, ?_⟩
          · simp only [frmL, Act.put, List.setIfInBounds_toArray, List.set_cons_zero, List.set_cons_succ]
          · exact ⟨HN.bl, fun o => HN.h0 (o.of_set (by decide)), fun o => HN.h1 (o.of_set (by decide)), fun o => HN.h2 (o.of_set (by decide)), fun o => HN.h3 (o.of_set (by decide)), fun o => HN.h4 (o.of_set (by decide)), fun o => HN.h5 (o.of_set (by decide)), fun o => HN.h6 (o.of_set (by decide)), fun o => HN.h7 (o.of_set (by decide)), fun o => HN.h8 (o.of_set (by decide)), fun o => HN.h9 (o.of_set (by decide)), fun o => HN.h11 (o.of_set (by decide)), fun o => HN.h12 (o.of_set (by decide)), fun o => HN.h13 (o.of_set (by decide)), fun o => HN.h14 (o.of_set (by decide)), fun o => HN.h15 (o.of_set (by decide)), fun o => HN.h16 (o.of_set (by decide)), fun o => HN.h17 (o.of_set (by decide)), fun o => HN.h18 (o.of_set (by decide)), fun o => HN.h19 (o.of_set (by decide)), fun o => HN.h20 (o.of_set (by decide)), fun o => HN.h23 (o.of_set (by decide)), fun _ => rfl, fun o => HN.h25 (o.of_set (by decide)), fun o => HN.h26 (o.of_set (by decide)), fun o => HN.h27 (o.of_set (by decide)), fun o => HN.h28 (o.of_set (by decide)), fun o => HN.h33 (o.of_set (by decide)), fun o => (HN.h10 (o.of_set (by decide))).imp On.old id, fun o => (HN.h21 (o.of_set (by decide))).imp On.old id, fun o => (HN.h22 (o.of_set (by decide))).imp On.old id, fun o => HN.h29 (o.of_set (by decide)), fun o => HN.h30 (o.of_set (by decide)), fun o o2 => HN.hne (o.of_set (by decide)) (o2.of_set (by decide)), fun o => (HN.hs31 (o.of_set (by decide))).imp On.old id, fun o => (HN.hs32 (o.of_set (by decide))).imp On.old id, fun _ => (hw 22 (by simp)).old⟩
        refine StepsI.cons (i := 25) (ws := [24]) rfl (by kernel_rfl) (fun L a W hI hno hon hw K hK => ?_) ?_
        · obtain ⟨_, rfl, u75, u76, u77, u78, u79, u80, u81, u82, u83, u84, u85, u86, u87, u88, u89, u90, u91, u92, u93, u94, u95, u96, u97, u98, u99, u74, u100, u101, u102, u13, u14, u15, q85, q96, q97, q13, q14, a13, b13, a14, b14, rfl, H⟩ := hI
          simp only [List.getElem_toArray, List.getElem_cons_zero, List.getElem_cons_succ]
          obtain rfl := H.h24 (hw 24 (by simp))
          simp only [frmL, Act.put, List.setIfInBounds_toArray, List.set_cons_zero, List.set_cons_succ]
          go_simp
          have HN := H
          refine hK.out _ _ ⟨[u75, u76, u77, u78, u79, u80, u81, u82, u83, u84, u85, u86, u87, u88, u89, u90, u91, u92, u93, u94, u95, u96, u97, u98, .tuple #[.agg #[.int .i64 U, .int .i64 V], .agg #[.int .i64 X, .int .i64 D], .bool true], .tuple #[.agg #[.int .i64 U, .int .i64 V], .agg #[.int .i64 X, .int .i64 D], .bool true], u100, u101, u102, u13, u14, u15], ?_, u75, u76, u77, u78, u79, u80, u81, u82, u83, u84, u85, u86, u87, u88, u89, u90, u91, u92, u93, u94, u95, u96, u97, u98, .tuple #[.agg #[.int .i64 U, .int .i64 V], .agg #[.int .i64 X, .int .i64 D], .bool true], .tuple #[.agg #[.int .i64 U, .int .i64 V], .agg #[.int .i64 X, .int .i64 D], .bool true], u100, u101, u102, u13, u14, u15, q85, q96, q97, q13, q14, a13, b13, a14, b14, rfl, ?_⟩
          · simp only [frmL, Act.put, List.setIfInBounds_toArray, List.set_cons_zero, List.set_cons_succ]
          · exact ⟨HN.bl, fun o => HN.h0 (o.of_set (by decide)), fun o => HN.h1 (o.of_set (by decide)), fun o => HN.h2 (o.of_set (by decide)), fun o => HN.h3 (o.of_set (by decide)), fun o => HN.h4 (o.of_set (by decide)), fun o => HN.h5 (o.of_set (by decide)), fun o => HN.h6 (o.of_set (by decide)), fun o => HN.h7 (o.of_set (by decide)), fun o => HN.h8 (o.of_set (by decide)), fun o => HN.h9 (o.of_set (by decide)), fun o => HN.h11 (o.of_set (by decide)), fun o => HN.h12 (o.of_set (by decide)), fun o => HN.h13 (o.of_set (by decide)), fun o => HN.h14 (o.of_set (by decide)), fun o => HN.h15 (o.of_set (by decide)), fun o => HN.h16 (o.of_set (by decide)), fun o => HN.h17 (o.of_set (by decide)), fun o => HN.h18 (o.of_set (by decide)), fun o => HN.h19 (o.of_set (by decide)), fun o => HN.h20 (o.of_set (by decide)), fun o => HN.h23 (o.of_set (by decide)), fun o => HN.h24 (o.of_set (by decide)), fun _ => rfl, fun o => HN.h26 (o.of_set (by decide)), fun o => HN.h27 (o.of_set (by decide)), fun o => HN.h28 (o.of_set (by decide)), fun o => HN.h33 (o.of_set (by decide)), fun o => (HN.h10 (o.of_set (by decide))).imp On.old id, fun o => (HN.h21 (o.of_set (by decide))).imp On.old id, fun o => (HN.h22 (o.of_set (by decide))).imp On.old id, fun o => HN.h29 (o.of_set (by decide)), fun o => HN.h30 (o.of_set (by decide)), fun o o2 => HN.hne (o.of_set (by decide)) (o2.of_set (by decide)), fun o => (HN.hs31 (o.of_set (by decide))).imp On.old id, fun o => (HN.hs32 (o.of_set (by decide))).imp On.old id, fun o => (HN.w22 (o.of_set (by decide))).old⟩
        refine StepsI.cons (i := 26) (ws := [25]) rfl (by kernel_rfl) (fun L a W hI hno hon hw K hK => ?_) ?_
        · obtain ⟨_, rfl, u75, u76, u77, u78, u79, u80, u81, u82, u83, u84, u85, u86, u87, u88, u89, u90, u91, u92, u93, u94, u95, u96, u97, u98, u99, u74, u100, u101, u102, u13, u14, u15, q85, q96, q97, q13, q14, a13, b13, a14, b14, rfl, H⟩ := hI
          simp only [List.getElem_toArray, List.getElem_cons_zero, List.getElem_cons_succ]
          obtain rfl := H.h25 (hw 25 (by simp))
          simp only [frmL, Act.put, List.setIfInBounds_toArray, List.set_cons_zero, List.set_cons_succ]
          go_simp
          have HN := H
          refine hK.out _ _ ⟨[u75, u76, u77, u78, u79, u80, u81, u82, u83, u84, u85, u86, u87, u88, u89, u90, u91, u92, u93, u94, u95, u96, u97, u98, u99, .tuple #[.agg #[.int .i64 U, .int .i64 V], .agg #[.int .i64 X, .int .i64 D], .bool true], .agg #[.int .i64 U, .int .i64 V], u101, u102, u13, u14, u15], ?_, u75, u76, u77, u78, u79, u80, u81, u82, u83, u84, u85, u86, u87, u88, u89, u90, u91, u92, u93, u94, u95, u96, u97, u98, u99, .tuple #[.agg #[.int .i64 U, .int .i64 V], .agg #[.int .i64 X, .int .i64 D], .bool true], .agg #[.int .i64 U, .int .i64 V], u101, u102, u13, u14, u15, q85, q96, q97, q13, q14, a13, b13, a14, b14, rfl, ?_⟩
          · simp only [frmL, Act.put, List.setIfInBounds_toArray, List.set_cons_zero, List.set_cons_succ]
          · exact ⟨HN.bl, fun o => HN.h0 (o.of_set (by decide)), fun o => HN.h1 (o.of_set (by decide)), fun o => HN.h2 (o.of_set (by decide)), fun o => HN.h3 (o.of_set (by decide)), fun o => HN.h4 (o.of_set (by decide)), fun o => HN.h5 (o.of_set (by decide)), fun o => HN.h6 (o.of_set (by decide)), fun o => HN.h7 (o.of_set (by decide)), fun o => HN.h8 (o.of_set (by decide)), fun o => HN.h9 (o.of_set (by decide)), fun o => HN.h11 (o.of_set (by decide)), fun o => HN.h12 (o.of_set (by decide)), fun o => HN.h13 (o.of_set (by decide)), fun o => HN.h14 (o.of_set (by decide)), fun o => HN.h15 (o.of_set (by decide)), fun o => HN.h16 (o.of_set (by decide)), fun o => HN.h17 (o.of_set (by decide)), fun o => HN.h18 (o.of_set (by decide)), fun o => HN.h19 (o.of_set (by decide)), fun o => HN.h20 (o.of_set (by decide)), fun o => HN.h23 (o.of_set (by decide)), fun o => HN.h24 (o.of_set (by decide)), fun o => HN.h25 (o.of_set (by decide)), fun _ => rfl, fun o => HN.h27 (o.of_set (by decide)), fun o => HN.h28 (o.of_set (by decide)), fun o => HN.h33 (o.of_set (by decide)), fun o => (HN.h10 (o.of_set (by decide))).imp On.old id, fun o => (HN.h21 (o.of_set (by decide))).imp On.old id, fun o => (HN.h22 (o.of_set (by decide))).imp On.old id, fun o => HN.h29 (o.of_set (by decide)), fun o => HN.h30 (o.of_set (by decide)), fun o o2 => HN.hne (o.of_set (by decide)) (o2.of_set (by decide)), fun o => (HN.hs31 (o.of_set (by decide))).imp On.old id, fun o => (HN.hs32 (o.of_set (by decide))).imp On.old id, fun o => (HN.w22 (o.of_set (by decide))).old⟩
        refine StepsI.cons (i := 27) (ws := [25]) rfl (by kernel_rfl) (fun L a W hI hno hon hw K hK => ?_) ?_
        · obtain ⟨_, rfl, u75, u76, u77, u78, u79, u80, u81, u82, u83, u84, u85, u86, u87, u88, u89, u90, u91, u92, u93, u94, u95, u96, u97, u98, u99, u74, u100, u101, u102, u13, u14, u15, q85, q96, q97, q13, q14, a13, b13, a14, b14, rfl, H⟩ := hI
          simp only [List.getElem_toArray, List.getElem_cons_zero, List.getElem_cons_succ]
          obtain rfl := H.h25 (hw 25 (by simp))
          simp only [frmL, Act.put, List.setIfInBounds_toArray, List.set_cons_zero, List.set_cons_succ]
          go_simp
          have HN := H
          refine hK.out _ _ ⟨[u75, u76, u77, u78, u79, u80, u81, u82, u83, u84, u85, u86, u87, u88, u89, u90, u91, u92, u93, u94, u95, u96, u97, u98, u99, .tuple #[.agg #[.int .i64 U, .int .i64 V], .agg #[.int .i64 X, .int .i64 D], .bool true], u100, .agg #[.int .i64 X, .int .i64 D], u102, u13, u14, u15], ?_, u75, u76, u77, u78, u79, u80, u81, u82, u83, u84, u85, u86, u87, u88, u89, u90, u91, u92, u93, u94, u95, u96, u97, u98, u99, .tuple #[.agg #[.int .i64 U, .int .i64 V], .agg #[.int .i64 X, .int .i64 D], .bool true], u100, .agg #[.int .i64 X, .int .i64 D], u102, u13, u14, u15, q85, q96, q97, q13, q14, a13, b13, a14, b14, rfl, ?_⟩
          · simp only [frmL, Act.put, List.setIfInBounds_toArray, List.set_cons_zero, List.set_cons_succ]
          · exact ⟨HN.bl, fun o => HN.h0 (o.of_set (by decide)), fun o => HN.h1 (o.of_set (by decide)), fun o => HN.h2 (o.of_set (by decide)), fun o => HN.h3 (o.of_set (by decide)), fun o => HN.h4 (o.of_set (by decide)), fun o => HN.h5 (o.of_set (by decide)), fun o => HN.h6 (o.of_set (by decide)), fun o => HN.h7 (o.of_set (by decide)), fun o => HN.h8 (o.of_set (by decide)), fun o => HN.h9 (o.of_set (by decide)), fun o => HN.h11 (o.of_set (by decide)), fun o => HN.h12 (o.of_set (by decide)), fun o => HN.h13 (o.of_set (by decide)), fun o => HN.h14 (o.of_set (by decide)), fun o => HN.h15 (o.of_set (by decide)), fun o => HN.h16 (o.of_set (by decide)), fun o => HN.h17 (o.of_set (by decide)), fun o => HN.h18 (o.of_set (by decide)), fun o => HN.h19 (o.of_set (by decide)), fun o => HN.h20 (o.of_set (by decide)), fun o => HN.h23 (o.of_set (by decide)), fun o => HN.h24 (o.of_set (by decide)), fun o => HN.h25 (o.of_set (by decide)), fun o => HN.h26 (o.of_set (by decide)), fun _ => rfl, fun o => HN.h28 (o.of_set (by decide)), fun o => HN.h33 (o.of_set (by decide)), fun o => (HN.h10 (o.of_set (by decide))).imp On.old id, fun o => (HN.h21 (o.of_set (by decide))).imp On.old id, fun o => (HN.h22 (o.of_set (by decide))).imp On.old id, fun o => HN.h29 (o.of_set (by decide)), fun o => HN.h30 (o.of_set (by decide)), fun o o2 => HN.hne (o.of_set (by decide)) (o2.of_set (by decide)), fun o => (HN.hs31 (o.of_set (by decide))).imp On.old id, fun o => (HN.hs32 (o.of_set (by decide))).imp On.old id, fun o => (HN.w22 (o.of_set (by decide))).old⟩
        refine StepsI.cons (i := 28) (ws := [25]) rfl (by kernel_rfl) (fun L a W hI hno hon hw K hK => ?_) ?_
        · obtain ⟨_, rfl, u75, u76, u77, u78, u79, u80, u81, u82, u83, u84, u85, u86, u87, u88, u89, u90, u91, u92, u93, u94, u95, u96, u97, u98, u99, u74, u100, u101, u102, u13, u14, u15, q85, q96, q97, q13, q14, a13, b13, a14, b14, rfl, H⟩ := hI
          simp only [List.getElem_toArray, List.getElem_cons_zero, List.getElem_cons_succ]
          obtain rfl := H.h25 (hw 25 (by simp))
          simp only [frmL, Act.put, List.setIfInBounds_toArray, List.set_cons_zero, List.set_cons_succ]
          go_simp
          have HN := H
          refine hK.out _ _ ⟨[u75, u76, u77, u78, u79, u80, u81, u82, u83, u84, u85, u86, u87, u88, u89, u90, u91, u92, u93, u94, u95, u96, u97, u98, u99, .tuple #[.agg #[.int .i64 U, .int .i64 V], .agg #[.int .i64 X, .int .i64 D], .bool true], u100, u101, .bool true, u13, u14, u15], ?_, u75, u76, u77, u78, u79, u80, u81, u82, u83, u84, u85, u86, u87, u88, u89, u90, u91, u92, u93, u94, u95, u96, u97, u98, u99, .tuple #[.agg #[.int .i64 U, .int .i64 V], .agg #[.int .i64 X, .int .i64 D], .bool true], u100, u101, .bool true, u13, u14, u15, q85, q96, q97, q13, q14, a13, b13, a14, b14, rfl, ?_⟩
          · simp only [frmL, Act.put, List.setIfInBounds_toArray, List.set_cons_zero, List.set_cons_succ]
          · exact ⟨HN.bl, fun o => HN.h0 (o.of_set (by decide)), fun o => HN.h1 (o.of_set (by decide)), fun o => HN.h2 (o.of_set (by decide)), fun o => HN.h3 (o.of_set (by decide)), fun o => HN.h4 (o.of_set (by decide)), fun o => HN.h5 (o.of_set (by decide)), fun o => HN.h6 (o.of_set (by decide)), fun o => HN.h7 (o.of_set (by decide)), fun o => HN.h8 (o.of_set (by decide)), fun o => HN.h9 (o.of_set (by decide)), fun o => HN.h11 (o.of_set (by decide)), fun o => HN.h12 (o.of_set (by decide)), fun o => HN.h13 (o.of_set (by decide)), fun o => HN.h14 (o.of_set (by decide)), fun o => HN.h15 (o.of_set (by decide)), fun o => HN.h16 (o.of_set (by decide)), fun o => HN.h17 (o.of_set (by decide)), fun o => HN.h18 (o.of_set (by decide)), fun o => HN.h19 (o.of_set (by decide)), fun o => HN.h20 (o.of_set (by decide)), fun o => HN.h23 (o.of_set (by decide)), fun o => HN.h24 (o.of_set (by decide)), fun o => HN.h25 (o.of_set (by decide)), fun o => HN.h26 (o.of_set (by decide)), fun o => HN.h27 (o.of_set (by decide)), fun _ => rfl, fun o => HN.h33 (o.of_set (by decide)), fun o => (HN.h10 (o.of_set (by decide))).imp On.old id, fun o => (HN.h21 (o.of_set (by decide))).imp On.old id, fun o => (HN.h22 (o.of_set (by decide))).imp On.old id, fun o => HN.h29 (o.of_set (by decide)), fun o => HN.h30 (o.of_set (by decide)), fun o o2 => HN.hne (o.of_set (by decide)) (o2.of_set (by decide)), fun o => (HN.hs31 (o.of_set (by decide))).imp On.old id, fun o => (HN.hs32 (o.of_set (by decide))).imp On.old id, fun o => (HN.w22 (o.of_set (by decide))).old⟩
        refine StepsI.cons (i := 29) (ws := []) rfl (by kernel_rfl) (fun L a W hI hno hon hw K hK => ?_) ?_
        · obtain ⟨_, rfl, u75, u76, u77, u78, u79, u80, u81, u82, u83, u84, u85, u86, u87, u88, u89, u90, u91, u92, u93, u94, u95, u96, u97, u98, u99, u74, u100, u101, u102, u13, u14, u15, q85, q96, q97, q13, q14, a13, b13, a14, b14, rfl, H⟩ := hI
          simp only [List.getElem_toArray, List.getElem_cons_zero, List.getElem_cons_succ]
          simp only [frmL, Act.put, List.setIfInBounds_toArray, List.set_cons_zero, List.set_cons_succ]
          go_simp
          have HN := H.up (below_alloc W (.cells #[.int .i64 0, .int .i64 0] 27))
          refine hK.out _ _ ⟨[u75, u76, u77, u78, u79, u80, u81, u82, u83, u84, u85, u86, u87, u88, u89, u90, u91, u92, u93, u94, u95, u96, u97, u98, u99, u74, u100, u101, u102, .pointer (some ⟨W.heap.size, 0, none⟩), u14, u15], ?_, u75, u76, u77, u78, u79, u80, u81, u82, u83, u84, u85, u86, u87, u88, u89, u90, u91, u92, u93, u94, u95, u96, u97, u98, u99, u74, u100, u101, u102, .pointer (some ⟨W.heap.size, 0, none⟩), u14, u15, q85, q96, q97, W.heap.size, q14, 0, 0, a14, b14, rfl, ?_⟩
          · simp only [frmL, Act.put, List.setIfInBounds_toArray, List.set_cons_zero, List.set_cons_succ]
          · exact ⟨HN.bl, fun o => HN.h0 (o.of_set (by decide)), fun o => HN.h1 (o.of_set (by decide)), fun o => HN.h2 (o.of_set (by decide)), fun o => HN.h3 (o.of_set (by decide)), fun o => HN.h4 (o.of_set (by decide)), fun o => HN.h5 (o.of_set (by decide)), fun o => HN.h6 (o.of_set (by decide)), fun o => HN.h7 (o.of_set (by decide)), fun o => HN.h8 (o.of_set (by decide)), fun o => HN.h9 (o.of_set (by decide)), fun o => HN.h11 (o.of_set (by decide)), fun o => HN.h12 (o.of_set (by decide)), fun o => HN.h13 (o.of_set (by decide)), fun o => HN.h14 (o.of_set (by decide)), fun o => HN.h15 (o.of_set (by decide)), fun o => HN.h16 (o.of_set (by decide)), fun o => HN.h17 (o.of_set (by decide)), fun o => HN.h18 (o.of_set (by decide)), fun o => HN.h19 (o.of_set (by decide)), fun o => HN.h20 (o.of_set (by decide)), fun o => HN.h23 (o.of_set (by decide)), fun o => HN.h24 (o.of_set (by decide)), fun o => HN.h25 (o.of_set (by decide)), fun o => HN.h26 (o.of_set (by decide)), fun o => HN.h27 (o.of_set (by decide)), fun o => HN.h28 (o.of_set (by decide)), fun o => HN.h33 (o.of_set (by decide)), fun o => (HN.h10 (o.of_set (by decide))).imp On.old id, fun o => (HN.h21 (o.of_set (by decide))).imp On.old id, fun o => (HN.h22 (o.of_set (by decide))).imp On.old id, fun _ => ⟨rfl, H.bl.size, blk_new W 27 #[.int .i64 0, .int .i64 0]⟩, fun o => HN.h30 (o.of_set (by decide)), fun _ o => by obtain ⟨_, _, r⟩ := H.h30 (o.of_set (by decide)); exact Nat.ne_of_gt (blk_lt r), fun o => absurd (H.hs31 (o.of_set (by decide))).1 hno, fun o => (HN.hs32 (o.of_set (by decide))).imp On.old id, fun o => (HN.w22 (o.of_set (by decide))).old⟩
        refine StepsI.cons (i := 30) (ws := []) rfl (by kernel_rfl) (fun L a W hI hno hon hw K hK => ?_) ?_
        · obtain ⟨_, rfl, u75, u76, u77, u78, u79, u80, u81, u82, u83, u84, u85, u86, u87, u88, u89, u90, u91, u92, u93, u94, u95, u96, u97, u98, u99, u74, u100, u101, u102, u13, u14, u15, q85, q96, q97, q13, q14, a13, b13, a14, b14, rfl, H⟩ := hI
          simp only [List.getElem_toArray, List.getElem_cons_zero, List.getElem_cons_succ]
          simp only [frmL, Act.put, List.setIfInBounds_toArray, List.set_cons_zero, List.set_cons_succ]
          go_simp
          have HN := H.up (below_alloc W (.cells #[.int .i64 0, .int .i64 0] 27))
          refine hK.out _ _ ⟨[u75, u76, u77, u78, u79, u80, u81, u82, u83, u84, u85, u86, u87, u88, u89, u90, u91, u92, u93, u94, u95, u96, u97, u98, u99, u74, u100, u101, u102, u13, .pointer (some ⟨W.heap.size, 0, none⟩), u15], ?_, u75, u76, u77, u78, u79, u80, u81, u82, u83, u84, u85, u86, u87, u88, u89, u90, u91, u92, u93, u94, u95, u96, u97, u98, u99, u74, u100, u101, u102, u13, .pointer (some ⟨W.heap.size, 0, none⟩), u15, q85, q96, q97, q13, W.heap.size, a13, b13, 0, 0, rfl, ?_⟩
          · simp only [frmL, Act.put, List.setIfInBounds_toArray, List.set_cons_zero, List.set_cons_succ]
          · exact ⟨HN.bl, fun o => HN.h0 (o.of_set (by decide)), fun o => HN.h1 (o.of_set (by decide)), fun o => HN.h2 (o.of_set (by decide)), fun o => HN.h3 (o.of_set (by decide)), fun o => HN.h4 (o.of_set (by decide)), fun o => HN.h5 (o.of_set (by decide)), fun o => HN.h6 (o.of_set (by decide)), fun o => HN.h7 (o.of_set (by decide)), fun o => HN.h8 (o.of_set (by decide)), fun o => HN.h9 (o.of_set (by decide)), fun o => HN.h11 (o.of_set (by decide)), fun o => HN.h12 (o.of_set (by decide)), fun o => HN.h13 (o.of_set (by decide)), fun o => HN.h14 (o.of_set (by decide)), fun o => HN.h15 (o.of_set (by decide)), fun o => HN.h16 (o.of_set (by decide)), fun o => HN.h17 (o.of_set (by decide)), fun o => HN.h18 (o.of_set (by decide)), fun o => HN.h19 (o.of_set (by decide)), fun o => HN.h20 (o.of_set (by decide)), fun o => HN.h23 (o.of_set (by decide)), fun o => HN.h24 (o.of_set (by decide)), fun o => HN.h25 (o.of_set (by decide)), fun o => HN.h26 (o.of_set (by decide)), fun o => HN.h27 (o.of_set (by decide)), fun o => HN.h28 (o.of_set (by decide)), fun o => HN.h33 (o.of_set (by decide)), fun o => (HN.h10 (o.of_set (by decide))).imp On.old id, fun o => (HN.h21 (o.of_set (by decide))).imp On.old id, fun o => (HN.h22 (o.of_set (by decide))).imp On.old id, fun o => HN.h29 (o.of_set (by decide)), fun _ => ⟨rfl, H.bl.size, blk_new W 27 #[.int .i64 0, .int .i64 0]⟩, fun o _ => by obtain ⟨_, _, r⟩ := H.h29 (o.of_set (by decide)); exact Nat.ne_of_lt (blk_lt r), fun o => (HN.hs31 (o.of_set (by decide))).imp On.old id, fun o => absurd (H.hs32 (o.of_set (by decide))).1 hno, fun o => (HN.w22 (o.of_set (by decide))).old⟩
        refine StepsI.cons (i := 31) (ws := [29, 26, 24, 0, 1, 2, 3, 4, 5, 6, 7, 8, 9, 10, 11, 12, 13, 14, 15, 16, 17, 18, 19, 20, 21, 22, 23, 24, 25, 26, 29, 30]) rfl (by kernel_rfl) (fun L a W hI hno hon hw K hK => ?_) ?_
        · obtain ⟨_, rfl, u75, u76, u77, u78, u79, u80, u81, u82, u83, u84, u85, u86, u87, u88, u89, u90, u91, u92, u93, u94, u95, u96, u97, u98, u99, u74, u100, u101, u102, u13, u14, u15, q85, q96, q97, q13, q14, a13, b13, a14, b14, rfl, H⟩ := hI
          simp only [List.getElem_toArray, List.getElem_cons_zero, List.getElem_cons_succ]
          have e8 := H.h26 (hw 26 (by simp))
          have hbox := H.h29 (hw 29 (by simp))
          have e9 := hbox.1
          have hqx := hbox.2.1
          have hbx := hbox.2.2
          clear hbox
          simp only [frmL, Act.put, List.setIfInBounds_toArray, List.set_cons_zero, List.set_cons_succ]
          have HSZ : Hid ((Try.prog.info? 27).map (·.size) = some (#[.int .i64 U, .int .i64 V] : Array Value).size) := Lib.hid (by show _ = some 2; kernel_rfl)
          have HS1 : Hid ((#[.int .i64 U, .int .i64 V] : Array Value).all (·.oneCell') = true) := Lib.hid (by simp [Value.oneCell'])
          rw [if_pos (by rfl)]
          refine wp_store_row 27 _ _ rfl q13 #[.int .i64 U, .int .i64 V] e9 e8 27 _ hbx HSZ.out rfl HS1.out ?_
          have HN := H
          refine hK.out _ _ ⟨[u75, u76, u77, u78, u79, u80, u81, u82, u83, u84, u85, u86, u87, u88, u89, u90, u91, u92, u93, u94, u95, u96, u97, u98, u99, u74, u100, u101, u102, u13, u14, u15], ?_, u75, u76, u77, u78, u79, u80, u81, u82, u83, u84, u85, u86, u87, u88, u89, u90, u91, u92, u93, u94, u95, u96, u97, u98, u99, u74, u100, u101, u102, u13, u14, u15, q85, q96, q97, q13, q14, U, V, a14, b14, rfl, ?_⟩
          · simp only [frmL, Act.put, List.setIfInBounds_toArray, List.set_cons_zero, List.set_cons_succ]
          · exact ⟨below_row H.bl hqx _, fun o => HN.h0 (o.of_set (by decide)), fun o => HN.h1 (o.of_set (by decide)), fun o => HN.h2 (o.of_set (by decide)), fun o => HN.h3 (o.of_set (by decide)), fun o => HN.h4 (o.of_set (by decide)), fun o => HN.h5 (o.of_set (by decide)), fun o => HN.h6 (o.of_set (by decide)), fun o => HN.h7 (o.of_set (by decide)), fun o => HN.h8 (o.of_set (by decide)), fun o => HN.h9 (o.of_set (by decide)), fun o => HN.h11 (o.of_set (by decide)), fun o => HN.h12 (o.of_set (by decide)), fun o => HN.h13 (o.of_set (by decide)), fun o => HN.h14 (o.of_set (by decide)), fun o => HN.h15 (o.of_set (by decide)), fun o => HN.h16 (o.of_set (by decide)), fun o => HN.h17 (o.of_set (by decide)), fun o => HN.h18 (o.of_set (by decide)), fun o => HN.h19 (o.of_set (by decide)), fun o => HN.h20 (o.of_set (by decide)), fun o => HN.h23 (o.of_set (by decide)), fun o => HN.h24 (o.of_set (by decide)), fun o => HN.h25 (o.of_set (by decide)), fun o => HN.h26 (o.of_set (by decide)), fun o => HN.h27 (o.of_set (by decide)), fun o => HN.h28 (o.of_set (by decide)), fun o => HN.h33 (o.of_set (by decide)), fun _ => .inl (hw 24 (by simp)).old, fun _ => .inl (hw 24 (by simp)).old, fun _ => .inl (hw 24 (by simp)).old, fun _ => ⟨e9, hqx, blk_row hbx _⟩, fun o => let ⟨a, b, d⟩ := H.h30 (o.of_set (by decide)); ⟨a, b, blk_row_other d _ ((H.hne (hw 29 (by simp)) (o.of_set (by decide))).symm)⟩, fun o o2 => HN.hne (o.of_set (by decide)) (o2.of_set (by decide)), fun _ => ⟨(hw 29 (by simp)).old, rfl, rfl⟩, fun o => (HN.hs32 (o.of_set (by decide))).imp On.old id, fun o => (HN.w22 (o.of_set (by decide))).old⟩
        refine StepsI.cons (i := 32) (ws := [30, 27, 31, 0, 1, 2, 3, 4, 5, 6, 7, 8, 9, 10, 11, 12, 13, 14, 15, 16, 17, 18, 19, 20, 21, 22, 23, 24, 25, 26, 27, 29, 30, 31]) rfl (by kernel_rfl) (fun L a W hI hno hon hw K hK => ?_) ?_
        · obtain ⟨_, rfl, u75, u76, u77, u78, u79, u80, u81, u82, u83, u84, u85, u86, u87, u88, u89, u90, u91, u92, u93, u94, u95, u96, u97, u98, u99, u74, u100, u101, u102, u13, u14, u15, q85, q96, q97, q13, q14, a13, b13, a14, b14, rfl, H⟩ := hI
          simp only [List.getElem_toArray, List.getElem_cons_zero, List.getElem_cons_succ]
          have e8 := H.h27 (hw 27 (by simp))
          have hbox := H.h30 (hw 30 (by simp))
          have e9 := hbox.1
          have hqx := hbox.2.1
          have hbx := hbox.2.2
          clear hbox
          simp only [frmL, Act.put, List.setIfInBounds_toArray, List.set_cons_zero, List.set_cons_succ]
          have HSZ : Hid ((Try.prog.info? 27).map (·.size) = some (#[.int .i64 X, .int .i64 D] : Array Value).size) := Lib.hid (by show _ = some 2; kernel_rfl)
          have HS1 : Hid ((#[.int .i64 X, .int .i64 D] : Array Value).all (·.oneCell') = true) := Lib.hid (by simp [Value.oneCell'])
          rw [if_pos (by rfl)]
          refine wp_store_row 27 _ _ rfl q14 #[.int .i64 X, .int .i64 D] e9 e8 27 _ hbx HSZ.out rfl HS1.out ?_
          have HN := H
          refine hK.out _ _ ⟨[u75, u76, u77, u78, u79, u80, u81, u82, u83, u84, u85, u86, u87, u88, u89, u90, u91, u92, u93, u94, u95, u96, u97, u98, u99, u74, u100, u101, u102, u13, u14, u15], ?_, u75, u76, u77, u78, u79, u80, u81, u82, u83, u84, u85, u86, u87, u88, u89, u90, u91, u92, u93, u94, u95, u96, u97, u98, u99, u74, u100, u101, u102, u13, u14, u15, q85, q96, q97, q13, q14, a13, b13, X, D, rfl, ?_⟩
          · simp only [frmL, Act.put, List.setIfInBounds_toArray, List.set_cons_zero, List.set_cons_succ]
          · exact ⟨below_row H.bl hqx _, fun o => HN.h0 (o.of_set (by decide)), fun o => HN.h1 (o.of_set (by decide)), fun o => HN.h2 (o.of_set (by decide)), fun o => HN.h3 (o.of_set (by decide)), fun o => HN.h4 (o.of_set (by decide)), fun o => HN.h5 (o.of_set (by decide)), fun o => HN.h6 (o.of_set (by decide)), fun o => HN.h7 (o.of_set (by decide)), fun o => HN.h8 (o.of_set (by decide)), fun o => HN.h9 (o.of_set (by decide)), fun o => HN.h11 (o.of_set (by decide)), fun o => HN.h12 (o.of_set (by decide)), fun o => HN.h13 (o.of_set (by decide)), fun o => HN.h14 (o.of_set (by decide)), fun o => HN.h15 (o.of_set (by decide)), fun o => HN.h16 (o.of_set (by decide)), fun o => HN.h17 (o.of_set (by decide)), fun o => HN.h18 (o.of_set (by decide)), fun o => HN.h19 (o.of_set (by decide)), fun o => HN.h20 (o.of_set (by decide)), fun o => HN.h23 (o.of_set (by decide)), fun o => HN.h24 (o.of_set (by decide)), fun o => HN.h25 (o.of_set (by decide)), fun o => HN.h26 (o.of_set (by decide)), fun o => HN.h27 (o.of_set (by decide)), fun o => HN.h28 (o.of_set (by decide)), fun o => HN.h33 (o.of_set (by decide)), fun _ => .inl (hw 24 (by simp)).old, fun _ => .inl (hw 24 (by simp)).old, fun _ => .inl (hw 24 (by simp)).old, fun o => let ⟨a, b, d⟩ := H.h29 (o.of_set (by decide)); ⟨a, b, blk_row_other d _ (H.hne (o.of_set (by decide)) (hw 30 (by simp)))⟩, fun _ => ⟨e9, hqx, blk_row hbx _⟩, fun o o2 => HN.hne (o.of_set (by decide)) (o2.of_set (by decide)), fun o => (HN.hs31 (o.of_set (by decide))).imp On.old id, fun _ => ⟨(hw 30 (by simp)).old, rfl, rfl⟩, fun o => (HN.w22 (o.of_set (by decide))).old⟩
        refine StepsI.cons (i := 33) (ws := [28, 32, 0, 1, 2, 3, 4, 5, 6, 7, 8, 9, 10, 11, 12, 13, 14, 15, 16, 17, 18, 19, 20, 21, 22, 23, 24, 25, 26, 27, 28, 29, 30, 31, 32]) rfl (by kernel_rfl) (fun L a W hI hno hon hw K hK => ?_) ?_
        · obtain ⟨_, rfl, u75, u76, u77, u78, u79, u80, u81, u82, u83, u84, u85, u86, u87, u88, u89, u90, u91, u92, u93, u94, u95, u96, u97, u98, u99, u74, u100, u101, u102, u13, u14, u15, q85, q96, q97, q13, q14, a13, b13, a14, b14, rfl, H⟩ := hI
          simp only [List.getElem_toArray, List.getElem_cons_zero, List.getElem_cons_succ]
          obtain rfl := H.h28 (hw 28 (by simp))
          simp only [frmL, Act.put, List.setIfInBounds_toArray, List.set_cons_zero, List.set_cons_succ]
          go_simp
          have HN := H
          refine hK.out _ _ ⟨[u75, u76, u77, u78, u79, u80, u81, u82, u83, u84, u85, u86, u87, u88, u89, u90, u91, u92, u93, u94, u95, u96, u97, u98, u99, u74, u100, u101, .bool true, u13, u14, .bool true], ?_, u75, u76, u77, u78, u79, u80, u81, u82, u83, u84, u85, u86, u87, u88, u89, u90, u91, u92, u93, u94, u95, u96, u97, u98, u99, u74, u100, u101, .bool true, u13, u14, .bool true, q85, q96, q97, q13, q14, a13, b13, a14, b14, rfl, ?_⟩
          · simp only [frmL, Act.put, List.setIfInBounds_toArray, List.set_cons_zero, List.set_cons_succ]
          · exact ⟨HN.bl, fun o => HN.h0 (o.of_set (by decide)), fun o => HN.h1 (o.of_set (by decide)), fun o => HN.h2 (o.of_set (by decide)), fun o => HN.h3 (o.of_set (by decide)), fun o => HN.h4 (o.of_set (by decide)), fun o => HN.h5 (o.of_set (by decide)), fun o => HN.h6 (o.of_set (by decide)), fun o => HN.h7 (o.of_set (by decide)), fun o => HN.h8 (o.of_set (by decide)), fun o => HN.h9 (o.of_set (by decide)), fun o => HN.h11 (o.of_set (by decide)), fun o => HN.h12 (o.of_set (by decide)), fun o => HN.h13 (o.of_set (by decide)), fun o => HN.h14 (o.of_set (by decide)), fun o => HN.h15 (o.of_set (by decide)), fun o => HN.h16 (o.of_set (by decide)), fun o => HN.h17 (o.of_set (by decide)), fun o => HN.h18 (o.of_set (by decide)), fun o => HN.h19 (o.of_set (by decide)), fun o => HN.h20 (o.of_set (by decide)), fun o => HN.h23 (o.of_set (by decide)), fun o => HN.h24 (o.of_set (by decide)), fun o => HN.h25 (o.of_set (by decide)), fun o => HN.h26 (o.of_set (by decide)), fun o => HN.h27 (o.of_set (by decide)), fun o => HN.h28 (o.of_set (by decide)), fun _ => rfl, fun o => (HN.h10 (o.of_set (by decide))).imp On.old id, fun o => (HN.h21 (o.of_set (by decide))).imp On.old id, fun o => (HN.h22 (o.of_set (by decide))).imp On.old id, fun o => HN.h29 (o.of_set (by decide)), fun o => HN.h30 (o.of_set (by decide)), fun o o2 => HN.hne (o.of_set (by decide)) (o2.of_set (by decide)), fun o => (HN.hs31 (o.of_set (by decide))).imp On.old id, fun o => (HN.hs32 (o.of_set (by decide))).imp On.old id, fun o => (HN.w22 (o.of_set (by decide))).old⟩
        exact StepsI.nil
      · rintro L us W hL ⟨u75, u76, u77, u78, u79, u80, u81, u82, u83, u84, u85, u86, u87, u88, u89, u90, u91, u92, u93, u94, u95, u96, u97, u98, u99, u74, u100, u101, u102, u13, u14, u15, q85, q96, q97, q13, q14, a13, b13, a14, b14, rfl, H⟩
        obtain ⟨e13, hq13, k13⟩ := H.h29 (hL 29 (by simp))
        obtain ⟨e14, hq14, k14⟩ := H.h30 (hL 30 (by simp))
        obtain ⟨-, rfl, rfl⟩ := H.hs31 (hL 31 (by simp))
        obtain ⟨-, rfl, rfl⟩ := H.hs32 (hL 32 (by simp))
        obtain rfl := H.h33 (hL 33 (by simp))
        subst e13
        subst e14
        have hbl := H.bl
        have B6 := Lib.hid (below_up B4.out hbl)
        have P6 := Lib.hid (fun j v (h : (#[.int .i64 a14, .int .i64 b14] : Array Value)[j]? = some v) => Keep.below hbl _ _ (blk_cell P4.out (i := j) h))
        have Q6 := Lib.hid (fun j v (h : (#[.int .i64 a13, .int .i64 b13] : Array Value)[j]? = some v) => Keep.below hbl _ _ (blk_cell Q4.out (i := j) h))
        have O6 := Lib.hid (fun j v (h : (#[.int .i64 M, .int .i64 E] : Array Value)[j]? = some v) => Keep.below hbl _ _ (blk_cell O4.out (i := j) h))
        have K13 := Lib.hid k13
        have K14 := Lib.hid k14
        clear H hL k13 k14 hbl HS0 P4 Q4 O4 B4 HT4 hq13 hq14
        simp only [frmL, Act.put, List.setIfInBounds_toArray, List.set_cons_zero, List.set_cons_succ]
        have HSW := Lib.hid (fun W' (k : Below W.heap.size W W') => show (W'.cell? ⟨w2.heap.size, 0, none⟩ = some (.int .i64 a14) ∧ W'.cell? ⟨w2.heap.size, 1, none⟩ = some (.int .i64 b14)) ∧ (W'.cell? ⟨w2.heap.size + 1, 0, none⟩ = some (.int .i64 a13) ∧ W'.cell? ⟨w2.heap.size + 1, 1, none⟩ = some (.int .i64 b13)) ∧ (W'.cell? ⟨w4.heap.size, 0, none⟩ = some (.int .i64 M) ∧ W'.cell? ⟨w4.heap.size, 1, none⟩ = some (.int .i64 E)) ∧ (W'.cell? ⟨q13, 0, none⟩ = some (.int .i64 a13) ∧ W'.cell? ⟨q13, 1, none⟩ = some (.int .i64 b13)) ∧ (W'.cell? ⟨q14, 0, none⟩ = some (.int .i64 a14) ∧ W'.cell? ⟨q14, 1, none⟩ = some (.int .i64 b14)) from ⟨⟨Keep.below k _ _ (P6.out 0 _ rfl), Keep.below k _ _ (P6.out 1 _ rfl)⟩, ⟨Keep.below k _ _ (Q6.out 0 _ rfl), Keep.below k _ _ (Q6.out 1 _ rfl)⟩, ⟨Keep.below k _ _ (O6.out 0 _ rfl), Keep.below k _ _ (O6.out 1 _ rfl)⟩, ⟨blk_cell (blk_below K13.out k) (i := 0) rfl, blk_cell (blk_below K13.out k) (i := 1) rfl⟩, ⟨blk_cell (blk_below K14.out k) (i := 0) rfl, blk_cell (blk_below K14.out k) (i := 1) rfl⟩⟩)
        have DX := Lib.hid (Below.refl W.heap.size W)
        have SX := Lib.hid (HSW.out _ DX.out)
        clear P6 Q6 O6 K13 K14
        go_wp2
        go_region_held3 (fun W => (W.cell? ⟨w2.heap.size, 0, none⟩ = some (.int .i64 a14) ∧ W.cell? ⟨w2.heap.size, 1, none⟩ = some (.int .i64 b14)) ∧ (W.cell? ⟨w2.heap.size + 1, 0, none⟩ = some (.int .i64 a13) ∧ W.cell? ⟨w2.heap.size + 1, 1, none⟩ = some (.int .i64 b13)) ∧ (W.cell? ⟨w4.heap.size, 0, none⟩ = some (.int .i64 M) ∧ W.cell? ⟨w4.heap.size, 1, none⟩ = some (.int .i64 E)) ∧ (W.cell? ⟨q13, 0, none⟩ = some (.int .i64 a13) ∧ W.cell? ⟨q13, 1, none⟩ = some (.int .i64 b13)) ∧ (W.cell? ⟨q14, 0, none⟩ = some (.int .i64 a14) ∧ W.cell? ⟨q14, 1, none⟩ = some (.int .i64 b14)))
          (first | exact SX.out | exact HSW.out _ DX.out | exact HSW.out _ DX.out.drew | go_keep)
          (first
          | (go_at_call 16; (with_reducible refine (HTM.out _).mono ?_); rintro e v1 ⟨rfl, hb⟩; have DX := Lib.hid (show Below W.heap.size W v1 from by first | exact below_up DX.out hb | exact below_up DX.out.drew hb); have SX := Lib.hid (HSW.out _ DX.out); clear hb)
          | fail)
        all_goals
          have HBE := Lib.hid (below_up B6.out DX.out)
          clear SX DX
          go_wp2
          go_ret
          exact ⟨rfl, by first | exact HBE.out | exact HBE.out.drew⟩
    · have HNO := Lib.hid (fo_no hv)
      clear hv
      have HC := Lib.hid (FixedOnes_impl _ _ _ xss n w1 HR.out ⟨by omega, by omega⟩)
      rw [HNO.out.1, HNO.out.2.1, HNO.out.2.2] at HC
      go_wp2_with fail
      refine HC.out.mono ?_
      rintro e w2 ⟨rfl, hb⟩
      have hbb := below_up hb (below_up (below_alloc w2 (.cells #[.int .i64 0, .int .i64 0] 27)) (below_alloc (w2.alloc (.cells #[.int .i64 0, .int .i64 0] 27)) (.cells #[.int .i64 0, .int .i64 0] 27)))
      have HR2 := Lib.hid (HR.out.keep (Keep.below hbb))
      have B2 := Lib.hid (below_up B1.out hbb)
      have P2 := Lib.hid (blk_old (blk_new w2 27 #[.int .i64 0, .int .i64 0]) (.cells #[.int .i64 0, .int .i64 0] 27))
      have Q2 := Lib.hid (show Blk ((w2.alloc (.cells #[.int .i64 0, .int .i64 0] 27)).alloc (.cells #[.int .i64 0, .int .i64 0] 27)) (w2.heap.size + 1) 27 #[.int .i64 0, .int .i64 0] from by have h := blk_new (w2.alloc (.cells #[.int .i64 0, .int .i64 0] 27)) 27 #[.int .i64 0, .int .i64 0]; rw [World.size_alloc] at h; exact h)
      clear hb hbb HC HR B1
      have HC := Lib.hid (FixedOnes_spec _ _ _ xss n ((w2.alloc (.cells #[.int .i64 0, .int .i64 0] 27)).alloc (.cells #[.int .i64 0, .int .i64 0] 27)) HR2.out ⟨by omega, by omega⟩)
      rw [HNO.out.1, HNO.out.2.1, HNO.out.2.2] at HC
      go_wp2_with fail
      generalize (w2.alloc (.cells #[.int .i64 0, .int .i64 0] 27)).alloc (.cells #[.int .i64 0, .int .i64 0] 27) = w2a at *
      refine HC.out.mono ?_
      rintro e w3 ⟨rfl, hb⟩
      have hbb := below_up hb (below_up (below_alloc w3 (.cells #[.int .i64 0, .int .i64 0] 27)) (below_alloc (w3.alloc (.cells #[.int .i64 0, .int .i64 0] 27)) (.cells #[.int .i64 0, .int .i64 0] 27)))
      have B3 := Lib.hid (below_up B2.out hbb)
      have P3 := Lib.hid (blk_below P2.out hbb)
      have Q3 := Lib.hid (blk_below Q2.out hbb)
      have q7 := blk_cell P3.out (i := 0) rfl
      have q8 := blk_cell P3.out (i := 1) rfl
      have q9 := blk_cell Q3.out (i := 0) rfl
      have q10 := blk_cell Q3.out (i := 1) rfl
      clear hb hbb HR2 B2 P2 Q2 HC
      go_wp2
      go_ret
      exact ⟨rfl, B3.out⟩

set_option maxRecDepth 100000 in
theorem hFnFixedOnes_lifted (os : Os) (started : os.Started) (H : Type) (enc : TypeId × Value → H) :
    ReturnsInHanded {} Try.checked os 6 .any (Rows.fnFixedOnesSpec.pre6 enc Try.prog Try.f6 Rows.fnFixedOnesRow.domain false) (Rows.fnFixedOnesSpec.post enc Try.prog Try.f6 false true false false) := by
  refine returnsInHanded_of_change_sized (C := Try.checked) Try.own started (by kernel_rfl) Try.func6
    (ChangeSpec.witness6 (enc := enc) (C := Try.checked) false ⟨#[], #[.slice none 0 0], []⟩ 8 (by kernel_rfl) (by kernel_rfl) (by kernel_rfl) (by kernel_rfl)) ?_
  intro W base args ds gs before hval0 hW _ hwt _
  have hval : ∀ (j : Nat) t v, Try.f6.params[j]? = some t → args[j]? = some v → Value.okWide Try.prog W .any base t v := hval0
  have hA : ∃ p, DataW.TrodAll enc Try.prog W 0 (fun _ => true) true Try.f6.params.toList args.toList ds p := by obtain ⟨p, q, hA0, _⟩ := hW; exact ⟨p, hA0⟩
  obtain ⟨p, hA⟩ := hA
  have hwt' := weights_arg hwt (j := 0) (t := 22) (by rw [Try.params6]; rfl) (d := ds.getD 0 .nil)
  rw [Try.params6] at hA hval
  obtain ⟨v0, d0, rfl, rfl, h0⟩ := trodAll_one hA
  obtain ⟨A, n, c, rfl, hx⟩ := open_bytes (hval 0 22 v0 rfl rfl) h0 (hwt' rfl)
  refine (fnFixedOnes_calls A n c W hx).mono fun e W' ⟨he, hb⟩ => ?_
  subst he
  exact ⟨_, rfl, law_post (F := Try.f6) rfl rfl (by rw [Try.params6]; simp only [List.mem_cons, List.not_mem_nil, or_false, forall_eq]; exact ⟨by kernel_rfl, of_decide_eq_true (by kernel_rfl)⟩) hW (fun h => by subst h; rfl) hb⟩

theorem hFnFixedOnes_holds : Rows.FnFixedOnesSaid :=
  OpenClaim.holds_of_wide 6 Try.f6 rfl rfl rfl rfl rfl rfl rfl ⟨rfl, rfl, rfl, rfl, rfl⟩ rfl rfl rfl rfl rfl (by kernel_rfl) Try.func6
    (by unfold joinedFacts; simp only [Bool.and_eq_true]; (repeat' apply And.intro) <;> (first | (with_reducible exact prog_enters) | ((with_reducible refine prog_lifts ?_); rfl) | ((with_reducible refine prog_make ?_); rfl) | kernel_rfl))
    (of_decide_eq_true (by kernel_rfl)) (by unfold Func.isWrapper; first | (rw [if_pos (by decide +kernel)]; kernel_rfl) | (rw [if_neg (by decide +kernel)]; exact ⟨rfl, rfl⟩))
    (fun os started H enc _ => hFnFixedOnes_lifted os started H enc)

end Go.Proofs.Ytjkmgpiiamffgaa
