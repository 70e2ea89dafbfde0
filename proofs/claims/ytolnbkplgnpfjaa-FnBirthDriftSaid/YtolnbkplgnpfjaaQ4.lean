/- Texts merged: N13 R12 B2 S5 S6 S7 S8 S9 T3 V5. -/
import Derived.Test.YtolnbkplgnpfjaaQ3
import Derived.Deep.RegionLaw
/- Graphs drawn. -/
namespace Go.Proofs.Ytolnbkplgnpfjaa
open Go.RowKit

theorem ownsRow_made1 (w : World) (n : Nat) (hn : n ≤ 100) : (w.alloc (.cells (madeCells #[.int .i64 0] n) 3)).ownsRow w.heap.size 3 1 (.slice (some ⟨w.heap.size, 0, none⟩) n n) n ((List.replicate n 0).map iv) := by
  refine ⟨by simp, .inr ⟨w.heap.size, n, _, rfl, Nat.le_refl _, heap_alloc_new w _, Nat.le_refl _, by unfold maxLen; omega, by simp [madeCells], ?_⟩⟩
  rw [List.take_of_length_le (by simp [madeCells])]
  refine List.ext_getElem (by simp [madeCells]) fun i h1 h2 => ?_
  simp [madeCells, iv, Nat.mod_one]
theorem SH.made {w0 wb g A l c p} (h : Rdr w0 wb g A l c p) (n : Nat) (hn : n ≤ 100) : SH w0 wb g A l c p (.slice (some ⟨wb.heap.size, 0, none⟩) n n) (List.replicate n 0) (wb.alloc (.cells (madeCells #[.int .i64 0] n) 3)) :=
  ⟨h.below_ (below_alloc _ _), Bld.nil _ _ _, ⟨by rw [List.length_replicate]; exact ownsRow_made1 wb n hn, fun k hk => by simp [Value.ownBlock] at hk; simp; omega⟩, blk_lt h.box, Nat.le_refl _, by simp, grown_of_below (below_alloc _ _)⟩
theorem gi_repl0 {n k : Nat} (h : k < n) : gi (List.replicate n 0) k = 0 := by rw [gi_get (by simpa using h)]; simp
theorem pow_bd5 : ∀ n : Nat, n < 6 → 1 ≤ (2 : Int) ^ n ∧ (2 : Int) ^ n ≤ 32 := by decide +kernel
def B32 (ys : List Int) : Prop := ∀ j, j < ys.length → 0 ≤ gi ys j ∧ gi ys j ≤ 32
def B31 (ys : List Int) : Prop := ∀ j, j < ys.length → 0 ≤ gi ys j ∧ gi ys j < 32
theorem or_bd : ∀ a, a < 32 → ∀ b, b < 6 → b < 5 → 0 ≤ bits BinOp.or IntKind.i64 ((a : Nat) : Int) (pwF b) ∧ bits BinOp.or IntKind.i64 ((a : Nat) : Int) (pwF b) < 32 := by decide +kernel
theorem or_bdI {x : Int} (h0 : 0 ≤ x) (h1 : x < 32) {b : Nat} (hb : b < 5) : 0 ≤ bits BinOp.or IntKind.i64 x (pwF b) ∧ bits BinOp.or IntKind.i64 x (pwF b) < 32 := by
  have := or_bd x.toNat (by omega) b (by omega) hb
  rwa [Int.toNat_of_nonneg h0] at this
theorem B31.set {ys : List Int} (h : B31 ys) {j : Nat} {x : Int} (hx : 0 ≤ x ∧ x < 32) : B31 (ys.set j x) := fun i hi => by
  rw [List.length_set] at hi
  by_cases e : i = j
  · subst e; rw [gi_set_eq hi]; exact hx
  · rw [gi_set_ne hi e]; exact h i hi
theorem B31.zero (n : Nat) : B31 (List.replicate n 0) := fun j hj => by rw [List.length_replicate] at hj; rw [gi_repl0 hj]; omega
/-- A list that was drawn, and the reader behind it. -/
structure DG (w0 w : World) (g : Nat) (A : Option Addr) (l c p : Nat) (v : Value) (ys : List Int) (W : World) : Prop where
  rd : Rdr w0 W g A l c p
  ow : ∃ Av cv b, v = .slice Av ys.length cv ∧ OwnI w.heap.size W.heap.size W b Av ys.length cv ys
  gl : g < w.heap.size
  up : w.grownBy W (some g)
theorem SH.dg {w0 w wb g A l c p u ys W} (h : SH w0 wb g A l c p u ys W) (hu : w.grownBy wb (some g)) (hg : g < w.heap.size) (hl : ys.length ≤ 100) (hb : ∀ x ∈ ys, -1000000 ≤ x ∧ x ≤ 1000000) : DG w0 w g A l c p u ys W := by
  obtain ⟨Av, n, cv, b, rfl, rfl, ho, _⟩ := h.bi.owns (by omega) (fun x hx => by have := hb x hx; omega)
  exact ⟨h.rd, ⟨Av, cv, b, rfl, ho.mono hu.size (Nat.le_refl _)⟩, hg, grown_trans hu h.up⟩
def GraphOut (w0 : World) (g : Nat) (A : Option Addr) (l c p : Nat) (w : World) (e : Ending) (w' : World) : Prop :=
  ∃ v ys p', e = .returned v ∧ ys.length ≤ 5 ∧ B32 ys ∧ DG w0 w g A l c p' v ys w' ∧ p' ≤ p + 30
set_option maxRecDepth 1000000 in
set_option maxHeartbeats 6400000 in
theorem someGraph_any (w0 w : World) (g : Nat) (A : Option Addr) (l c p : Nat) (h : Rdr w0 w g A l c p) (hp : p < 900000000) :
    Calls Try.prog 79 #[.pointer (some ⟨g, 0, none⟩)] w (GraphOut w0 g A l c p w) := by
  have hg := blk_lt h.box
  have HC := Lib.hid (one_lit w0 w _ g A l c p w.heap.size 4 [4, 3, 5, 2] h (by omega) (below_alloc w (.cells #[iv 4, iv 3, iv 5, iv 2] 3)) (Nat.le_refl _) (Ints.lit w [4, 3, 5, 2] (by decide) (by decide)) (by omega))
  clear h
  go_enter Try.func79, Try.ntmps79
  go_wp2_with fail
  refine HC.out.mono ?_
  rintro e w1 ⟨x, rfl, hx, hr, hgr⟩
  obtain ⟨n, rfl, hn2, hn5⟩ : ∃ n : Nat, x = (n : Int) ∧ 2 ≤ n ∧ n ≤ 5 := ⟨x.toNat, by simp at hx; omega, by simp at hx; omega, by simp at hx; omega⟩
  have HGR := Lib.hid hgr
  have HR := Lib.hid hr
  have HS0 := Lib.hid (SH.made hr n (by omega))
  have hmk := run_make_row' (P := Try.prog) 27 3 (.int .i64 0) 8 Try.underlying27 Try.info3 rfl .i64 .i64 n (by omega) (by omega)
  have HB0 := Lib.hid (B31.zero n)
  have HL0 : Hid ((List.replicate n (0 : Int)).length = n) := Lib.hid (by simp)
  clear hx hr hgr HC
  go_wp2
  clear hmk
  go_loopw [5] (fun i wr => ∃ (v q : Nat) (ys : List Int), 1 ≤ v ∧ v ≤ n ∧ i = .int .i64 v ∧ q ≤ p + v ∧ ys.length = n ∧ Hid (B31 ys) ∧ Hid (SH w0 w1 g A l c q (.slice (some ⟨w1.heap.size, 0, none⟩) n n) ys wr)) (fun i _ => n - (intOf i).toNat)
  case atStart => exact ⟨1, p + 1, _, by omega, by omega, rfl, by omega, HL0.out, HB0, HS0⟩
  case round =>
    clear HS0 HB0 HL0
    obtain ⟨v, q, ys, hv1, hv, rfl, hq, hyl, HB, HS⟩ := hrel
    by_cases hlt : v < n
    · have HC := Lib.hid (pick_any w0 _ g A l c q v HS.out.rd (by omega))
      go_wp2_with fail
      refine HC.out.mono ?_
      rintro e w3 ⟨k, rfl, hk1, _, hr, z, hw⟩
      have hone := Rdr.one (g := g) wr (.int .i64 (q + 1 : Nat)) z
      rw [← hw] at hone
      obtain ⟨k0, k1⟩ := hk1 (by omega)
      obtain ⟨u, rfl⟩ : ∃ u : Nat, k = (u : Int) := ⟨k.toNat, by omega⟩
      have HS3 := Lib.hid (HS.out.one hr hone)
      have hun : u < n := by omega
      clear hr hone hw hk1 HC HS k0 k1
      go_wp2
      have HPW := Lib.hid (fun W => power_any u W (by omega))
      obtain ⟨b_, c_, e_, r1, r2, HSN⟩ := HS3.out.set (j := v) (by omega) (bits BinOp.or IntKind.i64 (gi (ys) v) (pwF u))
      injection e_ with e_ e2_ e3_
      clear e2_ e3_
      injection e_ with e_
      injection e_ with e_ e2_ e3_
      clear e2_ e3_
      subst e_
      have HSN := Lib.hid HSN
      have hxb := HB.out v (by omega)
      have HB4 := Lib.hid (HB.out.set (j := v) (or_bdI hxb.1 hxb.2 (b := u) (by omega)))
      clear HS3 hxb
      generalize hbx : bits BinOp.or IntKind.i64 (gi (ys) v) (pwF u) = bx_vu at *
      generalize gi (ys) v = gx at *
      generalize pwF u = P at *
      apply region_once (F := fun W => Hid (SH w0 w1 g A l c (q + 1) (.slice (some ⟨w1.heap.size, 0, none⟩) n n) ((ys).set v bx_vu) W))
      · go_region_law (
          (go_simp; go_at_call 81; (with_reducible refine (HPW.out _).mono ?_); rintro e w' ⟨rfl, rfl⟩))
        all_goals exact OnceQ.mk rfl (Lib.hid (by first | exact HSN.out | exact HSN.out.below (Quiet.below ⟨1, rfl⟩)))
      rintro w7_vu HS4
      clear HPW HSN r1 r2 hbx
      go_wp2
      have HPW := Lib.hid (fun W => power_any v W (by omega))
      obtain ⟨b_, c_, e_, r1, r2, HSN⟩ := HS4.out.set (j := u) (by rw [List.length_set]; omega) (bits BinOp.or IntKind.i64 (gi (ys.set v bx_vu) u) (pwF v))
      injection e_ with e_ e2_ e3_
      clear e2_ e3_
      injection e_ with e_
      injection e_ with e_ e2_ e3_
      clear e2_ e3_
      subst e_
      have HSN := Lib.hid HSN
      have hxb := HB4.out u (by rw [List.length_set]; omega)
      have HB5 := Lib.hid (HB4.out.set (j := u) (or_bdI hxb.1 hxb.2 (b := v) (by omega)))
      clear HS4 hxb
      generalize hbx : bits BinOp.or IntKind.i64 (gi (ys.set v bx_vu) u) (pwF v) = bx_uv at *
      generalize gi (ys.set v bx_vu) u = gx at *
      generalize pwF v = P at *
      apply region_once (F := fun W => Hid (SH w0 w1 g A l c (q + 1) (.slice (some ⟨w1.heap.size, 0, none⟩) n n) ((ys.set v bx_vu).set u bx_uv) W))
      · go_region_law (
          (go_simp; go_at_call 81; (with_reducible refine (HPW.out _).mono ?_); rintro e w' ⟨rfl, rfl⟩))
        all_goals exact OnceQ.mk rfl (Lib.hid (by first | exact HSN.out | exact HSN.out.below (Quiet.below ⟨1, rfl⟩)))
      rintro w7_uv HS5
      clear HPW HSN r1 r2 hbx
      go_wp2
      go_roundw
      case rel => exact ⟨v + 1, q + 1, _, by omega, by omega, by go_num, by omega, by rw [List.length_set, List.length_set]; exact hyl, HB5, HS5⟩
      case measure => simp [intOf]; omega
    · obtain rfl : v = n := by omega
      have HC := Lib.hid (pick_any w0 _ g A l c q 4 HS.out.rd (by omega))
      go_wp2_with fail
      refine HC.out.mono ?_
      rintro e w3 ⟨k, rfl, hk1, _, hr, z, hw⟩
      have hone := Rdr.one (g := g) wr (.int .i64 (q + 1 : Nat)) z
      rw [← hw] at hone
      obtain ⟨k0, k1⟩ := hk1 (by omega)
      obtain ⟨t, rfl⟩ : ∃ t : Nat, k = (t : Int) := ⟨k.toNat, by omega⟩
      have HS3 := Lib.hid (HS.out.one hr hone)
      have ht4 : t < 4 := by omega
      clear hr hone hw hk1 HC HS k0 k1
      go_wp2
      generalize hW3 : w3 = W3 at *
      clear hW3
      go_loopw [7] (fun i wr => ∃ (t q2 : Nat) (ys : List Int), t < 4 ∧ i = .int .i64 t ∧ q2 + 2 * t ≤ p + v + 1 + 8 ∧ ys.length = v ∧ Hid (B31 ys) ∧ Hid (SH w0 w1 g A l c q2 (.slice (some ⟨w1.heap.size, 0, none⟩) v v) ys wr)) (fun i _ => (intOf i).toNat)
      case atStart => exact ⟨t, q + 1, ys, ht4, rfl, by omega, hyl, HB, HS3⟩
      case round =>
        clear HS3 HB hyl ys
        obtain ⟨t, q2, ys, ht4, rfl, hq2, hyl, HB, HS⟩ := hrel
        by_cases htz : 0 < t
        · have htz' : (0 : Int) < (t : Int) := by omega
          have HC := Lib.hid (pick_any w0 _ g A l c q2 v HS.out.rd (by omega))
          go_wp2_with fail
          refine HC.out.mono ?_
          rintro e w4 ⟨k, rfl, hk1, _, hr, z, hw⟩
          have hone := Rdr.one (g := g) wr (.int .i64 (q2 + 1 : Nat)) z
          rw [← hw] at hone
          obtain ⟨k0, k1⟩ := hk1 (by omega)
          obtain ⟨a, rfl⟩ : ∃ u : Nat, k = (u : Int) := ⟨k.toNat, by omega⟩
          have HS4 := Lib.hid (HS.out.one hr hone)
          have han : a < v := by omega
          clear hr hone hw hk1 HC HS k0 k1
          have HC := Lib.hid (pick_any w0 _ g A l c (q2 + 1) v HS4.out.rd (by omega))
          go_wp2_with fail
          refine HC.out.mono ?_
          rintro e w3 ⟨k, rfl, hk1, _, hr, z, hw⟩
          have hone := Rdr.one (g := g) w4 (.int .i64 (q2 + 1 + 1 : Nat)) z
          rw [← hw] at hone
          obtain ⟨k0, k1⟩ := hk1 (by omega)
          obtain ⟨u, rfl⟩ : ∃ u : Nat, k = (u : Int) := ⟨k.toNat, by omega⟩
          have HS3 := Lib.hid (HS4.out.one hr hone)
          have hun : u < v := by omega
          clear hr hone hw hk1 HC HS4 k0 k1
          by_cases hne : u = a
          · subst hne
            have hd : ((u : Int) != (u : Int)) = false := by simp
            go_wp2
            go_roundw
            case rel => exact ⟨t - 1, q2 + 1 + 1, ys, by omega, by go_num, by omega, hyl, HB, HS3⟩
            case measure => simp [intOf]; omega
          · have hd : ((u : Int) != (a : Int)) = true := by simp; omega
            go_wp2
            have HPW := Lib.hid (fun W => power_any u W (by omega))
            obtain ⟨b_, c_, e_, r1, r2, HSN⟩ := HS3.out.set (j := a) (by omega) (bits BinOp.or IntKind.i64 (gi (ys) a) (pwF u))
            injection e_ with e_ e2_ e3_
            clear e2_ e3_
            injection e_ with e_
            injection e_ with e_ e2_ e3_
            clear e2_ e3_
            subst e_
            have HSN := Lib.hid HSN
            have hxb := HB.out a (by omega)
            have HB4 := Lib.hid (HB.out.set (j := a) (or_bdI hxb.1 hxb.2 (b := u) (by omega)))
            clear HS3 hxb
            generalize hbx : bits BinOp.or IntKind.i64 (gi (ys) a) (pwF u) = bx_au at *
            generalize gi (ys) a = gx at *
            generalize pwF u = P at *
            apply region_once (F := fun W => Hid (SH w0 w1 g A l c (q2 + 1 + 1) (.slice (some ⟨w1.heap.size, 0, none⟩) v v) ((ys).set a bx_au) W))
            · go_region_law (
                (go_simp; go_at_call 81; (with_reducible refine (HPW.out _).mono ?_); rintro e w' ⟨rfl, rfl⟩))
              all_goals exact OnceQ.mk rfl (Lib.hid (by first | exact HSN.out | exact HSN.out.below (Quiet.below ⟨1, rfl⟩)))
            rintro w7_au HS4
            clear HPW HSN r1 r2 hbx
            go_wp2
            have HPW := Lib.hid (fun W => power_any a W (by omega))
            obtain ⟨b_, c_, e_, r1, r2, HSN⟩ := HS4.out.set (j := u) (by rw [List.length_set]; omega) (bits BinOp.or IntKind.i64 (gi (ys.set a bx_au) u) (pwF a))
            injection e_ with e_ e2_ e3_
            clear e2_ e3_
            injection e_ with e_
            injection e_ with e_ e2_ e3_
            clear e2_ e3_
            subst e_
            have HSN := Lib.hid HSN
            have hxb := HB4.out u (by rw [List.length_set]; omega)
            have HB5 := Lib.hid (HB4.out.set (j := u) (or_bdI hxb.1 hxb.2 (b := a) (by omega)))
            clear HS4 hxb
            generalize hbx : bits BinOp.or IntKind.i64 (gi (ys.set a bx_au) u) (pwF a) = bx_ua at *
            generalize gi (ys.set a bx_au) u = gx at *
            generalize pwF a = P at *
            apply region_once (F := fun W => Hid (SH w0 w1 g A l c (q2 + 1 + 1) (.slice (some ⟨w1.heap.size, 0, none⟩) v v) ((ys.set a bx_au).set u bx_ua) W))
            · go_region_law (
                (go_simp; go_at_call 81; (with_reducible refine (HPW.out _).mono ?_); rintro e w' ⟨rfl, rfl⟩))
              all_goals exact OnceQ.mk rfl (Lib.hid (by first | exact HSN.out | exact HSN.out.below (Quiet.below ⟨1, rfl⟩)))
            rintro w7_ua HS5
            clear HPW HSN r1 r2 hbx
            go_wp2
            go_roundw
            case rel => exact ⟨t - 1, q2 + 1 + 1, _, by omega, by go_num, by omega, by rw [List.length_set, List.length_set]; exact hyl, HB5, HS5⟩
            case measure => simp [intOf]; omega
        · obtain rfl : t = 0 := by omega
          have HC := Lib.hid (pick_any w0 _ g A l c q2 30 HS.out.rd (by omega))
          go_wp2_with fail
          refine HC.out.mono ?_
          rintro e w4 ⟨k, rfl, hk1, _, hr, z, hw⟩
          have hone := Rdr.one (g := g) wr (.int .i64 (q2 + 1 : Nat)) z
          rw [← hw] at hone
          obtain ⟨k0, k1⟩ := hk1 (by omega)
          have HS4 := Lib.hid (HS.out.one hr hone)
          clear hr hone hw hk1 HC HS
          by_cases hk0 : k = 0
          · subst hk0
            have HPW := Lib.hid (fun W => power_any v W (by omega))
            obtain ⟨pb1, pb2⟩ : 0 ≤ pwF v ∧ pwF v ≤ 32 := by rw [pw5 v (by omega)]; have := pow_bd5 v (by omega); omega
            generalize pwF v = P at *
            go_wp2_with fail
            refine (HPW.out _).mono ?_
            rintro e w' ⟨rfl, rfl⟩
            have hgl := HS4.out.gl
            have HS5 := Lib.hid (HS4.out.below (below_alloc w4 (.cells #[iv 0, iv 1, iv P] 3)))
            have HIN := Lib.hid (Ints.lit w4 [0, 1, P] (by simp) (by intro x hx; simp at hx; omega))
            have hgw : g < w4.heap.size := blk_lt HS4.out.rd.box
            have HC := Lib.hid (one_any w0 (w4.alloc (.cells #[iv 0, iv 1, iv P] 3)) g A l c (q2 + 1) _ 3 3 [0, 1, P] HS5.out.rd (by omega) HIN.out (by omega) (fun b' o' e' => by injection e' with e'; injection e' with e' _ _; omega))
            clear HS4 HIN HPW
            go_wp2_with fail
            refine HC.out.mono ?_
            rintro e w5 ⟨x, rfl, hx, hr, ho⟩
            have hx5 : 0 ≤ x ∧ x ≤ 32 := by simp at hx; omega
            have HS6 := Lib.hid (HS5.out.one hr ho)
            clear hx hr ho HC HS5
            obtain ⟨b6, c6, e6, r1, r2, HS7⟩ := HS6.out.set (j := 0) (by omega) x
            injection e6 with e6 e62 e63
            clear e62 e63
            injection e6 with e6
            injection e6 with e6 e62 e63
            clear e62 e63
            subst e6
            have HS7 := Lib.hid HS7
            have HBB := Lib.hid (show B32 (ys.set 0 x) from fun i hi => by
              rw [List.length_set] at hi
              by_cases e : i = 0
              · subst e; rw [gi_set_eq hi]; exact hx5
              · rw [gi_set_ne hi e]; have := HB.out i hi; omega)
            have HOUT := Lib.hid (show GraphOut w0 g A l c p w (.returned (.slice (some ⟨w1.heap.size, 0, none⟩) v v)) (w5.setCell ⟨w1.heap.size, 0, none⟩ (.int .i64 x)) from
              ⟨_, ys.set 0 x, q2 + 1 + 1, rfl, by rw [List.length_set]; omega, HBB.out, HS7.out.dg HGR.out hg (by rw [List.length_set]; omega) (fun y hy => by obtain ⟨i, hi, e⟩ := List.mem_iff_getElem.1 hy; have := HBB.out i hi; rw [gi_get hi, e] at this; omega), by omega⟩)
            clear HS6 HS7 HBB
            go_wp2
            go_ret
            exact HOUT.out
          · have d0 : (k == 0) = false := beq_eq_false_iff_ne.2 hk0
            by_cases hk1 : k = 1
            · subst hk1
              have HR4 := Lib.hid HS4.out.rd
              have hup := HS4.out.up
              have hgl := HS4.out.gl
              have HOUT := Lib.hid (show GraphOut w0 g A l c p w (.returned (.slice (some ⟨w4.heap.size, 0, none⟩) 1 1)) (w4.alloc (.cells #[.int .i64 0] 3)) from
                ⟨_, [0], q2 + 1, rfl, by simp, fun j hj => by obtain rfl : j = 0 := by simp at hj; omega
                                                              simp [gi], ⟨HR4.out.below_ (below_alloc _ _), ⟨some ⟨w4.heap.size, 0, none⟩, 1, w4.heap.size, rfl, ?_⟩, hg, grown_trans HGR.out (grown_below hup (below_alloc _ _))⟩, by omega⟩)
              · go_wp2
                go_ret
                exact HOUT.out
              · have hs := (grown_trans HGR.out hup).size
                exact ⟨Ints.lit w4 [0] (by decide) (by decide), fun _ => ⟨0, rfl, hs, by simp, fun k _ => blk_frozen (blk_new _ _ _) _⟩⟩
            · have d1 : (k == 1) = false := beq_eq_false_iff_ne.2 hk1
              have HOUT := Lib.hid (show GraphOut w0 g A l c p w (.returned (.slice (some ⟨w1.heap.size, 0, none⟩) v v)) w4 from
                ⟨_, ys, q2 + 1, rfl, by omega, fun i hi => by have := HB.out i hi; omega, HS4.out.dg HGR.out hg (by omega) (fun y hy => by obtain ⟨i, hi, e⟩ := List.mem_iff_getElem.1 hy; have := HB.out i hi; rw [gi_get hi, e] at this; omega), by omega⟩)
              clear HS4
              go_wp2
              go_ret
              exact HOUT.out

end Go.Proofs.Ytolnbkplgnpfjaa

/- Tables with the other signs, by the model. -/
namespace Go.Proofs.Ytolnbkplgnpfjaa
open Go.RowKit

/-- A new table, as append has made it. -/
def NewB (w : World) (yss : List (List Int)) (e : Ending) (w' : World) : Prop :=
  ∃ Av c vs, e = .returned (.slice Av yss.length c) ∧ Bld w.heap.size w'.heap.size w' (.slice Av yss.length c) vs yss ∧ Below w.heap.size w w'
set_option maxHeartbeats 1000000 in
theorem negatedB_any (A : Option Addr) (n c : Nat) (xss : List (List Int)) (w : World) (hx : IntRows w A n c xss) (hs : Small xss) :
    Calls Try.prog 107 #[.slice A n c] w (NewB w (mtab xss xss.length)) := by
  have HS := Lib.hid hs
  have HS0 := Lib.hid (TM.start w)
  have hn8 := hs.n
  have HX := Lib.hid hx
  have LX := Lib.hid hx.len
  have hnx : n ≤ 8 := by rw [← hx.len]; exact hn8
  clear hx hs
  go_enter Try.func107, Try.ntmps107
  go_wp2
  go_loopw [3, 4] (fun v i wr => ∃ (k : Nat) (vs : List Value), k ≤ n ∧ i = .int .i64 k ∧ Hid (TM w v vs (mtab xss k) wr)) (fun _ i _ => n - (intOf i).toNat)
  case atStart => exact ⟨0, [], Nat.zero_le _, rfl, HS0⟩
  case round =>
    clear HS0
    obtain ⟨k, vs, hk, rfl, HT⟩ := hrel
    obtain ⟨Av, cv, rfl⟩ := HT.out.bo.form
    by_cases hlt : k < n
    · have HI := Lib.hid HT.out.row
      have hkx : k < xss.length := by rw [LX.out]; exact hlt
      clear HT
      obtain ⟨b, o, rfl, hc⟩ := HX.out.at_ (by omega)
      have HC := Lib.hid (hc k hlt)
      clear hc
      go_wp2
      generalize wr.heap.size = N at *
      go_loopw [5, 6] (fun u i wi => ∃ (j : Nat), j ≤ (gr xss k).length ∧ i = .int .i64 j ∧ Hid (TN w N (.slice Av (mtab xss k).length cv) vs (mtab xss k) u (mrow (gr xss k) j) wi)) (fun _ i _ => (gr xss k).length - (intOf i).toNat)
      case atStart => exact ⟨0, Nat.zero_le _, rfl, HI⟩
      case round =>
        clear HI
        obtain ⟨j, hj, rfl, HI⟩ := hrel
        obtain ⟨Au, cu, rfl⟩ := HI.out.bi.form
        obtain ⟨R, cc, c1, hR⟩ := HC.out
        have c2 := HI.out.up.cell (p := ⟨b, o + k, none⟩) (World.block_lt_of_cell? _ _ c1)
        rw [c1] at c2
        have hR2 := hR.keep (Keep.below HI.out.up)
        by_cases hlm : j < (gr xss k).length
        · obtain ⟨b', o', rfl, hc'⟩ := hR2.at_ (by omega)
          have c3 := hc' j hlm
          have hbd := HS.out.gi hkx hlm
          clear hc' hR hR2
          generalize hval : gi (gr xss k) j = x at *
          have HV := Lib.hid hval
          clear hval
          have hb := below_alloc wr (.cells #[iv (-x)] 3)
          have HB4 := Lib.hid (HI.out.bi.below hb).own
          have HN := Lib.hid (cell_one_new wr (iv (-x)) 3)
          have hHs := HI.out.hs
          have hlh := HI.out.lh
          have HML := Lib.hid (mrow_len (gr xss k) j)
          generalize hys : mrow (gr xss k) j = ys at *
          have HYS := Lib.hid hys
          clear hb hys
          have hrl := (HS.out.rows _ (gr_mem hkx)).1
          obtain ⟨i0, hi0, hz0, hz1, hz2⟩ := info_parts Try.info_int
          go_wp2_with (at_builtin; refine wpList_append_own_at _ rfl _ _ 27 rfl N 3 i0 (.int .i64 0) 1 8 Try.underlying27 hi0 hz0 hz1 hz2 rfl (by decide) _ ys.length (ys.map iv) rfl HB4.out ⟨wr.heap.size, 0, none⟩ 1 1 [iv (-x)] rfl rfl ?c1 ?c2 ?c3 ?c4 ?c5 ?_)
          case c1 => exact HN.out
          case c2 => intro u hu; simp at hu; subst hu; rfl
          case c3 => have := HML.out; unfold maxLen; omega
          case c4 => have := HML.out; omega
          case c5 => simp; omega
          intro v' w5 hown' hgrow _ hat
          have HI5 := Lib.hid (HI.out.push hown' hgrow (by simpa using hat))
          clear HB4 HN hown' hgrow hat HI
          go_wp2
          go_roundw
          case rel => exact ⟨j + 1, by omega, by go_num, Lib.hid (by rw [mrow_succ, HYS.out, HV.out]; exact HI5.out)⟩
          case measure => simp [intOf]; omega
        · obtain rfl : j = (gr xss k).length := by omega
          have HBD := Lib.hid (HS.out.mrow_bd hkx (Nat.le_refl _))
          obtain ⟨Ar, nr, cr, gg, e, rfl, ho, _⟩ := HI.out.bi.owns (by rw [mrow_len]; have := (HS.out.rows _ (gr_mem hkx)).1; omega) (fun x hx => by have := HBD.out x hx; omega)
          injection e with e1 _ e3
          subst e1
          subst e3
          have HO := Lib.hid ho
          have HML := Lib.hid (mrow_len (gr xss k) (gr xss k).length)
          have HTL := Lib.hid (mtab_len xss k)
          have hb := below_alloc wr (.cells #[.slice Au (mrow (gr xss k) (gr xss k).length).length cu] 27)
          have HB4 := Lib.hid (HI.out.bo.below hb).own
          have HN := Lib.hid (cell_one_new wr (.slice Au (mrow (gr xss k) (gr xss k).length).length cu) 27)
          have hHs := HI.out.hs
          have hlh := HI.out.lh
          have HMS := Lib.hid (mtab_succ xss k)
          clear hb ho hR hR2
          generalize mrow (gr xss k) (gr xss k).length = ys at *
          generalize mtab xss k = ms at *
          obtain ⟨i0, hi0, hz0, hz1, hz2⟩ := info_parts Try.info_row
          go_wp2_with (at_builtin; refine wpList_append_own_at _ rfl _ _ 23 rfl w.heap.size 27 i0 (.slice none 0 0) 1 24 Try.underlying23 hi0 hz0 hz1 hz2 rfl (by decide) _ ms.length vs rfl HB4.out ⟨wr.heap.size, 0, none⟩ 1 1 [.slice Au ys.length cu] rfl rfl ?d1 ?d2 ?d3 ?d4 ?d5 ?_)
          case d2 => rfl
          case d3 => have := HTL.out; unfold maxLen; omega
          case d4 => have := HTL.out; omega
          case d5 => omega
          intro v' w5 hown' hgrow _ hat
          have HT5 := Lib.hid (HI.out.done HO.out hown' hgrow (by simpa using hat))
          clear HB4 HN hown' hgrow hat HI HO
          go_wp2
          go_roundw
          case rel => exact ⟨k + 1, _, by omega, by go_num, Lib.hid (by rw [HMS.out]; exact HT5.out)⟩
          case measure => simp [intOf]; omega
    · obtain rfl : k = n := by omega
      have HO := Lib.hid HT.out.bo
      have HB := Lib.hid HT.out.up
      clear HT
      go_wp2
      go_ret
      exact ⟨_, _, _, by rw [← LX.out]; rfl, by have h := HO.out; rw [← LX.out] at h; exact h, HB.out⟩
theorem negated_any (A : Option Addr) (n c : Nat) (xss : List (List Int)) (w : World) (hx : IntRows w A n c xss) (hs : Small xss) :
    Calls Try.prog 107 #[.slice A n c] w (NewT w (mtab xss xss.length)) :=
  (negatedB_any A n c xss w hx hs).mono fun e w' ⟨Av, cv, vs, he, hb, hk⟩ => by
    obtain ⟨A', n', c', gg, e1, hn', hown⟩ := hb.owns (by rw [mtab_len]; have := hs.n; omega)
    exact ⟨A', n', c', gg, by rw [he, e1], hn', hown, hk⟩
end Go.Proofs.Ytolnbkplgnpfjaa

/- Valid tables by the program. -/
namespace Go.Proofs.Ytolnbkplgnpfjaa
open Go.RowKit

set_option maxHeartbeats 400000 in
theorem validRow_any (A : Option Addr) (n c : Nat) (r : List Int) (w : World) (hx : Ints w A n c r) :
    Calls Try.prog 129 #[.slice A n c] w fun e w' => e = .returned (.bool (pb (RowV r))) ∧ Quiet w w' := by
  obtain ⟨lx, cx, mx, _, hx⟩ := hx
  have Lx := Lib.hid lx
  clear lx
  by_cases h1 : n < 1
  · have HV := Lib.hid (pb_false (p := RowV r) fun v => by have := v.1; rw [Lx.out] at this; omega)
    go_enter Try.func129, Try.ntmps129
    go_wp2
    go_ret
    exact ⟨ret_bool HV.out.symm, Quiet.refl _⟩
  by_cases h3 : 3 < n
  · have HV := Lib.hid (pb_false (p := RowV r) fun v => by have := v.2.1; rw [Lx.out] at this; omega)
    go_enter Try.func129, Try.ntmps129
    go_wp2
    go_ret
    exact ⟨ret_bool HV.out.symm, Quiet.refl _⟩
  obtain ⟨b, o, rfl, hc⟩ := hx (by omega)
  go_enter Try.func129, Try.ntmps129
  go_wp2
  go_loopw [15] (fun i wr => ∃ k : Nat, k ≤ n ∧ i = .int .i64 k ∧ Hid (∀ j, j < k → InR (gi r j) (-9) 9) ∧ Quiet w wr) (fun i _ => n - (intOf i).toNat)
  case atStart => exact ⟨0, Nat.zero_le _, rfl, Lib.hid (fun _ h => absurd h (by omega)), Quiet.refl _⟩
  case round =>
    obtain ⟨k, hk, rfl, HALL, q, rfl⟩ := hrel
    by_cases hlt : k < n
    · have c1 := hc k hlt
      clear hc
      have HK := Lib.hid (show k < r.length by rw [Lx.out]; exact hlt)
      by_cases hlo : gi r k < -9
      · have HV := Lib.hid (RowV_no HK.out fun h => by have := h.1; omega)
        go_wp2
        go_ret
        exact ⟨ret_bool HV.out.symm, ⟨_, rfl⟩⟩
      · by_cases hhi : 9 < gi r k
        · have HV := Lib.hid (RowV_no HK.out fun h => by have := h.2; omega)
          go_wp2
          go_ret
          exact ⟨ret_bool HV.out.symm, ⟨_, rfl⟩⟩
        · go_wp2
          go_roundw
          case rel => exact ⟨k + 1, by omega, by go_num, Lib.hid (fun j hj => by
            by_cases hjk : j < k
            · exact HALL.out j hjk
            · obtain rfl : j = k := by omega
              exact ⟨by omega, by omega⟩), ⟨_, rfl⟩⟩
          case measure => simp [intOf]; omega
    · obtain rfl : k = n := by omega
      go_wp2
      go_ret
      exact ⟨ret_bool (pb_true ⟨by rw [Lx.out]; omega, by rw [Lx.out]; omega, fun j hj => HALL.out j (by rw [Lx.out] at hj; exact hj)⟩).symm, ⟨_, rfl⟩⟩

set_option maxHeartbeats 1000000 in
theorem ValidTable_impl (A : Option Addr) (n c : Nat) (a : List (List Int)) (w : World) (hx : IntRows w A n c a) :
    Calls Try.prog 109 #[.slice A n c] w fun e w' => e = .returned (.bool (pb (VT a))) ∧ Quiet w w' := by
  obtain ⟨lx, cx, mx, hx⟩ := hx
  have Lx := Lib.hid lx
  clear lx
  by_cases h1 : n < 1
  · have HV := Lib.hid (pb_false (p := VT a) fun v => by have := v.n1; rw [Lx.out] at this; omega)
    go_enter Try.func109, Try.ntmps109
    go_wp2
    go_ret
    exact ⟨ret_bool HV.out.symm, Quiet.refl _⟩
  by_cases h3 : 3 < n
  · have HV := Lib.hid (pb_false (p := VT a) fun v => by have := v.n3; rw [Lx.out] at this; omega)
    go_enter Try.func109, Try.ntmps109
    go_wp2
    go_ret
    exact ⟨ret_bool HV.out.symm, Quiet.refl _⟩
  obtain ⟨b, o, rfl, hc⟩ := hx (by omega)
  obtain ⟨R0, cc0, c0, hR0⟩ := hc 0 (by omega)
  have hL0 : (gr a 0).length ≤ 17592186044416 := hR0.max
  simp only [Nat.add_zero] at c0
  go_enter Try.func109, Try.ntmps109
  go_wp2
  go_loopw [15] (fun i wr => ∃ k : Nat, k ≤ n ∧ i = .int .i64 k ∧ Hid (∀ i, i < k → (gr a i).length = (gr a 0).length ∧ RowV (gr a i)) ∧ Quiet w wr) (fun i _ => n - (intOf i).toNat)
  case atStart => exact ⟨0, Nat.zero_le _, rfl, Lib.hid (fun _ h => absurd h (by omega)), Quiet.refl _⟩
  case round =>
    obtain ⟨k, hk, rfl, HALL, q, rfl⟩ := hrel
    by_cases hlt : k < n
    · obtain ⟨R, cc, c1, hR⟩ := hc k hlt
      have hL1 : (gr a k).length ≤ 17592186044416 := hR.max
      have hn0 : 0 < n := by omega
      clear hc
      have HK := Lib.hid (show k < a.length by rw [Lx.out]; exact hlt)
      by_cases hlen : (gr a k).length = (gr a 0).length
      · have hlen' : (((gr a k).length : Int) != ((gr a 0).length : Int)) = false := by simp [hlen]
        have HLEN := Lib.hid hlen
        clear hlen
        by_cases hv : RowV (gr a k)
        · have HI := Lib.hid hv
          have hq := fun W (hW : Quiet w W) => (pb_true hv ▸ validRow_any _ _ _ _ W (hR.keep (Keep.quiet hW)))
          clear hv
          go_wp2_with fail
          refine (hq _ ⟨_, rfl⟩).mono ?_
          rintro e w' ⟨rfl, q2, rfl⟩
          go_wp2
          go_roundw
          case rel => exact ⟨k + 1, by omega, by go_num, Lib.hid (fun j hj => by
            by_cases hjk : j < k
            · exact HALL.out j hjk
            · obtain rfl : j = k := by omega
              exact ⟨HLEN.out, HI.out⟩), ⟨_, rfl⟩⟩
          case measure => simp [intOf]; omega
        · have HV := Lib.hid (pb_false (p := VT a) fun v => hv (VT_rowV v HK.out))
          have hq := fun W (hW : Quiet w W) => (pb_false hv ▸ validRow_any _ _ _ _ W (hR.keep (Keep.quiet hW)))
          clear hv
          go_wp2_with fail
          refine (hq _ ⟨_, rfl⟩).mono ?_
          rintro e w' ⟨rfl, q2, rfl⟩
          go_wp2
          go_ret
          exact ⟨ret_bool HV.out.symm, by first | exact ⟨_, rfl⟩ | exact Quiet.two _ _ _⟩
      · have HV := Lib.hid (pb_false (p := VT a) fun v => hlen (v.rows k HK.out).1)
        have hlen' : (((gr a k).length : Int) != ((gr a 0).length : Int)) = true := by simp; omega
        clear hlen
        go_wp2
        go_ret
        exact ⟨ret_bool HV.out.symm, ⟨_, rfl⟩⟩
    · obtain rfl : k = n := by omega
      go_wp2
      go_ret
      exact ⟨ret_bool (pb_true (VT_of (by rw [Lx.out]; omega) (by rw [Lx.out]; omega) fun j hj => HALL.out j (by rw [Lx.out] at hj; exact hj))).symm, ⟨_, rfl⟩⟩
end Go.Proofs.Ytolnbkplgnpfjaa

/- Means of a table with shares, by both programs. -/
namespace Go.Proofs.Ytolnbkplgnpfjaa
open Go.RowKit

/-- The box of a fraction that a function returns, at its start. -/
structure PF (w W : World) : Prop where
  box : Blk W w.heap.size 39 #[.int .i64 0, .int .i64 0]
  below : Below w.heap.size w W
theorem PF.start (w : World) : PF w (w.alloc (.cells #[.int .i64 0, .int .i64 0] 39)) := ⟨blk_new _ _ _, below_alloc _ _⟩
theorem PF.up {w W W' : World} (h : PF w W) (k : Below W.heap.size W W') : PF w W' := ⟨blk_below h.box k, below_up h.below k⟩
theorem PF.keep {w W : World} (h : PF w W) : Keep w W := Keep.below h.below

theorem VT.vsn {a : List (List Int)} (v : VT a) (x : List Int) : pb (VSn x a.length) = pb (VS x a.length) :=
  pb_congr ⟨fun h => h.2.2, fun h => ⟨by have := v.n1; omega, by have := v.n3; omega, h⟩⟩
theorem VT.vsm {a : List (List Int)} (v : VT a) (x : List Int) : pb (VSn x (gr a 0).length) = pb (VS x (gr a 0).length) :=
  pb_congr ⟨fun h => h.2.2, fun h => ⟨by have := v.m1; omega, by have := v.m3; omega, h⟩⟩
theorem VT.pb_ {a : List (List Int)} {x y : List Int} (v : VT a) (hx : VS x a.length) (hy : VS y (gr a 0).length) : PB a x y a.length (gr a 0).length :=
  ⟨fun i j hi hj => v.bd hi hj, fun i hi => hx.2.1 i (by have := hx.1; omega), fun j hj => hy.2.1 j (by have := hy.1; omega)⟩
structure POk (a : List (List Int)) (x y : List Int) : Prop where
  v : VT a
  x : VS x a.length
  y : VS y (gr a 0).length
noncomputable def payF (a : List (List Int)) (x y : List Int) : Value := if pb (POk a x y) = true then frV (payU a x y (gr a 0).length a.length) (tot x * tot y) else .agg #[.int .i64 0, .int .i64 0]
theorem payF_yes {a x y} (h : POk a x y) : payF a x y = frV (payU a x y (gr a 0).length a.length) (tot x * tot y) := by rw [payF, if_pos (pb_true h)]
theorem payF_no {a x y} (h : ¬ POk a x y) : payF a x y = .agg #[.int .i64 0, .int .i64 0] := by rw [payF, if_neg (by rw [pb_false h]; decide)]

theorem frV_form (u d : Int) : ∃ U D, frV u d = .agg #[.int .i64 U, .int .i64 D] := ⟨_, _, rfl⟩
theorem payF_form (a : List (List Int)) (x y : List Int) : ∃ U D, payF a x y = .agg #[.int .i64 U, .int .i64 D] := by
  unfold payF
  split
  · exact frV_form _ _
  · exact ⟨_, _, rfl⟩

end Go.Proofs.Ytolnbkplgnpfjaa

/- Fractions compared by the harness; less, by both programs. -/
namespace Go.Proofs.Ytolnbkplgnpfjaa
open Go.RowKit


def lessB (u d v e : Int) : Bool := decide (u * e < v * d)
theorem less_bd {u v : Int} (hu : -1000000000 ≤ u ∧ u ≤ 1000000000) (hv : 0 ≤ v ∧ v ≤ 1000000000) : -1000000000000000000 ≤ u * v ∧ u * v ≤ 1000000000000000000 := by
  have h1 : u * v ≤ 1000000000 * v := Int.mul_le_mul_of_nonneg_right hu.2 hv.1
  have h2 : -1000000000 * v ≤ u * v := Int.mul_le_mul_of_nonneg_right hu.1 hv.1
  omega


end Go.Proofs.Ytolnbkplgnpfjaa

/- Shares of one alone; the worst mean: by both programs. -/
namespace Go.Proofs.Ytolnbkplgnpfjaa
open Go.RowKit

theorem alloc_set (w : World) (cs : Array Value) (t : TypeId) (i : Nat) (v : Value) : (w.alloc (.cells cs t)).setCell ⟨w.heap.size, i, none⟩ v = w.alloc (.cells (cs.setIfInBounds i v) t) := by
  unfold World.setCell World.alloc
  congr 1
  apply Array.ext
  · simp
  · intro j h1 h2
    simp only [Array.size_modify, Array.size_push] at h1
    rw [Array.getElem_modify]
    by_cases e : w.heap.size = j
    · subst e; simp
    · rw [if_neg e, Array.getElem_push_lt (by omega), Array.getElem_push_lt (by omega)]
def MadeO (w : World) (n i : Nat) (e : Ending) (w' : World) : Prop :=
  e = .returned (.slice (some ⟨w.heap.size, 0, none⟩) n n) ∧ OwnI w.heap.size w'.heap.size w' w.heap.size (some ⟨w.heap.size, 0, none⟩) n n (onl n i) ∧ Below w.heap.size w w'
theorem onl_own (w w1 : World) (n i : Nat) (hn : n ≤ 100) (hr : w1.rowIs w.heap.size 3 n (fun j => if j = i then .int .i64 1 else .int .i64 0)) :
    OwnI w.heap.size w1.heap.size w1 w.heap.size (some ⟨w.heap.size, 0, none⟩) n n (onl n i) :=
  OwnI.of_rowIs (onl_len n i) (by omega) (fun x hx => by
    obtain ⟨k, hk, rfl⟩ := List.mem_iff_getElem.1 hx
    rw [onl_len] at hk
    have := onl_bd (n := n) (i := i) hk
    rw [gi_get (by rw [onl_len]; exact hk)] at this
    omega) (Nat.le_refl _) hr.lt hr fun k hk => by
      show (if k = i then Value.int .i64 1 else Value.int .i64 0) = _
      rw [gi_onl hk]; split <;> rfl

end Go.Proofs.Ytolnbkplgnpfjaa

/- The least mean over columns alone, by the model. -/
namespace Go.Proofs.Ytolnbkplgnpfjaa
open Go.RowKit

theorem PB.onl {a x y n m} (h : PB a x y n m) (j : Nat) : PB a x (onl m j) n m :=
  ⟨h.a, h.x, fun k hk => by have := onl_bd (n := m) (i := j) hk; omega⟩
theorem col_bd {a x y n m} (h : PB a x y n m) (hn : n ≤ 3) (hm : m ≤ 3) (j : Nat) : -81000000 ≤ colU a x n m j ∧ colU a x n m j ≤ 81000000 := by
  have := payU_bd (h.onl j) hm (Nat.le_refl n)
  unfold colU
  omega
theorem wst_bd {a x y n m} (h : PB a x y n m) (hn : n ≤ 3) (hm : m ≤ 3) (tx : 0 < tot x) (tx3 : tot x ≤ 3000) : ∀ k, (-81000000 ≤ (wst a x n m k).1 ∧ (wst a x n m k).1 ≤ 81000000) ∧ 1 ≤ (wst a x n m k).2 ∧ (wst a x n m k).2 ≤ 3000
  | 0 => ⟨frU_bd tx (col_bd h hn hm 0), frD_bd tx tx3⟩
  | k + 1 => by
    simp only [wst]
    split
    · exact ⟨frU_bd tx (col_bd h hn hm (k + 1)), frD_bd tx tx3⟩
    · exact wst_bd h hn hm tx tx3 k
theorem wst_yes {a x n m k} (h : lessB (frU (colU a x n m (k + 1)) (tot x)) (frD (colU a x n m (k + 1)) (tot x)) (wst a x n m k).1 (wst a x n m k).2 = true) :
    wst a x n m (k + 1) = (frU (colU a x n m (k + 1)) (tot x), frD (colU a x n m (k + 1)) (tot x)) := by
  unfold lessB at h
  simp only [decide_eq_true_eq] at h
  simp only [wst]
  rw [if_pos h]
theorem wst_no {a x n m k} (h : lessB (frU (colU a x n m (k + 1)) (tot x)) (frD (colU a x n m (k + 1)) (tot x)) (wst a x n m k).1 (wst a x n m k).2 = false) : wst a x n m (k + 1) = wst a x n m k := by
  unfold lessB at h
  simp only [decide_eq_false_iff_not] at h
  simp only [wst]
  rw [if_neg h]

/-- The boxes of the result and of what is the least so far. -/
structure WO (w W : World) (U D : Int) : Prop where
  b0 : Blk W w.heap.size 39 #[.int .i64 0, .int .i64 0]
  b1 : Blk W (w.heap.size + 1) 39 #[.int .i64 U, .int .i64 D]
  below : Below w.heap.size w W
theorem WO.up {w W W' U D} (h : WO w W U D) (k : Below W.heap.size W W') : WO w W' U D := ⟨blk_below h.b0 k, blk_below h.b1 k, below_up h.below k⟩
theorem WO.keep {w W U D} (h : WO w W U D) : Keep w W := Keep.below h.below
theorem WO.start (w : World) : WO w ((w.alloc (.cells #[.int .i64 0, .int .i64 0] 39)).alloc (.cells #[.int .i64 0, .int .i64 0] 39)) 0 0 := by
  have h := blk_new (w.alloc (.cells #[.int .i64 0, .int .i64 0] 39)) 39 #[.int .i64 0, .int .i64 0]
  rw [World.size_alloc] at h
  exact ⟨blk_old (blk_new _ _ _) _, h, below_up (below_alloc _ _) (below_alloc _ _)⟩
theorem WO.set {w W U D} (h : WO w W U D) (U' D' : Int) : WO w ((W.setCell ⟨w.heap.size + 1, 0, none⟩ (.int .i64 U')).setCell ⟨w.heap.size + 1, 1, none⟩ (.int .i64 D')) U' D' :=
  ⟨blk_other (blk_other h.b0 (p := ⟨w.heap.size + 1, 0, none⟩) (by show w.heap.size ≠ w.heap.size + 1; omega) _) (p := ⟨w.heap.size + 1, 1, none⟩) (by show w.heap.size ≠ w.heap.size + 1; omega) _,
   blk_set (blk_set h.b1 0 (.int .i64 U')) 1 (.int .i64 D'),
   (h.below.setCell (p := ⟨w.heap.size + 1, 0, none⟩) (by show w.heap.size ≤ w.heap.size + 1; omega) _).setCell (p := ⟨w.heap.size + 1, 1, none⟩) (by show w.heap.size ≤ w.heap.size + 1; omega) _⟩

end Go.Proofs.Ytolnbkplgnpfjaa

/- The worst mean of shares, by both programs. -/
namespace Go.Proofs.Ytolnbkplgnpfjaa
open Go.RowKit

structure WOk (a : List (List Int)) (x : List Int) : Prop where
  v : VT a
  x : VS x a.length
def wstV (p : Int × Int) : Value := .agg #[.int .i64 p.1, .int .i64 p.2]
def wlast (a : List (List Int)) (x : List Int) : Int × Int := wst a x a.length (gr a 0).length ((gr a 0).length - 1)
noncomputable def worF (a : List (List Int)) (x : List Int) : Int × Int := if pb (WOk a x) = true then wlast a x else (0, 0)
theorem worF_yes {a x} (h : WOk a x) : worF a x = wlast a x := by rw [worF, if_pos (pb_true h)]
theorem worF_no {a x} (h : ¬ WOk a x) : worF a x = (0, 0) := by rw [worF, if_neg (by rw [pb_false h]; decide)]
theorem wstV_form (p : Int × Int) : ∃ U D, wstV p = .agg #[.int .i64 U, .int .i64 D] := ⟨_, _, rfl⟩
theorem VT.pbx {a : List (List Int)} {x : List Int} (v : VT a) (hx : VS x a.length) : PB a x (onl (gr a 0).length 0) a.length (gr a 0).length :=
  ⟨fun i j hi hj => v.bd hi hj, fun i hi => hx.2.1 i (by have := hx.1; omega), fun j hj => by have := onl_bd (n := (gr a 0).length) (i := 0) hj; omega⟩

/-- The boxes of the result and of what is the least so far, at h. -/
structure WP (w W : World) (h : Nat) (U D : Int) : Prop where
  b0 : Blk W w.heap.size 39 #[.int .i64 0, .int .i64 0]
  b1 : Blk W h 39 #[.int .i64 U, .int .i64 D]
  lt : w.heap.size < h
  below : Below w.heap.size w W
theorem WP.up {w W W' h U D} (p : WP w W h U D) (k : Below W.heap.size W W') : WP w W' h U D := ⟨blk_below p.b0 k, blk_below p.b1 k, p.lt, below_up p.below k⟩
theorem WP.keep {w W h U D} (p : WP w W h U D) : Keep w W := Keep.below p.below
theorem WP.start {w W : World} (p : PF w W) (U D : Int) : WP w (W.alloc (.cells #[.int .i64 U, .int .i64 D] 39)) W.heap.size U D :=
  ⟨blk_old p.box _, blk_new _ _ _, blk_lt p.box, below_up p.below (below_alloc _ _)⟩
theorem WP.set {w W h U D} (p : WP w W h U D) (U' D' : Int) : WP w ((W.setCell ⟨h, 0, none⟩ (.int .i64 U')).setCell ⟨h, 1, none⟩ (.int .i64 D')) h U' D' := by
  have hl := p.lt
  exact ⟨blk_other (blk_other p.b0 (p := ⟨h, 0, none⟩) (by show w.heap.size ≠ h; omega) _) (p := ⟨h, 1, none⟩) (by show w.heap.size ≠ h; omega) _,
   blk_set (blk_set p.b1 0 (.int .i64 U')) 1 (.int .i64 D'), hl,
   (p.below.setCell (p := ⟨h, 0, none⟩) (by show w.heap.size ≤ h; omega) _).setCell (p := ⟨h, 1, none⟩) (by show w.heap.size ≤ h; omega) _⟩
theorem frV_onl (u : Int) (x : List Int) {m j : Nat} (h : j < m) : frV u (tot x * tot (onl m j)) = .agg #[.int .i64 (frU u (tot x)), .int .i64 (frD u (tot x))] := by
  rw [tot_onl h, Int.mul_one]; rfl

end Go.Proofs.Ytolnbkplgnpfjaa

/- Best shares, by the model. -/
namespace Go.Proofs.Ytolnbkplgnpfjaa
open Go.RowKit

theorem VT.small {a : List (List Int)} (v : VT a) : Small a := by
  have h3 := v.n3
  refine ⟨by omega, fun r hr => ?_⟩
  obtain ⟨k, hk, rfl⟩ := List.mem_iff_getElem.1 hr
  have h1 := v.rows k hk
  rw [← gr_get hk]
  have h2 := h1.1
  have h4 := v.m3
  refine ⟨by omega, fun x hx => ?_⟩
  obtain ⟨j, hj, rfl⟩ := List.mem_iff_getElem.1 hx
  have := h1.2 j hj
  unfold InR at this
  rw [gi_get hj] at this
  omega
/-- The table as the second player has it. -/
def ntab (a : List (List Int)) : List (List Int) := mtab (flip a a.length (gr a 0).length) (flip a a.length (gr a 0).length).length
theorem ntab_len (a : List (List Int)) : (ntab a).length = (gr a 0).length := by unfold ntab; rw [mtab_len, flip_len]
theorem VT.ntab {a : List (List Int)} (v : VT a) : VT (ntab a) := v.flip.minus
theorem VT.ntab_m {a : List (List Int)} (v : VT a) : (gr (Go.Proofs.Ytolnbkplgnpfjaa.ntab a) 0).length = a.length := by
  have h0 := v.m1
  have h1 := flip_len a a.length (gr a 0).length
  unfold Go.Proofs.Ytolnbkplgnpfjaa.ntab
  rw [gr_get (by rw [mtab_len, h1]; exact h0)]
  simp only [mtab, List.getElem_map, List.getElem_range, mrow_len]
  rw [gr_flip h0]; simp
/-- Shares that are best for both. -/
structure BestP (a : List (List Int)) (x y : List Int) : Prop where
  ok : POk a x y
  eq : wlast a x = (- (wlast (ntab a) y).1, (wlast (ntab a) y).2)
theorem wlast_bd {a : List (List Int)} {x : List Int} (v : VT a) (hx : VS x a.length) : (-81000000 ≤ (wlast a x).1 ∧ (wlast a x).1 ≤ 81000000) ∧ 1 ≤ (wlast a x).2 ∧ (wlast a x).2 ≤ 3000 := by
  have h := VT.pbx v hx
  have n3 := v.n3
  have := tot_bd (x := x) (n := a.length) n3 (by have := hx.1; omega) h.x
  exact wst_bd h n3 v.m3 hx.2.2 this.2 _

end Go.Proofs.Ytolnbkplgnpfjaa

/- Some rows and columns of a table, by the model. -/
namespace Go.Proofs.Ytolnbkplgnpfjaa
open Go.RowKit

/-- One number more, appended in a region that draws its order. -/
theorem IU.push2 {wb v ys w w2 w1 x} {gg cap : Nat} (h : IU wb v ys w) (hb : Below w.heap.size w w2)
    (hown : w1.ownsRow wb.heap.size 3 1 (.slice (some ⟨gg, 0, none⟩) (ys.length + 1) cap) (ys.length + 1) (ys.map iv ++ [iv x])) (hgrow : w2.grownBy w1 v.ownBlock) (hlt : gg < w1.heap.size) :
    IU wb (.slice (some ⟨gg, 0, none⟩) (ys.length + 1) cap) (ys ++ [x]) w1 := by
  have hu : ∀ k, v.ownBlock = some k → wb.heap.size ≤ k := fun k hk => (h.bi.own.lt k hk).1
  have hz := h.up.size
  have hz2 := hb.size
  refine ⟨⟨by rw [List.length_append, List.length_singleton, List.map_append]; exact hown, fun k hk => ?_⟩, ?_⟩
  · have : gg = k := by simpa [Value.ownBlock] using hk
    omega
  · exact (below_up h.up hb).grown hgrow (by omega) fun k hk => hu k hk
theorem TN.push2 {wb H v vs xss u ys w w2 w1 x} {gg cap : Nat} (h : TN wb H v vs xss u ys w) (hb : Below w.heap.size w w2)
    (hown : w1.ownsRow H 3 1 (.slice (some ⟨gg, 0, none⟩) (ys.length + 1) cap) (ys.length + 1) (ys.map iv ++ [iv x])) (hgrow : w2.grownBy w1 u.ownBlock) (hlt : gg < w1.heap.size) :
    TN wb H v vs xss (.slice (some ⟨gg, 0, none⟩) (ys.length + 1) cap) (ys ++ [x]) w1 := by
  have hu : ∀ k, u.ownBlock = some k → H ≤ k := fun k hk => (h.bi.own.lt k hk).1
  have hz := h.up.size
  have hz2 := hb.size
  have hlh := h.lh
  have hhs := h.hs
  have hsz := hgrow.size
  have hbelow : ∀ k, k < H → w1.heap[k]? = w.heap[k]? := fun k hk =>
    (hgrow.block k (by omega) (fun e => by have := hu k e.symm; omega)).trans (hb.block k (by omega))
  refine ⟨h.bo.of_blocks fun k _ hk _ => hbelow k hk, ⟨by rw [List.length_append, List.length_singleton, List.map_append]; exact hown, fun k hk => ?_⟩, hlh, by omega, ?_⟩
  · have : gg = k := by simpa [Value.ownBlock] using hk
    omega
  · exact (below_up h.up hb).grown hgrow (by omega) fun k hk => by have := hu k hk; omega
theorem IU.qu {wb v ys w w'} (h : IU wb v ys w) (k : Quiet w w') : IU wb v ys w' := h.next k.below
theorem TN.next {wb H v vs xss u ys w w'} (h : TN wb H v vs xss u ys w) (k : Below w.heap.size w w') : TN wb H v vs xss u ys w' := by
  have hhs := h.hs
  have hz := k.size
  exact ⟨h.bo.of_blocks fun g _ hg _ => k.block g (by omega), (h.bi.below k).mono k.size, h.lh, by omega, below_up h.up k⟩
theorem TN.qu {wb H v vs xss u ys w w'} (h : TN wb H v vs xss u ys w) (k : Quiet w w') : TN wb H v vs xss u ys w' := h.next k.below

/-- Places of a table in a list. -/
structure Pl (w : World) (X : Option Addr) (k c : Nat) (r : Nat → Nat) (n : Nat) : Prop where
  ints : Ints w X k c (lstN r k)
  lt : ∀ p, p < k → r p < n

end Go.Proofs.Ytolnbkplgnpfjaa

