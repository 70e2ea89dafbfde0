/- Texts merged: LiftS H1 N13 N14. -/
import Derived.Test.YtnbkifpmoegaaaaQ12
import Derived.ChangeMaps5
/- An argument that is a string, opened. -/
namespace Go.Proofs.Ytnbkifpmoegaaaa
open Go.ChangeShapes Go.WideShapes Go.ChangeAt Go.RowKit Go.Deep

theorem open_text {H : Type} {enc : TypeId × Value → H} {W : World} {v : Value} {d : DataW H} {p : List MemPlace} {b0 : Nat} (hval : Value.okWide Try.prog W .any b0 9 v)
    (h : DataW.Trod enc Try.prog W 0 (fun _ => true) true 9 v d p) : ∃ s : ByteArray, v = .string s ∧ s.size ≤ maxLen := by
  obtain ⟨s, rfl, _, _, hs⟩ := Go.ChangeMaps.open_string Try.underlying9 hval h
  exact ⟨s, rfl, hs⟩
end Go.Proofs.Ytnbkifpmoegaaaa

/- A row under way: its numbers may be set; shares drawn. -/
namespace Go.Proofs.Ytnbkifpmoegaaaa
open Go.RowKit

theorem BldI.set {lo hi w v xs} (h : BldI lo hi w v xs) {j : Nat} (hj : j < xs.length) (x : Int) :
    ∃ b c, v = .slice (some ⟨b, 0, none⟩) xs.length c ∧ lo ≤ b ∧ b < hi ∧ w.cell? ⟨b, j, none⟩ = some (.int .i64 (gi xs j)) ∧ w.frozen? ⟨b, j, none⟩ = false ∧
      BldI lo hi (w.setCell ⟨b, j, none⟩ (.int .i64 x)) v (xs.set j x) := by
  have hh := h.hi_
  rcases h.own.2 with ⟨_, h0⟩ | ⟨g, cap, cur, rfl, hb, hg, hnc, hcm, hcs, htake⟩
  · omega
  · rw [Nat.mul_one] at htake hcs
    have hB : Blk w g 3 cur := hg
    have hc : cur[j]? = some (.int .i64 (gi xs j)) := by
      rw [← getElem_iv hj, ← htake, List.getElem?_take, if_pos hj]; simp
    refine ⟨g, cap, rfl, hb, hh g rfl, blk_cell hB hc, blk_frozen hB j, ⟨⟨by simp, .inr ⟨g, cap, cur.setIfInBounds j (.int .i64 x), by rw [List.length_set], hb, blk_set hB j _, by rw [List.length_set]; exact hnc, hcm, by simp [hcs], ?_⟩⟩, hh⟩⟩
    rw [List.length_set, Nat.mul_one, Array.toList_setIfInBounds, List.take_set, htake, List.map_set]
    rfl

/-- A row by itself, begun behind the world wb. -/
def SH (w0 wb : World) (g : Nat) (A : Option Addr) (l c p : Nat) (u : Value) (ys : List Int) (w : World) : Prop := TI w0 wb g A l c p wb.heap.size (.slice none 0 0) [] [] u ys w
theorem SH.start {w0 wb g A l c p} (h : Rdr w0 wb g A l c p) : SH w0 wb g A l c p (.slice (some ⟨wb.heap.size, 0, none⟩) 0 0) [] (wb.alloc (.cells #[] 3)) :=
  ⟨h.below_ (below_alloc _ _), Bld.nil _ _ _, by rw [World.size_alloc]; exact BldI.make (Nat.le_refl _), blk_lt h.box, Nat.le_refl _, by simp, grown_of_below (below_alloc _ _)⟩
theorem SH.below {w0 wb g A l c p u ys w w'} (h : SH w0 wb g A l c p u ys w) (k : Below w.heap.size w w') : SH w0 wb g A l c p u ys w' :=
  ⟨h.rd.below_ k, Bld.nil _ _ _, (h.bi.below k).mono k.size, h.gl, h.lh, Nat.le_trans h.hs k.size, grown_below h.up k⟩
theorem SH.one {w0 wb g A l c p p' u ys w w'} (h : SH w0 wb g A l c p u ys w) (hr : Rdr w0 w' g A l c p') (ho : One g w w') : SH w0 wb g A l c p' u ys w' := TI.one h hr ho
theorem SH.set {w0 wb g A l c p u ys w} (h : SH w0 wb g A l c p u ys w) {j : Nat} (hj : j < ys.length) (x : Int) :
    ∃ b cc, u = .slice (some ⟨b, 0, none⟩) ys.length cc ∧ w.cell? ⟨b, j, none⟩ = some (.int .i64 (gi ys j)) ∧ w.frozen? ⟨b, j, none⟩ = false ∧ SH w0 wb g A l c p u (ys.set j x) (w.setCell ⟨b, j, none⟩ (.int .i64 x)) := by
  obtain ⟨b, cc, e, h1, h2, h3, h4, h5⟩ := h.bi.set hj x
  have hgl := h.gl
  have hs : (w.setCell ⟨b, j, none⟩ (.int .i64 x)).heap.size = w.heap.size := by simp [World.setCell]
  refine ⟨b, cc, e, h3, h4, ⟨⟨blk_other h.rd.box (by show g ≠ b; omega) _, h.rd.bytes, h.rd.below.setCell (by show w0.heap.size ≤ b; have := h.rd.lt; omega) _, h.rd.lt, h.rd.small⟩, Bld.nil _ _ _, by rw [hs]; exact h5, h.gl, h.lh, by rw [hs]; exact h.hs, ?_⟩⟩
  exact ⟨h.up.os, h.up.tape, h.up.output, by rw [hs]; exact h.up.size, fun k hk hne => (Below.heap_setCell _ _ _ _ (by show k ≠ b; omega)).trans (h.up.block k hk hne)⟩
def SharesOut (w0 wb : World) (g : Nat) (A : Option Addr) (l c p n : Nat) (e : Ending) (w' : World) : Prop :=
  ∃ Av cv ys p', e = .returned (.slice Av ys.length cv) ∧ ys.length ≤ n + 1 ∧ (∀ x ∈ ys, -1 ≤ x ∧ x ≤ 1001) ∧ SH w0 wb g A l c p' (.slice Av ys.length cv) ys w' ∧ p' ≤ p + 3 * n + 3

end Go.Proofs.Ytnbkifpmoegaaaa

/- Graphs drawn. -/
namespace Go.Proofs.Ytnbkifpmoegaaaa
open Go.RowKit

theorem ownsRow_made1 (w : World) (n : Nat) (hn : n ≤ 100) : (w.alloc (.cells (madeCells #[.int .i64 0] n) 3)).ownsRow w.heap.size 3 1 (.slice (some ⟨w.heap.size, 0, none⟩) n n) n ((List.replicate n 0).map iv) := by
  refine ⟨by simp, .inr ⟨w.heap.size, n, _, rfl, Nat.le_refl _, heap_alloc_new w _, Nat.le_refl _, by unfold maxLen; omega, by simp [madeCells], ?_⟩⟩
  rw [List.take_of_length_le (by simp [madeCells])]
  refine List.ext_getElem (by simp [madeCells]) fun i h1 h2 => ?_
  simp [madeCells, iv, Nat.mod_one]
theorem SH.made {w0 wb g A l c p} (h : Rdr w0 wb g A l c p) (n : Nat) (hn : n ≤ 100) : SH w0 wb g A l c p (.slice (some ⟨wb.heap.size, 0, none⟩) n n) (List.replicate n 0) (wb.alloc (.cells (madeCells #[.int .i64 0] n) 3)) :=
  ⟨h.below_ (below_alloc _ _), Bld.nil _ _ _, ⟨by rw [List.length_replicate]; exact ownsRow_made1 wb n hn, fun k hk => by simp [Value.ownBlock] at hk; simp; omega⟩, blk_lt h.box, Nat.le_refl _, by simp, grown_of_below (below_alloc _ _)⟩
theorem gi_repl0 {n k : Nat} (h : k < n) : gi (List.replicate n 0) k = 0 := by rw [gi_get (by simpa using h)]; simp
theorem pow_bd5 : ∀ n : Nat, n < 6 → 1 ≤ (2 : Int) ^ n ∧ (2 : Int) ^ n ≤ 32 := by decide +kernel
def B32 (ys : List Int) : Prop := ∀ j, j < ys.length → 0 ≤ gi ys j ∧ gi ys j ≤ 32
def B31 (ys : List Int) : Prop := ∀ j, j < ys.length → 0 ≤ gi ys j ∧ gi ys j < 32
theorem or_bd : ∀ a, a < 32 → ∀ b, b < 6 → b < 5 → 0 ≤ bits BinOp.or IntKind.i64 ((a : Nat) : Int) (pwF b) ∧ bits BinOp.or IntKind.i64 ((a : Nat) : Int) (pwF b) < 32 := by decide +kernel
theorem or_bdI {x : Int} (h0 : 0 ≤ x) (h1 : x < 32) {b : Nat} (hb : b < 5) : 0 ≤ bits BinOp.or IntKind.i64 x (pwF b) ∧ bits BinOp.or IntKind.i64 x (pwF b) < 32 := by
  have := or_bd x.toNat (by omega) b (by omega) hb
  rwa [Int.toNat_of_nonneg h0] at this
theorem B31.set {ys : List Int} (h : B31 ys) {j : Nat} {x : Int} (hx : 0 ≤ x ∧ x < 32) : B31 (ys.set j x) := fun i hi => by
  rw [List.length_set] at hi
  by_cases e : i = j
  · subst e; rw [gi_set_eq hi]; exact hx
  · rw [gi_set_ne hi e]; exact h i hi
theorem B31.zero (n : Nat) : B31 (List.replicate n 0) := fun j hj => by rw [List.length_replicate] at hj; rw [gi_repl0 hj]; omega
/-- A list that was drawn, and the reader behind it. -/
structure DG (w0 w : World) (g : Nat) (A : Option Addr) (l c p : Nat) (v : Value) (ys : List Int) (W : World) : Prop where
  rd : Rdr w0 W g A l c p
  ow : ∃ Av cv b, v = .slice Av ys.length cv ∧ OwnI w.heap.size W.heap.size W b Av ys.length cv ys
  gl : g < w.heap.size
  up : w.grownBy W (some g)
theorem SH.dg {w0 w wb g A l c p u ys W} (h : SH w0 wb g A l c p u ys W) (hu : w.grownBy wb (some g)) (hg : g < w.heap.size) (hl : ys.length ≤ 100) (hb : ∀ x ∈ ys, -1000000 ≤ x ∧ x ≤ 1000000) : DG w0 w g A l c p u ys W := by
  obtain ⟨Av, n, cv, b, rfl, rfl, ho, _⟩ := h.bi.owns (by omega) (fun x hx => by have := hb x hx; omega)
  exact ⟨h.rd, ⟨Av, cv, b, rfl, ho.mono hu.size (Nat.le_refl _)⟩, hg, grown_trans hu h.up⟩
def GraphOut (w0 : World) (g : Nat) (A : Option Addr) (l c p : Nat) (w : World) (e : Ending) (w' : World) : Prop :=
  ∃ v ys p', e = .returned v ∧ ys.length ≤ 5 ∧ B32 ys ∧ DG w0 w g A l c p' v ys w' ∧ p' ≤ p + 30
set_option maxRecDepth 1000000 in
set_option maxHeartbeats 6400000 in
theorem someGraph_any (w0 w : World) (g : Nat) (A : Option Addr) (l c p : Nat) (h : Rdr w0 w g A l c p) (hp : p < 900000000) :
    Calls Try.prog 43 #[.pointer (some ⟨g, 0, none⟩)] w (GraphOut w0 g A l c p w) := by
  have hg := blk_lt h.box
  have HC := Lib.hid (one_lit w0 w _ g A l c p w.heap.size 4 [4, 3, 5, 2] h (by omega) (below_alloc w (.cells #[iv 4, iv 3, iv 5, iv 2] 3)) (Nat.le_refl _) (Ints.lit w [4, 3, 5, 2] (by decide) (by decide)) (by omega))
  clear h
  go_enter Try.func43, Try.ntmps43
  go_wp2_with fail
  refine HC.out.mono ?_
  rintro e w1 ⟨x, rfl, hx, hr, hgr⟩
  obtain ⟨n, rfl, hn2, hn5⟩ : ∃ n : Nat, x = (n : Int) ∧ 2 ≤ n ∧ n ≤ 5 := ⟨x.toNat, by simp at hx; omega, by simp at hx; omega, by simp at hx; omega⟩
  have HGR := Lib.hid hgr
  have HR := Lib.hid hr
  have HS0 := Lib.hid (SH.made hr n (by omega))
  have hmk := run_make_row' (P := Try.prog) 23 3 (.int .i64 0) 8 Try.underlying23 Try.info3 rfl .i64 .i64 n (by omega) (by omega)
  have HB0 := Lib.hid (B31.zero n)
  have HL0 : Hid ((List.replicate n (0 : Int)).length = n) := Lib.hid (by simp)
  clear hx hr hgr HC
  go_wp2
  clear hmk
  go_loopw [5] (fun i wr => ∃ (v q : Nat) (ys : List Int), 1 ≤ v ∧ v ≤ n ∧ i = .int .i64 v ∧ q ≤ p + v ∧ ys.length = n ∧ Hid (B31 ys) ∧ Hid (SH w0 w1 g A l c q (.slice (some ⟨w1.heap.size, 0, none⟩) n n) ys wr)) (fun i _ => n - (intOf i).toNat)
  case atStart => exact ⟨1, p + 1, _, by omega, by omega, rfl, by omega, HL0.out, HB0, HS0⟩
  case round =>
    clear HS0 HB0 HL0
    obtain ⟨v, q, ys, hv1, hv, rfl, hq, hyl, HB, HS⟩ := hrel
    by_cases hlt : v < n
    · have HC := Lib.hid (pick_any w0 _ g A l c q v HS.out.rd (by omega))
      go_wp2_with fail
      refine HC.out.mono ?_
      rintro e w3 ⟨k, rfl, hk1, _, hr, z, hw⟩
      have hone := Rdr.one (g := g) wr (.int .i64 (q + 1 : Nat)) z
      rw [← hw] at hone
      obtain ⟨k0, k1⟩ := hk1 (by omega)
      obtain ⟨u, rfl⟩ : ∃ u : Nat, k = (u : Int) := ⟨k.toNat, by omega⟩
      have HS3 := Lib.hid (HS.out.one hr hone)
      have hun : u < n := by omega
      clear hr hone hw hk1 HC HS k0 k1
      go_wp2
      have HPW := Lib.hid (fun W => power_any u W (by omega))
      obtain ⟨b_, c_, e_, r1, r2, HSN⟩ := HS3.out.set (j := v) (by omega) (bits BinOp.or IntKind.i64 (gi (ys) v) (pwF u))
      injection e_ with e_ e2_ e3_
      clear e2_ e3_
      injection e_ with e_
      injection e_ with e_ e2_ e3_
      clear e2_ e3_
      subst e_
      have HSN := Lib.hid HSN
      have hxb := HB.out v (by omega)
      have HB4 := Lib.hid (HB.out.set (j := v) (or_bdI hxb.1 hxb.2 (b := u) (by omega)))
      clear HS3 hxb
      generalize hbx : bits BinOp.or IntKind.i64 (gi (ys) v) (pwF u) = bx_vu at *
      generalize gi (ys) v = gx at *
      generalize pwF u = P at *
      apply region_once (F := fun W => Hid (SH w0 w1 g A l c (q + 1) (.slice (some ⟨w1.heap.size, 0, none⟩) n n) ((ys).set v bx_vu) W))
      · go_region_law (
          (go_simp; go_at_call 73; (with_reducible refine (HPW.out _).mono ?_); rintro e w' ⟨rfl, rfl⟩))
        all_goals exact OnceQ.mk rfl (Lib.hid (by first | exact HSN.out | exact HSN.out.below (Quiet.below ⟨1, rfl⟩)))
      rintro w7_vu HS4
      clear HPW HSN r1 r2 hbx
      go_wp2
      have HPW := Lib.hid (fun W => power_any v W (by omega))
      obtain ⟨b_, c_, e_, r1, r2, HSN⟩ := HS4.out.set (j := u) (by rw [List.length_set]; omega) (bits BinOp.or IntKind.i64 (gi (ys.set v bx_vu) u) (pwF v))
      injection e_ with e_ e2_ e3_
      clear e2_ e3_
      injection e_ with e_
      injection e_ with e_ e2_ e3_
      clear e2_ e3_
      subst e_
      have HSN := Lib.hid HSN
      have hxb := HB4.out u (by rw [List.length_set]; omega)
      have HB5 := Lib.hid (HB4.out.set (j := u) (or_bdI hxb.1 hxb.2 (b := v) (by omega)))
      clear HS4 hxb
      generalize hbx : bits BinOp.or IntKind.i64 (gi (ys.set v bx_vu) u) (pwF v) = bx_uv at *
      generalize gi (ys.set v bx_vu) u = gx at *
      generalize pwF v = P at *
      apply region_once (F := fun W => Hid (SH w0 w1 g A l c (q + 1) (.slice (some ⟨w1.heap.size, 0, none⟩) n n) ((ys.set v bx_vu).set u bx_uv) W))
      · go_region_law (
          (go_simp; go_at_call 73; (with_reducible refine (HPW.out _).mono ?_); rintro e w' ⟨rfl, rfl⟩))
        all_goals exact OnceQ.mk rfl (Lib.hid (by first | exact HSN.out | exact HSN.out.below (Quiet.below ⟨1, rfl⟩)))
      rintro w7_uv HS5
      clear HPW HSN r1 r2 hbx
      go_wp2
      go_roundw
      case rel => exact ⟨v + 1, q + 1, _, by omega, by omega, by go_num, by omega, by rw [List.length_set, List.length_set]; exact hyl, HB5, HS5⟩
      case measure => simp [intOf]; omega
    · obtain rfl : v = n := by omega
      have HC := Lib.hid (pick_any w0 _ g A l c q 4 HS.out.rd (by omega))
      go_wp2_with fail
      refine HC.out.mono ?_
      rintro e w3 ⟨k, rfl, hk1, _, hr, z, hw⟩
      have hone := Rdr.one (g := g) wr (.int .i64 (q + 1 : Nat)) z
      rw [← hw] at hone
      obtain ⟨k0, k1⟩ := hk1 (by omega)
      obtain ⟨t, rfl⟩ : ∃ t : Nat, k = (t : Int) := ⟨k.toNat, by omega⟩
      have HS3 := Lib.hid (HS.out.one hr hone)
      have ht4 : t < 4 := by omega
      clear hr hone hw hk1 HC HS k0 k1
      go_wp2
      generalize hW3 : w3 = W3 at *
      clear hW3
      go_loopw [7] (fun i wr => ∃ (t q2 : Nat) (ys : List Int), t < 4 ∧ i = .int .i64 t ∧ q2 + 2 * t ≤ p + v + 1 + 8 ∧ ys.length = v ∧ Hid (B31 ys) ∧ Hid (SH w0 w1 g A l c q2 (.slice (some ⟨w1.heap.size, 0, none⟩) v v) ys wr)) (fun i _ => (intOf i).toNat)
      case atStart => exact ⟨t, q + 1, ys, ht4, rfl, by omega, hyl, HB, HS3⟩
      case round =>
        clear HS3 HB hyl ys
        obtain ⟨t, q2, ys, ht4, rfl, hq2, hyl, HB, HS⟩ := hrel
        by_cases htz : 0 < t
        · have htz' : (0 : Int) < (t : Int) := by omega
          have HC := Lib.hid (pick_any w0 _ g A l c q2 v HS.out.rd (by omega))
          go_wp2_with fail
          refine HC.out.mono ?_
          rintro e w4 ⟨k, rfl, hk1, _, hr, z, hw⟩
          have hone := Rdr.one (g := g) wr (.int .i64 (q2 + 1 : Nat)) z
          rw [← hw] at hone
          obtain ⟨k0, k1⟩ := hk1 (by omega)
          obtain ⟨a, rfl⟩ : ∃ u : Nat, k = (u : Int) := ⟨k.toNat, by omega⟩
          have HS4 := Lib.hid (HS.out.one hr hone)
          have han : a < v := by omega
          clear hr hone hw hk1 HC HS k0 k1
          have HC := Lib.hid (pick_any w0 _ g A l c (q2 + 1) v HS4.out.rd (by omega))
          go_wp2_with fail
          refine HC.out.mono ?_
          rintro e w3 ⟨k, rfl, hk1, _, hr, z, hw⟩
          have hone := Rdr.one (g := g) w4 (.int .i64 (q2 + 1 + 1 : Nat)) z
          rw [← hw] at hone
          obtain ⟨k0, k1⟩ := hk1 (by omega)
          obtain ⟨u, rfl⟩ : ∃ u : Nat, k = (u : Int) := ⟨k.toNat, by omega⟩
          have HS3 := Lib.hid (HS4.out.one hr hone)
          have hun : u < v := by omega
          clear hr hone hw hk1 HC HS4 k0 k1
          by_cases hne : u = a
          · subst hne
            have hd : ((u : Int) != (u : Int)) = false := by simp
            go_wp2
            go_roundw
            case rel => exact ⟨t - 1, q2 + 1 + 1, ys, by omega, by go_num, by omega, hyl, HB, HS3⟩
            case measure => simp [intOf]; omega
          · have hd : ((u : Int) != (a : Int)) = true := by simp; omega
            go_wp2
            have HPW := Lib.hid (fun W => power_any u W (by omega))
            obtain ⟨b_, c_, e_, r1, r2, HSN⟩ := HS3.out.set (j := a) (by omega) (bits BinOp.or IntKind.i64 (gi (ys) a) (pwF u))
            injection e_ with e_ e2_ e3_
            clear e2_ e3_
            injection e_ with e_
            injection e_ with e_ e2_ e3_
            clear e2_ e3_
            subst e_
            have HSN := Lib.hid HSN
            have hxb := HB.out a (by omega)
            have HB4 := Lib.hid (HB.out.set (j := a) (or_bdI hxb.1 hxb.2 (b := u) (by omega)))
            clear HS3 hxb
            generalize hbx : bits BinOp.or IntKind.i64 (gi (ys) a) (pwF u) = bx_au at *
            generalize gi (ys) a = gx at *
            generalize pwF u = P at *
            apply region_once (F := fun W => Hid (SH w0 w1 g A l c (q2 + 1 + 1) (.slice (some ⟨w1.heap.size, 0, none⟩) v v) ((ys).set a bx_au) W))
            · go_region_law (
                (go_simp; go_at_call 73; (with_reducible refine (HPW.out _).mono ?_); rintro e w' ⟨rfl, rfl⟩))
              all_goals exact OnceQ.mk rfl (Lib.hid (by first | exact HSN.out | exact HSN.out.below (Quiet.below ⟨1, rfl⟩)))
            rintro w7_au HS4
            clear HPW HSN r1 r2 hbx
            go_wp2
            have HPW := Lib.hid (fun W => power_any a W (by omega))
            obtain ⟨b_, c_, e_, r1, r2, HSN⟩ := HS4.out.set (j := u) (by rw [List.length_set]; omega) (bits BinOp.or IntKind.i64 (gi (ys.set a bx_au) u) (pwF a))
            injection e_ with e_ e2_ e3_
            clear e2_ e3_
            injection e_ with e_
            injection e_ with e_ e2_ e3_
            clear e2_ e3_
            subst e_
            have HSN := Lib.hid HSN
            have hxb := HB4.out u (by rw [List.length_set]; omega)
            have HB5 := Lib.hid (HB4.out.set (j := u) (or_bdI hxb.1 hxb.2 (b := a) (by omega)))
            clear HS4 hxb
            generalize hbx : bits BinOp.or IntKind.i64 (gi (ys.set a bx_au) u) (pwF a) = bx_ua at *
            generalize gi (ys.set a bx_au) u = gx at *
            generalize pwF a = P at *
            apply region_once (F := fun W => Hid (SH w0 w1 g A l c (q2 + 1 + 1) (.slice (some ⟨w1.heap.size, 0, none⟩) v v) ((ys.set a bx_au).set u bx_ua) W))
            · go_region_law (
                (go_simp; go_at_call 73; (with_reducible refine (HPW.out _).mono ?_); rintro e w' ⟨rfl, rfl⟩))
              all_goals exact OnceQ.mk rfl (Lib.hid (by first | exact HSN.out | exact HSN.out.below (Quiet.below ⟨1, rfl⟩)))
            rintro w7_ua HS5
            clear HPW HSN r1 r2 hbx
            go_wp2
            go_roundw
            case rel => exact ⟨t - 1, q2 + 1 + 1, _, by omega, by go_num, by omega, by rw [List.length_set, List.length_set]; exact hyl, HB5, HS5⟩
            case measure => simp [intOf]; omega
        · obtain rfl : t = 0 := by omega
          have HC := Lib.hid (pick_any w0 _ g A l c q2 30 HS.out.rd (by omega))
          go_wp2_with fail
          refine HC.out.mono ?_
          rintro e w4 ⟨k, rfl, hk1, _, hr, z, hw⟩
          have hone := Rdr.one (g := g) wr (.int .i64 (q2 + 1 : Nat)) z
          rw [← hw] at hone
          obtain ⟨k0, k1⟩ := hk1 (by omega)
          have HS4 := Lib.hid (HS.out.one hr hone)
          clear hr hone hw hk1 HC HS
          by_cases hk0 : k = 0
          · subst hk0
            have HPW := Lib.hid (fun W => power_any v W (by omega))
            obtain ⟨pb1, pb2⟩ : 0 ≤ pwF v ∧ pwF v ≤ 32 := by rw [pw5 v (by omega)]; have := pow_bd5 v (by omega); omega
            generalize pwF v = P at *
            go_wp2_with fail
            refine (HPW.out _).mono ?_
            rintro e w' ⟨rfl, rfl⟩
            have hgl := HS4.out.gl
            have HS5 := Lib.hid (HS4.out.below (below_alloc w4 (.cells #[iv 0, iv 1, iv P] 3)))
            have HIN := Lib.hid (Ints.lit w4 [0, 1, P] (by simp) (by intro x hx; simp at hx; omega))
            have hgw : g < w4.heap.size := blk_lt HS4.out.rd.box
            have HC := Lib.hid (one_any w0 (w4.alloc (.cells #[iv 0, iv 1, iv P] 3)) g A l c (q2 + 1) _ 3 3 [0, 1, P] HS5.out.rd (by omega) HIN.out (by omega) (fun b' o' e' => by injection e' with e'; injection e' with e' _ _; omega))
            clear HS4 HIN HPW
            go_wp2_with fail
            refine HC.out.mono ?_
            rintro e w5 ⟨x, rfl, hx, hr, ho⟩
            have hx5 : 0 ≤ x ∧ x ≤ 32 := by simp at hx; omega
            have HS6 := Lib.hid (HS5.out.one hr ho)
            clear hx hr ho HC HS5
            obtain ⟨b6, c6, e6, r1, r2, HS7⟩ := HS6.out.set (j := 0) (by omega) x
            injection e6 with e6 e62 e63
            clear e62 e63
            injection e6 with e6
            injection e6 with e6 e62 e63
            clear e62 e63
            subst e6
            have HS7 := Lib.hid HS7
            have HBB := Lib.hid (show B32 (ys.set 0 x) from fun i hi => by
              rw [List.length_set] at hi
              by_cases e : i = 0
              · subst e; rw [gi_set_eq hi]; exact hx5
              · rw [gi_set_ne hi e]; have := HB.out i hi; omega)
            have HOUT := Lib.hid (show GraphOut w0 g A l c p w (.returned (.slice (some ⟨w1.heap.size, 0, none⟩) v v)) (w5.setCell ⟨w1.heap.size, 0, none⟩ (.int .i64 x)) from
              ⟨_, ys.set 0 x, q2 + 1 + 1, rfl, by rw [List.length_set]; omega, HBB.out, HS7.out.dg HGR.out hg (by rw [List.length_set]; omega) (fun y hy => by obtain ⟨i, hi, e⟩ := List.mem_iff_getElem.1 hy; have := HBB.out i hi; rw [gi_get hi, e] at this; omega), by omega⟩)
            clear HS6 HS7 HBB
            go_wp2
            go_ret
            exact HOUT.out
          · have d0 : (k == 0) = false := beq_eq_false_iff_ne.2 hk0
            by_cases hk1 : k = 1
            · subst hk1
              have HR4 := Lib.hid HS4.out.rd
              have hup := HS4.out.up
              have hgl := HS4.out.gl
              have HOUT := Lib.hid (show GraphOut w0 g A l c p w (.returned (.slice (some ⟨w4.heap.size, 0, none⟩) 1 1)) (w4.alloc (.cells #[.int .i64 0] 3)) from
                ⟨_, [0], q2 + 1, rfl, by simp, fun j hj => by obtain rfl : j = 0 := by simp at hj; omega
                                                              simp [gi], ⟨HR4.out.below_ (below_alloc _ _), ⟨some ⟨w4.heap.size, 0, none⟩, 1, w4.heap.size, rfl, ?_⟩, hg, grown_trans HGR.out (grown_below hup (below_alloc _ _))⟩, by omega⟩)
              · go_wp2
                go_ret
                exact HOUT.out
              · have hs := (grown_trans HGR.out hup).size
                exact ⟨Ints.lit w4 [0] (by decide) (by decide), fun _ => ⟨0, rfl, hs, by simp, fun k _ => blk_frozen (blk_new _ _ _) _⟩⟩
            · have d1 : (k == 1) = false := beq_eq_false_iff_ne.2 hk1
              have HOUT := Lib.hid (show GraphOut w0 g A l c p w (.returned (.slice (some ⟨w1.heap.size, 0, none⟩) v v)) w4 from
                ⟨_, ys, q2 + 1, rfl, by omega, fun i hi => by have := HB.out i hi; omega, HS4.out.dg HGR.out hg (by omega) (fun y hy => by obtain ⟨i, hi, e⟩ := List.mem_iff_getElem.1 hy; have := HB.out i hi; rw [gi_get hi, e] at this; omega), by omega⟩)
              clear HS4
              go_wp2
              go_ret
              exact HOUT.out

end Go.Proofs.Ytnbkifpmoegaaaa

/- Draws of graphs; whole graphs. -/
namespace Go.Proofs.Ytnbkifpmoegaaaa
open Go.RowKit

set_option maxHeartbeats 400000 in
theorem lpower_any (n : Nat) (w : World) (hn : n ≤ 17592186044416) : Calls Try.prog 15 #[.int .i64 n] w fun e w' => e = .returned (.int .i64 (pwF n)) ∧ w = w' := by
  go_enter Try.func15, Try.ntmps15
  go_wp2
  go_loop [0, 3] (fun t s => ∃ i k : Nat, i + k = n ∧ t = .int .i64 k ∧ s = .int .i64 (pwF i)) (fun t _ => (intOf t).toNat)
  case atStart => exact ⟨0, n, by omega, rfl, rfl⟩
  case round =>
    obtain ⟨i, k, hik, rfl, rfl⟩ := hrel
    have HS : Hid (pwF (i + 1) = wrap64 (2 * pwF i)) := Lib.hid rfl
    have HI := Lib.hid hik
    have hk1 : k ≤ 17592186044416 := by omega
    clear hik
    by_cases hk : 0 < k
    · have hk' : (0 : Int) < (k : Int) := by omega
      generalize pwF i = v at *
      go_wp2
      go_round
      case rel => exact ⟨i + 1, k - 1, by have := HI.out; omega, by go_num, by rw [HS.out]⟩
      case measure => simp [intOf]; omega
    · obtain rfl : k = 0 := by omega
      go_wp2
      go_ret
      exact ⟨ret_int (congrArg pwF (by have h1 := HI.out; omega)), rfl⟩
/-- The graph of n places that are all neighbours. -/
def kV (n v : Nat) : Int := pwF n - 1 - pwF v
def kL (n : Nat) : List Int := (List.range n).map (kV n)
theorem kL_ok : ((List.range 6).all fun n => decide (n < 2) || ((List.range n).all fun v => decide (0 ≤ gi (kL n) v) && decide (gi (kL n) v ≤ 2 ^ n - 1) && bt (kL n) v v == 0 && (List.range v).all fun u => bt (kL n) v u == bt (kL n) u v) && lnk (kL n) == 2 ^ n - 1) = true := by decide +kernel
theorem kL_len (n : Nat) : (kL n).length = n := by simp [kL]
theorem GR_kL {n : Nat} (h2 : 2 ≤ n) (h5 : n ≤ 5) : GR (kL n) := by
  have t := kL_ok
  simp only [List.all_eq_true, List.mem_range, Bool.and_eq_true, Bool.or_eq_true, decide_eq_true_eq, beq_iff_eq] at t
  have q := (t n (by omega)).resolve_left (by omega)
  refine ⟨⟨fun v hv => ?_, fun v hv => ?_, by rw [kL_len]; exact h2, by rw [kL_len]; exact h5⟩, by rw [kL_len]; exact q.2⟩
  · rw [kL_len] at hv ⊢
    exact ⟨(q.1 v hv).1.1.1, (q.1 v hv).1.1.2⟩
  · rw [kL_len] at hv
    exact ⟨(q.1 v hv).1.2, fun u hu => (q.1 v hv).2 u hu⟩
/-- A graph, or none, that was drawn. -/
def DrawnGr (w : World) (e : Ending) (w' : World) : Prop := ∃ Av n cv ys, e = .returned (.slice Av n cv) ∧ n ≤ 5 ∧ B32 ys ∧ Ints w' Av n cv ys ∧ Below w.heap.size w w'
set_option maxRecDepth 100000 in
set_option maxHeartbeats 800000 in
theorem DrawValidGraph_any (A : Option Addr) (n c : Nat) (w : World) (h : Bytes w A n c) : Calls Try.prog 12 #[.slice A n c] w (DrawnGr w) := by
  have H0 := Lib.hid (newReader_any A n c w h)
  clear h
  go_enter Try.func12, Try.ntmps12
  go_wp2_with fail
  refine H0.out.mono ?_
  rintro e w1 ⟨A1, l, c1, rfl, hl, hr, hs⟩
  have H1 := Lib.hid (someGraph_any w w1 w.heap.size A1 l c1 0 hr (by omega))
  clear hr hl H0
  go_wp2_with fail
  refine H1.out.mono ?_
  rintro e w2 ⟨v, ys, p', rfl, hy5, hb32, hd, hp⟩
  obtain ⟨Av, cv, b, rfl, ho⟩ := hd.ow
  have HO := Lib.hid (show DrawnGr w (.returned (.slice Av ys.length cv)) w2 from ⟨_, _, _, ys, rfl, hy5, hb32, ho.ints, hd.rd.below⟩)
  clear hy5 hb32 hd hp ho H1
  go_wp2
  go_ret
  exact HO.out

end Go.Proofs.Ytnbkifpmoegaaaa

