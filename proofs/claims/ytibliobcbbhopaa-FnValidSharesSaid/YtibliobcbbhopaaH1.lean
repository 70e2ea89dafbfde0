/- A row under way: its numbers may be set; shares drawn. -/
import Derived.Test.YtibliobcbbhopaaR8
import Derived.Test.YtibliobcbbhopaaS1
namespace Go.Proofs.Ytibliobcbbhopaa
open Go.RowKit

theorem BldI.set {lo hi w v xs} (h : BldI lo hi w v xs) {j : Nat} (hj : j < xs.length) (x : Int) :
    ∃ b c, v = .slice (some ⟨b, 0, none⟩) xs.length c ∧ lo ≤ b ∧ b < hi ∧ w.cell? ⟨b, j, none⟩ = some (.int .i64 (gi xs j)) ∧ w.frozen? ⟨b, j, none⟩ = false ∧
      BldI lo hi (w.setCell ⟨b, j, none⟩ (.int .i64 x)) v (xs.set j x) := by
  have hh := h.hi_
  rcases h.own.2 with ⟨_, h0⟩ | ⟨g, cap, cur, rfl, hb, hg, hnc, hcm, hcs, htake⟩
  · omega
  · rw [Nat.mul_one] at htake hcs
    have hB : Blk w g 3 cur := hg
    have hc : cur[j]? = some (.int .i64 (gi xs j)) := by
      rw [← getElem_iv hj, ← htake, List.getElem?_take, if_pos hj]; simp
    refine ⟨g, cap, rfl, hb, hh g rfl, blk_cell hB hc, blk_frozen hB j, ⟨⟨by simp, .inr ⟨g, cap, cur.setIfInBounds j (.int .i64 x), by rw [List.length_set], hb, blk_set hB j _, by rw [List.length_set]; exact hnc, hcm, by simp [hcs], ?_⟩⟩, hh⟩⟩
    rw [List.length_set, Nat.mul_one, Array.toList_setIfInBounds, List.take_set, htake, List.map_set]
    rfl

/-- A row by itself, begun behind the world wb. -/
def SH (w0 wb : World) (g : Nat) (A : Option Addr) (l c p : Nat) (u : Value) (ys : List Int) (w : World) : Prop := TI w0 wb g A l c p wb.heap.size (.slice none 0 0) [] [] u ys w
theorem SH.start {w0 wb g A l c p} (h : Rdr w0 wb g A l c p) : SH w0 wb g A l c p (.slice (some ⟨wb.heap.size, 0, none⟩) 0 0) [] (wb.alloc (.cells #[] 3)) :=
  ⟨h.below_ (below_alloc _ _), Bld.nil _ _ _, by rw [World.size_alloc]; exact BldI.make (Nat.le_refl _), blk_lt h.box, Nat.le_refl _, by simp, grown_of_below (below_alloc _ _)⟩
theorem SH.below {w0 wb g A l c p u ys w w'} (h : SH w0 wb g A l c p u ys w) (k : Below w.heap.size w w') : SH w0 wb g A l c p u ys w' :=
  ⟨h.rd.below_ k, Bld.nil _ _ _, (h.bi.below k).mono k.size, h.gl, h.lh, Nat.le_trans h.hs k.size, grown_below h.up k⟩
theorem SH.one {w0 wb g A l c p p' u ys w w'} (h : SH w0 wb g A l c p u ys w) (hr : Rdr w0 w' g A l c p') (ho : One g w w') : SH w0 wb g A l c p' u ys w' := TI.one h hr ho
theorem SH.set {w0 wb g A l c p u ys w} (h : SH w0 wb g A l c p u ys w) {j : Nat} (hj : j < ys.length) (x : Int) :
    ∃ b cc, u = .slice (some ⟨b, 0, none⟩) ys.length cc ∧ w.cell? ⟨b, j, none⟩ = some (.int .i64 (gi ys j)) ∧ w.frozen? ⟨b, j, none⟩ = false ∧ SH w0 wb g A l c p u (ys.set j x) (w.setCell ⟨b, j, none⟩ (.int .i64 x)) := by
  obtain ⟨b, cc, e, h1, h2, h3, h4, h5⟩ := h.bi.set hj x
  have hgl := h.gl
  have hs : (w.setCell ⟨b, j, none⟩ (.int .i64 x)).heap.size = w.heap.size := by simp [World.setCell]
  refine ⟨b, cc, e, h3, h4, ⟨⟨blk_other h.rd.box (by show g ≠ b; omega) _, h.rd.bytes, h.rd.below.setCell (by show w0.heap.size ≤ b; have := h.rd.lt; omega) _, h.rd.lt, h.rd.small⟩, Bld.nil _ _ _, by rw [hs]; exact h5, h.gl, h.lh, by rw [hs]; exact h.hs, ?_⟩⟩
  exact ⟨h.up.os, h.up.tape, h.up.output, by rw [hs]; exact h.up.size, fun k hk hne => (Below.heap_setCell _ _ _ _ (by show k ≠ b; omega)).trans (h.up.block k hk hne)⟩
def SharesOut (w0 wb : World) (g : Nat) (A : Option Addr) (l c p n : Nat) (e : Ending) (w' : World) : Prop :=
  ∃ Av cv ys p', e = .returned (.slice Av ys.length cv) ∧ ys.length ≤ n + 1 ∧ (∀ x ∈ ys, -1 ≤ x ∧ x ≤ 1001) ∧ SH w0 wb g A l c p' (.slice Av ys.length cv) ys w' ∧ p' ≤ p + 3 * n + 3

set_option maxRecDepth 100000 in
set_option maxHeartbeats 1000000 in
theorem sharesOf_any (w0 w : World) (g : Nat) (A : Option Addr) (l c p n : Nat) (h : Rdr w0 w g A l c p) (hp : p < 900000000) (hn : n ≤ 8) :
    Calls Try.prog 68 #[.pointer (some ⟨g, 0, none⟩), .int .i64 n] w (SharesOut w0 w g A l c p n) := by
  have HS := Lib.hid (SH.start h)
  clear h
  obtain ⟨i0, hi0, hz0, hz1, hz2⟩ := info_parts Try.info_int
  go_enter Try.func68, Try.ntmps68
  go_wp2
  go_loopw [5] (fun u wr => ∃ (ys : List Int) (q : Nat), ys.length ≤ n ∧ q ≤ p + 3 * ys.length ∧ Hid (∀ x ∈ ys, 0 ≤ x ∧ x ≤ 5) ∧ Hid (SH w0 w g A l c q u ys wr)) (fun u _ => n - (match u with | .slice _ k _ => k | _ => 0))
  case atStart => exact ⟨[], p, Nat.zero_le _, by simp, Lib.hid (fun r hr => by simp at hr), HS⟩
  case round =>
    clear HS
    obtain ⟨ys, q, hyn, hq, HR, HI⟩ := hrel
    obtain ⟨Au, cu, rfl⟩ := HI.out.bi.form
    by_cases hlt : ys.length < n
    · have HC := Lib.hid (pick_any w0 _ g A l c q 6 HI.out.rd (by omega))
      go_wp2_with fail
      refine HC.out.mono ?_
      rintro e w2 ⟨k, rfl, hk1, _, hr, z, hw⟩
      have hone := Rdr.one (g := g) wr (.int .i64 (q + 1 : Nat)) z
      rw [← hw] at hone
      obtain ⟨k0, k1⟩ := hk1 (by omega)
      have HI2 := Lib.hid (HI.out.one hr hone)
      clear hr hone hw hk1 HC HI
      have HC := Lib.hid (pick_any w0 _ g A l c (q + 1) 3 HI2.out.rd (by omega))
      go_wp2_with fail
      refine HC.out.mono ?_
      rintro e w3 ⟨m, rfl, hk1, _, hr, z, hw⟩
      have hone := Rdr.one (g := g) w2 (.int .i64 (q + 1 + 1 : Nat)) z
      rw [← hw] at hone
      obtain ⟨m0, m1⟩ := hk1 (by omega)
      have HI3 := Lib.hid (HI2.out.one hr hone)
      clear hr hone hw hk1 HC HI2
      have HI4 := Lib.hid (HI3.out.below (below_alloc w3 (.cells #[iv k, iv m, iv 0, iv 1] 3)))
      have HIN := Lib.hid (Ints.lit w3 [k, m, 0, 1] (by simp) (by intro x hx; simp at hx; omega))
      have hgw : g < w3.heap.size := blk_lt HI3.out.rd.box
      have HC := Lib.hid (one_any w0 (w3.alloc (.cells #[iv k, iv m, iv 0, iv 1] 3)) g A l c (q + 1 + 1) _ 4 4 [k, m, 0, 1] HI4.out.rd (by omega) HIN.out (by omega) (fun b' o' e' => by injection e' with e'; injection e' with e' _ _; omega))
      clear HI3 HIN
      go_wp2_with fail
      refine HC.out.mono ?_
      rintro e w4 ⟨x, rfl, hx, hr, ho⟩
      have hx5 : 0 ≤ x ∧ x ≤ 5 := by simp at hx; omega
      have HI5 := Lib.hid (HI4.out.one hr ho)
      clear hx hr ho HC HI4
      have hb := below_alloc w4 (.cells #[iv x] 3)
      have HB4 := Lib.hid (HI5.out.bi.below hb).own
      have HN := Lib.hid (cell_one_new w4 (iv x) 3)
      have hHs := HI5.out.hs
      clear hb
      go_wp2_with (at_builtin; refine wpList_append_own_at _ rfl _ _ 30 rfl w.heap.size 3 i0 (.int .i64 0) 1 8 Try.underlying30 hi0 hz0 hz1 hz2 rfl (by decide) _ ys.length (ys.map iv) rfl HB4.out ⟨w4.heap.size, 0, none⟩ 1 1 [iv x] rfl rfl ?c1 ?c2 ?c3 ?c4 ?c5 ?_)
      case c1 => exact HN.out
      case c2 => intro u hu; simp at hu; subst hu; rfl
      case c3 => unfold maxLen; omega
      case c4 => omega
      case c5 => simp; omega
      intro v' w5 hown' hgrow _ hat
      have HI6 := Lib.hid (show SH w0 w g A l c (q + 1 + 1 + 1) v' (ys ++ [x]) w5 from TI.push HI5.out hown' hgrow (by simpa using hat))
      clear HB4 HN hown' hgrow hat HI5
      obtain ⟨Au2, cu2, rfl⟩ := HI6.out.bi.form
      go_wp2
      go_roundw
      case rel => exact ⟨ys ++ [x], q + 1 + 1 + 1, by simp; omega, by simp; omega, Lib.hid (fun x hx => by
        rcases List.mem_append.1 hx with hx | hx
        · exact HR.out x hx
        · simp at hx; omega), HI6⟩
      case measure => simp; omega
    · have hnx : ys.length = n := by omega
      have HNX := Lib.hid hnx
      have HZB1 : Hid (∀ x ∈ ys, -1 ≤ x ∧ x ≤ 1001) := Lib.hid (fun x hx => by have := HR.out x hx; omega)
      rw [hnx] at hq
      have hyn8 : ys.length ≤ 8 := by omega
      generalize hN : ys.length = N at *
      have HYL := Lib.hid hN
      clear hN
      clear hnx
      by_cases hn0 : n = 0
      · have HZL := HYL
        have HZB := HZB1
        have HT := HI
        clear HI HZB1
        have HC := Lib.hid (pick_any w0 _ g A l c q 40 HT.out.rd (by omega))
        go_wp2_with fail
        refine HC.out.mono ?_
        rintro e w6 ⟨kk, rfl, hk1, _, hr, z, hw⟩
        have hone := Rdr.one (g := g) wr (.int .i64 (q + 1 : Nat)) z
        rw [← hw] at hone
        obtain ⟨k0, k1⟩ := hk1 (by omega)
        have HT2 := Lib.hid (SH.one HT.out hr hone)
        clear hr hone hw hk1 HC HT
        by_cases e0 : kk = 0
        · subst e0
          have hb := below_alloc w6 (.cells #[iv 1] 3)
          have HB4 := Lib.hid (HT2.out.bi.below hb).own
          have HN := Lib.hid (cell_one_new w6 (iv 1) 3)
          have hHs := HT2.out.hs
          have HZ := Lib.hid HZL.out
          rw [HZL.out] at HB4
          clear hb
          go_wp2_with (at_builtin; refine wpList_append_own_at _ rfl _ _ 30 rfl w.heap.size 3 i0 (.int .i64 0) 1 8 Try.underlying30 hi0 hz0 hz1 hz2 rfl (by decide) _ N (ys.map iv) rfl HB4.out ⟨w6.heap.size, 0, none⟩ 1 1 [iv 1] rfl rfl ?c1 ?c2 ?c3 ?c4 ?c5 ?_)
          case c1 => exact HN.out
          case c2 => intro u hu; simp at hu; subst hu; rfl
          case c3 => unfold maxLen; omega
          case c4 => omega
          case c5 => simp; omega
          intro v' w7 hown' hgrow _ hat
          rw [← HZ.out] at hown'
          have HI6 := Lib.hid (show SH w0 w g A l c (q + 1) v' (ys ++ [1]) w7 from TI.push HT2.out hown' hgrow (by simpa [Value.ownBlock] using hat))
          clear HB4 HN hown' hgrow hat HT2
          obtain ⟨Au2, cu2, rfl⟩ := HI6.out.bi.form
          go_wp2
          go_ret
          exact ⟨Au2, cu2, ys ++ [1], q + 1, rfl, by rw [List.length_append, HZ.out]; simp; omega, fun x hx => by
            rcases List.mem_append.1 hx with hx | hx
            · exact HZB.out x hx
            · simp at hx; omega, HI6.out, by omega⟩
        · by_cases e1 : kk = 1
          · subst e1
            go_wp2
            go_ret
            exact ⟨_, cu, ys, q + 1, by rw [HZL.out]; rfl, by rw [HZL.out]; omega, HZB.out, by rw [HZL.out]; exact HT2.out, by omega⟩
          · go_wp2
            go_ret
            exact ⟨_, cu, ys, q + 1, by rw [HZL.out]; rfl, by rw [HZL.out]; omega, HZB.out, by rw [HZL.out]; exact HT2.out, by omega⟩
      · have HSO := Lib.hid (show SumOk ys from ⟨by rw [HYL.out]; omega, fun j hj => by have := HR.out _ (gi_mem hj); omega⟩)
        obtain ⟨A', n', c', g', e, -, ho, -⟩ := HI.out.bi.owns (by rw [HYL.out]; omega) (fun x hx => by have := HR.out x hx; omega)
        injection e with e1 e2 e3
        subst e1
        subst e2
        subst e3
        have HC := Lib.hid (sum_any _ _ _ ys _ ho.ints HSO.out)
        clear ho
        go_wp2_with fail
        refine HC.out.mono ?_
        rintro e w3 ⟨rfl, qq, rfl⟩
        have HI2 := Lib.hid (HI.out.below (below_drewN (Below.refl _ _) qq))
        clear HC HI
        by_cases hs0 : tot ys = 0
        · have hs0' : (tot ys == 0) = true := by simpa using hs0
          have HC := Lib.hid (pick_any w0 _ g A l c q n HI2.out.rd (by omega))
          clear hs0
          go_wp2_with fail
          refine HC.out.mono ?_
          rintro e w5 ⟨k, rfl, hk1, _, hr, z, hw⟩
          have hone := Rdr.one (g := g) (wr.drewN qq) (.int .i64 (q + 1 : Nat)) z
          rw [← hw] at hone
          obtain ⟨k0, k1⟩ := hk1 (by omega)
          have HI3 := Lib.hid (HI2.out.one hr hone)
          clear hr hone hw hk1 HC HI2
          obtain ⟨k, rfl⟩ := Int.eq_ofNat_of_zero_le k0
          have hkl : k < ys.length := by rw [HYL.out, HNX.out]; omega
          obtain ⟨b0, cc0, e, hc0, hf0, hset⟩ := HI3.out.set (j := k) hkl 1
          injection e with e1 e2 e3
          subst e1
          have HT := Lib.hid hset
          have HZL := Lib.hid (show (ys.set k 1).length = N by rw [List.length_set, HYL.out])
          have HZB : Hid (∀ x ∈ ys.set k 1, -1 ≤ x ∧ x ≤ 1001) := Lib.hid (fun y hy => by
            rcases List.mem_or_eq_of_mem_set hy with hy | rfl
            · exact HZB1.out y hy
            · omega)
          clear hset HI3 e2 e3 HZB1
          generalize ys.set k 1 = zs at *
          go_wp2_with fail
          clear hc0 hf0
          generalize (some (⟨b0, 0, none⟩ : Addr)) = Au at *
          have HC := Lib.hid (pick_any w0 _ g A l c (q + 1) 40 HT.out.rd (by omega))
          go_wp2_with fail
          refine HC.out.mono ?_
          rintro e w6 ⟨kk, rfl, hk1, _, hr, z, hw⟩
          have hone := Rdr.one (g := g) (w5.setCell ⟨b0, k, none⟩ (.int .i64 1)) (.int .i64 ((q + 1) + 1 : Nat)) z
          rw [← hw] at hone
          obtain ⟨k0, k1⟩ := hk1 (by omega)
          have HT2 := Lib.hid (SH.one HT.out hr hone)
          clear hr hone hw hk1 HC HT
          by_cases e0 : kk = 0
          · subst e0
            have hb := below_alloc w6 (.cells #[iv 1] 3)
            have HB4 := Lib.hid (HT2.out.bi.below hb).own
            have HN := Lib.hid (cell_one_new w6 (iv 1) 3)
            have hHs := HT2.out.hs
            have HZ := Lib.hid HZL.out
            rw [HZL.out] at HB4
            clear hb
            go_wp2_with (at_builtin; refine wpList_append_own_at _ rfl _ _ 30 rfl w.heap.size 3 i0 (.int .i64 0) 1 8 Try.underlying30 hi0 hz0 hz1 hz2 rfl (by decide) _ N (zs.map iv) rfl HB4.out ⟨w6.heap.size, 0, none⟩ 1 1 [iv 1] rfl rfl ?c1 ?c2 ?c3 ?c4 ?c5 ?_)
            case c1 => exact HN.out
            case c2 => intro u hu; simp at hu; subst hu; rfl
            case c3 => unfold maxLen; omega
            case c4 => omega
            case c5 => simp; omega
            intro v' w7 hown' hgrow _ hat
            rw [← HZ.out] at hown'
            have HI6 := Lib.hid (show SH w0 w g A l c ((q + 1) + 1) v' (zs ++ [1]) w7 from TI.push HT2.out hown' hgrow (by simpa [Value.ownBlock] using hat))
            clear HB4 HN hown' hgrow hat HT2
            obtain ⟨Au2, cu2, rfl⟩ := HI6.out.bi.form
            go_wp2
            go_ret
            exact ⟨Au2, cu2, zs ++ [1], (q + 1) + 1, rfl, by rw [List.length_append, HZ.out]; simp; omega, fun x hx => by
              rcases List.mem_append.1 hx with hx | hx
              · exact HZB.out x hx
              · simp at hx; omega, HI6.out, by omega⟩
          · by_cases e1 : kk = 1
            · subst e1
              have HI4 := Lib.hid (HT2.out.below (below_alloc w6 (.cells #[iv 1001, iv (-1), iv 1000] 3)))
              have HIN := Lib.hid (Ints.lit w6 [1001, -1, 1000] (by simp) (by intro x hx; simp at hx; omega))
              have hgw : g < w6.heap.size := blk_lt HT2.out.rd.box
              have HC := Lib.hid (one_any w0 (w6.alloc (.cells #[iv 1001, iv (-1), iv 1000] 3)) g A l c ((q + 1) + 1) _ 3 3 [1001, -1, 1000] HI4.out.rd (by omega) HIN.out (by omega) (fun b' o' e' => by injection e' with e'; injection e' with e' _ _; omega))
              clear HIN HT2
              go_wp2_with fail
              refine HC.out.mono ?_
              rintro e w7 ⟨x, rfl, hx, hr, ho⟩
              have hx5 : -1 ≤ x ∧ x ≤ 1001 := by simp at hx; omega
              have HI5 := Lib.hid (HI4.out.one hr ho)
              clear hx hr ho HC HI4
              obtain ⟨b0, cc0, e, hc0, hf0, hset⟩ := HI5.out.set (j := 0) (by rw [HZL.out]; omega) x
              injection e with e1 e2 e3
              subst e1
              have HI6 := Lib.hid hset
              clear hset HI5 e2 e3
              go_wp2
              go_ret
              exact ⟨_, cu, zs.set 0 x, (q + 1) + 1 + 1, by rw [List.length_set, HZL.out]; rfl, by rw [List.length_set, HZL.out]; omega, fun y hy => by
                rcases List.mem_or_eq_of_mem_set hy with hy | rfl
                · exact HZB.out y hy
                · exact hx5, by rw [List.length_set, HZL.out]; exact HI6.out, by omega⟩
            · go_wp2
              go_ret
              exact ⟨_, cu, zs, (q + 1) + 1, by rw [HZL.out]; rfl, by rw [HZL.out]; omega, HZB.out, by rw [HZL.out]; exact HT2.out, by omega⟩
        · have hs0' : (tot ys == 0) = false := by simpa using hs0
          have HZL := HYL
          have HZB := HZB1
          have HT := HI2
          clear HI2 HZB1 hs0
          have HC := Lib.hid (pick_any w0 _ g A l c q 40 HT.out.rd (by omega))
          go_wp2_with fail
          refine HC.out.mono ?_
          rintro e w6 ⟨kk, rfl, hk1, _, hr, z, hw⟩
          have hone := Rdr.one (g := g) (wr.drewN qq) (.int .i64 (q + 1 : Nat)) z
          rw [← hw] at hone
          obtain ⟨k0, k1⟩ := hk1 (by omega)
          have HT2 := Lib.hid (SH.one HT.out hr hone)
          clear hr hone hw hk1 HC HT
          by_cases e0 : kk = 0
          · subst e0
            have hb := below_alloc w6 (.cells #[iv 1] 3)
            have HB4 := Lib.hid (HT2.out.bi.below hb).own
            have HN := Lib.hid (cell_one_new w6 (iv 1) 3)
            have hHs := HT2.out.hs
            have HZ := Lib.hid HZL.out
            rw [HZL.out] at HB4
            clear hb
            go_wp2_with (at_builtin; refine wpList_append_own_at _ rfl _ _ 30 rfl w.heap.size 3 i0 (.int .i64 0) 1 8 Try.underlying30 hi0 hz0 hz1 hz2 rfl (by decide) _ N (ys.map iv) rfl HB4.out ⟨w6.heap.size, 0, none⟩ 1 1 [iv 1] rfl rfl ?c1 ?c2 ?c3 ?c4 ?c5 ?_)
            case c1 => exact HN.out
            case c2 => intro u hu; simp at hu; subst hu; rfl
            case c3 => unfold maxLen; omega
            case c4 => omega
            case c5 => simp; omega
            intro v' w7 hown' hgrow _ hat
            rw [← HZ.out] at hown'
            have HI6 := Lib.hid (show SH w0 w g A l c (q + 1) v' (ys ++ [1]) w7 from TI.push HT2.out hown' hgrow (by simpa [Value.ownBlock] using hat))
            clear HB4 HN hown' hgrow hat HT2
            obtain ⟨Au2, cu2, rfl⟩ := HI6.out.bi.form
            go_wp2
            go_ret
            exact ⟨Au2, cu2, ys ++ [1], q + 1, rfl, by rw [List.length_append, HZ.out]; simp; omega, fun x hx => by
              rcases List.mem_append.1 hx with hx | hx
              · exact HZB.out x hx
              · simp at hx; omega, HI6.out, by omega⟩
          · by_cases e1 : kk = 1
            · subst e1
              have HI4 := Lib.hid (HT2.out.below (below_alloc w6 (.cells #[iv 1001, iv (-1), iv 1000] 3)))
              have HIN := Lib.hid (Ints.lit w6 [1001, -1, 1000] (by simp) (by intro x hx; simp at hx; omega))
              have hgw : g < w6.heap.size := blk_lt HT2.out.rd.box
              have HC := Lib.hid (one_any w0 (w6.alloc (.cells #[iv 1001, iv (-1), iv 1000] 3)) g A l c (q + 1) _ 3 3 [1001, -1, 1000] HI4.out.rd (by omega) HIN.out (by omega) (fun b' o' e' => by injection e' with e'; injection e' with e' _ _; omega))
              clear HIN HT2
              go_wp2_with fail
              refine HC.out.mono ?_
              rintro e w7 ⟨x, rfl, hx, hr, ho⟩
              have hx5 : -1 ≤ x ∧ x ≤ 1001 := by simp at hx; omega
              have HI5 := Lib.hid (HI4.out.one hr ho)
              clear hx hr ho HC HI4
              obtain ⟨b0, cc0, e, hc0, hf0, hset⟩ := HI5.out.set (j := 0) (by rw [HZL.out]; omega) x
              injection e with e1 e2 e3
              subst e1
              have HI6 := Lib.hid hset
              clear hset HI5 e2 e3
              go_wp2
              go_ret
              exact ⟨_, cu, ys.set 0 x, q + 1 + 1, by rw [List.length_set, HZL.out]; rfl, by rw [List.length_set, HZL.out]; omega, fun y hy => by
                rcases List.mem_or_eq_of_mem_set hy with hy | rfl
                · exact HZB.out y hy
                · exact hx5, by rw [List.length_set, HZL.out]; exact HI6.out, by omega⟩
            · go_wp2
              go_ret
              exact ⟨_, cu, ys, q + 1, by rw [HZL.out]; rfl, by rw [HZL.out]; omega, HZB.out, by rw [HZL.out]; exact HT2.out, by omega⟩
end Go.Proofs.Ytibliobcbbhopaa
