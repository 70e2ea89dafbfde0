/- Texts merged: M4 M5. -/
import Derived.Test.YtffbofkjefjlpaaQ4
import Derived.Deep.RegionHeldLaw
/- Machines drawn. -/
namespace Go.Proofs.Ytffbofkjefjlpaa
open Go.RowKit

theorem own_form {W : World} {base n : Nat} {e : TypeId} {v : Value} {xs : List Value} (h : W.ownsRow base e 1 v n xs) : ∃ A n' c, v = .slice A n' c := by
  rcases h.2 with ⟨rfl, _⟩ | ⟨g, cap, cur, rfl, _⟩
  · exact ⟨_, _, _, rfl⟩
  · exact ⟨_, _, _, rfl⟩
structure R6m (w0 w : World) (g : Nat) (A : Option Addr) (l c p0 q : Nat) (v : Value) (xs0 : List Int) (G : Nat → Nat) (ys : List (List Int)) (L : Array Bool) (u15 u16 u17 u18 u19 u20 u21 : Value) (pp : Nat) (ub : Value) (uu : Value) (xx : List Int) (x3 : Int) (q19 : Nat) (Au : Option Addr) (nu : Nat) (cu : Nat) (W : World) : Prop where
  sm : SMp w0 w g A l c pp q ub v uu v xx G ys W
  hp : On L 3 ∨ pp = p0
  hp1 : pp ≤ p0 + 1
  hx : On L 5 ∨ (xx = xs0 ∧ ub = uu)
  h0 : On L 0 → u15 = .pointer (some ⟨q, 0, none⟩)
  h1 : On L 1 → On L 5 ∨ u16 = uu
  h2 : On L 2 → u17 = .pointer (some ⟨g, 0, none⟩)
  h3 : On L 3 → u18 = .int .i64 x3 ∧ 0 ≤ x3 ∧ x3 < 2
  h4 : On L 4 → On L 3 ∧ (On L 5 ∨ (u19 = .slice (some ⟨q19, 0, none⟩) 1 1 ∧ Blk W q19 3 #[iv x3]))
  h5 : On L 5 → On L 3 ∧ (u20 = uu ∧ xx = xs0 ++ [x3])
  h6 : On L 6 → u21 = .pointer (some ⟨q, 0, none⟩)
  h7 : On L 7 → On L 5 ∧ ub = uu
  l5 : On L 5 → On L 1
  hf : On L 5 → uu = .slice Au nu cu
theorem R6m.up {w0 w g A l c p0 q v xs0 G ys L u15 u16 u17 u18 u19 u20 u21 pp ub uu xx x3 q19 Au nu cu W W'} (Hy : R6m w0 w g A l c p0 q v xs0 G ys L u15 u16 u17 u18 u19 u20 u21 pp ub uu xx x3 q19 Au nu cu W) (k : Below W.heap.size W W') : R6m w0 w g A l c p0 q v xs0 G ys L u15 u16 u17 u18 u19 u20 u21 pp ub uu xx x3 q19 Au nu cu W' :=
  ⟨Hy.sm.next k, Hy.hp, Hy.hp1, Hy.hx, Hy.h0, Hy.h1, Hy.h2, Hy.h3, fun o => let ⟨a, b⟩ := (Hy.h4 o); ⟨a, b.imp id (fun ⟨a, b⟩ => ⟨a, blk_below b k⟩)⟩, Hy.h5, Hy.h6, Hy.h7, Hy.l5, Hy.hf⟩
structure R7m (w0 w : World) (g : Nat) (A : Option Addr) (l c p0 q n : Nat) (u : Value) (xs : List Int) (G0 : Nat → Nat) (ys0 : List (List Int)) (L : Array Bool) (u22 u23 u24 u25 u26 u27 u28 u29 u30 u31 u32 u33 : Value) (pp : Nat) (vb : Value) (vv : Value) (GG : Nat → Nat) (yy : List (List Int)) (x1 : Int) (x2 : Int) (q30 : Nat) (q31 : Nat) (Au : Option Addr) (nu : Nat) (cu : Nat) (W : World) : Prop where
  sm : SMp w0 w g A l c pp q u vb u vv xs GG yy W
  hp : On L 4 ∨ pp = p0
  hp1 : On L 7 ∨ pp ≤ p0 + 1
  hp2 : pp ≤ p0 + 2
  hx : On L 10 ∨ (yy = ys0 ∧ GG = G0 ∧ vb = vv)
  h0 : On L 0 → u22 = .pointer (some ⟨q, 1, none⟩)
  h1 : On L 1 → On L 10 ∨ u23 = vv
  h2 : On L 2 → u24 = .pointer (some ⟨g, 0, none⟩)
  h3 : On L 3 → u25 = .int .i64 n
  h4 : On L 4 → u26 = .int .i64 x1 ∧ 0 ≤ x1 ∧ x1 < n
  h5 : On L 5 → u27 = .pointer (some ⟨g, 0, none⟩)
  h6 : On L 6 → u28 = .int .i64 n
  h7 : On L 7 → On L 4 ∧ (u29 = .int .i64 x2 ∧ 0 ≤ x2 ∧ x2 < n)
  h8 : On L 8 → On L 7 ∧ (On L 10 ∨ (u30 = .slice (some ⟨q30, 0, none⟩) 2 2 ∧ Blk W q30 3 #[iv x1, iv x2] ∧ Newer q30 q u vv GG yy.length))
  h9 : On L 9 → On L 8 ∧ (On L 10 ∨ (u31 = .slice (some ⟨q31, 0, none⟩) 1 1 ∧ Blk W q31 22 #[.slice (some ⟨q30, 0, none⟩) 2 2]))
  h10 : On L 10 → On L 7 ∧ (u32 = vv ∧ yy = ys0 ++ [[x1, x2]])
  h11 : On L 11 → u33 = .pointer (some ⟨q, 1, none⟩)
  h12 : On L 12 → On L 10 ∧ vb = vv
  l10 : On L 10 → On L 1 ∧ On L 9
  hf : On L 10 → vv = .slice Au nu cu
theorem R7m.up {w0 w g A l c p0 q n u xs G0 ys0 L u22 u23 u24 u25 u26 u27 u28 u29 u30 u31 u32 u33 pp vb vv GG yy x1 x2 q30 q31 Au nu cu W W'} (Hy : R7m w0 w g A l c p0 q n u xs G0 ys0 L u22 u23 u24 u25 u26 u27 u28 u29 u30 u31 u32 u33 pp vb vv GG yy x1 x2 q30 q31 Au nu cu W) (k : Below W.heap.size W W') : R7m w0 w g A l c p0 q n u xs G0 ys0 L u22 u23 u24 u25 u26 u27 u28 u29 u30 u31 u32 u33 pp vb vv GG yy x1 x2 q30 q31 Au nu cu W' :=
  ⟨Hy.sm.next k, Hy.hp, Hy.hp1, Hy.hp2, Hy.hx, Hy.h0, Hy.h1, Hy.h2, Hy.h3, Hy.h4, Hy.h5, Hy.h6, Hy.h7, fun o => let ⟨a, b⟩ := (Hy.h8 o); ⟨a, b.imp id (fun ⟨a, b, d⟩ => ⟨a, blk_below b k, d⟩)⟩, fun o => let ⟨a, b⟩ := (Hy.h9 o); ⟨a, b.imp id (fun ⟨a, b⟩ => ⟨a, blk_below b k⟩)⟩, Hy.h10, Hy.h11, Hy.h12, Hy.l10, Hy.hf⟩
structure R14m (w0 w : World) (g : Nat) (A : Option Addr) (l c p0 q N bv cv : Nat) (u v : Value) (xs : List Int) (G : Nat → Nat) (ys0 : List (List Int)) (L : Array Bool) (u51 u52 u53 u54 u55 u56 u57 u58 : Value) (pp : Nat) (yy : List (List Int)) (x7 : Int) (q56 : Nat) (W : World) : Prop where
  sm : SMp w0 w g A l c pp q u v u v xs G yy W
  hp : On L 6 ∨ pp ≤ p0
  hp1 : pp ≤ p0 + 1
  hx : yy.length = N
  h0 : On L 0 → u51 = .pointer (some ⟨q, 1, none⟩)
  h1 : On L 1 → u52 = .slice (some ⟨bv, 0, none⟩) N cv
  h2 : On L 2 → u53 = .pointer (some ⟨bv, 0, none⟩)
  h3 : On L 3 → u54 = .slice (some ⟨G 0, 0, none⟩) 2 2
  h4 : On L 4 → u55 = .pointer (some ⟨g, 0, none⟩)
  h5 : On L 5 → On L 6 ∨ (u56 = .slice (some ⟨q56, 0, none⟩) 2 2 ∧ g < q56 ∧ Blk W q56 3 #[iv (-1), iv 4])
  h6 : On L 6 → u57 = .int .i64 x7 ∧ -1 ≤ x7 ∧ x7 ≤ 4
  h7 : On L 7 → u58 = .pointer (some ⟨G 0, 0, none⟩)
theorem R14m.up {w0 w g A l c p0 q N bv cv u v xs G ys0 L u51 u52 u53 u54 u55 u56 u57 u58 pp yy x7 q56 W W'} (Hy : R14m w0 w g A l c p0 q N bv cv u v xs G ys0 L u51 u52 u53 u54 u55 u56 u57 u58 pp yy x7 q56 W) (k : Below W.heap.size W W') : R14m w0 w g A l c p0 q N bv cv u v xs G ys0 L u51 u52 u53 u54 u55 u56 u57 u58 pp yy x7 q56 W' :=
  ⟨Hy.sm.next k, Hy.hp, Hy.hp1, Hy.hx, Hy.h0, Hy.h1, Hy.h2, Hy.h3, Hy.h4, fun o => (Hy.h5 o).imp id (fun ⟨a, b, d⟩ => ⟨a, b, blk_below d k⟩), Hy.h6, Hy.h7⟩
/-- A machine that the reader drew. -/
def SomeM (w0 : World) (g : Nat) (A : Option Addr) (l c p : Nat) (w : World) (e : Ending) (w' : World) : Prop :=
  ∃ A1 c1 b1 B1 d1 b2 xs ys n p', e = .returned (.agg #[.slice A1 n c1, .slice B1 n d1]) ∧ OwnI w.heap.size w'.heap.size w' b1 A1 n c1 xs ∧ OwnR w.heap.size w'.heap.size w' b2 B1 n d1 ys ∧
    1 ≤ n ∧ n ≤ 4 ∧ Rdr w0 w' g A l c p' ∧ p' ≤ p + 20 ∧ w.grownBy w' (some g)
theorem SMp.done {w0 w w1 : World} {g l c p p' q n : Nat} {A : Option Addr} {u v : Value} {xs : List Int} {G : Nat → Nat} {ys : List (List Int)} {W : World} (h : SMp w0 w1 g A l c p' q u v u v xs G ys W) (hB : w.heap.size < w1.heap.size) (hg : g < w.heap.size) (hup : w.grownBy w1 (some g))
    (_ : Blk w1 w.heap.size 28 #[.slice none 0 0, .slice none 0 0]) (hn : xs.length = n) (hm : ys.length = n) (h1 : 1 ≤ n) (h4 : n ≤ 4) (hp : p' ≤ p + 20) :
    SomeM w0 g A l c p w (.returned (.agg #[u, v])) ((W.setCell ⟨w.heap.size, 0, none⟩ u).setCell ⟨w.heap.size, 1, none⟩ v) := by
  obtain ⟨A1, c1, b1, B1, d1, b2, e1, e2, o1, o2⟩ := h.owns (by omega) (by omega)
  have keep : ∀ k, k ≠ w.heap.size → ((W.setCell ⟨w.heap.size, 0, none⟩ u).setCell ⟨w.heap.size, 1, none⟩ v).heap[k]? = W.heap[k]? := fun k hk => (Below.heap_setCell _ _ _ _ hk).trans (Below.heap_setCell _ _ _ _ hk)
  have hsz : ((W.setCell ⟨w.heap.size, 0, none⟩ u).setCell ⟨w.heap.size, 1, none⟩ v).heap.size = W.heap.size := by simp [World.setCell]
  have hlt := h.rd.lt
  have hup2 := grown_trans hup h.up
  refine ⟨A1, c1, b1, B1, d1, b2, xs, ys, n, p', by rw [e1, e2, hn, hm], ?_, ?_, h1, h4, ⟨(keep g (by omega)).trans h.rd.box, h.rd.bytes, (h.rd.below.setCell (by show w0.heap.size ≤ w.heap.size; omega) _).setCell (by show w0.heap.size ≤ w.heap.size; omega) _, h.rd.lt, h.rd.small⟩, hp,
    ⟨hup2.os, hup2.tape, hup2.output, by rw [hsz]; exact hup2.size, fun k hk hne => (keep k (by omega)).trans (hup2.block k hk hne)⟩⟩
  · rw [hn] at o1
    rw [hsz]
    exact (o1.of_block (fun hp => keep _ (by obtain ⟨_, _, a, _, _⟩ := o1.own hp; omega))).mono (Nat.le_of_lt hB) (Nat.le_refl _)
  · rw [hm] at o2
    rw [hsz]
    exact (o2.of_blocks (fun b hb _ _ => keep b (by omega))).mono (Nat.le_of_lt hB) (Nat.le_refl _)
set_option maxRecDepth 100000 in
set_option maxHeartbeats 1600000 in
theorem someMoore_any (w0 w : World) (g : Nat) (A : Option Addr) (l c p : Nat) (h : Rdr w0 w g A l c p) (hp : p < 800000000) :
    Calls Try.prog 66 #[.pointer (some ⟨g, 0, none⟩)] w (SomeM w0 g A l c p w) := by
  have HR := Lib.hid (h.below_ (below_alloc w (.cells #[.slice none 0 0, .slice none 0 0] 28)))
  have HK := Lib.hid (blk_new w 28 #[.slice none 0 0, .slice none 0 0])
  have HB := Lib.hid (grown_of_below (g := g) (below_alloc w (.cells #[.slice none 0 0, .slice none 0 0] 28)))
  have hgw := blk_lt h.box
  obtain ⟨i0, hi0, hz0, hz1, hz2⟩ := info_parts Try.info_int
  obtain ⟨j0, hj0, hy0, hy1, hy2⟩ := info_parts Try.info22
  clear h
  have H1 := Lib.hid (one_lit w0 (w.alloc (.cells #[.slice none 0 0, .slice none 0 0] 28)) _ g A l c (p) (w.alloc (.cells #[.slice none 0 0, .slice none 0 0] 28)).heap.size 5 [2, 3, 1, 4, 2] HR.out (by omega) (below_alloc (w.alloc (.cells #[.slice none 0 0, .slice none 0 0] 28)) (.cells #[iv 2, iv 3, iv 1, iv 4, iv 2] 3)) (Nat.le_refl _) (Ints.lit (w.alloc (.cells #[.slice none 0 0, .slice none 0 0] 28)) [2, 3, 1, 4, 2] (by decide) (by decide)) (by omega))
  simp only [World.size_alloc] at H1
  go_enter Try.func66, Try.ntmps66
  go_wp2_with fail
  refine H1.out.mono ?_
  rintro e w1 ⟨x, rfl, hx, hr, hgr⟩
  have hx1 : 1 ≤ x ∧ x ≤ 4 := by simp at hx; omega
  obtain ⟨n, rfl⟩ := Int.eq_ofNat_of_zero_le (show 0 ≤ x by omega)
  have hn1 : 1 ≤ n := by omega
  have hn4 : n ≤ 4 := by omega
  have HR1 := Lib.hid hr
  have HG1 := Lib.hid (grown_trans HB.out hgr)
  have HK1 := Lib.hid (show Blk w1 w.heap.size 28 #[.slice none 0 0, .slice none 0 0] from (hgr.block _ (blk_lt HK.out) (fun e => by injection e; omega)).trans HK.out)
  have hwz := blk_lt HK1.out
  clear hx hx1 hr hgr H1 HR HK HB
  have HS0 := Lib.hid (SMp.start HR1.out)
  go_wp2_with fail
  clear HR1
  generalize hWm : (w1.alloc (.cells #[.slice none 0 0, .slice none 0 0] 28)) = Wm at *
  clear hWm
  generalize hq : w1.heap.size = q at *
  have HQ := Lib.hid hq
  clear hq
  go_loopw [5] (fun i wr => ∃ (k p' : Nat) (u v : Value) (xs : List Int) (G : Nat → Nat) (ys : List (List Int)), k ≤ n ∧ i = .int .i64 k ∧ p' ≤ p + 1 + 3 * k ∧ Hid (xs.length = k ∧ ys.length = k) ∧ Hid (SMp w0 w1 g A l c p' q u v u v xs G ys wr)) (fun i _ => n - (intOf i).toNat)
  case atStart => exact ⟨0, p + 1, _, _, [], _, [], Nat.zero_le _, rfl, by omega, Lib.hid ⟨rfl, rfl⟩, HS0⟩
  case round =>
    clear HS0
    obtain ⟨k, p', u, v, xs, G, ys, hk, rfl, hpp', HLEN, HS⟩ := hrel
    by_cases hlt : k < n
    · have hxl : xs.length ≤ 3 := by rw [HLEN.out.1]; omega
      have hyl : ys.length ≤ 3 := by rw [HLEN.out.2]; omega
      go_wp2
      refine wp_region_invF (rs := [0, 1, 2, 3, 4, 5, 6, 7]) [15, 16, 17, 18, 19, 20, 21] (fun L us W => ∃ u15 u16 u17 u18 u19 u20 u21 pp ub uu xx x3 q19 Au nu cu, us = [u15, u16, u17, u18, u19, u20, u21] ∧ R6m w0 w1 g A l c p' q v xs G ys L u15 u16 u17 u18 u19 u20 u21 pp ub uu xx x3 q19 Au nu cu W) (by kernel_rfl) ?_ (by kernel_rfl) (by kernel_rfl) ?_ ?_
      · refine ⟨[u15, u16, u17, u18, u19, u20, u21], ?_, u15, u16, u17, u18, u19, u20, u21, p', u, u, xs, 0, 0, none, 0, 0, rfl, ?_⟩
        · simp only [frmL, Act.put, List.setIfInBounds_toArray, List.set_cons_zero, List.set_cons_succ]
        exact ⟨HS.out.next (Quiet.below (B := wr.heap.size) ⟨1, rfl⟩), .inr rfl, by omega, .inr ⟨rfl, rfl⟩, fun o => o.not_start.elim, fun o => o.not_start.elim, fun o => o.not_start.elim, fun o => o.not_start.elim, fun o => o.not_start.elim, fun o => o.not_start.elim, fun o => o.not_start.elim, fun o => o.not_start.elim, fun o => o.not_start.elim, fun o => o.not_start.elim⟩
      · refine StepsI.cons (i := 0) (ws := []) rfl (by kernel_rfl) (fun L a W hI hno hon hw K hK => ?_) ?_
        · obtain ⟨_, rfl, u15, u16, u17, u18, u19, u20, u21, pp, ub, uu, xx, x3, q19, Au, nu, cu, rfl, H⟩ := hI
          simp only [List.getElem_toArray, List.getElem_cons_zero]
          simp only [frmL, Act.put, List.setIfInBounds_toArray, List.set_cons_zero, List.set_cons_succ]
          go_simp
          have HN := H
          refine hK.out _ _ ⟨[.pointer (some ⟨q, 0, none⟩), u16, u17, u18, u19, u20, u21], ?_, .pointer (some ⟨q, 0, none⟩), u16, u17, u18, u19, u20, u21, pp, ub, uu, xx, x3, q19, Au, nu, cu, rfl, ?_⟩
          · simp only [frmL, Act.put, List.setIfInBounds_toArray, List.set_cons_zero, List.set_cons_succ]
          · exact ⟨HN.sm, HN.hp.imp On.old id, HN.hp1, HN.hx.imp On.old id, fun _ => rfl, fun o => (HN.h1 (o.of_set (by decide))).imp On.old id, fun o => HN.h2 (o.of_set (by decide)), fun o => HN.h3 (o.of_set (by decide)), fun o => let ⟨a, b⟩ := HN.h4 (o.of_set (by decide)); ⟨a.old, b.imp On.old id⟩, fun o => (HN.h5 (o.of_set (by decide))).imp On.old id, fun o => HN.h6 (o.of_set (by decide)), fun o => (HN.h7 (o.of_set (by decide))).imp On.old id, fun o => (HN.l5 (o.of_set (by decide))).old, fun o => HN.hf (o.of_set (by decide))⟩
        refine StepsI.cons (i := 1) (ws := [0]) rfl (by kernel_rfl) (fun L a W hI hno hon hw K hK => ?_) ?_
        · obtain ⟨_, rfl, u15, u16, u17, u18, u19, u20, u21, pp, ub, uu, xx, x3, q19, Au, nu, cu, rfl, H⟩ := hI
          simp only [List.getElem_toArray, List.getElem_cons_zero, List.getElem_cons_succ]
          obtain rfl := H.h0 (hw 0 (by simp))
          have HUB := Lib.hid (H.hx.resolve_left (fun o => hno (H.l5 o))).2
          simp only [frmL, Act.put, List.setIfInBounds_toArray, List.set_cons_zero, List.set_cons_succ]
          have c0 := blk_cell H.sm.box (i := 0) rfl
          go_simp
          have HN := H
          refine hK.out _ _ ⟨[.pointer (some ⟨q, 0, none⟩), ub, u17, u18, u19, u20, u21], ?_, .pointer (some ⟨q, 0, none⟩), ub, u17, u18, u19, u20, u21, pp, ub, uu, xx, x3, q19, Au, nu, cu, rfl, ?_⟩
          · simp only [frmL, Act.put, List.setIfInBounds_toArray, List.set_cons_zero, List.set_cons_succ]
          · exact ⟨HN.sm, HN.hp.imp On.old id, HN.hp1, HN.hx.imp On.old id, fun o => HN.h0 (o.of_set (by decide)), fun _ => .inr HUB.out, fun o => HN.h2 (o.of_set (by decide)), fun o => HN.h3 (o.of_set (by decide)), fun o => let ⟨a, b⟩ := HN.h4 (o.of_set (by decide)); ⟨a.old, b.imp On.old id⟩, fun o => (HN.h5 (o.of_set (by decide))).imp On.old id, fun o => HN.h6 (o.of_set (by decide)), fun o => (HN.h7 (o.of_set (by decide))).imp On.old id, fun _ => hon, fun o => HN.hf (o.of_set (by decide))⟩
        refine StepsI.cons (i := 2) (ws := []) rfl (by kernel_rfl) (fun L a W hI hno hon hw K hK => ?_) ?_
        · obtain ⟨_, rfl, u15, u16, u17, u18, u19, u20, u21, pp, ub, uu, xx, x3, q19, Au, nu, cu, rfl, H⟩ := hI
          simp only [List.getElem_toArray, List.getElem_cons_zero, List.getElem_cons_succ]
          simp only [frmL, Act.put, List.setIfInBounds_toArray, List.set_cons_zero, List.set_cons_succ]
          go_simp
          have HN := H
          refine hK.out _ _ ⟨[u15, u16, .pointer (some ⟨g, 0, none⟩), u18, u19, u20, u21], ?_, u15, u16, .pointer (some ⟨g, 0, none⟩), u18, u19, u20, u21, pp, ub, uu, xx, x3, q19, Au, nu, cu, rfl, ?_⟩
          · simp only [frmL, Act.put, List.setIfInBounds_toArray, List.set_cons_zero, List.set_cons_succ]
          · exact ⟨HN.sm, HN.hp.imp On.old id, HN.hp1, HN.hx.imp On.old id, fun o => HN.h0 (o.of_set (by decide)), fun o => (HN.h1 (o.of_set (by decide))).imp On.old id, fun _ => rfl, fun o => HN.h3 (o.of_set (by decide)), fun o => let ⟨a, b⟩ := HN.h4 (o.of_set (by decide)); ⟨a.old, b.imp On.old id⟩, fun o => (HN.h5 (o.of_set (by decide))).imp On.old id, fun o => HN.h6 (o.of_set (by decide)), fun o => (HN.h7 (o.of_set (by decide))).imp On.old id, fun o => (HN.l5 (o.of_set (by decide))).old, fun o => HN.hf (o.of_set (by decide))⟩
        refine StepsI.cons (i := 3) (ws := [2]) rfl (by kernel_rfl) (fun L a W hI hno hon hw K hK => ?_) ?_
        · obtain ⟨_, rfl, u15, u16, u17, u18, u19, u20, u21, pp, ub, uu, xx, x3, q19, Au, nu, cu, rfl, H⟩ := hI
          simp only [List.getElem_toArray, List.getElem_cons_zero, List.getElem_cons_succ]
          obtain rfl := H.h2 (hw 2 (by simp))
          have hpp9 := Nat.le_of_eq (H.hp.resolve_left hno)
          simp only [frmL, Act.put, List.setIfInBounds_toArray, List.set_cons_zero, List.set_cons_succ]
          go_simp
          go_wp2_with (go_at_call 84; (with_reducible refine (pick_any w0 W g A l c pp 2 H.sm.rd (by omega)).mono ?_); rintro e w9 ⟨x9, rfl, hk1, _, hr, z, hw⟩; have HW := Lib.hid hw; have HK1 := Lib.hid hk1; have HR := Lib.hid hr; clear hw hk1 hr)
          have hone := Rdr.one (g := g) W (.int .i64 (pp + 1 : Nat)) z
          rw [← HW.out] at hone
          obtain ⟨k0, k1⟩ := HK1.out (by omega)
          have HN := H
          refine hK.out _ _ ⟨[u15, u16, .pointer (some ⟨g, 0, none⟩), .int .i64 x9, u19, u20, u21], ?_, u15, u16, .pointer (some ⟨g, 0, none⟩), .int .i64 x9, u19, u20, u21, pp + 1, ub, uu, xx, x9, q19, Au, nu, cu, rfl, ?_⟩
          · simp only [frmL, Act.put, List.setIfInBounds_toArray, List.set_cons_zero, List.set_cons_succ]
          · exact ⟨H.sm.one HR.out hone, .inl hon, by omega, HN.hx.imp On.old id, fun o => HN.h0 (o.of_set (by decide)), fun o => (HN.h1 (o.of_set (by decide))).imp On.old id, fun o => HN.h2 (o.of_set (by decide)), fun _ => ⟨rfl, k0, k1⟩, fun o => absurd (H.h4 (o.of_set (by decide))).1 hno, fun o => absurd (H.h5 (o.of_set (by decide))).1 hno, fun o => HN.h6 (o.of_set (by decide)), fun o => (HN.h7 (o.of_set (by decide))).imp On.old id, fun o => (HN.l5 (o.of_set (by decide))).old, fun o => HN.hf (o.of_set (by decide))⟩
        refine StepsI.cons (i := 4) (ws := [3]) rfl (by kernel_rfl) (fun L a W hI hno hon hw K hK => ?_) ?_
        · obtain ⟨_, rfl, u15, u16, u17, u18, u19, u20, u21, pp, ub, uu, xx, x3, q19, Au, nu, cu, rfl, H⟩ := hI
          simp only [List.getElem_toArray, List.getElem_cons_zero, List.getElem_cons_succ]
          obtain ⟨e3, hx30, hx31⟩ := H.h3 (hw 3 (by simp))
          subst e3
          simp only [frmL, Act.put, List.setIfInBounds_toArray, List.set_cons_zero, List.set_cons_succ]
          go_simp
          have HN := H.up (below_alloc W (.cells #[.int .i64 x3] 3))
          refine hK.out _ _ ⟨[u15, u16, u17, .int .i64 x3, .slice (some ⟨W.heap.size, 0, none⟩) 1 1, u20, u21], ?_, u15, u16, u17, .int .i64 x3, .slice (some ⟨W.heap.size, 0, none⟩) 1 1, u20, u21, pp, ub, uu, xx, x3, W.heap.size, Au, nu, cu, rfl, ?_⟩
          · simp only [frmL, Act.put, List.setIfInBounds_toArray, List.set_cons_zero, List.set_cons_succ]
          · exact ⟨HN.sm, HN.hp.imp On.old id, HN.hp1, HN.hx.imp On.old id, fun o => HN.h0 (o.of_set (by decide)), fun o => (HN.h1 (o.of_set (by decide))).imp On.old id, fun o => HN.h2 (o.of_set (by decide)), fun o => HN.h3 (o.of_set (by decide)), fun _ => ⟨(hw 3 (by simp)).old, .inr ⟨rfl, blk_new W 3 #[iv x3]⟩⟩, fun o => (HN.h5 (o.of_set (by decide))).imp On.old id, fun o => HN.h6 (o.of_set (by decide)), fun o => (HN.h7 (o.of_set (by decide))).imp On.old id, fun o => (HN.l5 (o.of_set (by decide))).old, fun o => HN.hf (o.of_set (by decide))⟩
        refine StepsI.cons (i := 5) (ws := [1, 4, 3]) rfl (by kernel_rfl) (fun L a W hI hno hon hw K hK => ?_) ?_
        · obtain ⟨_, rfl, u15, u16, u17, u18, u19, u20, u21, pp, ub, uu, xx, x3, q19, Au, nu, cu, rfl, H⟩ := hI
          simp only [List.getElem_toArray, List.getElem_cons_zero, List.getElem_cons_succ]
          have e16 := (H.h1 (hw 1 (by simp))).resolve_left hno
          obtain ⟨e19, hb19⟩ := (H.h4 (hw 4 (by simp))).2.resolve_left hno
          have hx3 := (H.h3 (hw 3 (by simp))).2
          have hxx := (H.hx.resolve_left hno).1.symm
          subst hxx
          simp only [frmL, Act.put, List.setIfInBounds_toArray, List.set_cons_zero, List.set_cons_succ]
          rw [if_pos (by rfl)]
          refine wp_append_lies W _ _ _ rfl (q + 1) 3 i0 _ 1 8 Try.underlying22 hi0 hz0 hz1 hz2 rfl (by omega) uu xs.length (xs.map iv) (by exact e16) H.sm.bi ⟨q19, 0, none⟩ 1 1 [iv x3] (by exact e19) (by rfl) (World.news_of_block (w := W) (cs := #[iv x3]) (t := 3) (fr := (0, 0)) hb19) (by simp [Value.oneCell', iv]) (by omega) (by unfold maxLen; omega) (by omega) (by have := blk_lt H.sm.box; omega) W.heap.size rfl ?_
          intro gg cap w9 hown1 hgrow hat hlt1
          simp only [Act.put, List.setIfInBounds_toArray, List.set_cons_zero, List.set_cons_succ]
          have HN := H
          refine hK.out _ _ ⟨[u15, u16, u17, u18, u19, .slice (some ⟨gg, 0, none⟩) (xs.length + 1) cap, u21], ?_, u15, u16, u17, u18, u19, .slice (some ⟨gg, 0, none⟩) (xs.length + 1) cap, u21, pp, ub, .slice (some ⟨gg, 0, none⟩) (xs.length + 1) cap, xs ++ [x3], x3, q19, some ⟨gg, 0, none⟩, xs.length + 1, cap, rfl, ?_⟩
          · simp only [frmL, Act.put, List.setIfInBounds_toArray, List.set_cons_zero, List.set_cons_succ]
          · exact ⟨H.sm.pushU (by omega) hown1 hgrow hat, HN.hp.imp On.old id, HN.hp1, .inl hon, fun o => HN.h0 (o.of_set (by decide)), fun _ => .inl hon, fun o => HN.h2 (o.of_set (by decide)), fun o => HN.h3 (o.of_set (by decide)), fun o => ⟨(H.h4 (o.of_set (by decide))).1.old, .inl hon⟩, fun _ => ⟨(hw 3 (by simp)).old, rfl, rfl⟩, fun o => HN.h6 (o.of_set (by decide)), fun o => absurd (H.h7 (o.of_set (by decide))).1 hno, fun _ => (hw 1 (by simp)).old, fun _ => rfl⟩
        refine StepsI.cons (i := 6) (ws := [0, 1, 2, 3, 4, 5]) rfl (by kernel_rfl) (fun L a W hI hno hon hw K hK => ?_) ?_
        · obtain ⟨_, rfl, u15, u16, u17, u18, u19, u20, u21, pp, ub, uu, xx, x3, q19, Au, nu, cu, rfl, H⟩ := hI
          simp only [List.getElem_toArray, List.getElem_cons_zero, List.getElem_cons_succ]
          simp only [frmL, Act.put, List.setIfInBounds_toArray, List.set_cons_zero, List.set_cons_succ]
          go_simp
          have HN := H
          refine hK.out _ _ ⟨[u15, u16, u17, u18, u19, u20, .pointer (some ⟨q, 0, none⟩)], ?_, u15, u16, u17, u18, u19, u20, .pointer (some ⟨q, 0, none⟩), pp, ub, uu, xx, x3, q19, Au, nu, cu, rfl, ?_⟩
          · simp only [frmL, Act.put, List.setIfInBounds_toArray, List.set_cons_zero, List.set_cons_succ]
          · exact ⟨HN.sm, HN.hp.imp On.old id, HN.hp1, HN.hx.imp On.old id, fun o => HN.h0 (o.of_set (by decide)), fun o => (HN.h1 (o.of_set (by decide))).imp On.old id, fun o => HN.h2 (o.of_set (by decide)), fun o => HN.h3 (o.of_set (by decide)), fun o => let ⟨a, b⟩ := HN.h4 (o.of_set (by decide)); ⟨a.old, b.imp On.old id⟩, fun o => (HN.h5 (o.of_set (by decide))).imp On.old id, fun _ => rfl, fun o => (HN.h7 (o.of_set (by decide))).imp On.old id, fun o => (HN.l5 (o.of_set (by decide))).old, fun o => HN.hf (o.of_set (by decide))⟩
        refine StepsI.cons (i := 7) (ws := [6, 5, 5, 0, 1, 2, 3, 4, 5]) rfl (by kernel_rfl) (fun L a W hI hno hon hw K hK => ?_) ?_
        · obtain ⟨_, rfl, u15, u16, u17, u18, u19, u20, u21, pp, ub, uu, xx, x3, q19, Au, nu, cu, rfl, H⟩ := hI
          simp only [List.getElem_toArray, List.getElem_cons_zero, List.getElem_cons_succ]
          obtain rfl := H.h6 (hw 6 (by simp))
          have e9 := H.hf (hw 5 (by simp))
          subst e9
          obtain rfl := (H.h5 (hw 5 (by simp))).2.1
          simp only [frmL, Act.put, List.setIfInBounds_toArray, List.set_cons_zero, List.set_cons_succ]
          have c0 := blk_cell H.sm.box (i := 0) rfl
          have f0 := blk_frozen H.sm.box 0
          go_simp
          have HN := H
          refine hK.out _ _ ⟨[u15, u16, u17, u18, u19, .slice Au nu cu, .pointer (some ⟨q, 0, none⟩)], ?_, u15, u16, u17, u18, u19, .slice Au nu cu, .pointer (some ⟨q, 0, none⟩), pp, .slice Au nu cu, .slice Au nu cu, xx, x3, q19, Au, nu, cu, rfl, ?_⟩
          · simp only [frmL, Act.put, List.setIfInBounds_toArray, List.set_cons_zero, List.set_cons_succ]
          · exact ⟨H.sm.setBox 0 (.slice Au nu cu), HN.hp.imp On.old id, HN.hp1, .inl (hw 5 (by simp)).old, fun o => HN.h0 (o.of_set (by decide)), fun _ => .inl (hw 5 (by simp)).old, fun o => HN.h2 (o.of_set (by decide)), fun o => HN.h3 (o.of_set (by decide)), fun o => ⟨(H.h4 (o.of_set (by decide))).1.old, .inl (hw 5 (by simp)).old⟩, fun o => (HN.h5 (o.of_set (by decide))).imp On.old id, fun o => HN.h6 (o.of_set (by decide)), fun _ => ⟨(hw 5 (by simp)).old, rfl⟩, fun o => (HN.l5 (o.of_set (by decide))).old, fun o => HN.hf (o.of_set (by decide))⟩
        exact StepsI.nil
      · rintro L us W hL ⟨u15, u16, u17, u18, u19, u20, u21, pp, ub, uu, xx, x3, q19, Au, nu, cu, rfl, H⟩
        have HS1 := Lib.hid H.sm
        have hx5 := (H.h5 (hL 5 (by simp))).2.2
        have hx7 := (H.h7 (hL 7 (by simp))).2
        have hx3 := (H.h3 (hL 3 (by simp))).2
        have hpp := H.hp1
        subst hx5
        obtain rfl : ub = uu := hx7
        clear H hL HS
        obtain ⟨p6, hp6⟩ : ∃ p6, p6 = pp := ⟨_, rfl⟩
        subst hp6
        obtain ⟨xs2, hxs2⟩ : ∃ xs2, xs2 = xs ++ [x3] := ⟨_, rfl⟩
        rw [← hxs2] at HS1
        have HLEN2 := Lib.hid (show xs2.length = k + 1 by rw [hxs2, List.length_append, HLEN.out.1]; rfl)
        clear hxs2
        simp only [frmL, Act.put, List.setIfInBounds_toArray, List.set_cons_zero, List.set_cons_succ]
        go_wp2
        refine wp_region_invF (rs := [0, 1, 2, 3, 4, 5, 6, 7, 8, 9, 10, 11, 12]) [22, 23, 24, 25, 26, 27, 28, 29, 30, 31, 32, 33] (fun L us W => ∃ u22 u23 u24 u25 u26 u27 u28 u29 u30 u31 u32 u33 pp vb vv GG yy x1 x2 q30 q31 Au nu cu, us = [u22, u23, u24, u25, u26, u27, u28, u29, u30, u31, u32, u33] ∧ R7m w0 w1 g A l c p6 q n ub xs2 G ys L u22 u23 u24 u25 u26 u27 u28 u29 u30 u31 u32 u33 pp vb vv GG yy x1 x2 q30 q31 Au nu cu W) (by kernel_rfl) ?_ (by kernel_rfl) (by kernel_rfl) ?_ ?_
        · refine ⟨[u22, u23, u24, u25, u26, u27, u28, u29, u30, u31, u32, u33], ?_, u22, u23, u24, u25, u26, u27, u28, u29, u30, u31, u32, u33, p6, v, v, G, ys, 0, 0, 0, 0, none, 0, 0, rfl, ?_⟩
          · simp only [frmL, Act.put, List.setIfInBounds_toArray, List.set_cons_zero, List.set_cons_succ]
          exact ⟨HS1.out.next (Quiet.below (B := W.heap.size) ⟨1, rfl⟩), .inr rfl, .inr (by omega), by omega, .inr ⟨rfl, rfl, rfl⟩, fun o => o.not_start.elim, fun o => o.not_start.elim, fun o => o.not_start.elim, fun o => o.not_start.elim, fun o => o.not_start.elim, fun o => o.not_start.elim, fun o => o.not_start.elim, fun o => o.not_start.elim, fun o => o.not_start.elim, fun o => o.not_start.elim, fun o => o.not_start.elim, fun o => o.not_start.elim, fun o => o.not_start.elim, fun o => o.not_start.elim, fun o => o.not_start.elim⟩
        · refine StepsI.cons (i := 0) (ws := []) rfl (by kernel_rfl) (fun L a W hI hno hon hw K hK => ?_) ?_
          · obtain ⟨_, rfl, u22, u23, u24, u25, u26, u27, u28, u29, u30, u31, u32, u33, pp, vb, vv, GG, yy, x1, x2, q30, q31, Au, nu, cu, rfl, H⟩ := hI
            simp only [List.getElem_toArray, List.getElem_cons_zero]
            simp only [frmL, Act.put, List.setIfInBounds_toArray, List.set_cons_zero, List.set_cons_succ]
            go_simp
            have HN := H
            refine hK.out _ _ ⟨[.pointer (some ⟨q, 1, none⟩), u23, u24, u25, u26, u27, u28, u29, u30, u31, u32, u33], ?_, .pointer (some ⟨q, 1, none⟩), u23, u24, u25, u26, u27, u28, u29, u30, u31, u32, u33, pp, vb, vv, GG, yy, x1, x2, q30, q31, Au, nu, cu, rfl, ?_⟩
            · simp only [frmL, Act.put, List.setIfInBounds_toArray, List.set_cons_zero, List.set_cons_succ]
            · exact ⟨HN.sm, HN.hp.imp On.old id, HN.hp1.imp On.old id, HN.hp2, HN.hx.imp On.old id, fun _ => rfl, fun o => (HN.h1 (o.of_set (by decide))).imp On.old id, fun o => HN.h2 (o.of_set (by decide)), fun o => HN.h3 (o.of_set (by decide)), fun o => HN.h4 (o.of_set (by decide)), fun o => HN.h5 (o.of_set (by decide)), fun o => HN.h6 (o.of_set (by decide)), fun o => (HN.h7 (o.of_set (by decide))).imp On.old id, fun o => let ⟨a, b⟩ := HN.h8 (o.of_set (by decide)); ⟨a.old, b.imp On.old id⟩, fun o => let ⟨a, b⟩ := HN.h9 (o.of_set (by decide)); ⟨a.old, b.imp On.old id⟩, fun o => (HN.h10 (o.of_set (by decide))).imp On.old id, fun o => HN.h11 (o.of_set (by decide)), fun o => (HN.h12 (o.of_set (by decide))).imp On.old id, fun o => let ⟨a, b⟩ := HN.l10 (o.of_set (by decide)); ⟨a.old, b.old⟩, fun o => HN.hf (o.of_set (by decide))⟩
          refine StepsI.cons (i := 1) (ws := [0]) rfl (by kernel_rfl) (fun L a W hI hno hon hw K hK => ?_) ?_
          · obtain ⟨_, rfl, u22, u23, u24, u25, u26, u27, u28, u29, u30, u31, u32, u33, pp, vb, vv, GG, yy, x1, x2, q30, q31, Au, nu, cu, rfl, H⟩ := hI
            simp only [List.getElem_toArray, List.getElem_cons_zero, List.getElem_cons_succ]
            obtain rfl := H.h0 (hw 0 (by simp))
            have HVB := Lib.hid (H.hx.resolve_left (fun o => hno (H.l10 o).1)).2.2
            simp only [frmL, Act.put, List.setIfInBounds_toArray, List.set_cons_zero, List.set_cons_succ]
            have c0 := blk_cell H.sm.box (i := 1) rfl
            go_simp
            have HN := H
            refine hK.out _ _ ⟨[.pointer (some ⟨q, 1, none⟩), vb, u24, u25, u26, u27, u28, u29, u30, u31, u32, u33], ?_, .pointer (some ⟨q, 1, none⟩), vb, u24, u25, u26, u27, u28, u29, u30, u31, u32, u33, pp, vb, vv, GG, yy, x1, x2, q30, q31, Au, nu, cu, rfl, ?_⟩
            · simp only [frmL, Act.put, List.setIfInBounds_toArray, List.set_cons_zero, List.set_cons_succ]
            · exact ⟨HN.sm, HN.hp.imp On.old id, HN.hp1.imp On.old id, HN.hp2, HN.hx.imp On.old id, fun o => HN.h0 (o.of_set (by decide)), fun _ => .inr HVB.out, fun o => HN.h2 (o.of_set (by decide)), fun o => HN.h3 (o.of_set (by decide)), fun o => HN.h4 (o.of_set (by decide)), fun o => HN.h5 (o.of_set (by decide)), fun o => HN.h6 (o.of_set (by decide)), fun o => (HN.h7 (o.of_set (by decide))).imp On.old id, fun o => let ⟨a, b⟩ := HN.h8 (o.of_set (by decide)); ⟨a.old, b.imp On.old id⟩, fun o => let ⟨a, b⟩ := HN.h9 (o.of_set (by decide)); ⟨a.old, b.imp On.old id⟩, fun o => (HN.h10 (o.of_set (by decide))).imp On.old id, fun o => HN.h11 (o.of_set (by decide)), fun o => (HN.h12 (o.of_set (by decide))).imp On.old id, fun o => absurd (H.l10 (o.of_set (by decide))).1 hno, fun o => HN.hf (o.of_set (by decide))⟩
          refine StepsI.cons (i := 2) (ws := []) rfl (by kernel_rfl) (fun L a W hI hno hon hw K hK => ?_) ?_
          · obtain ⟨_, rfl, u22, u23, u24, u25, u26, u27, u28, u29, u30, u31, u32, u33, pp, vb, vv, GG, yy, x1, x2, q30, q31, Au, nu, cu, rfl, H⟩ := hI
            simp only [List.getElem_toArray, List.getElem_cons_zero, List.getElem_cons_succ]
            simp only [frmL, Act.put, List.setIfInBounds_toArray, List.set_cons_zero, List.set_cons_succ]
            go_simp
            have HN := H
            refine hK.out _ _ ⟨[u22, u23, .pointer (some ⟨g, 0, none⟩), u25, u26, u27, u28, u29, u30, u31, u32, u33], ?_, u22, u23, .pointer (some ⟨g, 0, none⟩), u25, u26, u27, u28, u29, u30, u31, u32, u33, pp, vb, vv, GG, yy, x1, x2, q30, q31, Au, nu, cu, rfl, ?_⟩
            · simp only [frmL, Act.put, List.setIfInBounds_toArray, List.set_cons_zero, List.set_cons_succ]
            · exact ⟨HN.sm, HN.hp.imp On.old id, HN.hp1.imp On.old id, HN.hp2, HN.hx.imp On.old id, fun o => HN.h0 (o.of_set (by decide)), fun o => (HN.h1 (o.of_set (by decide))).imp On.old id, fun _ => rfl, fun o => HN.h3 (o.of_set (by decide)), fun o => HN.h4 (o.of_set (by decide)), fun o => HN.h5 (o.of_set (by decide)), fun o => HN.h6 (o.of_set (by decide)), fun o => (HN.h7 (o.of_set (by decide))).imp On.old id, fun o => let ⟨a, b⟩ := HN.h8 (o.of_set (by decide)); ⟨a.old, b.imp On.old id⟩, fun o => let ⟨a, b⟩ := HN.h9 (o.of_set (by decide)); ⟨a.old, b.imp On.old id⟩, fun o => (HN.h10 (o.of_set (by decide))).imp On.old id, fun o => HN.h11 (o.of_set (by decide)), fun o => (HN.h12 (o.of_set (by decide))).imp On.old id, fun o => let ⟨a, b⟩ := HN.l10 (o.of_set (by decide)); ⟨a.old, b.old⟩, fun o => HN.hf (o.of_set (by decide))⟩
          refine StepsI.cons (i := 3) (ws := []) rfl (by kernel_rfl) (fun L a W hI hno hon hw K hK => ?_) ?_
          · obtain ⟨_, rfl, u22, u23, u24, u25, u26, u27, u28, u29, u30, u31, u32, u33, pp, vb, vv, GG, yy, x1, x2, q30, q31, Au, nu, cu, rfl, H⟩ := hI
            simp only [List.getElem_toArray, List.getElem_cons_zero, List.getElem_cons_succ]
            simp only [frmL, Act.put, List.setIfInBounds_toArray, List.set_cons_zero, List.set_cons_succ]
            go_simp
            have HN := H
            refine hK.out _ _ ⟨[u22, u23, u24, .int .i64 n, u26, u27, u28, u29, u30, u31, u32, u33], ?_, u22, u23, u24, .int .i64 n, u26, u27, u28, u29, u30, u31, u32, u33, pp, vb, vv, GG, yy, x1, x2, q30, q31, Au, nu, cu, rfl, ?_⟩
            · simp only [frmL, Act.put, List.setIfInBounds_toArray, List.set_cons_zero, List.set_cons_succ]
            · exact ⟨HN.sm, HN.hp.imp On.old id, HN.hp1.imp On.old id, HN.hp2, HN.hx.imp On.old id, fun o => HN.h0 (o.of_set (by decide)), fun o => (HN.h1 (o.of_set (by decide))).imp On.old id, fun o => HN.h2 (o.of_set (by decide)), fun _ => rfl, fun o => HN.h4 (o.of_set (by decide)), fun o => HN.h5 (o.of_set (by decide)), fun o => HN.h6 (o.of_set (by decide)), fun o => (HN.h7 (o.of_set (by decide))).imp On.old id, fun o => let ⟨a, b⟩ := HN.h8 (o.of_set (by decide)); ⟨a.old, b.imp On.old id⟩, fun o => let ⟨a, b⟩ := HN.h9 (o.of_set (by decide)); ⟨a.old, b.imp On.old id⟩, fun o => (HN.h10 (o.of_set (by decide))).imp On.old id, fun o => HN.h11 (o.of_set (by decide)), fun o => (HN.h12 (o.of_set (by decide))).imp On.old id, fun o => let ⟨a, b⟩ := HN.l10 (o.of_set (by decide)); ⟨a.old, b.old⟩, fun o => HN.hf (o.of_set (by decide))⟩
          refine StepsI.cons (i := 4) (ws := [2, 3]) rfl (by kernel_rfl) (fun L a W hI hno hon hw K hK => ?_) ?_
          · obtain ⟨_, rfl, u22, u23, u24, u25, u26, u27, u28, u29, u30, u31, u32, u33, pp, vb, vv, GG, yy, x1, x2, q30, q31, Au, nu, cu, rfl, H⟩ := hI
            simp only [List.getElem_toArray, List.getElem_cons_zero, List.getElem_cons_succ]
            obtain rfl := H.h2 (hw 2 (by simp))
            obtain rfl := H.h3 (hw 3 (by simp))
            have hpp9 := Nat.le_of_eq (H.hp.resolve_left hno)
            simp only [frmL, Act.put, List.setIfInBounds_toArray, List.set_cons_zero, List.set_cons_succ]
            go_simp
            go_wp2_with (go_at_call 84; (with_reducible refine (pick_any w0 W g A l c pp n H.sm.rd (by omega)).mono ?_); rintro e w9 ⟨x9, rfl, hk1, _, hr, z, hw⟩; have HW := Lib.hid hw; have HK1 := Lib.hid hk1; have HR := Lib.hid hr; clear hw hk1 hr)
            have hone := Rdr.one (g := g) W (.int .i64 (pp + 1 : Nat)) z
            rw [← HW.out] at hone
            obtain ⟨k0, k1⟩ := HK1.out (by omega)
            have HN := H
            refine hK.out _ _ ⟨[u22, u23, .pointer (some ⟨g, 0, none⟩), .int .i64 n, .int .i64 x9, u27, u28, u29, u30, u31, u32, u33], ?_, u22, u23, .pointer (some ⟨g, 0, none⟩), .int .i64 n, .int .i64 x9, u27, u28, u29, u30, u31, u32, u33, pp + 1, vb, vv, GG, yy, x9, x2, q30, q31, Au, nu, cu, rfl, ?_⟩
            · simp only [frmL, Act.put, List.setIfInBounds_toArray, List.set_cons_zero, List.set_cons_succ]
            · exact ⟨H.sm.one HR.out hone, .inl hon, .inr (by omega), by omega, HN.hx.imp On.old id, fun o => HN.h0 (o.of_set (by decide)), fun o => (HN.h1 (o.of_set (by decide))).imp On.old id, fun o => HN.h2 (o.of_set (by decide)), fun o => HN.h3 (o.of_set (by decide)), fun _ => ⟨rfl, k0, k1⟩, fun o => HN.h5 (o.of_set (by decide)), fun o => HN.h6 (o.of_set (by decide)), fun o => absurd (H.h7 (o.of_set (by decide))).1 hno, fun o => absurd (H.h7 (H.h8 (o.of_set (by decide))).1).1 hno, fun o => absurd (H.h7 (H.h8 (H.h9 (o.of_set (by decide))).1).1).1 hno, fun o => absurd (H.h7 (H.h10 (o.of_set (by decide))).1).1 hno, fun o => HN.h11 (o.of_set (by decide)), fun o => (HN.h12 (o.of_set (by decide))).imp On.old id, fun o => let ⟨a, b⟩ := HN.l10 (o.of_set (by decide)); ⟨a.old, b.old⟩, fun o => HN.hf (o.of_set (by decide))⟩
          refine StepsI.cons (i := 5) (ws := []) rfl (by kernel_rfl) (fun L a W hI hno hon hw K hK => ?_) ?_
          · obtain ⟨_, rfl, u22, u23, u24, u25, u26, u27, u28, u29, u30, u31, u32, u33, pp, vb, vv, GG, yy, x1, x2, q30, q31, Au, nu, cu, rfl, H⟩ := hI
            simp only [List.getElem_toArray, List.getElem_cons_zero, List.getElem_cons_succ]
            simp only [frmL, Act.put, List.setIfInBounds_toArray, List.set_cons_zero, List.set_cons_succ]
            go_simp
            have HN := H
            refine hK.out _ _ ⟨[u22, u23, u24, u25, u26, .pointer (some ⟨g, 0, none⟩), u28, u29, u30, u31, u32, u33], ?_, u22, u23, u24, u25, u26, .pointer (some ⟨g, 0, none⟩), u28, u29, u30, u31, u32, u33, pp, vb, vv, GG, yy, x1, x2, q30, q31, Au, nu, cu, rfl, ?_⟩
            · simp only [frmL, Act.put, List.setIfInBounds_toArray, List.set_cons_zero, List.set_cons_succ]
            · exact ⟨HN.sm, HN.hp.imp On.old id, HN.hp1.imp On.old id, HN.hp2, HN.hx.imp On.old id, fun o => HN.h0 (o.of_set (by decide)), fun o => (HN.h1 (o.of_set (by decide))).imp On.old id, fun o => HN.h2 (o.of_set (by decide)), fun o => HN.h3 (o.of_set (by decide)), fun o => HN.h4 (o.of_set (by decide)), fun _ => rfl, fun o => HN.h6 (o.of_set (by decide)), fun o => (HN.h7 (o.of_set (by decide))).imp On.old id, fun o => let ⟨a, b⟩ := HN.h8 (o.of_set (by decide)); ⟨a.old, b.imp On.old id⟩, fun o => let ⟨a, b⟩ := HN.h9 (o.of_set (by decide)); ⟨a.old, b.imp On.old id⟩, fun o => (HN.h10 (o.of_set (by decide))).imp On.old id, fun o => HN.h11 (o.of_set (by decide)), fun o => (HN.h12 (o.of_set (by decide))).imp On.old id, fun o => let ⟨a, b⟩ := HN.l10 (o.of_set (by decide)); ⟨a.old, b.old⟩, fun o => HN.hf (o.of_set (by decide))⟩
          refine StepsI.cons (i := 6) (ws := []) rfl (by kernel_rfl) (fun L a W hI hno hon hw K hK => ?_) ?_
          · obtain ⟨_, rfl, u22, u23, u24, u25, u26, u27, u28, u29, u30, u31, u32, u33, pp, vb, vv, GG, yy, x1, x2, q30, q31, Au, nu, cu, rfl, H⟩ := hI
            simp only [List.getElem_toArray, List.getElem_cons_zero, List.getElem_cons_succ]
            simp only [frmL, Act.put, List.setIfInBounds_toArray, List.set_cons_zero, List.set_cons_succ]
            go_simp
            have HN := H
            refine hK.out _ _ ⟨[u22, u23, u24, u25, u26, u27, .int .i64 n, u29, u30, u31, u32, u33], ?_, u22, u23, u24, u25, u26, u27, .int .i64 n, u29, u30, u31, u32, u33, pp, vb, vv, GG, yy, x1, x2, q30, q31, Au, nu, cu, rfl, ?_⟩
            · simp only [frmL, Act.put, List.setIfInBounds_toArray, List.set_cons_zero, List.set_cons_succ]
            · exact ⟨HN.sm, HN.hp.imp On.old id, HN.hp1.imp On.old id, HN.hp2, HN.hx.imp On.old id, fun o => HN.h0 (o.of_set (by decide)), fun o => (HN.h1 (o.of_set (by decide))).imp On.old id, fun o => HN.h2 (o.of_set (by decide)), fun o => HN.h3 (o.of_set (by decide)), fun o => HN.h4 (o.of_set (by decide)), fun o => HN.h5 (o.of_set (by decide)), fun _ => rfl, fun o => (HN.h7 (o.of_set (by decide))).imp On.old id, fun o => let ⟨a, b⟩ := HN.h8 (o.of_set (by decide)); ⟨a.old, b.imp On.old id⟩, fun o => let ⟨a, b⟩ := HN.h9 (o.of_set (by decide)); ⟨a.old, b.imp On.old id⟩, fun o => (HN.h10 (o.of_set (by decide))).imp On.old id, fun o => HN.h11 (o.of_set (by decide)), fun o => (HN.h12 (o.of_set (by decide))).imp On.old id, fun o => let ⟨a, b⟩ := HN.l10 (o.of_set (by decide)); ⟨a.old, b.old⟩, fun o => HN.hf (o.of_set (by decide))⟩
          refine StepsI.cons (i := 7) (ws := [5, 6, 4]) rfl (by kernel_rfl) (fun L a W hI hno hon hw K hK => ?_) ?_
          · obtain ⟨_, rfl, u22, u23, u24, u25, u26, u27, u28, u29, u30, u31, u32, u33, pp, vb, vv, GG, yy, x1, x2, q30, q31, Au, nu, cu, rfl, H⟩ := hI
            simp only [List.getElem_toArray, List.getElem_cons_zero, List.getElem_cons_succ]
            obtain rfl := H.h5 (hw 5 (by simp))
            obtain rfl := H.h6 (hw 6 (by simp))
            have hpp9 := H.hp1.resolve_left hno
            simp only [frmL, Act.put, List.setIfInBounds_toArray, List.set_cons_zero, List.set_cons_succ]
            go_simp
            go_wp2_with (go_at_call 84; (with_reducible refine (pick_any w0 W g A l c pp n H.sm.rd (by omega)).mono ?_); rintro e w9 ⟨x9, rfl, hk1, _, hr, z, hw⟩; have HW := Lib.hid hw; have HK1 := Lib.hid hk1; have HR := Lib.hid hr; clear hw hk1 hr)
            have hone := Rdr.one (g := g) W (.int .i64 (pp + 1 : Nat)) z
            rw [← HW.out] at hone
            obtain ⟨k0, k1⟩ := HK1.out (by omega)
            have HN := H
            refine hK.out _ _ ⟨[u22, u23, u24, u25, u26, .pointer (some ⟨g, 0, none⟩), .int .i64 n, .int .i64 x9, u30, u31, u32, u33], ?_, u22, u23, u24, u25, u26, .pointer (some ⟨g, 0, none⟩), .int .i64 n, .int .i64 x9, u30, u31, u32, u33, pp + 1, vb, vv, GG, yy, x1, x9, q30, q31, Au, nu, cu, rfl, ?_⟩
            · simp only [frmL, Act.put, List.setIfInBounds_toArray, List.set_cons_zero, List.set_cons_succ]
            · exact ⟨H.sm.one HR.out hone, .inl (hw 4 (by simp)).old, .inl hon, by omega, HN.hx.imp On.old id, fun o => HN.h0 (o.of_set (by decide)), fun o => (HN.h1 (o.of_set (by decide))).imp On.old id, fun o => HN.h2 (o.of_set (by decide)), fun o => HN.h3 (o.of_set (by decide)), fun o => HN.h4 (o.of_set (by decide)), fun o => HN.h5 (o.of_set (by decide)), fun o => HN.h6 (o.of_set (by decide)), fun _ => ⟨(hw 4 (by simp)).old, rfl, k0, k1⟩, fun o => absurd (H.h8 (o.of_set (by decide))).1 hno, fun o => absurd (H.h8 (H.h9 (o.of_set (by decide))).1).1 hno, fun o => absurd (H.h10 (o.of_set (by decide))).1 hno, fun o => HN.h11 (o.of_set (by decide)), fun o => (HN.h12 (o.of_set (by decide))).imp On.old id, fun o => let ⟨a, b⟩ := HN.l10 (o.of_set (by decide)); ⟨a.old, b.old⟩, fun o => HN.hf (o.of_set (by decide))⟩
          refine StepsI.cons (i := 8) (ws := [4, 7]) rfl (by kernel_rfl) (fun L a W hI hno hon hw K hK => ?_) ?_
          · obtain ⟨_, rfl, u22, u23, u24, u25, u26, u27, u28, u29, u30, u31, u32, u33, pp, vb, vv, GG, yy, x1, x2, q30, q31, Au, nu, cu, rfl, H⟩ := hI
            simp only [List.getElem_toArray, List.getElem_cons_zero, List.getElem_cons_succ]
            obtain ⟨e4, _, _⟩ := H.h4 (hw 4 (by simp))
            subst e4
            obtain ⟨_, e7, _, _⟩ := H.h7 (hw 7 (by simp))
            subst e7
            simp only [frmL, Act.put, List.setIfInBounds_toArray, List.set_cons_zero, List.set_cons_succ]
            go_simp
            have HN := H.up (below_alloc W (.cells #[.int .i64 x1, .int .i64 x2] 3))
            refine hK.out _ _ ⟨[u22, u23, u24, u25, .int .i64 x1, u27, u28, .int .i64 x2, .slice (some ⟨W.heap.size, 0, none⟩) 2 2, u31, u32, u33], ?_, u22, u23, u24, u25, .int .i64 x1, u27, u28, .int .i64 x2, .slice (some ⟨W.heap.size, 0, none⟩) 2 2, u31, u32, u33, pp, vb, vv, GG, yy, x1, x2, W.heap.size, q31, Au, nu, cu, rfl, ?_⟩
            · simp only [frmL, Act.put, List.setIfInBounds_toArray, List.set_cons_zero, List.set_cons_succ]
            · exact ⟨HN.sm, HN.hp.imp On.old id, HN.hp1.imp On.old id, HN.hp2, HN.hx.imp On.old id, fun o => HN.h0 (o.of_set (by decide)), fun o => (HN.h1 (o.of_set (by decide))).imp On.old id, fun o => HN.h2 (o.of_set (by decide)), fun o => HN.h3 (o.of_set (by decide)), fun o => HN.h4 (o.of_set (by decide)), fun o => HN.h5 (o.of_set (by decide)), fun o => HN.h6 (o.of_set (by decide)), fun o => (HN.h7 (o.of_set (by decide))).imp On.old id, fun _ => ⟨(hw 7 (by simp)).old, .inr ⟨rfl, blk_new W 3 #[iv x1, iv x2], H.sm.newer⟩⟩, fun o => absurd (H.h9 (o.of_set (by decide))).1 hno, fun o => (HN.h10 (o.of_set (by decide))).imp On.old id, fun o => HN.h11 (o.of_set (by decide)), fun o => (HN.h12 (o.of_set (by decide))).imp On.old id, fun o => let ⟨a, b⟩ := HN.l10 (o.of_set (by decide)); ⟨a.old, b.old⟩, fun o => HN.hf (o.of_set (by decide))⟩
          refine StepsI.cons (i := 9) (ws := [8]) rfl (by kernel_rfl) (fun L a W hI hno hon hw K hK => ?_) ?_
          · obtain ⟨_, rfl, u22, u23, u24, u25, u26, u27, u28, u29, u30, u31, u32, u33, pp, vb, vv, GG, yy, x1, x2, q30, q31, Au, nu, cu, rfl, H⟩ := hI
            simp only [List.getElem_toArray, List.getElem_cons_zero, List.getElem_cons_succ]
            obtain ⟨e8, _, _⟩ := (H.h8 (hw 8 (by simp))).2.resolve_left (fun o => hno (H.l10 o).2)
            subst e8
            simp only [frmL, Act.put, List.setIfInBounds_toArray, List.set_cons_zero, List.set_cons_succ]
            go_simp
            have HN := H.up (below_alloc W (.cells #[.slice (some ⟨q30, 0, none⟩) 2 2] 22))
            refine hK.out _ _ ⟨[u22, u23, u24, u25, u26, u27, u28, u29, .slice (some ⟨q30, 0, none⟩) 2 2, .slice (some ⟨W.heap.size, 0, none⟩) 1 1, u32, u33], ?_, u22, u23, u24, u25, u26, u27, u28, u29, .slice (some ⟨q30, 0, none⟩) 2 2, .slice (some ⟨W.heap.size, 0, none⟩) 1 1, u32, u33, pp, vb, vv, GG, yy, x1, x2, q30, W.heap.size, Au, nu, cu, rfl, ?_⟩
            · simp only [frmL, Act.put, List.setIfInBounds_toArray, List.set_cons_zero, List.set_cons_succ]
            · exact ⟨HN.sm, HN.hp.imp On.old id, HN.hp1.imp On.old id, HN.hp2, HN.hx.imp On.old id, fun o => HN.h0 (o.of_set (by decide)), fun o => (HN.h1 (o.of_set (by decide))).imp On.old id, fun o => HN.h2 (o.of_set (by decide)), fun o => HN.h3 (o.of_set (by decide)), fun o => HN.h4 (o.of_set (by decide)), fun o => HN.h5 (o.of_set (by decide)), fun o => HN.h6 (o.of_set (by decide)), fun o => (HN.h7 (o.of_set (by decide))).imp On.old id, fun o => let ⟨a, b⟩ := HN.h8 (o.of_set (by decide)); ⟨a.old, b.imp On.old id⟩, fun _ => ⟨(hw 8 (by simp)).old, .inr ⟨rfl, blk_new W 22 #[.slice (some ⟨q30, 0, none⟩) 2 2]⟩⟩, fun o => (HN.h10 (o.of_set (by decide))).imp On.old id, fun o => HN.h11 (o.of_set (by decide)), fun o => (HN.h12 (o.of_set (by decide))).imp On.old id, fun o => let ⟨a, b⟩ := HN.l10 (o.of_set (by decide)); ⟨a.old, b.old⟩, fun o => HN.hf (o.of_set (by decide))⟩
          refine StepsI.cons (i := 10) (ws := [1, 9, 7]) rfl (by kernel_rfl) (fun L a W hI hno hon hw K hK => ?_) ?_
          · obtain ⟨_, rfl, u22, u23, u24, u25, u26, u27, u28, u29, u30, u31, u32, u33, pp, vb, vv, GG, yy, x1, x2, q30, q31, Au, nu, cu, rfl, H⟩ := hI
            simp only [List.getElem_toArray, List.getElem_cons_zero, List.getElem_cons_succ]
            have e23 := (H.h1 (hw 1 (by simp))).resolve_left hno
            obtain ⟨e31, hb31⟩ := (H.h9 (hw 9 (by simp))).2.resolve_left hno
            obtain ⟨_, hb30, hnew⟩ := (H.h8 (H.h9 (hw 9 (by simp))).1).2.resolve_left hno
            have hx2 := (H.h7 (hw 7 (by simp))).2.2
            have hx1 := (H.h4 (H.h7 (hw 7 (by simp))).1).2
            have hyy := (H.hx.resolve_left hno).1.symm
            have hGG := (H.hx.resolve_left hno).2.1.symm
            subst hyy
            subst hGG
            simp only [frmL, Act.put, List.setIfInBounds_toArray, List.set_cons_zero, List.set_cons_succ]
            rw [if_pos (by rfl)]
            refine wp_append_lies W _ _ _ rfl (q + 1) 22 j0 _ 1 24 Try.underlying23 hj0 hy0 hy1 hy2 rfl (by omega) vv ys.length (gvs G ys.length) (by exact e23) H.sm.bo ⟨q31, 0, none⟩ 1 1 [.slice (some ⟨q30, 0, none⟩) 2 2] (by exact e31) (by rfl) (World.news_of_block (w := W) (cs := #[.slice (some ⟨q30, 0, none⟩) 2 2]) (t := 22) (fr := (0, 0)) hb31) (by simp [Value.oneCell']) (by omega) (by unfold maxLen; omega) (by omega) (by have := blk_lt H.sm.box; omega) W.heap.size rfl ?_
            intro gg cap w9 hown1 hgrow hat hlt1
            simp only [Act.put, List.setIfInBounds_toArray, List.set_cons_zero, List.set_cons_succ]
            have HN := H
            refine hK.out _ _ ⟨[u22, u23, u24, u25, u26, u27, u28, u29, u30, u31, .slice (some ⟨gg, 0, none⟩) (ys.length + 1) cap, u33], ?_, u22, u23, u24, u25, u26, u27, u28, u29, u30, u31, .slice (some ⟨gg, 0, none⟩) (ys.length + 1) cap, u33, pp, vb, .slice (some ⟨gg, 0, none⟩) (ys.length + 1) cap, fun k => if k < ys.length then G k else q30, ys ++ [[x1, x2]], x1, x2, q30, q31, some ⟨gg, 0, none⟩, ys.length + 1, cap, rfl, ?_⟩
            · simp only [frmL, Act.put, List.setIfInBounds_toArray, List.set_cons_zero, List.set_cons_succ]
            · exact ⟨H.sm.pushV (by omega) (by omega) hb30 hnew hown1 hgrow hat, HN.hp.imp On.old id, HN.hp1.imp On.old id, HN.hp2, .inl hon, fun o => HN.h0 (o.of_set (by decide)), fun _ => .inl hon, fun o => HN.h2 (o.of_set (by decide)), fun o => HN.h3 (o.of_set (by decide)), fun o => HN.h4 (o.of_set (by decide)), fun o => HN.h5 (o.of_set (by decide)), fun o => HN.h6 (o.of_set (by decide)), fun o => (HN.h7 (o.of_set (by decide))).imp On.old id, fun o => ⟨(H.h8 (o.of_set (by decide))).1.old, .inl hon⟩, fun o => ⟨(H.h9 (o.of_set (by decide))).1.old, .inl hon⟩, fun _ => ⟨(hw 7 (by simp)).old, rfl, rfl⟩, fun o => HN.h11 (o.of_set (by decide)), fun o => absurd (H.h12 (o.of_set (by decide))).1 hno, fun _ => ⟨(hw 1 (by simp)).old, (hw 9 (by simp)).old⟩, fun _ => rfl⟩
          refine StepsI.cons (i := 11) (ws := [0, 1, 2, 3, 4, 5, 6, 7, 8, 9, 10]) rfl (by kernel_rfl) (fun L a W hI hno hon hw K hK => ?_) ?_
          · obtain ⟨_, rfl, u22, u23, u24, u25, u26, u27, u28, u29, u30, u31, u32, u33, pp, vb, vv, GG, yy, x1, x2, q30, q31, Au, nu, cu, rfl, H⟩ := hI
            simp only [List.getElem_toArray, List.getElem_cons_zero, List.getElem_cons_succ]
            simp only [frmL, Act.put, List.setIfInBounds_toArray, List.set_cons_zero, List.set_cons_succ]
            go_simp
            have HN := H
            refine hK.out _ _ ⟨[u22, u23, u24, u25, u26, u27, u28, u29, u30, u31, u32, .pointer (some ⟨q, 1, none⟩)], ?_, u22, u23, u24, u25, u26, u27, u28, u29, u30, u31, u32, .pointer (some ⟨q, 1, none⟩), pp, vb, vv, GG, yy, x1, x2, q30, q31, Au, nu, cu, rfl, ?_⟩
            · simp only [frmL, Act.put, List.setIfInBounds_toArray, List.set_cons_zero, List.set_cons_succ]
            · exact ⟨HN.sm, HN.hp.imp On.old id, HN.hp1.imp On.old id, HN.hp2, HN.hx.imp On.old id, fun o => HN.h0 (o.of_set (by decide)), fun o => (HN.h1 (o.of_set (by decide))).imp On.old id, fun o => HN.h2 (o.of_set (by decide)), fun o => HN.h3 (o.of_set (by decide)), fun o => HN.h4 (o.of_set (by decide)), fun o => HN.h5 (o.of_set (by decide)), fun o => HN.h6 (o.of_set (by decide)), fun o => (HN.h7 (o.of_set (by decide))).imp On.old id, fun o => let ⟨a, b⟩ := HN.h8 (o.of_set (by decide)); ⟨a.old, b.imp On.old id⟩, fun o => let ⟨a, b⟩ := HN.h9 (o.of_set (by decide)); ⟨a.old, b.imp On.old id⟩, fun o => (HN.h10 (o.of_set (by decide))).imp On.old id, fun _ => rfl, fun o => (HN.h12 (o.of_set (by decide))).imp On.old id, fun o => let ⟨a, b⟩ := HN.l10 (o.of_set (by decide)); ⟨a.old, b.old⟩, fun o => HN.hf (o.of_set (by decide))⟩
          refine StepsI.cons (i := 12) (ws := [11, 10, 10, 0, 1, 2, 3, 4, 5, 6, 7, 8, 9, 10]) rfl (by kernel_rfl) (fun L a W hI hno hon hw K hK => ?_) ?_
          · obtain ⟨_, rfl, u22, u23, u24, u25, u26, u27, u28, u29, u30, u31, u32, u33, pp, vb, vv, GG, yy, x1, x2, q30, q31, Au, nu, cu, rfl, H⟩ := hI
            simp only [List.getElem_toArray, List.getElem_cons_zero, List.getElem_cons_succ]
            obtain rfl := H.h11 (hw 11 (by simp))
            have e9 := H.hf (hw 10 (by simp))
            subst e9
            obtain rfl := (H.h10 (hw 10 (by simp))).2.1
            simp only [frmL, Act.put, List.setIfInBounds_toArray, List.set_cons_zero, List.set_cons_succ]
            have c0 := blk_cell H.sm.box (i := 1) rfl
            have f0 := blk_frozen H.sm.box 1
            go_simp
            have HN := H
            refine hK.out _ _ ⟨[u22, u23, u24, u25, u26, u27, u28, u29, u30, u31, .slice Au nu cu, .pointer (some ⟨q, 1, none⟩)], ?_, u22, u23, u24, u25, u26, u27, u28, u29, u30, u31, .slice Au nu cu, .pointer (some ⟨q, 1, none⟩), pp, .slice Au nu cu, .slice Au nu cu, GG, yy, x1, x2, q30, q31, Au, nu, cu, rfl, ?_⟩
            · simp only [frmL, Act.put, List.setIfInBounds_toArray, List.set_cons_zero, List.set_cons_succ]
            · exact ⟨H.sm.setBox 1 (.slice Au nu cu), HN.hp.imp On.old id, HN.hp1.imp On.old id, HN.hp2, .inl (hw 10 (by simp)).old, fun o => HN.h0 (o.of_set (by decide)), fun _ => .inl (hw 10 (by simp)).old, fun o => HN.h2 (o.of_set (by decide)), fun o => HN.h3 (o.of_set (by decide)), fun o => HN.h4 (o.of_set (by decide)), fun o => HN.h5 (o.of_set (by decide)), fun o => HN.h6 (o.of_set (by decide)), fun o => (HN.h7 (o.of_set (by decide))).imp On.old id, fun o => ⟨(H.h8 (o.of_set (by decide))).1.old, .inl (hw 10 (by simp)).old⟩, fun o => ⟨(H.h9 (o.of_set (by decide))).1.old, .inl (hw 10 (by simp)).old⟩, fun o => (HN.h10 (o.of_set (by decide))).imp On.old id, fun o => HN.h11 (o.of_set (by decide)), fun _ => ⟨(hw 10 (by simp)).old, rfl⟩, fun o => let ⟨a, b⟩ := HN.l10 (o.of_set (by decide)); ⟨a.old, b.old⟩, fun o => HN.hf (o.of_set (by decide))⟩
          exact StepsI.nil
        · rintro L us W hL ⟨u22, u23, u24, u25, u26, u27, u28, u29, u30, u31, u32, u33, pp, vb, vv, GG, yy, x1, x2, q30, q31, Au, nu, cu, rfl, H⟩
          have HS2 := Lib.hid H.sm
          have hy5 := (H.h10 (hL 10 (by simp))).2.2
          have hy7 := (H.h12 (hL 12 (by simp))).2
          have hppb := H.hp2
          subst hy5
          obtain rfl : vb = vv := hy7
          clear H hL HS1
          obtain ⟨ys2, hys2⟩ : ∃ ys2, ys2 = ys ++ [[x1, x2]] := ⟨_, rfl⟩
          rw [← hys2] at HS2
          have HLEN3 := Lib.hid (show xs2.length = k + 1 ∧ ys2.length = k + 1 from ⟨HLEN2.out, by rw [hys2, List.length_append, HLEN.out.2]; rfl⟩)
          clear hys2
          simp only [frmL, Act.put, List.setIfInBounds_toArray, List.set_cons_zero, List.set_cons_succ]
          go_wp2
          go_roundw
          case rel => exact ⟨k + 1, _, _, _, xs2, _, ys2, by omega, by go_num, by omega, HLEN3, HS2⟩
          case measure => simp [intOf]; omega
    · obtain rfl : k = n := by omega
      have HC := Lib.hid (pick_any w0 wr g A l c p' 6 HS.out.rd (by omega))
      go_wp2_with fail
      refine HC.out.mono ?_
      rintro e w2 ⟨x, rfl, -, -, hr, z, hw⟩
      have hone := Rdr.one (g := g) wr (.int .i64 (p' + 1 : Nat)) z
      rw [← hw] at hone
      have HS2 := Lib.hid (HS.out.one hr hone)
      clear hr hone hw HC HS
      by_cases hx0 : x = 0
      · have hd : (x == 0) = true := by simp [hx0]
        clear hx0
        have HL := HS2.out.lit
        simp only [iv] at HL
        have c0 := blk_cell HL.box (i := 0) rfl
        have c1 := blk_cell HL.box (i := 1) rfl
        have f0 := blk_frozen HL.box 0
        have f1 := blk_frozen HL.box 1
        have HS3 := Lib.hid ((HL.box0 (z := .slice (some ⟨w2.heap.size, 0, none⟩) 2 2)).box1 (z := .slice (some ⟨w2.heap.size + 1 + 1 + 1, 0, none⟩) 2 2))
        clear HL HS2
        have HC := Lib.hid (pick_any w0 _ g A l c (p' + 1) 40 HS3.out.rd (by omega))
        go_wp2_with fail
        clear c0 c1 f0 f1 hd
        obtain ⟨W4, hW4⟩ : ∃ W4, W4 = ((((((w2.alloc (.cells #[.int .i64 0, .int .i64 1] 3)).alloc (.cells #[.int .i64 0, .int .i64 1] 3)).alloc (.cells #[.int .i64 0, .int .i64 1] 3)).alloc (.cells #[.slice (some ⟨w2.heap.size + 1, 0, none⟩) 2 2, .slice (some ⟨w2.heap.size + 1 + 1, 0, none⟩) 2 2] 22)).setCell ⟨q, 0, none⟩ (.slice (some ⟨w2.heap.size, 0, none⟩) 2 2)).setCell ⟨q, 1, none⟩ (.slice (some ⟨w2.heap.size + 1 + 1 + 1, 0, none⟩) 2 2)) := ⟨_, rfl⟩
        rw [← hW4] at HS3 HC
        rw [← hW4]
        have HL2 := Lib.hid (show ([0, 1] : List Int).length = 2 ∧ ([[0, 1], [0, 1]] : List (List Int)).length = 2 from ⟨rfl, rfl⟩)
        clear hW4
        generalize ([[0, 1], [0, 1]] : List (List Int)) = ys3 at *
        generalize ([0, 1] : List Int) = xs3 at *
        generalize (Value.slice (some ⟨w2.heap.size, 0, none⟩) 2 2) = u3 at *
        generalize (Value.slice (some ⟨w2.heap.size + 1 + 1 + 1, 0, none⟩) 2 2) = v3 at *
        generalize (fun k => w2.heap.size + 1 + k) = G3 at *
        obtain ⟨Au, nu, cu, eu⟩ := own_form HS3.out.bi
        obtain ⟨Av, nv, cv_, ev⟩ := own_form HS3.out.bo
        subst eu
        subst ev
        refine HC.out.mono ?_
        rintro e w5 ⟨x2, rfl, -, -, hr, z, hw⟩
        have hone := Rdr.one (g := g) W4 (.int .i64 (p' + 1 + 1 : Nat)) z
        rw [← hw] at hone
        have HS5 := Lib.hid (HS3.out.one hr hone)
        have hNx : xs3.length = 2 := HL2.out.1
        have hNy : ys3.length = 2 := HL2.out.2
        have HNX := Lib.hid hNx
        have HNY := Lib.hid hNy
        have hx0 : 0 < xs3.length := by omega
        have hy0_ : 0 < ys3.length := by omega
        clear hr hone hw HC HS3 hNx hNy
        by_cases he0 : x2 = 0
        · have hd0 : (x2 == 0) = true := by simp [he0]
          clear he0
          obtain ⟨b8, c8, e8, hc8, hf8, hs8⟩ := HS5.out.setU hx0 (x := 2) (by omega)
          have c0 := blk_cell HS5.out.box (i := 0) rfl
          rw [HNX.out] at e8
          have hN0 : (0 : Int) < (2 : Int) := by omega
          have hN0' : 0 < 2 := by omega
          have HS6 := Lib.hid hs8
          have HV8 := Lib.hid e8
          rw [e8] at c0
          clear hs8 e8 HS5
          have d0 := blk_cell HS6.out.box (i := 0) rfl
          have d1 := blk_cell HS6.out.box (i := 1) rfl
          have HE := Lib.hid (HS6.out.done (w := w) (by rw [HQ.out]; exact hwz) hgw HG1.out HK1.out (n := 2) (by rw [List.length_set]; exact HNX.out) HNY.out (by omega) (by omega) (p := p) (by omega))
          rw [HV8.out] at d0
          have HKB := HS6.out.old HK1.out (by omega)
          have d2 := blk_cell HKB (i := 0) rfl
          have d3 := blk_cell HKB (i := 1) rfl
          have g2 := blk_frozen HKB 0
          have g3 := blk_frozen HKB 1
          have hb9 := blk_set (blk_set HKB 0 (.slice Au nu cu)) 1 (.slice Av nv cv_)
          have k0 := blk_cell hb9 (i := 0) (v := (.slice Au nu cu)) rfl
          have k1 := blk_cell hb9 (i := 1) (v := (.slice Av nv cv_)) rfl
          have HK0 := Lib.hid k0
          have HK2 := Lib.hid k1
          clear hb9 HKB HS6 k0 k1
          have HU8 := HV8.out
          injection HU8 with q1 q2 q3
          subst q1
          subst q2
          subst q3
          clear HV8
          go_wp2
          clear c0 d0 d1 d2 d3 g2 g3 hc8 hf8 hd0
          have k0 := HK0.out
          have k1 := HK2.out
          refine bodyPost_ret (v := .agg #[.slice (some ⟨b8, 0, none⟩) 2 cu, (.slice Av nv cv_)]) (by simp [results, Try.results66, go_sem, k0, k1]) rfl HE.out
        · have hd0 : (x2 == 0) = false := by simpa using he0
          clear he0
          by_cases he1 : x2 = 1
          · have hd1 : (x2 == 1) = true := by simp [he1]
            clear he1
            obtain ⟨b8, c8, e8, _, _, _, _⟩ := HS5.out.setV hy0_ (x := 0) (by omega)
            rw [HNY.out] at e8
            have HV := Lib.hid e8
            clear e8
            go_wp2
            refine wp_region_invF (rs := [0, 1, 2, 3, 4, 5, 6, 7, 8]) [51, 52, 53, 54, 55, 56, 57, 58] (fun L us W => ∃ u51 u52 u53 u54 u55 u56 u57 u58 pp yy x7 q56, us = [u51, u52, u53, u54, u55, u56, u57, u58] ∧ R14m w0 w1 g A l c (p' + 1 + 1) q @2 b8 c8 (.slice Au nu cu) (.slice Av nv cv_) xs3 G3 ys3 L u51 u52 u53 u54 u55 u56 u57 u58 pp yy x7 q56 W) (by kernel_rfl) ?_ (by kernel_rfl) (by kernel_rfl) ?_ ?_
            · refine ⟨[undef, undef, undef, undef, undef, undef, undef, undef], ?_, undef, undef, undef, undef, undef, undef, undef, undef, p' + 1 + 1, ys3, 0, 0, rfl, ?_⟩
              · simp only [frmL, Act.put, List.setIfInBounds_toArray, List.set_cons_zero, List.set_cons_succ]
              exact ⟨HS5.out.next (Quiet.below (B := w5.heap.size) ⟨1, rfl⟩), .inr (Nat.le_refl _), by omega, HNY.out, fun o => o.not_start.elim, fun o => o.not_start.elim, fun o => o.not_start.elim, fun o => o.not_start.elim, fun o => o.not_start.elim, fun o => o.not_start.elim, fun o => o.not_start.elim, fun o => o.not_start.elim⟩
            · refine StepsI.cons (i := 0) (ws := []) rfl (by kernel_rfl) (fun L a W hI hno hon hw K hK => ?_) ?_
              · obtain ⟨_, rfl, u51, u52, u53, u54, u55, u56, u57, u58, pp, yy, x7, q56, rfl, H⟩ := hI
                simp only [List.getElem_toArray, List.getElem_cons_zero]
                simp only [frmL, Act.put, List.setIfInBounds_toArray, List.set_cons_zero, List.set_cons_succ]
                go_simp
                have HN := H
                refine hK.out _ _ ⟨[.pointer (some ⟨q, 1, none⟩), u52, u53, u54, u55, u56, u57, u58], ?_, .pointer (some ⟨q, 1, none⟩), u52, u53, u54, u55, u56, u57, u58, pp, yy, x7, q56, rfl, ?_⟩
                · simp only [frmL, Act.put, List.setIfInBounds_toArray, List.set_cons_zero, List.set_cons_succ]
                · exact ⟨HN.sm, HN.hp.imp On.old id, HN.hp1, HN.hx, fun _ => rfl, fun o => HN.h1 (o.of_set (by decide)), fun o => HN.h2 (o.of_set (by decide)), fun o => HN.h3 (o.of_set (by decide)), fun o => HN.h4 (o.of_set (by decide)), fun o => (HN.h5 (o.of_set (by decide))).imp On.old id, fun o => HN.h6 (o.of_set (by decide)), fun o => HN.h7 (o.of_set (by decide))⟩
              refine StepsI.cons (i := 1) (ws := [0]) rfl (by kernel_rfl) (fun L a W hI hno hon hw K hK => ?_) ?_
              · obtain ⟨_, rfl, u51, u52, u53, u54, u55, u56, u57, u58, pp, yy, x7, q56, rfl, H⟩ := hI
                simp only [List.getElem_toArray, List.getElem_cons_zero, List.getElem_cons_succ]
                obtain rfl := H.h0 (hw 0 (by simp))
                simp only [frmL, Act.put, List.setIfInBounds_toArray, List.set_cons_zero, List.set_cons_succ]
                have c0 := blk_cell H.sm.box (i := 1) rfl
                go_simp
                have HN := H
                refine hK.out _ _ ⟨[.pointer (some ⟨q, 1, none⟩), (.slice Av nv cv_), u53, u54, u55, u56, u57, u58], ?_, .pointer (some ⟨q, 1, none⟩), (.slice Av nv cv_), u53, u54, u55, u56, u57, u58, pp, yy, x7, q56, rfl, ?_⟩
                · simp only [frmL, Act.put, List.setIfInBounds_toArray, List.set_cons_zero, List.set_cons_succ]
                · exact ⟨HN.sm, HN.hp.imp On.old id, HN.hp1, HN.hx, fun o => HN.h0 (o.of_set (by decide)), fun _ => HV.out, fun o => HN.h2 (o.of_set (by decide)), fun o => HN.h3 (o.of_set (by decide)), fun o => HN.h4 (o.of_set (by decide)), fun o => (HN.h5 (o.of_set (by decide))).imp On.old id, fun o => HN.h6 (o.of_set (by decide)), fun o => HN.h7 (o.of_set (by decide))⟩
              refine StepsI.cons (i := 2) (ws := [1]) rfl (by kernel_rfl) (fun L a W hI hno hon hw K hK => ?_) ?_
              · obtain ⟨_, rfl, u51, u52, u53, u54, u55, u56, u57, u58, pp, yy, x7, q56, rfl, H⟩ := hI
                simp only [List.getElem_toArray, List.getElem_cons_zero, List.getElem_cons_succ]
                obtain rfl := H.h1 (hw 1 (by simp))
                simp only [frmL, Act.put, List.setIfInBounds_toArray, List.set_cons_zero, List.set_cons_succ]
                have hN0 : (0 : Int) < (2 : Int) := by omega
                have hN0' : 0 < 2 := by omega
                go_simp
                have HN := H
                refine hK.out _ _ ⟨[u51, .slice (some ⟨b8, 0, none⟩) 2 c8, .pointer (some ⟨b8, 0, none⟩), u54, u55, u56, u57, u58], ?_, u51, .slice (some ⟨b8, 0, none⟩) 2 c8, .pointer (some ⟨b8, 0, none⟩), u54, u55, u56, u57, u58, pp, yy, x7, q56, rfl, ?_⟩
                · simp only [frmL, Act.put, List.setIfInBounds_toArray, List.set_cons_zero, List.set_cons_succ]
                · exact ⟨HN.sm, HN.hp.imp On.old id, HN.hp1, HN.hx, fun o => HN.h0 (o.of_set (by decide)), fun o => HN.h1 (o.of_set (by decide)), fun _ => rfl, fun o => HN.h3 (o.of_set (by decide)), fun o => HN.h4 (o.of_set (by decide)), fun o => (HN.h5 (o.of_set (by decide))).imp On.old id, fun o => HN.h6 (o.of_set (by decide)), fun o => HN.h7 (o.of_set (by decide))⟩
              refine StepsI.cons (i := 3) (ws := [2]) rfl (by kernel_rfl) (fun L a W hI hno hon hw K hK => ?_) ?_
              · obtain ⟨_, rfl, u51, u52, u53, u54, u55, u56, u57, u58, pp, yy, x7, q56, rfl, H⟩ := hI
                simp only [List.getElem_toArray, List.getElem_cons_zero, List.getElem_cons_succ]
                obtain rfl := H.h2 (hw 2 (by simp))
                simp only [frmL, Act.put, List.setIfInBounds_toArray, List.set_cons_zero, List.set_cons_succ]
                have c8 := SMp.row0 H.sm HV.out (by have := H.hx; omega)
                go_simp
                have HN := H
                refine hK.out _ _ ⟨[u51, u52, .pointer (some ⟨b8, 0, none⟩), .slice (some ⟨G3 0, 0, none⟩) 2 2, u55, u56, u57, u58], ?_, u51, u52, .pointer (some ⟨b8, 0, none⟩), .slice (some ⟨G3 0, 0, none⟩) 2 2, u55, u56, u57, u58, pp, yy, x7, q56, rfl, ?_⟩
                · simp only [frmL, Act.put, List.setIfInBounds_toArray, List.set_cons_zero, List.set_cons_succ]
                · exact ⟨HN.sm, HN.hp.imp On.old id, HN.hp1, HN.hx, fun o => HN.h0 (o.of_set (by decide)), fun o => HN.h1 (o.of_set (by decide)), fun o => HN.h2 (o.of_set (by decide)), fun _ => rfl, fun o => HN.h4 (o.of_set (by decide)), fun o => (HN.h5 (o.of_set (by decide))).imp On.old id, fun o => HN.h6 (o.of_set (by decide)), fun o => HN.h7 (o.of_set (by decide))⟩
              refine StepsI.cons (i := 4) (ws := []) rfl (by kernel_rfl) (fun L a W hI hno hon hw K hK => ?_) ?_
              · obtain ⟨_, rfl, u51, u52, u53, u54, u55, u56, u57, u58, pp, yy, x7, q56, rfl, H⟩ := hI
                simp only [List.getElem_toArray, List.getElem_cons_zero, List.getElem_cons_succ]
                simp only [frmL, Act.put, List.setIfInBounds_toArray, List.set_cons_zero, List.set_cons_succ]
                go_simp
                have HN := H
                refine hK.out _ _ ⟨[u51, u52, u53, u54, .pointer (some ⟨g, 0, none⟩), u56, u57, u58], ?_, u51, u52, u53, u54, .pointer (some ⟨g, 0, none⟩), u56, u57, u58, pp, yy, x7, q56, rfl, ?_⟩
                · simp only [frmL, Act.put, List.setIfInBounds_toArray, List.set_cons_zero, List.set_cons_succ]
                · exact ⟨HN.sm, HN.hp.imp On.old id, HN.hp1, HN.hx, fun o => HN.h0 (o.of_set (by decide)), fun o => HN.h1 (o.of_set (by decide)), fun o => HN.h2 (o.of_set (by decide)), fun o => HN.h3 (o.of_set (by decide)), fun _ => rfl, fun o => (HN.h5 (o.of_set (by decide))).imp On.old id, fun o => HN.h6 (o.of_set (by decide)), fun o => HN.h7 (o.of_set (by decide))⟩
              refine StepsI.cons (i := 5) (ws := []) rfl (by kernel_rfl) (fun L a W hI hno hon hw K hK => ?_) ?_
              · obtain ⟨_, rfl, u51, u52, u53, u54, u55, u56, u57, u58, pp, yy, x7, q56, rfl, H⟩ := hI
                simp only [List.getElem_toArray, List.getElem_cons_zero, List.getElem_cons_succ]
                simp only [frmL, Act.put, List.setIfInBounds_toArray, List.set_cons_zero, List.set_cons_succ]
                go_simp
                have HN := H.up (below_alloc W (.cells #[.int .i64 (-1), .int .i64 4] 3))
                refine hK.out _ _ ⟨[u51, u52, u53, u54, u55, .slice (some ⟨W.heap.size, 0, none⟩) 2 2, u57, u58], ?_, u51, u52, u53, u54, u55, .slice (some ⟨W.heap.size, 0, none⟩) 2 2, u57, u58, pp, yy, x7, W.heap.size, rfl, ?_⟩
                · simp only [frmL, Act.put, List.setIfInBounds_toArray, List.set_cons_zero, List.set_cons_succ]
                · exact ⟨HN.sm, HN.hp.imp On.old id, HN.hp1, HN.hx, fun o => HN.h0 (o.of_set (by decide)), fun o => HN.h1 (o.of_set (by decide)), fun o => HN.h2 (o.of_set (by decide)), fun o => HN.h3 (o.of_set (by decide)), fun o => HN.h4 (o.of_set (by decide)), fun _ => .inr ⟨rfl, by have := blk_lt H.sm.rd.box; omega, blk_new W 3 #[iv (-1), iv 4]⟩, fun o => HN.h6 (o.of_set (by decide)), fun o => HN.h7 (o.of_set (by decide))⟩
              refine StepsI.cons (i := 6) (ws := [4, 5]) rfl (by kernel_rfl) (fun L a W hI hno hon hw K hK => ?_) ?_
              · obtain ⟨_, rfl, u51, u52, u53, u54, u55, u56, u57, u58, pp, yy, x7, q56, rfl, H⟩ := hI
                simp only [List.getElem_toArray, List.getElem_cons_zero, List.getElem_cons_succ]
                obtain rfl := H.h4 (hw 4 (by simp))
                have H5 := (H.h5 (hw 5 (by simp))).resolve_left hno
                have e5 := H5.1
                subst e5
                have hpp9 := H.hp.resolve_left hno
                simp only [frmL, Act.put, List.setIfInBounds_toArray, List.set_cons_zero, List.set_cons_succ]
                go_simp
                go_wp2_with (go_at_call 83; (with_reducible refine (one_any w0 W g A l c pp _ 2 2 [-1, 4] H.sm.rd (by omega) (ints_two H5.2.2) (by omega) (fun b o e => by injection e with e; injection e with e _ _; have := H5.2.1; omega)).mono ?_); rintro e w9 ⟨x9, rfl, hk1, hr, ho⟩; have HK1 := Lib.hid hk1; have HR := Lib.hid hr; have HO := Lib.hid ho; clear hk1 hr ho)
                have hx9 : -1 ≤ x9 ∧ x9 ≤ 4 := by have := HK1.out; simp at this; omega
                have HN := H
                refine hK.out _ _ ⟨[u51, u52, u53, u54, .pointer (some ⟨g, 0, none⟩), .slice (some ⟨q56, 0, none⟩) 2 2, .int .i64 x9, u58], ?_, u51, u52, u53, u54, .pointer (some ⟨g, 0, none⟩), .slice (some ⟨q56, 0, none⟩) 2 2, .int .i64 x9, u58, pp + 1, yy, x9, q56, rfl, ?_⟩
                · simp only [frmL, Act.put, List.setIfInBounds_toArray, List.set_cons_zero, List.set_cons_succ]
                · exact ⟨H.sm.one HR.out HO.out, .inl hon, by omega, HN.hx, fun o => HN.h0 (o.of_set (by decide)), fun o => HN.h1 (o.of_set (by decide)), fun o => HN.h2 (o.of_set (by decide)), fun o => HN.h3 (o.of_set (by decide)), fun o => HN.h4 (o.of_set (by decide)), fun _ => .inl hon, fun _ => ⟨rfl, hx9⟩, fun o => HN.h7 (o.of_set (by decide))⟩
              refine StepsI.cons (i := 7) (ws := [3, 0, 1, 2, 3, 4, 5, 6]) rfl (by kernel_rfl) (fun L a W hI hno hon hw K hK => ?_) ?_
              · obtain ⟨_, rfl, u51, u52, u53, u54, u55, u56, u57, u58, pp, yy, x7, q56, rfl, H⟩ := hI
                simp only [List.getElem_toArray, List.getElem_cons_zero, List.getElem_cons_succ]
                obtain rfl := H.h3 (hw 3 (by simp))
                simp only [frmL, Act.put, List.setIfInBounds_toArray, List.set_cons_zero, List.set_cons_succ]
                go_simp
                have HN := H
                refine hK.out _ _ ⟨[u51, u52, u53, .slice (some ⟨G3 0, 0, none⟩) 2 2, u55, u56, u57, .pointer (some ⟨G3 0, 0, none⟩)], ?_, u51, u52, u53, .slice (some ⟨G3 0, 0, none⟩) 2 2, u55, u56, u57, .pointer (some ⟨G3 0, 0, none⟩), pp, yy, x7, q56, rfl, ?_⟩
                · simp only [frmL, Act.put, List.setIfInBounds_toArray, List.set_cons_zero, List.set_cons_succ]
                · exact ⟨HN.sm, HN.hp.imp On.old id, HN.hp1, HN.hx, fun o => HN.h0 (o.of_set (by decide)), fun o => HN.h1 (o.of_set (by decide)), fun o => HN.h2 (o.of_set (by decide)), fun o => HN.h3 (o.of_set (by decide)), fun o => HN.h4 (o.of_set (by decide)), fun o => (HN.h5 (o.of_set (by decide))).imp On.old id, fun o => HN.h6 (o.of_set (by decide)), fun _ => rfl⟩
              refine StepsI.cons (i := 8) (ws := [7, 6, 6, 0, 1, 2, 3, 4, 5, 6]) rfl (by kernel_rfl) (fun L a W hI hno hon hw K hK => ?_) ?_
              · obtain ⟨_, rfl, u51, u52, u53, u54, u55, u56, u57, u58, pp, yy, x7, q56, rfl, H⟩ := hI
                simp only [List.getElem_toArray, List.getElem_cons_zero, List.getElem_cons_succ]
                obtain rfl := H.h7 (hw 7 (by simp))
                have e6 := H.h6 (hw 6 (by simp))
                have e7 := e6.1
                subst e7
                simp only [frmL, Act.put, List.setIfInBounds_toArray, List.set_cons_zero, List.set_cons_succ]
                have hy0 := H.hx
                have r0 := (H.sm.rows 0 (by omega)).2.1
                have c9 := blk_cell r0 (i := 0) rfl
                have f9 := blk_frozen r0 0
                go_simp
                have HN := H
                refine hK.out _ _ ⟨[u51, u52, u53, u54, u55, u56, .int .i64 x7, .pointer (some ⟨G3 0, 0, none⟩)], ?_, u51, u52, u53, u54, u55, u56, .int .i64 x7, .pointer (some ⟨G3 0, 0, none⟩), pp, yy.set 0 [x7, gi (gr yy 0) 1], x7, q56, rfl, ?_⟩
                · simp only [frmL, Act.put, List.setIfInBounds_toArray, List.set_cons_zero, List.set_cons_succ]
                · exact ⟨H.sm.setV' (by omega) e6.2, HN.hp.imp On.old id, HN.hp1, by rw [List.length_set]; exact H.hx, fun o => HN.h0 (o.of_set (by decide)), fun o => HN.h1 (o.of_set (by decide)), fun o => HN.h2 (o.of_set (by decide)), fun o => HN.h3 (o.of_set (by decide)), fun o => HN.h4 (o.of_set (by decide)), fun _ => .inl (hw 6 (by simp)).old, fun o => HN.h6 (o.of_set (by decide)), fun o => HN.h7 (o.of_set (by decide))⟩
              exact StepsI.nil
            · rintro L us W hL ⟨u51, u52, u53, u54, u55, u56, u57, u58, pp, yy, x7, q56, rfl, H⟩
              have HS6 := Lib.hid H.sm
              have hpp6 := H.hp1
              have HNY6 := Lib.hid H.hx
              clear H hL HS5
              simp only [frmL, Act.put, List.setIfInBounds_toArray, List.set_cons_zero, List.set_cons_succ]
              have c0 := blk_cell HS6.out.box (i := 0) rfl
              have c1 := blk_cell HS6.out.box (i := 1) rfl
              have HE := Lib.hid (HS6.out.done (w := w) (by rw [HQ.out]; exact hwz) hgw HG1.out HK1.out (n := 2) HNX.out HNY6.out (by omega) (by omega) (p := p) (by omega))
              have HKB := HS6.out.old HK1.out (by omega)
              have c2 := blk_cell HKB (i := 0) rfl
              have c3 := blk_cell HKB (i := 1) rfl
              have f2 := blk_frozen HKB 0
              have f3 := blk_frozen HKB 1
              go_wp2
              clear c0 c1 c2 c3 f2 f3
              have hb9 := blk_set (blk_set HKB 0 (.slice Au nu cu)) 1 (.slice Av nv cv_)
              have k0 := blk_cell hb9 (i := 0) (v := (.slice Au nu cu)) rfl
              have k1 := blk_cell hb9 (i := 1) (v := (.slice Av nv cv_)) rfl
              clear hb9 HKB HS6
              refine bodyPost_ret (v := .agg #[(.slice Au nu cu), (.slice Av nv cv_)]) (by simp [results, Try.results66, go_sem, k0, k1]) rfl HE.out
          · have hd1 : (x2 == 1) = false := by simpa using he1
            clear he1
            have c0 := blk_cell HS5.out.box (i := 0) rfl
            have c1 := blk_cell HS5.out.box (i := 1) rfl
            have HE := Lib.hid (HS5.out.done (w := w) (by rw [HQ.out]; exact hwz) hgw HG1.out HK1.out (n := 2) HNX.out HNY.out (by omega) (by omega) (p := p) (by omega))
            have HKB := HS5.out.old HK1.out (by omega)
            have c2 := blk_cell HKB (i := 0) rfl
            have c3 := blk_cell HKB (i := 1) rfl
            have f2 := blk_frozen HKB 0
            have f3 := blk_frozen HKB 1
            go_wp2
            clear c0 c1 c2 c3 f2 f3
            have hb9 := blk_set (blk_set HKB 0 (.slice Au nu cu)) 1 (.slice Av nv cv_)
            have k0 := blk_cell hb9 (i := 0) (v := (.slice Au nu cu)) rfl
            have k1 := blk_cell hb9 (i := 1) (v := (.slice Av nv cv_)) rfl
            clear hb9 HKB HS5
            refine bodyPost_ret (v := .agg #[(.slice Au nu cu), (.slice Av nv cv_)]) (by simp [results, Try.results66, go_sem, k0, k1]) rfl HE.out
      · have hd : (x == 0) = false := by simpa using hx0
        clear hx0
        have HC := Lib.hid (pick_any w0 _ g A l c (p' + 1) 40 HS2.out.rd (by omega))
        go_wp2_with fail
        clear hd
        obtain ⟨Au, nu, cu, eu⟩ := own_form HS2.out.bi
        obtain ⟨Av, nv, cv_, ev⟩ := own_form HS2.out.bo
        subst eu
        subst ev
        refine HC.out.mono ?_
        rintro e w5 ⟨x2, rfl, -, -, hr, z, hw⟩
        have hone := Rdr.one (g := g) w2 (.int .i64 (p' + 1 + 1 : Nat)) z
        rw [← hw] at hone
        have HS5 := Lib.hid (HS2.out.one hr hone)
        have hNx : xs.length = k := HLEN.out.1
        have hNy : ys.length = k := HLEN.out.2
        have HNX := Lib.hid hNx
        have HNY := Lib.hid hNy
        have hx0 : 0 < xs.length := by omega
        have hy0_ : 0 < ys.length := by omega
        clear hr hone hw HC HS2 hNx hNy
        by_cases he0 : x2 = 0
        · have hd0 : (x2 == 0) = true := by simp [he0]
          clear he0
          obtain ⟨b8, c8, e8, hc8, hf8, hs8⟩ := HS5.out.setU hx0 (x := 2) (by omega)
          have c0 := blk_cell HS5.out.box (i := 0) rfl
          rw [HNX.out] at e8
          have hN0 : (0 : Int) < (k : Int) := by omega
          have hN0' : 0 < k := by omega
          have HS6 := Lib.hid hs8
          have HV8 := Lib.hid e8
          rw [e8] at c0
          clear hs8 e8 HS5
          have d0 := blk_cell HS6.out.box (i := 0) rfl
          have d1 := blk_cell HS6.out.box (i := 1) rfl
          have HE := Lib.hid (HS6.out.done (w := w) (by rw [HQ.out]; exact hwz) hgw HG1.out HK1.out (n := k) (by rw [List.length_set]; exact HNX.out) HNY.out (by omega) (by omega) (p := p) (by omega))
          rw [HV8.out] at d0
          have HKB := HS6.out.old HK1.out (by omega)
          have d2 := blk_cell HKB (i := 0) rfl
          have d3 := blk_cell HKB (i := 1) rfl
          have g2 := blk_frozen HKB 0
          have g3 := blk_frozen HKB 1
          have hb9 := blk_set (blk_set HKB 0 (.slice Au nu cu)) 1 (.slice Av nv cv_)
          have k0 := blk_cell hb9 (i := 0) (v := (.slice Au nu cu)) rfl
          have k1 := blk_cell hb9 (i := 1) (v := (.slice Av nv cv_)) rfl
          have HK0 := Lib.hid k0
          have HK2 := Lib.hid k1
          clear hb9 HKB HS6 k0 k1
          have HU8 := HV8.out
          injection HU8 with q1 q2 q3
          subst q1
          subst q2
          subst q3
          clear HV8
          go_wp2
          clear c0 d0 d1 d2 d3 g2 g3 hc8 hf8 hd0
          have k0 := HK0.out
          have k1 := HK2.out
          refine bodyPost_ret (v := .agg #[.slice (some ⟨b8, 0, none⟩) nu cu, (.slice Av nv cv_)]) (by simp [results, Try.results66, go_sem, k0, k1]) rfl HE.out
        · have hd0 : (x2 == 0) = false := by simpa using he0
          clear he0
          by_cases he1 : x2 = 1
          · have hd1 : (x2 == 1) = true := by simp [he1]
            clear he1
            obtain ⟨b8, c8, e8, _, _, _, _⟩ := HS5.out.setV hy0_ (x := 0) (by omega)
            rw [HNY.out] at e8
            have HV := Lib.hid e8
            clear e8
            go_wp2
            refine wp_region_invF (rs := [0, 1, 2, 3, 4, 5, 6, 7, 8]) [51, 52, 53, 54, 55, 56, 57, 58] (fun L us W => ∃ u51 u52 u53 u54 u55 u56 u57 u58 pp yy x7 q56, us = [u51, u52, u53, u54, u55, u56, u57, u58] ∧ R14m w0 w1 g A l c (p' + 1 + 1) q @k b8 c8 (.slice Au nu cu) (.slice Av nv cv_) xs G ys L u51 u52 u53 u54 u55 u56 u57 u58 pp yy x7 q56 W) (by kernel_rfl) ?_ (by kernel_rfl) (by kernel_rfl) ?_ ?_
            · refine ⟨[undef, undef, undef, undef, undef, undef, undef, undef], ?_, undef, undef, undef, undef, undef, undef, undef, undef, p' + 1 + 1, ys, 0, 0, rfl, ?_⟩
              · simp only [frmL, Act.put, List.setIfInBounds_toArray, List.set_cons_zero, List.set_cons_succ]
              exact ⟨HS5.out.next (Quiet.below (B := w5.heap.size) ⟨1, rfl⟩), .inr (Nat.le_refl _), by omega, HNY.out, fun o => o.not_start.elim, fun o => o.not_start.elim, fun o => o.not_start.elim, fun o => o.not_start.elim, fun o => o.not_start.elim, fun o => o.not_start.elim, fun o => o.not_start.elim, fun o => o.not_start.elim⟩
            · refine StepsI.cons (i := 0) (ws := []) rfl (by kernel_rfl) (fun L a W hI hno hon hw K hK => ?_) ?_
              · obtain ⟨_, rfl, u51, u52, u53, u54, u55, u56, u57, u58, pp, yy, x7, q56, rfl, H⟩ := hI
                simp only [List.getElem_toArray, List.getElem_cons_zero]
                simp only [frmL, Act.put, List.setIfInBounds_toArray, List.set_cons_zero, List.set_cons_succ]
                go_simp
                have HN := H
                refine hK.out _ _ ⟨[.pointer (some ⟨q, 1, none⟩), u52, u53, u54, u55, u56, u57, u58], ?_, .pointer (some ⟨q, 1, none⟩), u52, u53, u54, u55, u56, u57, u58, pp, yy, x7, q56, rfl, ?_⟩
                · simp only [frmL, Act.put, List.setIfInBounds_toArray, List.set_cons_zero, List.set_cons_succ]
                · exact ⟨HN.sm, HN.hp.imp On.old id, HN.hp1, HN.hx, fun _ => rfl, fun o => HN.h1 (o.of_set (by decide)), fun o => HN.h2 (o.of_set (by decide)), fun o => HN.h3 (o.of_set (by decide)), fun o => HN.h4 (o.of_set (by decide)), fun o => (HN.h5 (o.of_set (by decide))).imp On.old id, fun o => HN.h6 (o.of_set (by decide)), fun o => HN.h7 (o.of_set (by decide))⟩
              refine StepsI.cons (i := 1) (ws := [0]) rfl (by kernel_rfl) (fun L a W hI hno hon hw K hK => ?_) ?_
              · obtain ⟨_, rfl, u51, u52, u53, u54, u55, u56, u57, u58, pp, yy, x7, q56, rfl, H⟩ := hI
                simp only [List.getElem_toArray, List.getElem_cons_zero, List.getElem_cons_succ]
                obtain rfl := H.h0 (hw 0 (by simp))
                simp only [frmL, Act.put, List.setIfInBounds_toArray, List.set_cons_zero, List.set_cons_succ]
                have c0 := blk_cell H.sm.box (i := 1) rfl
                go_simp
                have HN := H
                refine hK.out _ _ ⟨[.pointer (some ⟨q, 1, none⟩), (.slice Av nv cv_), u53, u54, u55, u56, u57, u58], ?_, .pointer (some ⟨q, 1, none⟩), (.slice Av nv cv_), u53, u54, u55, u56, u57, u58, pp, yy, x7, q56, rfl, ?_⟩
                · simp only [frmL, Act.put, List.setIfInBounds_toArray, List.set_cons_zero, List.set_cons_succ]
                · exact ⟨HN.sm, HN.hp.imp On.old id, HN.hp1, HN.hx, fun o => HN.h0 (o.of_set (by decide)), fun _ => HV.out, fun o => HN.h2 (o.of_set (by decide)), fun o => HN.h3 (o.of_set (by decide)), fun o => HN.h4 (o.of_set (by decide)), fun o => (HN.h5 (o.of_set (by decide))).imp On.old id, fun o => HN.h6 (o.of_set (by decide)), fun o => HN.h7 (o.of_set (by decide))⟩
              refine StepsI.cons (i := 2) (ws := [1]) rfl (by kernel_rfl) (fun L a W hI hno hon hw K hK => ?_) ?_
              · obtain ⟨_, rfl, u51, u52, u53, u54, u55, u56, u57, u58, pp, yy, x7, q56, rfl, H⟩ := hI
                simp only [List.getElem_toArray, List.getElem_cons_zero, List.getElem_cons_succ]
                obtain rfl := H.h1 (hw 1 (by simp))
                simp only [frmL, Act.put, List.setIfInBounds_toArray, List.set_cons_zero, List.set_cons_succ]
                have hN0 : (0 : Int) < (k : Int) := by omega
                have hN0' : 0 < k := by omega
                go_simp
                have HN := H
                refine hK.out _ _ ⟨[u51, .slice (some ⟨b8, 0, none⟩) k c8, .pointer (some ⟨b8, 0, none⟩), u54, u55, u56, u57, u58], ?_, u51, .slice (some ⟨b8, 0, none⟩) k c8, .pointer (some ⟨b8, 0, none⟩), u54, u55, u56, u57, u58, pp, yy, x7, q56, rfl, ?_⟩
                · simp only [frmL, Act.put, List.setIfInBounds_toArray, List.set_cons_zero, List.set_cons_succ]
                · exact ⟨HN.sm, HN.hp.imp On.old id, HN.hp1, HN.hx, fun o => HN.h0 (o.of_set (by decide)), fun o => HN.h1 (o.of_set (by decide)), fun _ => rfl, fun o => HN.h3 (o.of_set (by decide)), fun o => HN.h4 (o.of_set (by decide)), fun o => (HN.h5 (o.of_set (by decide))).imp On.old id, fun o => HN.h6 (o.of_set (by decide)), fun o => HN.h7 (o.of_set (by decide))⟩
              refine StepsI.cons (i := 3) (ws := [2]) rfl (by kernel_rfl) (fun L a W hI hno hon hw K hK => ?_) ?_
              · obtain ⟨_, rfl, u51, u52, u53, u54, u55, u56, u57, u58, pp, yy, x7, q56, rfl, H⟩ := hI
                simp only [List.getElem_toArray, List.getElem_cons_zero, List.getElem_cons_succ]
                obtain rfl := H.h2 (hw 2 (by simp))
                simp only [frmL, Act.put, List.setIfInBounds_toArray, List.set_cons_zero, List.set_cons_succ]
                have c8 := SMp.row0 H.sm HV.out (by have := H.hx; omega)
                go_simp
                have HN := H
                refine hK.out _ _ ⟨[u51, u52, .pointer (some ⟨b8, 0, none⟩), .slice (some ⟨G 0, 0, none⟩) 2 2, u55, u56, u57, u58], ?_, u51, u52, .pointer (some ⟨b8, 0, none⟩), .slice (some ⟨G 0, 0, none⟩) 2 2, u55, u56, u57, u58, pp, yy, x7, q56, rfl, ?_⟩
                · simp only [frmL, Act.put, List.setIfInBounds_toArray, List.set_cons_zero, List.set_cons_succ]
                · exact ⟨HN.sm, HN.hp.imp On.old id, HN.hp1, HN.hx, fun o => HN.h0 (o.of_set (by decide)), fun o => HN.h1 (o.of_set (by decide)), fun o => HN.h2 (o.of_set (by decide)), fun _ => rfl, fun o => HN.h4 (o.of_set (by decide)), fun o => (HN.h5 (o.of_set (by decide))).imp On.old id, fun o => HN.h6 (o.of_set (by decide)), fun o => HN.h7 (o.of_set (by decide))⟩
              refine StepsI.cons (i := 4) (ws := []) rfl (by kernel_rfl) (fun L a W hI hno hon hw K hK => ?_) ?_
              · obtain ⟨_, rfl, u51, u52, u53, u54, u55, u56, u57, u58, pp, yy, x7, q56, rfl, H⟩ := hI
                simp only [List.getElem_toArray, List.getElem_cons_zero, List.getElem_cons_succ]
                simp only [frmL, Act.put, List.setIfInBounds_toArray, List.set_cons_zero, List.set_cons_succ]
                go_simp
                have HN := H
                refine hK.out _ _ ⟨[u51, u52, u53, u54, .pointer (some ⟨g, 0, none⟩), u56, u57, u58], ?_, u51, u52, u53, u54, .pointer (some ⟨g, 0, none⟩), u56, u57, u58, pp, yy, x7, q56, rfl, ?_⟩
                · simp only [frmL, Act.put, List.setIfInBounds_toArray, List.set_cons_zero, List.set_cons_succ]
                · exact ⟨HN.sm, HN.hp.imp On.old id, HN.hp1, HN.hx, fun o => HN.h0 (o.of_set (by decide)), fun o => HN.h1 (o.of_set (by decide)), fun o => HN.h2 (o.of_set (by decide)), fun o => HN.h3 (o.of_set (by decide)), fun _ => rfl, fun o => (HN.h5 (o.of_set (by decide))).imp On.old id, fun o => HN.h6 (o.of_set (by decide)), fun o => HN.h7 (o.of_set (by decide))⟩
              refine StepsI.cons (i := 5) (ws := []) rfl (by kernel_rfl) (fun L a W hI hno hon hw K hK => ?_) ?_
              · obtain ⟨_, rfl, u51, u52, u53, u54, u55, u56, u57, u58, pp, yy, x7, q56, rfl, H⟩ := hI
                simp only [List.getElem_toArray, List.getElem_cons_zero, List.getElem_cons_succ]
                simp only [frmL, Act.put, List.setIfInBounds_toArray, List.set_cons_zero, List.set_cons_succ]
                go_simp
                have HN := H.up (below_alloc W (.cells #[.int .i64 (-1), .int .i64 4] 3))
                refine hK.out _ _ ⟨[u51, u52, u53, u54, u55, .slice (some ⟨W.heap.size, 0, none⟩) 2 2, u57, u58], ?_, u51, u52, u53, u54, u55, .slice (some ⟨W.heap.size, 0, none⟩) 2 2, u57, u58, pp, yy, x7, W.heap.size, rfl, ?_⟩
                · simp only [frmL, Act.put, List.setIfInBounds_toArray, List.set_cons_zero, List.set_cons_succ]
                · exact ⟨HN.sm, HN.hp.imp On.old id, HN.hp1, HN.hx, fun o => HN.h0 (o.of_set (by decide)), fun o => HN.h1 (o.of_set (by decide)), fun o => HN.h2 (o.of_set (by decide)), fun o => HN.h3 (o.of_set (by decide)), fun o => HN.h4 (o.of_set (by decide)), fun _ => .inr ⟨rfl, by have := blk_lt H.sm.rd.box; omega, blk_new W 3 #[iv (-1), iv 4]⟩, fun o => HN.h6 (o.of_set (by decide)), fun o => HN.h7 (o.of_set (by decide))⟩
              refine StepsI.cons (i := 6) (ws := [4, 5]) rfl (by kernel_rfl) (fun L a W hI hno hon hw K hK => ?_) ?_
              · obtain ⟨_, rfl, u51, u52, u53, u54, u55, u56, u57, u58, pp, yy, x7, q56, rfl, H⟩ := hI
                simp only [List.getElem_toArray, List.getElem_cons_zero, List.getElem_cons_succ]
                obtain rfl := H.h4 (hw 4 (by simp))
                have H5 := (H.h5 (hw 5 (by simp))).resolve_left hno
                have e5 := H5.1
                subst e5
                have hpp9 := H.hp.resolve_left hno
                simp only [frmL, Act.put, List.setIfInBounds_toArray, List.set_cons_zero, List.set_cons_succ]
                go_simp
                go_wp2_with (go_at_call 83; (with_reducible refine (one_any w0 W g A l c pp _ 2 2 [-1, 4] H.sm.rd (by omega) (ints_two H5.2.2) (by omega) (fun b o e => by injection e with e; injection e with e _ _; have := H5.2.1; omega)).mono ?_); rintro e w9 ⟨x9, rfl, hk1, hr, ho⟩; have HK1 := Lib.hid hk1; have HR := Lib.hid hr; have HO := Lib.hid ho; clear hk1 hr ho)
                have hx9 : -1 ≤ x9 ∧ x9 ≤ 4 := by have := HK1.out; simp at this; omega
                have HN := H
                refine hK.out _ _ ⟨[u51, u52, u53, u54, .pointer (some ⟨g, 0, none⟩), .slice (some ⟨q56, 0, none⟩) 2 2, .int .i64 x9, u58], ?_, u51, u52, u53, u54, .pointer (some ⟨g, 0, none⟩), .slice (some ⟨q56, 0, none⟩) 2 2, .int .i64 x9, u58, pp + 1, yy, x9, q56, rfl, ?_⟩
                · simp only [frmL, Act.put, List.setIfInBounds_toArray, List.set_cons_zero, List.set_cons_succ]
                · exact ⟨H.sm.one HR.out HO.out, .inl hon, by omega, HN.hx, fun o => HN.h0 (o.of_set (by decide)), fun o => HN.h1 (o.of_set (by decide)), fun o => HN.h2 (o.of_set (by decide)), fun o => HN.h3 (o.of_set (by decide)), fun o => HN.h4 (o.of_set (by decide)), fun _ => .inl hon, fun _ => ⟨rfl, hx9⟩, fun o => HN.h7 (o.of_set (by decide))⟩
              refine StepsI.cons (i := 7) (ws := [3, 0, 1, 2, 3, 4, 5, 6]) rfl (by kernel_rfl) (fun L a W hI hno hon hw K hK => ?_) ?_
              · obtain ⟨_, rfl, u51, u52, u53, u54, u55, u56, u57, u58, pp, yy, x7, q56, rfl, H⟩ := hI
                simp only [List.getElem_toArray, List.getElem_cons_zero, List.getElem_cons_succ]
                obtain rfl := H.h3 (hw 3 (by simp))
                simp only [frmL, Act.put, List.setIfInBounds_toArray, List.set_cons_zero, List.set_cons_succ]
                go_simp
                have HN := H
                refine hK.out _ _ ⟨[u51, u52, u53, .slice (some ⟨G 0, 0, none⟩) 2 2, u55, u56, u57, .pointer (some ⟨G 0, 0, none⟩)], ?_, u51, u52, u53, .slice (some ⟨G 0, 0, none⟩) 2 2, u55, u56, u57, .pointer (some ⟨G 0, 0, none⟩), pp, yy, x7, q56, rfl, ?_⟩
                · simp only [frmL, Act.put, List.setIfInBounds_toArray, List.set_cons_zero, List.set_cons_succ]
                · exact ⟨HN.sm, HN.hp.imp On.old id, HN.hp1, HN.hx, fun o => HN.h0 (o.of_set (by decide)), fun o => HN.h1 (o.of_set (by decide)), fun o => HN.h2 (o.of_set (by decide)), fun o => HN.h3 (o.of_set (by decide)), fun o => HN.h4 (o.of_set (by decide)), fun o => (HN.h5 (o.of_set (by decide))).imp On.old id, fun o => HN.h6 (o.of_set (by decide)), fun _ => rfl⟩
              refine StepsI.cons (i := 8) (ws := [7, 6, 6, 0, 1, 2, 3, 4, 5, 6]) rfl (by kernel_rfl) (fun L a W hI hno hon hw K hK => ?_) ?_
              · obtain ⟨_, rfl, u51, u52, u53, u54, u55, u56, u57, u58, pp, yy, x7, q56, rfl, H⟩ := hI
                simp only [List.getElem_toArray, List.getElem_cons_zero, List.getElem_cons_succ]
                obtain rfl := H.h7 (hw 7 (by simp))
                have e6 := H.h6 (hw 6 (by simp))
                have e7 := e6.1
                subst e7
                simp only [frmL, Act.put, List.setIfInBounds_toArray, List.set_cons_zero, List.set_cons_succ]
                have hy0 := H.hx
                have r0 := (H.sm.rows 0 (by omega)).2.1
                have c9 := blk_cell r0 (i := 0) rfl
                have f9 := blk_frozen r0 0
                go_simp
                have HN := H
                refine hK.out _ _ ⟨[u51, u52, u53, u54, u55, u56, .int .i64 x7, .pointer (some ⟨G 0, 0, none⟩)], ?_, u51, u52, u53, u54, u55, u56, .int .i64 x7, .pointer (some ⟨G 0, 0, none⟩), pp, yy.set 0 [x7, gi (gr yy 0) 1], x7, q56, rfl, ?_⟩
                · simp only [frmL, Act.put, List.setIfInBounds_toArray, List.set_cons_zero, List.set_cons_succ]
                · exact ⟨H.sm.setV' (by omega) e6.2, HN.hp.imp On.old id, HN.hp1, by rw [List.length_set]; exact H.hx, fun o => HN.h0 (o.of_set (by decide)), fun o => HN.h1 (o.of_set (by decide)), fun o => HN.h2 (o.of_set (by decide)), fun o => HN.h3 (o.of_set (by decide)), fun o => HN.h4 (o.of_set (by decide)), fun _ => .inl (hw 6 (by simp)).old, fun o => HN.h6 (o.of_set (by decide)), fun o => HN.h7 (o.of_set (by decide))⟩
              exact StepsI.nil
            · rintro L us W hL ⟨u51, u52, u53, u54, u55, u56, u57, u58, pp, yy, x7, q56, rfl, H⟩
              have HS6 := Lib.hid H.sm
              have hpp6 := H.hp1
              have HNY6 := Lib.hid H.hx
              clear H hL HS5
              simp only [frmL, Act.put, List.setIfInBounds_toArray, List.set_cons_zero, List.set_cons_succ]
              have c0 := blk_cell HS6.out.box (i := 0) rfl
              have c1 := blk_cell HS6.out.box (i := 1) rfl
              have HE := Lib.hid (HS6.out.done (w := w) (by rw [HQ.out]; exact hwz) hgw HG1.out HK1.out (n := k) HNX.out HNY6.out (by omega) (by omega) (p := p) (by omega))
              have HKB := HS6.out.old HK1.out (by omega)
              have c2 := blk_cell HKB (i := 0) rfl
              have c3 := blk_cell HKB (i := 1) rfl
              have f2 := blk_frozen HKB 0
              have f3 := blk_frozen HKB 1
              go_wp2
              clear c0 c1 c2 c3 f2 f3
              have hb9 := blk_set (blk_set HKB 0 (.slice Au nu cu)) 1 (.slice Av nv cv_)
              have k0 := blk_cell hb9 (i := 0) (v := (.slice Au nu cu)) rfl
              have k1 := blk_cell hb9 (i := 1) (v := (.slice Av nv cv_)) rfl
              clear hb9 HKB HS6
              refine bodyPost_ret (v := .agg #[(.slice Au nu cu), (.slice Av nv cv_)]) (by simp [results, Try.results66, go_sem, k0, k1]) rfl HE.out
          · have hd1 : (x2 == 1) = false := by simpa using he1
            clear he1
            have c0 := blk_cell HS5.out.box (i := 0) rfl
            have c1 := blk_cell HS5.out.box (i := 1) rfl
            have HE := Lib.hid (HS5.out.done (w := w) (by rw [HQ.out]; exact hwz) hgw HG1.out HK1.out (n := k) HNX.out HNY.out (by omega) (by omega) (p := p) (by omega))
            have HKB := HS5.out.old HK1.out (by omega)
            have c2 := blk_cell HKB (i := 0) rfl
            have c3 := blk_cell HKB (i := 1) rfl
            have f2 := blk_frozen HKB 0
            have f3 := blk_frozen HKB 1
            go_wp2
            clear c0 c1 c2 c3 f2 f3
            have hb9 := blk_set (blk_set HKB 0 (.slice Au nu cu)) 1 (.slice Av nv cv_)
            have k0 := blk_cell hb9 (i := 0) (v := (.slice Au nu cu)) rfl
            have k1 := blk_cell hb9 (i := 1) (v := (.slice Av nv cv_)) rfl
            clear hb9 HKB HS5
            refine bodyPost_ret (v := .agg #[(.slice Au nu cu), (.slice Av nv cv_)]) (by simp [results, Try.results66, go_sem, k0, k1]) rfl HE.out

end Go.Proofs.Ytffbofkjefjlpaa

/- Machines drawn from bytes. -/
namespace Go.Proofs.Ytffbofkjefjlpaa
open Go.RowKit

/-- A machine that bytes give. -/
def DrawnM (w : World) (e : Ending) (w' : World) : Prop :=
  ∃ A1 c1 B1 d1 xs ys n, e = .returned (.agg #[.slice A1 n c1, .slice B1 n d1]) ∧ Ints w' A1 n c1 xs ∧ IntRows w' B1 n d1 ys ∧ 1 ≤ n ∧ n ≤ 4 ∧ Below w.heap.size w w'
set_option maxRecDepth 100000 in
set_option maxHeartbeats 1000000 in
theorem DrawValidMoore_any (A : Option Addr) (n c : Nat) (w : World) (h : Bytes w A n c) :
    Calls Try.prog 36 #[.slice A n c] w (DrawnM w) := by
  have HB := Lib.hid (below_alloc w (.cells #[.slice none 0 0, .slice none 0 0] 28))
  have HK := Lib.hid (blk_new w 28 #[.slice none 0 0, .slice none 0 0])
  have H0 := Lib.hid (newReader_any A n c _ (h.keep (Keep.below (below_alloc w (.cells #[.slice none 0 0, .slice none 0 0] 28)))))
  clear h
  go_enter Try.func36, Try.ntmps36
  go_wp2_with fail
  have HZ : Hid (w.heap.size < (w.alloc (.cells #[.slice none 0 0, .slice none 0 0] 28)).heap.size) := Lib.hid (by simp)
  generalize w.alloc (.cells #[.slice none 0 0, .slice none 0 0] 28) = W0 at *
  refine H0.out.mono ?_
  rintro e w1 ⟨A1, l, c1, rfl, hl, hr, hs⟩
  have HS := Lib.hid (show W0.heap.size ≤ w1.heap.size by omega)
  have H1 := Lib.hid (someMoore_any W0 w1 W0.heap.size A1 l c1 0 hr (by omega))
  clear hr hl hs H0
  go_wp2_with fail
  refine H1.out.mono ?_
  rintro e w2 ⟨Aa, ca, b1, Ab, cb, b2, xa, ya, k, p', rfl, oa, ob, hk1, hk4, rd, hp, -⟩
  have HK2 := Lib.hid (blk_below HK.out rd.below)
  have HB2 := Lib.hid (below_up HB.out rd.below)
  have HOA := Lib.hid oa
  have HOB := Lib.hid ob
  have hlt : w.heap.size < w1.heap.size := by have := HZ.out; have := HS.out; omega
  have HLT := Lib.hid hlt
  clear oa ob rd H1 HB HK HZ HS hlt
  have d0 := blk_cell HK2.out (i := 0) (v := .slice none 0 0) rfl
  have d1 := blk_cell HK2.out (i := 1) (v := .slice none 0 0) rfl
  have g0 := blk_frozen HK2.out 0
  have g1 := blk_frozen HK2.out 1
  go_wp2
  clear d0 d1 g0 g1
  have B1 := blk_set (blk_set HK2.out 0 (.slice Aa k ca)) 1 (.slice Ab k cb)
  have q0 := blk_cell B1 (i := 0) (v := .slice Aa k ca) rfl
  have q1 := blk_cell B1 (i := 1) (v := .slice Ab k cb) rfl
  have hk : ∀ j, j ≠ w.heap.size → ((w2.setCell ⟨w.heap.size, 0, none⟩ (.slice Aa k ca)).setCell ⟨w.heap.size, 1, none⟩ (.slice Ab k cb)).heap[j]? = w2.heap[j]? := fun j hne => (Below.heap_setCell _ _ _ _ hne).trans (Below.heap_setCell _ _ _ _ hne)
  have HRA := Lib.hid (HOA.out.of_block (w' := (w2.setCell ⟨w.heap.size, 0, none⟩ (.slice Aa k ca)).setCell ⟨w.heap.size, 1, none⟩ (.slice Ab k cb)) fun h0 => hk _ (by have := HLT.out; obtain ⟨_, _, a, _, _⟩ := HOA.out.own h0; omega)).ints
  have HRB := Lib.hid (HOB.out.of_blocks (w' := (w2.setCell ⟨w.heap.size, 0, none⟩ (.slice Aa k ca)).setCell ⟨w.heap.size, 1, none⟩ (.slice Ab k cb)) fun j h1 _ _ => hk j (by have := HLT.out; omega)).rows
  have HBX := Lib.hid ((HB2.out.setCell (p := ⟨w.heap.size, 0, none⟩) (Nat.le_refl _) (.slice Aa k ca)).setCell (p := ⟨w.heap.size, 1, none⟩) (Nat.le_refl _) (.slice Ab k cb))
  clear B1 hk HK2 HB2 HOA HOB
  generalize (w2.setCell ⟨w.heap.size, 0, none⟩ (.slice Aa k ca)).setCell ⟨w.heap.size, 1, none⟩ (.slice Ab k cb) = WE at *
  refine bodyPost_ret (v := .agg #[.slice Aa k ca, .slice Ab k cb]) (by simp [results, Try.results36, go_sem, q0, q1]) rfl ?_
  exact ⟨_, _, _, _, _, _, _, rfl, HRA.out, HRB.out, hk1, hk4, HBX.out⟩
/-- A machine of one state, written out. -/
theorem lit_one (W : World) (x : Int) (hx : -1000 ≤ x ∧ x ≤ 1000) :
    Ints (((W.alloc (.cells #[.int .i64 x] 3)).alloc (.cells #[.int .i64 0, .int .i64 0] 3)).alloc (.cells #[.slice (some ⟨W.heap.size + 1, 0, none⟩) 2 2] 22)) (some ⟨W.heap.size, 0, none⟩) 1 1 [x] ∧
    IntRows (((W.alloc (.cells #[.int .i64 x] 3)).alloc (.cells #[.int .i64 0, .int .i64 0] 3)).alloc (.cells #[.slice (some ⟨W.heap.size + 1, 0, none⟩) 2 2] 22)) (some ⟨W.heap.size + 1 + 1, 0, none⟩) 1 1 [[0, 0]] ∧
    Below W.heap.size W (((W.alloc (.cells #[.int .i64 x] 3)).alloc (.cells #[.int .i64 0, .int .i64 0] 3)).alloc (.cells #[.slice (some ⟨W.heap.size + 1, 0, none⟩) 2 2] 22)) := by
  have b0 := blk_old (blk_old (blk_new W 3 #[.int .i64 x]) (.cells #[.int .i64 0, .int .i64 0] 3)) (.cells #[.slice (some ⟨W.heap.size + 1, 0, none⟩) 2 2] 22)
  have b1 := blk_old (blk_new (W.alloc (.cells #[.int .i64 x] 3)) 3 #[.int .i64 0, .int .i64 0]) (.cells #[.slice (some ⟨W.heap.size + 1, 0, none⟩) 2 2] 22)
  have b2 := blk_new ((W.alloc (.cells #[.int .i64 x] 3)).alloc (.cells #[.int .i64 0, .int .i64 0] 3)) 22 #[.slice (some ⟨W.heap.size + 1, 0, none⟩) 2 2]
  simp only [World.size_alloc] at b1 b2
  refine ⟨⟨rfl, Nat.le_refl _, by omega, fun z hz => by simp only [List.mem_cons, List.not_mem_nil, or_false] at hz; omega, fun _ => ⟨_, 0, rfl, fun k hk => ?_⟩⟩, ⟨rfl, Nat.le_refl _, by omega, fun _ => ⟨_, 0, rfl, fun k hk => ?_⟩⟩, below_up (below_up (below_alloc _ _) (below_alloc _ _)) (below_alloc _ _)⟩
  · rw [Nat.zero_add]
    match k, hk with
    | 0, _ => exact blk_cell b0 rfl
  · rw [Nat.zero_add]
    match k, hk with
    | 0, _ =>
      refine ⟨some ⟨W.heap.size + 1, 0, none⟩, 2, blk_cell b2 rfl, ⟨rfl, Nat.le_refl _, show 2 ≤ 17592186044416 by omega, fun z hz => ?_, fun _ => ⟨_, 0, rfl, fun j hj => ?_⟩⟩⟩
      · simp only [gr, List.getD_cons_zero, List.mem_cons, List.not_mem_nil, or_false] at hz; omega
      · rw [Nat.zero_add]
        have hj2 : j < 2 := hj
        match j, hj2 with
        | 0, _ => exact blk_cell b1 rfl
        | 1, _ => exact blk_cell b1 rfl
theorem VM_one {x : Int} (hx : InR x 0 1) : VM [x] [[0, 0]] := VM.of (by simp) (by simp) rfl fun q hq => by
  have : q = 0 := by simp at hq; omega
  subst this
  exact ⟨hx, rfl, ⟨by simp [gi, gr], by simp [gi, gr]⟩, ⟨by simp [gi, gr], by simp [gi, gr]⟩⟩

end Go.Proofs.Ytffbofkjefjlpaa

