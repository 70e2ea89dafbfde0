/- Texts merged: CO TK10 TK11. -/
import Derived.Test.YtcjanlbhgfadpaaQ10
import Derived.Laws.Tables
import Derived.Laws.Rows
/- A table as an array, by the program. -/
namespace Go.Proofs.Ytcjanlbhgfadpaa
open Go.RowKit

theorem blk_row {w g t cs} (h : Blk w g t cs) (c : Array Value) : Blk (w.setRow g c) g t c := setRow_heap w g cs c t (0, 0) h
theorem row_other (w : World) (g k : Nat) (c : Array Value) (h : k ≠ g) : (w.setRow g c).heap[k]? = w.heap[k]? := by
  simp only [World.setRow, Array.getElem?_modify, if_neg (Ne.symm h)]
theorem blk_row_other {w g k t cs} (h : Blk w k t cs) (c : Array Value) (hne : k ≠ g) : Blk (w.setRow g c) k t cs := (row_other w g k c hne).trans h
theorem below_row {B : Nat} {a w : World} (h : Below B a w) {g : Nat} (hg : B ≤ g) (c : Array Value) : Below B a (w.setRow g c) :=
  ⟨h.os, h.tape, h.output, by simpa [World.setRow] using h.size, fun k hk => (row_other w g k c (by omega)).trans (h.block k hk)⟩

end Go.Proofs.Ytcjanlbhgfadpaa

/- What tells, by the program. -/
namespace Go.Proofs.Ytcjanlbhgfadpaa
open Go.RowKit

theorem tell_iff {s r : Nat} (hs : s < 4) (hr : r < 4) : PTl s r ↔ sg r (sg s 0) ≠ sg r (sg s 1) := by
  have c : s = 0 ∨ s = 1 ∨ s = 2 ∨ s = 3 := by omega
  have d : r = 0 ∨ r = 1 ∨ r = 2 ∨ r = 3 := by omega
  rcases c with rfl | rfl | rfl | rfl <;> rcases d with rfl | rfl | rfl | rfl <;> (unfold PTl; decide)
structure RTl (w0 : World) (b o c s r : Nat) (L : Array Bool) (u5 u6 u7 u8 u9 u10 u11 u12 u3 u4 : Value) (G3 : Nat) (G4 : Nat) (W : World) : Prop where
  bl : Below w0.heap.size w0 W
  e5 : On L 0 → u5 = .slice (some ⟨b, o, none⟩) 2 c
  e6 : On L 1 → u6 = .pointer (some ⟨b, o, none⟩)
  e7 : On L 2 → u7 = .int .i64 (s : Nat)
  e8 : On L 3 → u8 = .agg #[.int .i64 (sg s 0 : Nat), .int .i64 (sg s 1 : Nat)]
  e9 : On L 4 → u9 = .slice (some ⟨b, o, none⟩) 2 c
  e10 : On L 5 → u10 = .pointer (some ⟨b, o + 1, none⟩)
  e11 : On L 6 → u11 = .int .i64 (r : Nat)
  e12 : On L 7 → u12 = .agg #[.int .i64 (sg r 0 : Nat), .int .i64 (sg r 1 : Nat)]
  e3 : On L 8 → u3 = .pointer (some ⟨G3, 0, none⟩)
  l3 : On L 8 → w0.heap.size ≤ G3 ∧ G3 < W.heap.size
  z3 : On L 8 → On L 10 ∨ Blk W G3 56 #[.int .i64 0, .int .i64 0]
  e4 : On L 9 → u4 = .pointer (some ⟨G4, 0, none⟩)
  l4 : On L 9 → w0.heap.size ≤ G4 ∧ G4 < W.heap.size
  z4 : On L 9 → On L 11 ∨ Blk W G4 56 #[.int .i64 0, .int .i64 0]
  ne : On L 8 → On L 9 → G3 ≠ G4
  y3 : On L 10 → On L 8 ∧ Blk W G3 56 #[.int .i64 (sg s 0 : Nat), .int .i64 (sg s 1 : Nat)]
  y4 : On L 11 → On L 9 ∧ Blk W G4 56 #[.int .i64 (sg r 0 : Nat), .int .i64 (sg r 1 : Nat)]
theorem RTl.up {w0 b o c s r L u5 u6 u7 u8 u9 u10 u11 u12 u3 u4 G3 G4 W W'} (Hy : RTl w0 b o c s r L u5 u6 u7 u8 u9 u10 u11 u12 u3 u4 G3 G4 W) (k : Below W.heap.size W W') : RTl w0 b o c s r L u5 u6 u7 u8 u9 u10 u11 u12 u3 u4 G3 G4 W' :=
  ⟨below_up Hy.bl k, Hy.e5, Hy.e6, Hy.e7, Hy.e8, Hy.e9, Hy.e10, Hy.e11, Hy.e12, Hy.e3, fun o => ⟨(Hy.l3 o).1, Nat.lt_of_lt_of_le (Hy.l3 o).2 k.size⟩, fun o => (Hy.z3 o).imp id (fun q => blk_below q k), Hy.e4, fun o => ⟨(Hy.l4 o).1, Nat.lt_of_lt_of_le (Hy.l4 o).2 k.size⟩, fun o => (Hy.z4 o).imp id (fun q => blk_below q k), Hy.ne, fun o => (Hy.y3 o).imp id (fun q => blk_below q k), fun o => (Hy.y4 o).imp id (fun q => blk_below q k)⟩
set_option maxRecDepth 100000 in
set_option maxHeartbeats 3200000 in
theorem tells1_any (b o c s r : Nat) (w : World) (hx : w.cell? ⟨b, o, none⟩ = some (.int .i64 (s : Nat))) (hy : w.cell? ⟨b, o + 1, none⟩ = some (.int .i64 (r : Nat))) (hs4 : s < 4) (hr4 : r < 4) :
    Calls Try.prog 58 #[.slice (some ⟨b, o, none⟩) 2 c] w (Ret (.bool (pb (PTl s r))) w) := by
  have HX := Lib.hid (And.intro hx hy)
  clear hx hy
  go_enter Try.func58, Try.ntmps58
  go_wp2
  refine wp_region_invF (rs := [0, 1, 2, 3, 4, 5, 6, 7, 8, 9, 10, 11]) [5, 6, 7, 8, 9, 10, 11, 12, 3, 4] (fun L us W => ∃ u5 u6 u7 u8 u9 u10 u11 u12 u3 u4 G3 G4, us = [u5, u6, u7, u8, u9, u10, u11, u12, u3, u4] ∧ RTl w b o c s r L u5 u6 u7 u8 u9 u10 u11 u12 u3 u4 G3 G4 W) (by kernel_rfl) ?_ (by kernel_rfl) (by kernel_rfl) ?_ ?_
  · refine ⟨[undef, undef, undef, undef, undef, undef, undef, undef, undef, undef], ?_, undef, undef, undef, undef, undef, undef, undef, undef, undef, undef, 0, 0, rfl, ?_⟩
    · simp only [frmL, Act.put, List.setIfInBounds_toArray, List.set_cons_zero, List.set_cons_succ]
    exact ⟨(Below.refl _ _).drew, fun o => o.not_start.elim, fun o => o.not_start.elim, fun o => o.not_start.elim, fun o => o.not_start.elim, fun o => o.not_start.elim, fun o => o.not_start.elim, fun o => o.not_start.elim, fun o => o.not_start.elim, fun o => o.not_start.elim, fun o => o.not_start.elim, fun o => o.not_start.elim, fun o => o.not_start.elim, fun o => o.not_start.elim, fun o => o.not_start.elim, fun o _ => o.not_start.elim, fun o => o.not_start.elim, fun o => o.not_start.elim⟩
  · refine StepsI.cons (i := 0) (ws := []) rfl (by kernel_rfl) (fun L a W hI hno hon hw K hK => ?_) ?_
    · obtain ⟨_, rfl, u5, u6, u7, u8, u9, u10, u11, u12, u3, u4, G3, G4, rfl, H⟩ := hI
      simp only [List.getElem_toArray, List.getElem_cons_zero]
      simp only [frmL, Act.put, List.setIfInBounds_toArray, List.set_cons_zero, List.set_cons_succ]
      go_simp
      have HN := H
      refine hK.out _ _ ⟨[.slice (some ⟨b, o, none⟩) 2 c, u6, u7, u8, u9, u10, u11, u12, u3, u4], ?_, .slice (some ⟨b, o, none⟩) 2 c, u6, u7, u8, u9, u10, u11, u12, u3, u4, G3, G4, rfl, ?_⟩
      · simp only [frmL, Act.put, List.setIfInBounds_toArray, List.set_cons_zero, List.set_cons_succ]
      · exact ⟨HN.bl, fun _ => rfl, fun o => HN.e6 (o.of_set (by decide)), fun o => HN.e7 (o.of_set (by decide)), fun o => HN.e8 (o.of_set (by decide)), fun o => HN.e9 (o.of_set (by decide)), fun o => HN.e10 (o.of_set (by decide)), fun o => HN.e11 (o.of_set (by decide)), fun o => HN.e12 (o.of_set (by decide)), fun o => HN.e3 (o.of_set (by decide)), fun o => HN.l3 (o.of_set (by decide)), fun o => (HN.z3 (o.of_set (by decide))).imp On.old id, fun o => HN.e4 (o.of_set (by decide)), fun o => HN.l4 (o.of_set (by decide)), fun o => (HN.z4 (o.of_set (by decide))).imp On.old id, fun o o2 => HN.ne (o.of_set (by decide)) (o2.of_set (by decide)), fun o => (HN.y3 (o.of_set (by decide))).imp On.old id, fun o => (HN.y4 (o.of_set (by decide))).imp On.old id⟩
    refine StepsI.cons (i := 1) (ws := [0]) rfl (by kernel_rfl) (fun L a W hI hno hon hw K hK => ?_) ?_
    · obtain ⟨_, rfl, u5, u6, u7, u8, u9, u10, u11, u12, u3, u4, G3, G4, rfl, H⟩ := hI
      simp only [List.getElem_toArray, List.getElem_cons_zero, List.getElem_cons_succ]
      obtain rfl := H.e5 (hw 0 (by simp))
      simp only [frmL, Act.put, List.setIfInBounds_toArray, List.set_cons_zero, List.set_cons_succ]
      go_simp
      have HN := H
      refine hK.out _ _ ⟨[.slice (some ⟨b, o, none⟩) 2 c, .pointer (some ⟨b, o, none⟩), u7, u8, u9, u10, u11, u12, u3, u4], ?_, .slice (some ⟨b, o, none⟩) 2 c, .pointer (some ⟨b, o, none⟩), u7, u8, u9, u10, u11, u12, u3, u4, G3, G4, rfl, ?_⟩
      · simp only [frmL, Act.put, List.setIfInBounds_toArray, List.set_cons_zero, List.set_cons_succ]
      · exact ⟨HN.bl, fun o => HN.e5 (o.of_set (by decide)), fun _ => rfl, fun o => HN.e7 (o.of_set (by decide)), fun o => HN.e8 (o.of_set (by decide)), fun o => HN.e9 (o.of_set (by decide)), fun o => HN.e10 (o.of_set (by decide)), fun o => HN.e11 (o.of_set (by decide)), fun o => HN.e12 (o.of_set (by decide)), fun o => HN.e3 (o.of_set (by decide)), fun o => HN.l3 (o.of_set (by decide)), fun o => (HN.z3 (o.of_set (by decide))).imp On.old id, fun o => HN.e4 (o.of_set (by decide)), fun o => HN.l4 (o.of_set (by decide)), fun o => (HN.z4 (o.of_set (by decide))).imp On.old id, fun o o2 => HN.ne (o.of_set (by decide)) (o2.of_set (by decide)), fun o => (HN.y3 (o.of_set (by decide))).imp On.old id, fun o => (HN.y4 (o.of_set (by decide))).imp On.old id⟩
    refine StepsI.cons (i := 2) (ws := [1]) rfl (by kernel_rfl) (fun L a W hI hno hon hw K hK => ?_) ?_
    · obtain ⟨_, rfl, u5, u6, u7, u8, u9, u10, u11, u12, u3, u4, G3, G4, rfl, H⟩ := hI
      simp only [List.getElem_toArray, List.getElem_cons_zero, List.getElem_cons_succ]
      obtain rfl := H.e6 (hw 1 (by simp))
      simp only [frmL, Act.put, List.setIfInBounds_toArray, List.set_cons_zero, List.set_cons_succ]
      have x0 := Keep.below H.bl _ _ HX.out.1
      go_simp
      have HN := H
      refine hK.out _ _ ⟨[u5, .pointer (some ⟨b, o, none⟩), .int .i64 (s : Nat), u8, u9, u10, u11, u12, u3, u4], ?_, u5, .pointer (some ⟨b, o, none⟩), .int .i64 (s : Nat), u8, u9, u10, u11, u12, u3, u4, G3, G4, rfl, ?_⟩
      · simp only [frmL, Act.put, List.setIfInBounds_toArray, List.set_cons_zero, List.set_cons_succ]
      · exact ⟨HN.bl, fun o => HN.e5 (o.of_set (by decide)), fun o => HN.e6 (o.of_set (by decide)), fun _ => rfl, fun o => HN.e8 (o.of_set (by decide)), fun o => HN.e9 (o.of_set (by decide)), fun o => HN.e10 (o.of_set (by decide)), fun o => HN.e11 (o.of_set (by decide)), fun o => HN.e12 (o.of_set (by decide)), fun o => HN.e3 (o.of_set (by decide)), fun o => HN.l3 (o.of_set (by decide)), fun o => (HN.z3 (o.of_set (by decide))).imp On.old id, fun o => HN.e4 (o.of_set (by decide)), fun o => HN.l4 (o.of_set (by decide)), fun o => (HN.z4 (o.of_set (by decide))).imp On.old id, fun o o2 => HN.ne (o.of_set (by decide)) (o2.of_set (by decide)), fun o => (HN.y3 (o.of_set (by decide))).imp On.old id, fun o => (HN.y4 (o.of_set (by decide))).imp On.old id⟩
    refine StepsI.cons (i := 3) (ws := [2]) rfl (by kernel_rfl) (fun L a W hI hno hon hw K hK => ?_) ?_
    · obtain ⟨_, rfl, u5, u6, u7, u8, u9, u10, u11, u12, u3, u4, G3, G4, rfl, H⟩ := hI
      simp only [List.getElem_toArray, List.getElem_cons_zero, List.getElem_cons_succ]
      obtain rfl := H.e7 (hw 2 (by simp))
      simp only [frmL, Act.put, List.setIfInBounds_toArray, List.set_cons_zero, List.set_cons_succ]
      go_simp
      go_wp2_with (go_at_call 59; (with_reducible refine (signalsBy_any s W hs4).mono ?_); rintro e w9 ⟨rfl, hb⟩)
      have HN := H.up hb
      refine hK.out _ _ ⟨[u5, u6, .int .i64 (s : Nat), .agg #[.int .i64 (sg s 0 : Nat), .int .i64 (sg s 1 : Nat)], u9, u10, u11, u12, u3, u4], ?_, u5, u6, .int .i64 (s : Nat), .agg #[.int .i64 (sg s 0 : Nat), .int .i64 (sg s 1 : Nat)], u9, u10, u11, u12, u3, u4, G3, G4, rfl, ?_⟩
      · simp only [frmL, Act.put, List.setIfInBounds_toArray, List.set_cons_zero, List.set_cons_succ]
      · exact ⟨HN.bl, fun o => HN.e5 (o.of_set (by decide)), fun o => HN.e6 (o.of_set (by decide)), fun o => HN.e7 (o.of_set (by decide)), fun _ => rfl, fun o => HN.e9 (o.of_set (by decide)), fun o => HN.e10 (o.of_set (by decide)), fun o => HN.e11 (o.of_set (by decide)), fun o => HN.e12 (o.of_set (by decide)), fun o => HN.e3 (o.of_set (by decide)), fun o => HN.l3 (o.of_set (by decide)), fun o => (HN.z3 (o.of_set (by decide))).imp On.old id, fun o => HN.e4 (o.of_set (by decide)), fun o => HN.l4 (o.of_set (by decide)), fun o => (HN.z4 (o.of_set (by decide))).imp On.old id, fun o o2 => HN.ne (o.of_set (by decide)) (o2.of_set (by decide)), fun o => (HN.y3 (o.of_set (by decide))).imp On.old id, fun o => (HN.y4 (o.of_set (by decide))).imp On.old id⟩
    refine StepsI.cons (i := 4) (ws := []) rfl (by kernel_rfl) (fun L a W hI hno hon hw K hK => ?_) ?_
    · obtain ⟨_, rfl, u5, u6, u7, u8, u9, u10, u11, u12, u3, u4, G3, G4, rfl, H⟩ := hI
      simp only [List.getElem_toArray, List.getElem_cons_zero, List.getElem_cons_succ]
      simp only [frmL, Act.put, List.setIfInBounds_toArray, List.set_cons_zero, List.set_cons_succ]
      go_simp
      have HN := H
      refine hK.out _ _ ⟨[u5, u6, u7, u8, .slice (some ⟨b, o, none⟩) 2 c, u10, u11, u12, u3, u4], ?_, u5, u6, u7, u8, .slice (some ⟨b, o, none⟩) 2 c, u10, u11, u12, u3, u4, G3, G4, rfl, ?_⟩
      · simp only [frmL, Act.put, List.setIfInBounds_toArray, List.set_cons_zero, List.set_cons_succ]
      · exact ⟨HN.bl, fun o => HN.e5 (o.of_set (by decide)), fun o => HN.e6 (o.of_set (by decide)), fun o => HN.e7 (o.of_set (by decide)), fun o => HN.e8 (o.of_set (by decide)), fun _ => rfl, fun o => HN.e10 (o.of_set (by decide)), fun o => HN.e11 (o.of_set (by decide)), fun o => HN.e12 (o.of_set (by decide)), fun o => HN.e3 (o.of_set (by decide)), fun o => HN.l3 (o.of_set (by decide)), fun o => (HN.z3 (o.of_set (by decide))).imp On.old id, fun o => HN.e4 (o.of_set (by decide)), fun o => HN.l4 (o.of_set (by decide)), fun o => (HN.z4 (o.of_set (by decide))).imp On.old id, fun o o2 => HN.ne (o.of_set (by decide)) (o2.of_set (by decide)), fun o => (HN.y3 (o.of_set (by decide))).imp On.old id, fun o => (HN.y4 (o.of_set (by decide))).imp On.old id⟩
    refine StepsI.cons (i := 5) (ws := [4]) rfl (by kernel_rfl) (fun L a W hI hno hon hw K hK => ?_) ?_
    · obtain ⟨_, rfl, u5, u6, u7, u8, u9, u10, u11, u12, u3, u4, G3, G4, rfl, H⟩ := hI
      simp only [List.getElem_toArray, List.getElem_cons_zero, List.getElem_cons_succ]
      obtain rfl := H.e9 (hw 4 (by simp))
      simp only [frmL, Act.put, List.setIfInBounds_toArray, List.set_cons_zero, List.set_cons_succ]
      go_simp
      have HN := H
      refine hK.out _ _ ⟨[u5, u6, u7, u8, .slice (some ⟨b, o, none⟩) 2 c, .pointer (some ⟨b, o + 1, none⟩), u11, u12, u3, u4], ?_, u5, u6, u7, u8, .slice (some ⟨b, o, none⟩) 2 c, .pointer (some ⟨b, o + 1, none⟩), u11, u12, u3, u4, G3, G4, rfl, ?_⟩
      · simp only [frmL, Act.put, List.setIfInBounds_toArray, List.set_cons_zero, List.set_cons_succ]
      · exact ⟨HN.bl, fun o => HN.e5 (o.of_set (by decide)), fun o => HN.e6 (o.of_set (by decide)), fun o => HN.e7 (o.of_set (by decide)), fun o => HN.e8 (o.of_set (by decide)), fun o => HN.e9 (o.of_set (by decide)), fun _ => rfl, fun o => HN.e11 (o.of_set (by decide)), fun o => HN.e12 (o.of_set (by decide)), fun o => HN.e3 (o.of_set (by decide)), fun o => HN.l3 (o.of_set (by decide)), fun o => (HN.z3 (o.of_set (by decide))).imp On.old id, fun o => HN.e4 (o.of_set (by decide)), fun o => HN.l4 (o.of_set (by decide)), fun o => (HN.z4 (o.of_set (by decide))).imp On.old id, fun o o2 => HN.ne (o.of_set (by decide)) (o2.of_set (by decide)), fun o => (HN.y3 (o.of_set (by decide))).imp On.old id, fun o => (HN.y4 (o.of_set (by decide))).imp On.old id⟩
    refine StepsI.cons (i := 6) (ws := [5]) rfl (by kernel_rfl) (fun L a W hI hno hon hw K hK => ?_) ?_
    · obtain ⟨_, rfl, u5, u6, u7, u8, u9, u10, u11, u12, u3, u4, G3, G4, rfl, H⟩ := hI
      simp only [List.getElem_toArray, List.getElem_cons_zero, List.getElem_cons_succ]
      obtain rfl := H.e10 (hw 5 (by simp))
      simp only [frmL, Act.put, List.setIfInBounds_toArray, List.set_cons_zero, List.set_cons_succ]
      have x0 := Keep.below H.bl _ _ HX.out.2
      go_simp
      have HN := H
      refine hK.out _ _ ⟨[u5, u6, u7, u8, u9, .pointer (some ⟨b, o + 1, none⟩), .int .i64 (r : Nat), u12, u3, u4], ?_, u5, u6, u7, u8, u9, .pointer (some ⟨b, o + 1, none⟩), .int .i64 (r : Nat), u12, u3, u4, G3, G4, rfl, ?_⟩
      · simp only [frmL, Act.put, List.setIfInBounds_toArray, List.set_cons_zero, List.set_cons_succ]
      · exact ⟨HN.bl, fun o => HN.e5 (o.of_set (by decide)), fun o => HN.e6 (o.of_set (by decide)), fun o => HN.e7 (o.of_set (by decide)), fun o => HN.e8 (o.of_set (by decide)), fun o => HN.e9 (o.of_set (by decide)), fun o => HN.e10 (o.of_set (by decide)), fun _ => rfl, fun o => HN.e12 (o.of_set (by decide)), fun o => HN.e3 (o.of_set (by decide)), fun o => HN.l3 (o.of_set (by decide)), fun o => (HN.z3 (o.of_set (by decide))).imp On.old id, fun o => HN.e4 (o.of_set (by decide)), fun o => HN.l4 (o.of_set (by decide)), fun o => (HN.z4 (o.of_set (by decide))).imp On.old id, fun o o2 => HN.ne (o.of_set (by decide)) (o2.of_set (by decide)), fun o => (HN.y3 (o.of_set (by decide))).imp On.old id, fun o => (HN.y4 (o.of_set (by decide))).imp On.old id⟩
    refine StepsI.cons (i := 7) (ws := [6, 3]) rfl (by kernel_rfl) (fun L a W hI hno hon hw K hK => ?_) ?_
    · obtain ⟨_, rfl, u5, u6, u7, u8, u9, u10, u11, u12, u3, u4, G3, G4, rfl, H⟩ := hI
      simp only [List.getElem_toArray, List.getElem_cons_zero, List.getElem_cons_succ]
      obtain rfl := H.e11 (hw 6 (by simp))
      simp only [frmL, Act.put, List.setIfInBounds_toArray, List.set_cons_zero, List.set_cons_succ]
      go_simp
      go_wp2_with (go_at_call 60; (with_reducible refine (actsBehind_any r W hr4).mono ?_); rintro e w9 ⟨rfl, hb⟩)
      have HN := H.up hb
      refine hK.out _ _ ⟨[u5, u6, u7, u8, u9, u10, .int .i64 (r : Nat), .agg #[.int .i64 (sg r 0 : Nat), .int .i64 (sg r 1 : Nat)], u3, u4], ?_, u5, u6, u7, u8, u9, u10, .int .i64 (r : Nat), .agg #[.int .i64 (sg r 0 : Nat), .int .i64 (sg r 1 : Nat)], u3, u4, G3, G4, rfl, ?_⟩
      · simp only [frmL, Act.put, List.setIfInBounds_toArray, List.set_cons_zero, List.set_cons_succ]
      · exact ⟨HN.bl, fun o => HN.e5 (o.of_set (by decide)), fun o => HN.e6 (o.of_set (by decide)), fun o => HN.e7 (o.of_set (by decide)), fun o => HN.e8 (o.of_set (by decide)), fun o => HN.e9 (o.of_set (by decide)), fun o => HN.e10 (o.of_set (by decide)), fun o => HN.e11 (o.of_set (by decide)), fun _ => rfl, fun o => HN.e3 (o.of_set (by decide)), fun o => HN.l3 (o.of_set (by decide)), fun o => (HN.z3 (o.of_set (by decide))).imp On.old id, fun o => HN.e4 (o.of_set (by decide)), fun o => HN.l4 (o.of_set (by decide)), fun o => (HN.z4 (o.of_set (by decide))).imp On.old id, fun o o2 => HN.ne (o.of_set (by decide)) (o2.of_set (by decide)), fun o => (HN.y3 (o.of_set (by decide))).imp On.old id, fun o => (HN.y4 (o.of_set (by decide))).imp On.old id⟩
    refine StepsI.cons (i := 8) (ws := []) rfl (by kernel_rfl) (fun L a W hI hno hon hw K hK => ?_) ?_
    · obtain ⟨_, rfl, u5, u6, u7, u8, u9, u10, u11, u12, u3, u4, G3, G4, rfl, H⟩ := hI
      simp only [List.getElem_toArray, List.getElem_cons_zero, List.getElem_cons_succ]
      simp only [frmL, Act.put, List.setIfInBounds_toArray, List.set_cons_zero, List.set_cons_succ]
      go_simp
      have HN := H.up (below_alloc W (.cells #[.int .i64 0, .int .i64 0] 56))
      refine hK.out _ _ ⟨[u5, u6, u7, u8, u9, u10, u11, u12, .pointer (some ⟨W.heap.size, 0, none⟩), u4], ?_, u5, u6, u7, u8, u9, u10, u11, u12, .pointer (some ⟨W.heap.size, 0, none⟩), u4, W.heap.size, G4, rfl, ?_⟩
      · simp only [frmL, Act.put, List.setIfInBounds_toArray, List.set_cons_zero, List.set_cons_succ]
      · exact ⟨HN.bl, fun o => HN.e5 (o.of_set (by decide)), fun o => HN.e6 (o.of_set (by decide)), fun o => HN.e7 (o.of_set (by decide)), fun o => HN.e8 (o.of_set (by decide)), fun o => HN.e9 (o.of_set (by decide)), fun o => HN.e10 (o.of_set (by decide)), fun o => HN.e11 (o.of_set (by decide)), fun o => HN.e12 (o.of_set (by decide)), fun _ => rfl, fun _ => ⟨H.bl.size, by rw [World.size_alloc]; exact Nat.lt_succ_self _⟩, fun _ => .inr (blk_new _ _ _), fun o => HN.e4 (o.of_set (by decide)), fun o => HN.l4 (o.of_set (by decide)), fun o => (HN.z4 (o.of_set (by decide))).imp On.old id, fun _ o2 => Nat.ne_of_gt (H.l4 (o2.of_set (by decide))).2, fun o => absurd (H.y3 (o.of_set (by decide))).1 hno, fun o => (HN.y4 (o.of_set (by decide))).imp On.old id⟩
    refine StepsI.cons (i := 9) (ws := []) rfl (by kernel_rfl) (fun L a W hI hno hon hw K hK => ?_) ?_
    · obtain ⟨_, rfl, u5, u6, u7, u8, u9, u10, u11, u12, u3, u4, G3, G4, rfl, H⟩ := hI
      simp only [List.getElem_toArray, List.getElem_cons_zero, List.getElem_cons_succ]
      simp only [frmL, Act.put, List.setIfInBounds_toArray, List.set_cons_zero, List.set_cons_succ]
      go_simp
      have HN := H.up (below_alloc W (.cells #[.int .i64 0, .int .i64 0] 56))
      refine hK.out _ _ ⟨[u5, u6, u7, u8, u9, u10, u11, u12, u3, .pointer (some ⟨W.heap.size, 0, none⟩)], ?_, u5, u6, u7, u8, u9, u10, u11, u12, u3, .pointer (some ⟨W.heap.size, 0, none⟩), G3, W.heap.size, rfl, ?_⟩
      · simp only [frmL, Act.put, List.setIfInBounds_toArray, List.set_cons_zero, List.set_cons_succ]
      · exact ⟨HN.bl, fun o => HN.e5 (o.of_set (by decide)), fun o => HN.e6 (o.of_set (by decide)), fun o => HN.e7 (o.of_set (by decide)), fun o => HN.e8 (o.of_set (by decide)), fun o => HN.e9 (o.of_set (by decide)), fun o => HN.e10 (o.of_set (by decide)), fun o => HN.e11 (o.of_set (by decide)), fun o => HN.e12 (o.of_set (by decide)), fun o => HN.e3 (o.of_set (by decide)), fun o => HN.l3 (o.of_set (by decide)), fun o => (HN.z3 (o.of_set (by decide))).imp On.old id, fun _ => rfl, fun _ => ⟨H.bl.size, by rw [World.size_alloc]; exact Nat.lt_succ_self _⟩, fun _ => .inr (blk_new _ _ _), fun o2 _ => Nat.ne_of_lt (H.l3 (o2.of_set (by decide))).2, fun o => (HN.y3 (o.of_set (by decide))).imp On.old id, fun o => absurd (H.y4 (o.of_set (by decide))).1 hno⟩
    refine StepsI.cons (i := 10) (ws := [8, 3, 7, 0, 1, 2, 3, 8, 9]) rfl (by kernel_rfl) (fun L a W hI hno hon hw K hK => ?_) ?_
    · obtain ⟨_, rfl, u5, u6, u7, u8, u9, u10, u11, u12, u3, u4, G3, G4, rfl, H⟩ := hI
      simp only [List.getElem_toArray, List.getElem_cons_zero, List.getElem_cons_succ]
      have e2 := H.e8 (hw 3 (by simp))
      have e4 := H.e3 (hw 8 (by simp))
      have hb := (H.z3 (hw 8 (by simp))).resolve_left hno
      have hl := H.l3 (hw 8 (by simp))
      simp only [frmL, Act.put, List.setIfInBounds_toArray, List.set_cons_zero, List.set_cons_succ]
      have HSZ : Hid ((Try.prog.info? 56).map (·.size) = some (#[.int .i64 (sg s 0 : Nat), .int .i64 (sg s 1 : Nat)] : Array Value).size) := Lib.hid (by show _ = some 2; kernel_rfl)
      have HS1 : Hid ((#[.int .i64 (sg s 0 : Nat), .int .i64 (sg s 1 : Nat)] : Array Value).all (·.oneCell') = true) := Lib.hid (by simp [Value.oneCell'])
      rw [if_pos (by rfl)]
      refine wp_store_row 56 _ _ rfl G3 (#[.int .i64 (sg s 0 : Nat), .int .i64 (sg s 1 : Nat)]) e4 e2 56 (#[.int .i64 0, .int .i64 0]) hb HSZ.out rfl HS1.out ?_
      have HN := H
      refine hK.out _ _ ⟨[u5, u6, u7, u8, u9, u10, u11, u12, u3, u4], ?_, u5, u6, u7, u8, u9, u10, u11, u12, u3, u4, G3, G4, rfl, ?_⟩
      · simp only [frmL, Act.put, List.setIfInBounds_toArray, List.set_cons_zero, List.set_cons_succ]
      · exact ⟨below_row H.bl hl.1 _, fun o => HN.e5 (o.of_set (by decide)), fun o => HN.e6 (o.of_set (by decide)), fun o => HN.e7 (o.of_set (by decide)), fun o => HN.e8 (o.of_set (by decide)), fun o => HN.e9 (o.of_set (by decide)), fun o => HN.e10 (o.of_set (by decide)), fun o => HN.e11 (o.of_set (by decide)), fun o => HN.e12 (o.of_set (by decide)), fun o => HN.e3 (o.of_set (by decide)), fun o => ⟨(H.l3 (o.of_set (by decide))).1, by simp only [World.setRow, Array.size_modify]; exact (H.l3 (o.of_set (by decide))).2⟩, fun _ => .inl hon, fun o => HN.e4 (o.of_set (by decide)), fun o => ⟨(H.l4 (o.of_set (by decide))).1, by simp only [World.setRow, Array.size_modify]; exact (H.l4 (o.of_set (by decide))).2⟩, fun o => (H.z4 (o.of_set (by decide))).imp On.old (fun q => blk_row_other q _ (fun e => H.ne (hw 8 (by simp)) (o.of_set (by decide)) e.symm)), fun o o2 => HN.ne (o.of_set (by decide)) (o2.of_set (by decide)), fun _ => ⟨(hw 8 (by simp)).old, blk_row hb _⟩, fun o => ⟨(H.y4 (o.of_set (by decide))).1.old, blk_row_other (H.y4 (o.of_set (by decide))).2 _ (fun e => H.ne (hw 8 (by simp)) (H.y4 (o.of_set (by decide))).1 e.symm)⟩⟩
    refine StepsI.cons (i := 11) (ws := [9, 7, 10, 0, 1, 2, 3, 4, 5, 6, 7, 8, 9, 10]) rfl (by kernel_rfl) (fun L a W hI hno hon hw K hK => ?_) ?_
    · obtain ⟨_, rfl, u5, u6, u7, u8, u9, u10, u11, u12, u3, u4, G3, G4, rfl, H⟩ := hI
      simp only [List.getElem_toArray, List.getElem_cons_zero, List.getElem_cons_succ]
      have e2 := H.e12 (hw 7 (by simp))
      have e4 := H.e4 (hw 9 (by simp))
      have hb := (H.z4 (hw 9 (by simp))).resolve_left hno
      have hl := H.l4 (hw 9 (by simp))
      simp only [frmL, Act.put, List.setIfInBounds_toArray, List.set_cons_zero, List.set_cons_succ]
      have HSZ : Hid ((Try.prog.info? 56).map (·.size) = some (#[.int .i64 (sg r 0 : Nat), .int .i64 (sg r 1 : Nat)] : Array Value).size) := Lib.hid (by show _ = some 2; kernel_rfl)
      have HS1 : Hid ((#[.int .i64 (sg r 0 : Nat), .int .i64 (sg r 1 : Nat)] : Array Value).all (·.oneCell') = true) := Lib.hid (by simp [Value.oneCell'])
      rw [if_pos (by rfl)]
      refine wp_store_row 56 _ _ rfl G4 (#[.int .i64 (sg r 0 : Nat), .int .i64 (sg r 1 : Nat)]) e4 e2 56 (#[.int .i64 0, .int .i64 0]) hb HSZ.out rfl HS1.out ?_
      have HN := H
      refine hK.out _ _ ⟨[u5, u6, u7, u8, u9, u10, u11, u12, u3, u4], ?_, u5, u6, u7, u8, u9, u10, u11, u12, u3, u4, G3, G4, rfl, ?_⟩
      · simp only [frmL, Act.put, List.setIfInBounds_toArray, List.set_cons_zero, List.set_cons_succ]
      · exact ⟨below_row H.bl hl.1 _, fun o => HN.e5 (o.of_set (by decide)), fun o => HN.e6 (o.of_set (by decide)), fun o => HN.e7 (o.of_set (by decide)), fun o => HN.e8 (o.of_set (by decide)), fun o => HN.e9 (o.of_set (by decide)), fun o => HN.e10 (o.of_set (by decide)), fun o => HN.e11 (o.of_set (by decide)), fun o => HN.e12 (o.of_set (by decide)), fun o => HN.e3 (o.of_set (by decide)), fun o => ⟨(H.l3 (o.of_set (by decide))).1, by simp only [World.setRow, Array.size_modify]; exact (H.l3 (o.of_set (by decide))).2⟩, fun o => (H.z3 (o.of_set (by decide))).imp On.old (fun q => blk_row_other q _ (fun e => H.ne (o.of_set (by decide)) (hw 9 (by simp)) e)), fun o => HN.e4 (o.of_set (by decide)), fun o => ⟨(H.l4 (o.of_set (by decide))).1, by simp only [World.setRow, Array.size_modify]; exact (H.l4 (o.of_set (by decide))).2⟩, fun _ => .inl hon, fun o o2 => HN.ne (o.of_set (by decide)) (o2.of_set (by decide)), fun o => ⟨(H.y3 (o.of_set (by decide))).1.old, blk_row_other (H.y3 (o.of_set (by decide))).2 _ (fun e => H.ne (H.y3 (o.of_set (by decide))).1 (hw 9 (by simp)) e)⟩, fun _ => ⟨(hw 9 (by simp)).old, blk_row hb _⟩⟩
    exact StepsI.nil
  · rintro L us W hL ⟨u5, u6, u7, u8, u9, u10, u11, u12, u3, u4, G3, G4, rfl, H⟩
    have e3 := H.e3 (hL 8 (by simp))
    have e4 := H.e4 (hL 9 (by simp))
    have y3 := (H.y3 (hL 10 (by simp))).2
    have y4 := (H.y4 (hL 11 (by simp))).2
    have HB := Lib.hid H.bl
    have HI := Lib.hid (tell_iff hs4 hr4)
    subst e3
    subst e4
    clear H hL
    have p0 := sg_lt s 0
    have p1 := sg_lt s 1
    have q0 := blk_cell y3 (i := 0) rfl
    have q1 := blk_cell y3 (i := 1) rfl
    have dd : ∀ j, j < 2 → W.cell? ⟨G4, j, none⟩ = some (.int .i64 (sg r j : Nat)) := fun j hj => by
      have : j = 0 ∨ j = 1 := by omega
      rcases this with rfl | rfl
      · exact blk_cell y4 rfl
      · exact blk_cell y4 rfl
    have d0 := dd _ p0
    have d1 := dd _ p1
    clear dd y3 y4
    generalize sg r (sg s 0) = X at *
    generalize sg r (sg s 1) = Y at *
    generalize sg s 0 = P at *
    generalize sg s 1 = Q at *
    have P2 : (P : Int) < 2 := by omega
    have Q2 : (Q : Int) < 2 := by omega
    simp only [frmL, Act.put, List.setIfInBounds_toArray, List.set_cons_zero, List.set_cons_succ]
    by_cases hxy : X = Y
    · have HV := Lib.hid (pb_false (p := PTl s r) (fun h => HI.out.1 h hxy))
      have hne : ((X : Int) != (Y : Int)) = false := by simp [hxy]
      clear HI hxy
      go_wp2
      go_quiet (fail)
      go_wp2
      go_ret
      exact ⟨ret_bool HV.out.symm, below_drewN HB.out _⟩
    · have HV := Lib.hid (pb_true (p := PTl s r) (HI.out.2 hxy))
      have hne : ((X : Int) != (Y : Int)) = true := by simp; omega
      clear HI hxy
      go_wp2
      go_quiet (fail)
      go_wp2
      go_ret
      exact ⟨ret_bool HV.out.symm, below_drewN HB.out _⟩
/-- Rows of two numbers below 4. -/
def Prs (xss : List (List Int)) : Prop := ∀ k, k < xss.length → ∃ s r : Nat, s < 4 ∧ r < 4 ∧ gr xss k = [(s : Int), (r : Int)]
def prB (xss : List (List Int)) (k : Nat) : Prop := ∃ s r : Nat, s < 4 ∧ r < 4 ∧ gr xss k = [(s : Int), (r : Int)] ∧ PTl s r
theorem prB_iff {xss : List (List Int)} {k s r : Nat} (hs : s < 4) (hr : r < 4) (h : gr xss k = [(s : Int), (r : Int)]) : prB xss k ↔ PTl s r := by
  constructor
  · rintro ⟨a, b, _, _, e, p⟩
    rw [h] at e
    injection e with e1 e
    injection e with e2 _
    obtain rfl : s = a := by omega
    obtain rfl : r = b := by omega
    exact p
  · intro p; exact ⟨s, r, hs, hr, h, p⟩
set_option maxRecDepth 100000 in
set_option maxHeartbeats 1600000 in
theorem TIndex_any (A : Option Addr) (n c : Nat) (xss : List (List Int)) (w : World) (hx : IntRows w A n c xss) (hp : Prs xss) (hn : n ≤ 100) :
    Calls Try.prog 72 #[.slice A n c, .func (.func 58) #[] #[]] w fun e w' => (∃ v : Int, e = .returned (.int .i64 v) ∧ ((∃ i : Nat, i < n ∧ v = i ∧ prB xss i) ∨ (v = -1 ∧ ∀ k, k < n → ¬ prB xss k))) ∧ Below w.heap.size w w' := by
  have HX := Lib.hid hx
  have HL := Lib.hid hx.len
  have HP := Lib.hid hp
  clear hx hp
  go_enter Try.func72, Try.ntmps72
  go_wp2
  go_loopw [8] (fun i wr => ∃ k : Nat, k ≤ n ∧ i = .int .i64 k ∧ Hid (∀ j, j < k → ¬ prB xss j) ∧ Hid (Below w.heap.size w wr)) (fun i _ => n - (intOf i).toNat)
  case atStart => exact ⟨0, Nat.zero_le _, rfl, Lib.hid (fun _ h => absurd h (by omega)), Lib.hid (Below.refl _ _)⟩
  case round =>
    obtain ⟨k, hk, rfl, HALL, HB⟩ := hrel
    by_cases hlt : k < n
    · obtain ⟨b, o, rfl, hr⟩ := (HX.out.keep (Keep.below HB.out)).at_ (by omega)
      obtain ⟨R, cc, c1, hI⟩ := hr k hlt
      obtain ⟨s, r, hs4, hr4, hg⟩ := HP.out k (by rw [HL.out]; exact hlt)
      have HI := Lib.hid (prB_iff hs4 hr4 hg)
      rw [hg] at c1 hI
      obtain ⟨b2, o2, rfl, d0, d1⟩ := ints2_at hI
      have HC := Lib.hid (tells1_any b2 o2 cc s r wr d0 d1 hs4 hr4)
      clear hr hI d0 d1 hg
      by_cases ht : PTl s r
      · rw [pb_true ht] at HC
        have HT := Lib.hid (HI.out.2 ht)
        clear ht
        go_wp2_with fail
        refine HC.out.mono ?_
        rintro e w2 ⟨rfl, hb⟩
        have HB2 := Lib.hid (below_up HB.out hb)
        clear HC hb
        go_wp2
        go_ret
        exact ⟨⟨_, rfl, .inl ⟨k, hlt, rfl, HT.out⟩⟩, HB2.out⟩
      · rw [pb_false ht] at HC
        have HT := Lib.hid (fun h => ht (HI.out.1 h))
        clear ht
        go_wp2_with fail
        refine HC.out.mono ?_
        rintro e w2 ⟨rfl, hb⟩
        have HB2 := Lib.hid (below_up HB.out hb)
        clear HC hb HB c1
        go_wp2
        go_roundw
        case rel => exact ⟨k + 1, by omega, by go_num, Lib.hid (fun j hj => by
          by_cases e : j < k
          · exact HALL.out j e
          · obtain rfl : j = k := by omega
            exact HT.out), HB2⟩
        case measure => simp [intOf]; omega
    · obtain rfl : k = n := by omega
      go_wp2
      go_ret
      exact ⟨⟨_, rfl, .inr ⟨rfl, HALL.out⟩⟩, HB.out⟩
set_option maxRecDepth 100000 in
set_option maxHeartbeats 1600000 in
theorem TContains_any (A : Option Addr) (n c : Nat) (xss : List (List Int)) (w : World) (hx : IntRows w A n c xss) (hp : Prs xss) (hn : n ≤ 100) :
    Calls Try.prog 57 #[.slice A n c, .func (.func 58) #[] #[]] w (Ret (.bool (pb (∃ i : Nat, i < n ∧ prB xss i))) w) := by
  have HC := Lib.hid (TIndex_any A n c xss w hx hp hn)
  clear hx hp
  go_enter Try.func57, Try.ntmps57
  go_wp2_with fail
  refine HC.out.mono ?_
  rintro e w1 ⟨⟨v, rfl, hv⟩, hb⟩
  have HB := Lib.hid hb
  clear hb HC
  rcases hv with ⟨i, hi, rfl, hpb⟩ | ⟨rfl, hno⟩
  · have HV := Lib.hid (pb_true (p := ∃ i : Nat, i < n ∧ prB xss i) ⟨i, hi, hpb⟩)
    have h0 : decide ((0 : Int) ≤ (i : Int)) = true := by simp
    clear hpb
    go_wp2
    go_ret
    exact ⟨ret_bool HV.out.symm, HB.out⟩
  · have HV := Lib.hid (pb_false (p := ∃ i : Nat, i < n ∧ prB xss i) (fun ⟨i, hi, h⟩ => hno i hi h))
    clear hno
    go_wp2
    go_ret
    exact ⟨ret_bool HV.out.symm, HB.out⟩
theorem trF_prs (xs : List Int) (ss hs ks : List (List Int)) : Prs (trF xs ss hs ks) := fun k hk => by
  by_cases v : VTk xs ss hs ks
  · rw [trF_yes v] at hk ⊢
    obtain ⟨s, r, h1, h2, h3, _⟩ := trL_mem 16 (gr_mem hk)
    exact ⟨s, r, by omega, h1, h3⟩
  · rw [trF_no v] at hk; simp at hk
theorem trF_tel (xs : List Int) (ss hs ks : List (List Int)) : (∃ i : Nat, i < (trF xs ss hs ks).length ∧ prB (trF xs ss hs ks) i) ↔ telOk xs ss hs ks := by
  by_cases v : VTk xs ss hs ks
  · rw [trF_yes v]
    constructor
    · rintro ⟨i, hi, hp⟩
      obtain ⟨s, r, h1, h2, h3, h4⟩ := trL_mem 16 (gr_mem hi)
      exact ⟨v, s, r, (prB_iff (by omega) h1 h3).1 hp, h4⟩
    · rintro ⟨_, s, r, hp, ht⟩
      have hs4 : s < 4 := by unfold PTl at hp; omega
      have hr4 : r < 4 := by unfold PTl at hp; omega
      have hm := trL_in hr4 ht 16 (by omega)
      obtain ⟨i, hi, e⟩ := List.getElem_of_mem hm
      exact ⟨i, hi, (prB_iff hs4 hr4 (by rw [gr_get hi]; exact e)).2 hp⟩
  · rw [trF_no v]
    constructor
    · rintro ⟨i, hi, _⟩; simp at hi
    · intro h; exact absurd h.1 v
theorem trF_len (xs : List Int) (ss hs ks : List (List Int)) : (trF xs ss hs ks).length ≤ 16 := by
  by_cases v : VTk xs ss hs ks
  · rw [trF_yes v]; exact trL_len _ _ _ _ 16
  · rw [trF_no v]; simp
theorem trF_offs (xs : List Int) (ss hs ks : List (List Int)) : offs (trF xs ss hs ks) (trF xs ss hs ks).length ≤ 1000000 := by
  have h := offs_le (xss := trF xs ss hs ks) (fun r hr => by
    by_cases v : VTk xs ss hs ks
    · rw [trF_yes v] at hr
      obtain ⟨s, r, _, _, rfl, _⟩ := trL_mem 16 hr
      simp
    · rw [trF_no v] at hr; simp at hr) _ (Nat.le_refl _)
  have h2 := trF_len xs ss hs ks
  omega
set_option maxHeartbeats 1600000 in
theorem Tells_impl (A1 A2 A3 A4 : Option Addr) (n1 c1 n2 c2 n3 c3 n4 c4 : Nat) (xs : List Int) (ss hs ks : List (List Int)) (w : World) (h : TkR w A1 A2 A3 A4 n1 c1 n2 c2 n3 c3 n4 c4 xs ss hs ks) :
    Calls Try.prog 28 #[.agg #[.slice A1 n1 c1, .slice A2 n2 c2, .slice A3 n3 c3, .slice A4 n4 c4]] w (Ret (.bool (pb (telOk xs ss hs ks))) w) := by
  have HT := Lib.hid (TLX.start 26 h)
  have HB := Lib.hid (below_alloc w (.cells #[.slice A1 n1 c1, .slice A2 n2 c2, .slice A3 n3 c3, .slice A4 n4 c4] 26))
  clear h
  have q0 := HT.out.c0
  have q1 := HT.out.c1
  have q2 := HT.out.c2
  have q3 := HT.out.c3
  go_enter Try.func28, Try.ntmps28
  go_wp2_with fail
  clear q0 q1 q2 q3
  generalize w.alloc (.cells #[.slice A1 n1 c1, .slice A2 n2 c2, .slice A3 n3 c3, .slice A4 n4 c4] 26) = W0 at *
  refine (TalkRests_impl A1 A2 A3 A4 n1 c1 n2 c2 n3 c3 n4 c4 xs ss hs ks _ HT.out.r).mono ?_
  rintro e w1 ⟨A, n, c, gg, rfl, rfl, ho, hb⟩
  have HB2 := Lib.hid (below_up HB.out hb)
  have HC := Lib.hid (TContains_any A _ c _ w1 ho.rows (trF_prs xs ss hs ks) (by have := trF_len xs ss hs ks; omega))
  rw [pb_congr (trF_tel xs ss hs ks)] at HC
  clear hb ho HT HB
  go_wp2_with fail
  refine HC.out.mono ?_
  rintro e w2 ⟨rfl, hb⟩
  have HB3 := Lib.hid (below_up HB2.out hb)
  clear hb HC
  go_wp2
  go_ret
  exact ⟨rfl, HB3.out⟩

end Go.Proofs.Ytcjanlbhgfadpaa

/- Honest costs, by both programs. -/
namespace Go.Proofs.Ytcjanlbhgfadpaa
open Go.RowKit

/-- The costs that are tried. -/
def cL (c : Nat) : List (List Int) := [[0, (c : Int)], [0, 0]]
theorem V2_cL {c : Nat} (h : c ≤ 9) : V2 (cL c) 0 := by
  refine ⟨rfl, ⟨rfl, ?_, ?_⟩, ⟨rfl, ?_, ?_⟩⟩ <;> (unfold InR; simp [cL, gr, gi]; try omega)
theorem VTk.cost {xs ss hs ks} (v : VTk xs ss hs ks) {c : Nat} (h : c ≤ 9) : VTk xs ss hs (cL c) := ⟨v.1, v.2.1, v.2.2.1, V2_cL h⟩
/-- The first number below n that meets f, or -1. -/
noncomputable def fst (f : Nat → Prop) : Nat → Int
  | 0 => -1
  | n + 1 => if 0 ≤ fst f n then fst f n else if pb (f n) then (n : Int) else -1
theorem fst_none {f : Nat → Prop} : ∀ {n : Nat}, (∀ j, j < n → ¬ f j) → fst f n = -1
  | 0, _ => rfl
  | n + 1, h => by
    rw [fst, fst_none (fun j hj => h j (by omega)), if_neg (by omega), if_neg (by rw [pb_false (h n (by omega))]; decide)]
theorem fst_hit {f : Nat → Prop} {k : Nat} (hk : f k) (h0 : ∀ j, j < k → ¬ f j) : ∀ {n : Nat}, k < n → fst f n = k
  | 0, h => absurd h (by omega)
  | n + 1, h => by
    by_cases e : k = n
    · subst e
      rw [fst, fst_none h0, if_neg (by omega), if_pos (pb_true hk)]
    · rw [fst, fst_hit hk h0 (by omega), if_pos (by omega)]
noncomputable def hoF (xs : List Int) (ss hs ks : List (List Int)) : Int := if pb (VTk xs ss hs ks) then fst (fun c => Tel xs ss hs (cL c)) 10 else -1
theorem hoF_no {xs ss hs ks} (v : ¬ VTk xs ss hs ks) : hoF xs ss hs ks = -1 := by unfold hoF; rw [if_neg (by rw [pb_false v]; decide)]
theorem hoF_none {xs ss hs ks} (v : VTk xs ss hs ks) (h : ∀ c, c < 10 → ¬ Tel xs ss hs (cL c)) : hoF xs ss hs ks = -1 := by unfold hoF; rw [if_pos (pb_true v)]; exact fst_none h
theorem hoF_hit {xs ss hs ks} (v : VTk xs ss hs ks) {c : Nat} (hc : c < 10) (ht : Tel xs ss hs (cL c)) (h : ∀ d, d < c → ¬ Tel xs ss hs (cL d)) : hoF xs ss hs ks = c := by unfold hoF; rw [if_pos (pb_true v)]; exact fst_hit ht h hc
theorem rows_two {w : World} {g q1 q2 : Nat} (x1 y1 x2 y2 : Int) (b1 : Blk w q1 3 #[.int .i64 x1, .int .i64 y1]) (b2 : Blk w q2 3 #[.int .i64 x2, .int .i64 y2])
    (b : Blk w g 23 #[.slice (some ⟨q1, 0, none⟩) 2 2, .slice (some ⟨q2, 0, none⟩) 2 2]) (h1 : Fit x1) (h2 : Fit y1) (h3 : Fit x2) (h4 : Fit y2) : IntRows w (some ⟨g, 0, none⟩) 2 2 [[x1, y1], [x2, y2]] := by
  refine ⟨rfl, Nat.le_refl _, by omega, fun _ => ⟨g, 0, rfl, fun k hk => ?_⟩⟩
  have two : ∀ (q : Nat) (x y : Int), Blk w q 3 #[.int .i64 x, .int .i64 y] → Fit x → Fit y → Ints w (some ⟨q, 0, none⟩) 2 2 [x, y] := fun q x y hb hx hy =>
    ⟨rfl, Nat.le_refl _, by omega, fun z hz => by simp at hz; rcases hz with rfl | rfl <;> assumption, fun _ => ⟨q, 0, rfl, fun j hj => by
      have : j = 0 ∨ j = 1 := by omega
      rcases this with rfl | rfl
      · exact blk_cell hb rfl
      · exact blk_cell hb rfl⟩⟩
  have : k = 0 ∨ k = 1 := by omega
  rcases this with rfl | rfl
  · exact ⟨_, 2, blk_cell b rfl, two _ _ _ b1 h1 h2⟩
  · exact ⟨_, 2, blk_cell b rfl, two _ _ _ b2 h3 h4⟩
/-- The costs, written out. -/
theorem cost_made (wr : World) (c : Nat) (hc : c ≤ 9) : Below wr.heap.size wr (((wr.alloc (.cells #[.int .i64 0, .int .i64 (c : Int)] 3)).alloc (.cells #[.int .i64 0, .int .i64 0] 3)).alloc (.cells #[.slice (some ⟨wr.heap.size, 0, none⟩) 2 2, .slice (some ⟨wr.heap.size + 1, 0, none⟩) 2 2] 23)) ∧ IntRows (((wr.alloc (.cells #[.int .i64 0, .int .i64 (c : Int)] 3)).alloc (.cells #[.int .i64 0, .int .i64 0] 3)).alloc (.cells #[.slice (some ⟨wr.heap.size, 0, none⟩) 2 2, .slice (some ⟨wr.heap.size + 1, 0, none⟩) 2 2] 23)) (some ⟨wr.heap.size + 1 + 1, 0, none⟩) 2 2 (cL c) := by
  have a1 := blk_new wr 3 #[.int .i64 0, .int .i64 (c : Int)]
  have a2 := blk_new (wr.alloc (.cells #[.int .i64 0, .int .i64 (c : Int)] 3)) 3 #[.int .i64 0, .int .i64 0]
  have a3 := blk_new ((wr.alloc (.cells #[.int .i64 0, .int .i64 (c : Int)] 3)).alloc (.cells #[.int .i64 0, .int .i64 0] 3)) 23 #[.slice (some ⟨wr.heap.size, 0, none⟩) 2 2, .slice (some ⟨wr.heap.size + 1, 0, none⟩) 2 2]
  simp only [World.size_alloc] at a2 a3
  exact ⟨below_up (below_up (below_alloc _ _) (below_alloc _ _)) (below_alloc _ _), rows_two 0 (c : Int) 0 0 (blk_old (blk_old a1 _) _) (blk_old a2 _) a3 ⟨by omega, by omega⟩ ⟨by omega, by omega⟩ ⟨by omega, by omega⟩ ⟨by omega, by omega⟩⟩
set_option maxRecDepth 100000 in
set_option maxHeartbeats 3200000 in
theorem HonestCost_spec (A1 A2 A3 A4 : Option Addr) (n1 c1 n2 c2 n3 c3 n4 c4 : Nat) (xs : List Int) (ss hs ks : List (List Int)) (w : World) (h : TkR w A1 A2 A3 A4 n1 c1 n2 c2 n3 c3 n4 c4 xs ss hs ks) :
    Calls Try.prog 32 #[.agg #[.slice A1 n1 c1, .slice A2 n2 c2, .slice A3 n3 c3, .slice A4 n4 c4]] w (Ret (.int .i64 (hoF xs ss hs ks)) w) := by
  have HT := Lib.hid (TLX.start 26 h)
  have HB := Lib.hid (below_alloc w (.cells #[.slice A1 n1 c1, .slice A2 n2 c2, .slice A3 n3 c3, .slice A4 n4 c4] 26))
  clear h
  have q0 := HT.out.c0
  have q1 := HT.out.c1
  have q2 := HT.out.c2
  have q3 := HT.out.c3
  go_enter Try.func32, Try.ntmps32
  go_wp2_with fail
  clear q0 q1 q2 q3
  generalize w.alloc (.cells #[.slice A1 n1 c1, .slice A2 n2 c2, .slice A3 n3 c3, .slice A4 n4 c4] 26) = W0 at *
  by_cases v : VTk xs ss hs ks
  rotate_left
  · refine (pb_false v ▸ validTalk_any A1 A2 A3 A4 n1 c1 n2 c2 n3 c3 n4 c4 xs ss hs ks _ HT.out.r).mono ?_
    rintro e w1 ⟨rfl, hb⟩
    have HB2 := Lib.hid (below_up HB.out hb)
    have HV := Lib.hid (hoF_no v)
    clear hb HT HB v
    go_wp2
    go_ret
    exact ⟨ret_int HV.out.symm, HB2.out⟩
  refine (pb_true v ▸ validTalk_any A1 A2 A3 A4 n1 c1 n2 c2 n3 c3 n4 c4 xs ss hs ks _ HT.out.r).mono ?_
  rintro e w1 ⟨rfl, hb⟩
  have HT2 := Lib.hid (And.intro (HT.out.up hb) (below_up HB.out hb))
  have HV := Lib.hid v
  clear hb HT HB v
  go_wp2
  go_loopw [3] (fun i wr => ∃ c : Nat, c ≤ 10 ∧ i = .int .i64 c ∧ Hid (∀ d, d < c → ¬ Tel xs ss hs (cL d)) ∧ Hid (TLX wr w.heap.size 26 A1 A2 A3 A4 n1 c1 n2 c2 n3 c3 n4 c4 xs ss hs ks ∧ Below w.heap.size w wr)) (fun i _ => 10 - (intOf i).toNat)
  case atStart => exact ⟨0, by omega, rfl, Lib.hid (fun _ h => absurd h (by omega)), HT2⟩
  case round =>
    clear HT2
    obtain ⟨c, hc, rfl, HALL, HT⟩ := hrel
    by_cases hc9 : c ≤ 9
    · have hci : (c : Int) ≤ 9 := by omega
      obtain ⟨hb, hr⟩ := cost_made wr c hc9
      have q0 := HT.out.1.c0
      have q1 := HT.out.1.c1
      have q2 := HT.out.1.c2
      have HT2 := Lib.hid (And.intro (HT.out.1.up hb) (below_up HT.out.2 hb))
      have HR := Lib.hid hr
      clear hb hr HT
      go_wp2_with fail
      clear q0 q1 q2
      generalize (((wr.alloc (.cells #[.int .i64 0, .int .i64 (c : Int)] 3)).alloc (.cells #[.int .i64 0, .int .i64 0] 3)).alloc (.cells #[.slice (some ⟨wr.heap.size, 0, none⟩) 2 2, .slice (some ⟨wr.heap.size + 1, 0, none⟩) 2 2] 23)) = W1 at *
      have HC := Lib.hid (tells_any A1 A2 A3 _ n1 c1 n2 c2 n3 c3 2 2 xs ss hs (cL c) W1 ⟨HT2.out.1.r.r1, HT2.out.1.r.r2, HT2.out.1.r.r3, HR.out⟩ (HV.out.cost hc9))
      by_cases ht : Tel xs ss hs (cL c)
      · rw [pb_true ht] at HC
        have HF := Lib.hid (hoF_hit HV.out (by omega) ht HALL.out)
        clear ht
        refine HC.out.mono ?_
        rintro e w2 ⟨rfl, hb⟩
        have HB := Lib.hid (below_up HT2.out.2 hb)
        clear hb HC HT2 HR
        go_wp2
        go_ret
        exact ⟨ret_int HF.out.symm, HB.out⟩
      · rw [pb_false ht] at HC
        have HN := Lib.hid ht
        clear ht
        refine HC.out.mono ?_
        rintro e w2 ⟨rfl, hb⟩
        have HT3 := Lib.hid (And.intro (HT2.out.1.up hb) (below_up HT2.out.2 hb))
        clear hb HC HT2 HR
        go_wp2
        go_roundw
        case rel => exact ⟨c + 1, by omega, by go_num, Lib.hid (fun d hd => by
          by_cases e : d < c
          · exact HALL.out d e
          · obtain rfl : d = c := by omega
            exact HN.out), HT3⟩
        case measure => simp [intOf]; omega
    · obtain rfl : c = 10 := by omega
      have HF := Lib.hid (hoF_none HV.out HALL.out)
      go_wp2
      go_ret
      exact ⟨ret_int HF.out.symm, HT.out.2⟩
/-- A talk in a box whose costs have turned. -/
structure THb (w : World) (g : Nat) (v4 : Value) (A1 A2 A3 : Option Addr) (n1 c1 n2 c2 n3 c3 : Nat) (xs : List Int) (ss hs : List (List Int)) : Prop where
  box : Blk w g 26 #[.slice A1 n1 c1, .slice A2 n2 c2, .slice A3 n3 c3, v4]
  r1 : Ints w A1 n1 c1 xs
  r2 : IntRows w A2 n2 c2 ss
  r3 : IntRows w A3 n3 c3 hs
theorem THb.up {w w' g v4 A1 A2 A3 n1 c1 n2 c2 n3 c3 xs ss hs} (h : THb w g v4 A1 A2 A3 n1 c1 n2 c2 n3 c3 xs ss hs) (k : Below w.heap.size w w') : THb w' g v4 A1 A2 A3 n1 c1 n2 c2 n3 c3 xs ss hs :=
  ⟨blk_below h.box k, h.r1.keep (Keep.below k), h.r2.keep (Keep.below k), h.r3.keep (Keep.below k)⟩
set_option maxRecDepth 100000 in
set_option maxHeartbeats 3200000 in
theorem HonestCost_impl (A1 A2 A3 A4 : Option Addr) (n1 c1 n2 c2 n3 c3 n4 c4 : Nat) (xs : List Int) (ss hs ks : List (List Int)) (w : World) (h : TkR w A1 A2 A3 A4 n1 c1 n2 c2 n3 c3 n4 c4 xs ss hs ks) :
    Calls Try.prog 31 #[.agg #[.slice A1 n1 c1, .slice A2 n2 c2, .slice A3 n3 c3, .slice A4 n4 c4]] w (Ret (.int .i64 (hoF xs ss hs ks)) w) := by
  have HT := Lib.hid (TLX.start 26 h)
  have HB := Lib.hid (below_alloc w (.cells #[.slice A1 n1 c1, .slice A2 n2 c2, .slice A3 n3 c3, .slice A4 n4 c4] 26))
  have H0 := Lib.hid h
  clear h
  have q0 := HT.out.c0
  have q1 := HT.out.c1
  have q2 := HT.out.c2
  have q3 := HT.out.c3
  go_enter Try.func31, Try.ntmps31
  go_wp2_with fail
  clear q0 q1 q2 q3
  generalize w.alloc (.cells #[.slice A1 n1 c1, .slice A2 n2 c2, .slice A3 n3 c3, .slice A4 n4 c4] 26) = W0 at *
  by_cases v : VTk xs ss hs ks
  rotate_left
  · refine (pb_false v ▸ ValidTalk_impl A1 A2 A3 A4 n1 c1 n2 c2 n3 c3 n4 c4 xs ss hs ks _ HT.out.r).mono ?_
    rintro e w1 ⟨rfl, hb⟩
    have HB2 := Lib.hid (below_up HB.out hb)
    have HV := Lib.hid (hoF_no v)
    clear hb HT HB v
    go_wp2
    go_ret
    exact ⟨ret_int HV.out.symm, HB2.out⟩
  refine (pb_true v ▸ ValidTalk_impl A1 A2 A3 A4 n1 c1 n2 c2 n3 c3 n4 c4 xs ss hs ks _ HT.out.r).mono ?_
  rintro e w1 ⟨rfl, hb⟩
  have HT2 := Lib.hid (show THb w1 w.heap.size (.slice A4 n4 c4) A1 A2 A3 n1 c1 n2 c2 n3 c3 xs ss hs ∧ Below w.heap.size w w1 from ⟨⟨blk_below HT.out.box hb, (HT.out.up hb).r.r1, (HT.out.up hb).r.r2, (HT.out.up hb).r.r3⟩, below_up HB.out hb⟩)
  have HV := Lib.hid v
  clear hb HT HB v
  go_wp2
  go_loopw [7] (fun i wr => ∃ (c : Nat) (v4 : Value), c ≤ 10 ∧ i = .int .i64 c ∧ Hid (∀ d, d < c → ¬ Tel xs ss hs (cL d)) ∧ Hid (THb wr w.heap.size v4 A1 A2 A3 n1 c1 n2 c2 n3 c3 xs ss hs ∧ Below w.heap.size w wr)) (fun i _ => 10 - (intOf i).toNat)
  case atStart => exact ⟨0, _, by omega, rfl, Lib.hid (fun _ h => absurd h (by omega)), HT2⟩
  case round =>
    clear HT2
    obtain ⟨c, v4, hc, rfl, HALL, HT⟩ := hrel
    by_cases hc9 : c ≤ 9
    · have hci : (c : Int) < 10 := by omega
      obtain ⟨hb, hr⟩ := cost_made wr c hc9
      have HT2 := Lib.hid (And.intro (HT.out.1.up hb) (below_up HT.out.2 hb))
      have HG := Lib.hid (blk_lt HT.out.1.box)
      have HR := Lib.hid hr
      have HRT := Lib.hid (show IntRows ((((wr.alloc (.cells #[.int .i64 0, .int .i64 (c : Int)] 3)).alloc (.cells #[.int .i64 0, .int .i64 0] 3)).alloc (.cells #[.slice (some ⟨wr.heap.size, 0, none⟩) 2 2, .slice (some ⟨wr.heap.size + 1, 0, none⟩) 2 2] 23)).setCell ⟨w.heap.size, 3, none⟩ (.slice (some ⟨wr.heap.size + 1 + 1, 0, none⟩) 2 2)) (some ⟨wr.heap.size + 1 + 1, 0, none⟩) 2 2 (cL c) from by
        have a1 := blk_new wr 3 #[.int .i64 0, .int .i64 (c : Int)]
        have a2 := blk_new (wr.alloc (.cells #[.int .i64 0, .int .i64 (c : Int)] 3)) 3 #[.int .i64 0, .int .i64 0]
        have a3 := blk_new ((wr.alloc (.cells #[.int .i64 0, .int .i64 (c : Int)] 3)).alloc (.cells #[.int .i64 0, .int .i64 0] 3)) 23 #[.slice (some ⟨wr.heap.size, 0, none⟩) 2 2, .slice (some ⟨wr.heap.size + 1, 0, none⟩) 2 2]
        simp only [World.size_alloc] at a2 a3
        have hg := HG.out
        exact rows_two 0 (c : Int) 0 0 (blk_other (blk_old (blk_old a1 _) _) (by show wr.heap.size ≠ w.heap.size; omega) _) (blk_other (blk_old a2 _) (by show wr.heap.size + 1 ≠ w.heap.size; omega) _) (blk_other a3 (by show wr.heap.size + 1 + 1 ≠ w.heap.size; omega) _) ⟨by omega, by omega⟩ ⟨by omega, by omega⟩ ⟨by omega, by omega⟩ ⟨by omega, by omega⟩)
      have q0 := blk_cell HT2.out.1.box (i := 0) rfl
      have q1 := blk_cell HT2.out.1.box (i := 1) rfl
      have q2 := blk_cell HT2.out.1.box (i := 2) rfl
      have q3 := blk_cell HT2.out.1.box (i := 3) rfl
      have f3 := blk_frozen HT2.out.1.box 3
      clear hb hr HT
      go_wp2_with fail
      clear q0 q1 q2 q3 f3
      have HB3 := Lib.hid (HT2.out.2.setCell (p := ⟨w.heap.size, 3, none⟩) (Nat.le_refl _) (.slice (some ⟨wr.heap.size + 1 + 1, 0, none⟩) 2 2))
      have HK3 := Lib.hid (show Blk _ _ _ #[.slice A1 n1 c1, .slice A2 n2 c2, .slice A3 n3 c3, .slice (some ⟨wr.heap.size + 1 + 1, 0, none⟩) 2 2] from blk_set HT2.out.1.box 3 (.slice (some ⟨wr.heap.size + 1 + 1, 0, none⟩) 2 2))
      clear HT2 HR
      generalize (((wr.alloc (.cells #[.int .i64 0, .int .i64 (c : Int)] 3)).alloc (.cells #[.int .i64 0, .int .i64 0] 3)).alloc (.cells #[.slice (some ⟨wr.heap.size, 0, none⟩) 2 2, .slice (some ⟨wr.heap.size + 1, 0, none⟩) 2 2] 23)).setCell ⟨w.heap.size, 3, none⟩ (.slice (some ⟨wr.heap.size + 1 + 1, 0, none⟩) 2 2) = W1 at *
      have H1 := Lib.hid (H0.out.keep (Keep.below HB3.out))
      have HC := Lib.hid (Tells_impl A1 A2 A3 _ n1 c1 n2 c2 n3 c3 2 2 xs ss hs (cL c) W1 ⟨H1.out.r1, H1.out.r2, H1.out.r3, HRT.out⟩)
      by_cases ht : Tel xs ss hs (cL c)
      · rw [pb_true (show telOk xs ss hs (cL c) from ⟨HV.out.cost hc9, ht⟩)] at HC
        have HF := Lib.hid (hoF_hit HV.out (by omega) ht HALL.out)
        clear ht
        refine HC.out.mono ?_
        rintro e w2 ⟨rfl, hb⟩
        have HB := Lib.hid (below_up HB3.out hb)
        clear hb HC HB3 HRT HK3 H1
        go_wp2
        go_ret
        exact ⟨ret_int HF.out.symm, HB.out⟩
      · rw [pb_false (show ¬ telOk xs ss hs (cL c) from fun h => ht h.2)] at HC
        have HN := Lib.hid ht
        clear ht
        refine HC.out.mono ?_
        rintro e w2 ⟨rfl, hb⟩
        have HT3 := Lib.hid (show THb w2 w.heap.size (.slice (some ⟨wr.heap.size + 1 + 1, 0, none⟩) 2 2) A1 A2 A3 n1 c1 n2 c2 n3 c3 xs ss hs ∧ Below w.heap.size w w2 from ⟨(⟨HK3.out, H1.out.r1, H1.out.r2, H1.out.r3⟩ : THb W1 _ _ _ _ _ _ _ _ _ _ _ _ _ _).up hb, below_up HB3.out hb⟩)
        clear hb HC HB3 HRT HK3 H1
        go_wp2
        go_roundw
        case rel => exact ⟨c + 1, _, by omega, by go_num, Lib.hid (fun d hd => by
          by_cases e : d < c
          · exact HALL.out d e
          · obtain rfl : d = c := by omega
            exact HN.out), HT3⟩
        case measure => simp [intOf]; omega
    · obtain rfl : c = 10 := by omega
      have HF := Lib.hid (hoF_none HV.out HALL.out)
      go_wp2
      go_ret
      exact ⟨ret_int HF.out.symm, HT.out.2⟩

end Go.Proofs.Ytcjanlbhgfadpaa

