/- Texts merged: KN6. -/
import Derived.Test.YtlfljcemcaphcaaQ3
import Derived.Deep.RegionLaw
/- Parents and halves, by the program. -/
namespace Go.Proofs.Ytlfljcemcaphcaa
open Go.RowKit

/-- Both parents, in block h. -/
def P2 (w : World) (h : Nat) (f : List (List Int)) (p q : Nat) : Prop :=
  (w.cell? ⟨h, 0, none⟩ = some (.int .i64 p) ∧ w.cell? ⟨h, 1, none⟩ = some (.int .i64 (g2 f p 0)) ∧ w.cell? ⟨h, 2, none⟩ = some (.int .i64 (g2 f p 1))) ∧
  (w.cell? ⟨h, 3, none⟩ = some (.int .i64 q) ∧ w.cell? ⟨h, 4, none⟩ = some (.int .i64 (g2 f q 0)) ∧ w.cell? ⟨h, 5, none⟩ = some (.int .i64 (g2 f q 1)))
theorem P2.keep {w w' h f p q} (x : P2 w h f p q) (k : Keep w w') : P2 w' h f p q :=
  ⟨⟨k _ _ x.1.1, k _ _ x.1.2.1, k _ _ x.1.2.2⟩, ⟨k _ _ x.2.1, k _ _ x.2.2.1, k _ _ x.2.2.2⟩⟩
theorem P2.set {w h f p q a} (x : P2 w h f p q) (hne : h ≠ a) (k : Nat) (u : Value) : P2 (w.setCell ⟨a, k, none⟩ u) h f p q := by
  have o : ∀ j, (w.setCell ⟨a, k, none⟩ u).cell? ⟨h, j, none⟩ = w.cell? ⟨h, j, none⟩ := fun j => World.cell?_setCell_other w _ _ _ (fun e => by injection e with e _ _; first | exact hne e | exact hne e.symm)
  exact ⟨⟨by rw [o]; exact x.1.1, by rw [o]; exact x.1.2.1, by rw [o]; exact x.1.2.2⟩, ⟨by rw [o]; exact x.2.1, by rw [o]; exact x.2.2.1, by rw [o]; exact x.2.2.2⟩⟩
set_option maxHeartbeats 1600000 in
theorem parentsNone_any (S : Value) (f : List (List Int)) (i : Nat) (h : g2 f i 0 = -1) (w : World) :
    Calls Try.prog 65 #[S, peV f i] w (Ret (.slice none 0 0) w) := by
  unfold peV
  rw [h]
  generalize g2 f i 1 = y
  have HB := Lib.hid (below_alloc w (.cells #[.int .i64 i, .int .i64 (-1), .int .i64 y] 60))
  have b0 := blk_new w 60 #[.int .i64 i, .int .i64 (-1), .int .i64 y]
  have c1 := blk_cell b0 (i := 1) rfl
  clear b0 h
  go_enter Try.func65, Try.ntmps65
  go_wp2
  go_ret
  exact ⟨rfl, HB.out⟩
set_option maxHeartbeats 1600000 in
theorem parentsTwo_any (g n : Nat) (f : List (List Int)) (i p q : Nat) (hp : g2 f i 0 = p) (hq : g2 f i 1 = q) (hpn : p < n) (hqn : q < n) (w : World) (HE : PE w g n f) :
    Calls Try.prog 65 #[.slice (some ⟨g, 0, none⟩) n n, peV f i] w fun e w' => ∃ h, e = .returned (.slice (some ⟨h, 0, none⟩) 2 2) ∧ P2 w' h f p q ∧ w.heap.size ≤ h ∧ Below w.heap.size w w' := by
  unfold peV
  rw [hp, hq]
  have HB := Lib.hid (below_alloc w (.cells #[.int .i64 i, .int .i64 p, .int .i64 q] 60))
  have b0 := blk_new w 60 #[.int .i64 i, .int .i64 p, .int .i64 q]
  have c1 := blk_cell b0 (i := 1) rfl
  have c2 := blk_cell b0 (i := 2) rfl
  have HE1 := HE.keep (Keep.below HB.out)
  have p0 := HE1.c0 p hpn
  have p1 := HE1.c1 p hpn
  have p2 := HE1.c2 p hpn
  have q0 := HE1.c0 q hqn
  have q1 := HE1.c1 q hqn
  have q2 := HE1.c2 q hqn
  have HP2 := Lib.hid (fun (W : World) => show P2 (W.alloc (.cells #[.int .i64 p, .int .i64 (g2 f p 0), .int .i64 (g2 f p 1), .int .i64 q, .int .i64 (g2 f q 0), .int .i64 (g2 f q 1)] 60)) W.heap.size f p q from by
    have b := blk_new W 60 #[.int .i64 p, .int .i64 (g2 f p 0), .int .i64 (g2 f p 1), .int .i64 q, .int .i64 (g2 f q 0), .int .i64 (g2 f q 1)]
    exact ⟨⟨blk_cell b (i := 0) rfl, blk_cell b (i := 1) rfl, blk_cell b (i := 2) rfl⟩, ⟨blk_cell b (i := 3) rfl, blk_cell b (i := 4) rfl, blk_cell b (i := 5) rfl⟩⟩)
  have hne : ((p : Int) == -1) = false := by simp
  clear b0 HE HE1 hp hq
  generalize hx0 : g2 f p 0 = x0 at *
  generalize hx1 : g2 f p 1 = x1 at *
  generalize hy0 : g2 f q 0 = y0 at *
  generalize hy1 : g2 f q 1 = y1 at *
  clear hx0 hx1 hy0 hy1
  go_enter Try.func65, Try.ntmps65
  go_wp2
  generalize w.alloc (.cells #[.int .i64 i, .int .i64 p, .int .i64 q] 60) = w0 at *
  go_still_tail 10, (by kernel_rfl)
  have HB0 := Lib.hid (below_quiet HB.out (show Quiet w0 w0.drew from ⟨1, rfl⟩))
  change wpList _ _ _ _ _ w0.drew
  generalize w0.drew = w1 at *
  have HB2 := Lib.hid (below_up HB0.out (below_alloc w1 (.cells #[.int .i64 p, .int .i64 x0, .int .i64 x1, .int .i64 q, .int .i64 y0, .int .i64 y1] 60)))
  go_wp2
  go_ret
  exact ⟨_, rfl, HP2.out _, HB0.out.size, HB2.out⟩
/-- Two boxes of fractions, one behind the other: what was given, and the result's. -/
structure HX2 (w : World) (U D : Int) (W : World) : Prop where
  b0 : Blk W w.heap.size 28 #[.int .i64 U, .int .i64 D]
  b1 : Blk W (w.heap.size + 1) 28 #[.int .i64 0, .int .i64 0]
  up : Below w.heap.size w W
theorem HX2.start (w : World) (U D : Int) : HX2 w U D ((w.alloc (.cells #[.int .i64 U, .int .i64 D] 28)).alloc (.cells #[.int .i64 0, .int .i64 0] 28)) := by
  have b := blk_new (w.alloc (.cells #[.int .i64 U, .int .i64 D] 28)) 28 #[.int .i64 0, .int .i64 0]
  rw [World.size_alloc] at b
  exact ⟨blk_old (blk_new w _ _) _, b, below_up (below_alloc _ _) (below_alloc _ _)⟩
theorem HX2.next {w U D W W'} (h : HX2 w U D W) (k : Below W.heap.size W W') : HX2 w U D W' := ⟨blk_below h.b0 k, blk_below h.b1 k, below_up h.up k⟩
theorem pow2_bd {t : Nat} (h : t ≤ 11) : (1 : Int) ≤ 2 ^ t ∧ (2 : Int) ^ t ≤ 2048 := by
  rcases (show t = 0 ∨ t = 1 ∨ t = 2 ∨ t = 3 ∨ t = 4 ∨ t = 5 ∨ t = 6 ∨ t = 7 ∨ t = 8 ∨ t = 9 ∨ t = 10 ∨ t = 11 by omega) with rfl | rfl | rfl | rfl | rfl | rfl | rfl | rfl | rfl | rfl | rfl | rfl <;> decide
set_option maxRecDepth 100000 in
set_option maxHeartbeats 2000000 in
theorem halved_any (b : Int) (t : Nat) (hb : 0 ≤ b ∧ b ≤ 64) (ht : t ≤ 11) (w : World) :
    Calls Try.prog 64 #[fK b, .int .i64 t] w (Ret (frV (64 + b) (64 * 2 ^ t)) w) := by
  have hpw := pow2_bd ht
  obtain ⟨U, D, hform⟩ : ∃ U D, frV (64 + b) (64 * 2 ^ t) = .agg #[.int .i64 U, .int .i64 D] := ⟨_, _, rfl⟩
  have HFORM := Lib.hid hform
  obtain ⟨UB, DB, hfb⟩ := fK_form b
  have HFB := Lib.hid hfb
  have HF1 := Lib.hid (fun W => fracK_impl 1 1 64 W (by omega) (by omega) rfl)
  have HPL := Lib.hid (fun W => plusK_impl 64 b W (by omega) (by omega))
  have HF2 := Lib.hid (fun W => fracOf_any (2 ^ t) 1 W (by unfold Mid; omega) (by unfold Mid; omega) (by omega))
  have HOV := Lib.hid (fun W => overK_impl (64 + b) 64 (2 ^ t) 1 (64 + b) (64 * 2 ^ t) W (by omega) (by omega) (by omega) (by omega) (by omega) (by rw [Int.mul_one]))
  have HOV2 : Hid (∀ W, Calls Try.prog 67 #[fK (64 + b), frV (2 ^ t) 1] W (Ret (.agg #[.int .i64 U, .int .i64 D]) W)) := Lib.hid (fun W => by have := HOV.out W; rw [hform] at this; exact this)
  rw [hfb] at HPL ⊢
  rw [hform]
  have HSH : Hid (IntKind.i64.wrap (2 ^ t) = 2 ^ t) := Lib.hid (wrap_in64 (by omega))
  have HG := Lib.hid (HX2.start w UB DB)
  have c0 := blk_cell HG.out.b0 (i := 0) rfl
  have c1 := blk_cell HG.out.b0 (i := 1) rfl
  have hsh := HSH.out
  clear hform hfb hb hpw HOV
  go_enter Try.func64, Try.ntmps64
  go_wp2
  generalize (w.alloc (.cells #[.int .i64 UB, .int .i64 DB] 28)).alloc (.cells #[.int .i64 0, .int .i64 0] 28) = w0 at *
  go_region_law ((first
    | (go_simp; go_at_call 51; (with_reducible refine (HF1.out _).mono ?_); rintro e v1 ⟨rfl, hb⟩; have HG := Lib.hid ((HG.out.next (Quiet.below ⟨1, rfl⟩)).next hb); have c0 := blk_cell HG.out.b0 (i := 0) rfl; have c1 := blk_cell HG.out.b0 (i := 1) rfl; clear hb)
    | (go_simp; go_at_call 66; (with_reducible refine (HPL.out _).mono ?_); rintro e v2 ⟨rfl, hb⟩; have HG := Lib.hid (HG.out.next hb); clear hb)
    | (go_simp; go_at_call 51; (with_reducible refine (HF2.out _).mono ?_); rintro e v3 ⟨rfl, hb⟩; have HG := Lib.hid (HG.out.next hb); clear hb)
    | (go_simp; go_at_call 67; (with_reducible refine (HOV2.out _).mono ?_); rintro e v4 ⟨rfl, hb⟩; have HG := Lib.hid (HG.out.next hb); have d0 := blk_cell HG.out.b1 (i := 0) rfl; have d1 := blk_cell HG.out.b1 (i := 1) rfl; have f0 := blk_frozen HG.out.b1 0; have f1 := blk_frozen HG.out.b1 1; clear hb)
    | fail))
  all_goals
    have B1 := blk_set (blk_set HG.out.b1 0 (.int .i64 U)) 1 (.int .i64 D)
    have r0 := blk_cell B1 (i := 0) (v := .int .i64 U) rfl
    have r1 := blk_cell B1 (i := 1) (v := .int .i64 D) rfl
    have HBX := Lib.hid ((HG.out.up.setCell (p := ⟨w.heap.size + 1, 0, none⟩) (Nat.le_succ _) (.int .i64 U)).setCell (p := ⟨w.heap.size + 1, 1, none⟩) (Nat.le_succ _) (.int .i64 D))
    clear c0 c1 d0 d1 f0 f1 B1
    go_wp2
    generalize ((v4.setCell ⟨w.heap.size + 1, 0, none⟩ (.int .i64 U)).setCell ⟨w.heap.size + 1, 1, none⟩ (.int .i64 D)) = WE at *
    refine bodyPost_ret (v := .agg #[.int .i64 U, .int .i64 D]) (by simp [results, Try.results64, go_sem, r0, r1]) rfl ?_
    exact ⟨rfl, HBX.out⟩

end Go.Proofs.Ytlfljcemcaphcaa

