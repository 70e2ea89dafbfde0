/- Texts merged: TK4 TK5 Math9 V4 V5 Ones TK6 S5 Cmp S6 S7. -/
import Derived.Test.YtcjanlbhgfadpaaQ5
import Derived.StillTailTactics
/- What talks pay, by the program. -/
namespace Go.Proofs.Ytcjanlbhgfadpaa
open Go.RowKit

/-- Two numbers of a set's members, in an array. -/
def Two (s : Nat) (w : World) (e : Ending) (w' : World) : Prop := e = .returned (.agg #[.int .i64 (sg s 0 : Nat), .int .i64 (sg s 1 : Nat)]) ∧ Below w.heap.size w w'
set_option maxHeartbeats 1000000 in
theorem eachOfTwo_any (s : Nat) (w : World) (hs : s < 4) : Calls Try.prog 73 #[.int .i64 (s : Int), .int .i64 0, .int .i64 1] w (Two s w) := by
  have b0 := blk_old (blk_new w 56 #[.int .i64 0, .int .i64 0]) (.cells #[.int .i64 0, .int .i64 0] 56)
  have b1 := blk_new (w.alloc (.cells #[.int .i64 0, .int .i64 0] 56)) 56 #[.int .i64 0, .int .i64 0]
  have hb := below_up (below_alloc w (.cells #[.int .i64 0, .int .i64 0] 56)) (below_alloc (w.alloc (.cells #[.int .i64 0, .int .i64 0] 56)) (.cells #[.int .i64 0, .int .i64 0] 56))
  simp only [World.size_alloc] at b0 b1
  have c : s = 0 ∨ s = 1 ∨ s = 2 ∨ s = 3 := by omega
  rcases c with rfl | rfl | rfl | rfl
  · unfold Two
    show Calls Try.prog 73 #[.int .i64 0, .int .i64 0, .int .i64 1] w fun e w' => e = .returned (.agg #[.int .i64 0, .int .i64 0]) ∧ Below w.heap.size w w'
    go_enter Try.func73, Try.ntmps73
    have a0 := blk_cell b0 (i := 0) rfl
    have a1 := blk_cell b0 (i := 1) rfl
    have d0 := blk_cell b1 (i := 0) rfl
    have d1 := blk_cell b1 (i := 1) rfl
    have f0 := blk_frozen b0 0
    have f1 := blk_frozen b0 1
    have h0 := blk_frozen b1 0
    have h1 := blk_frozen b1 1
    go_wp2
    clear a0 a1 d0 d1 f0 f1 h0 h1
    have k0 := blk_cell (blk_old (blk_new w 56 #[.int .i64 0, .int .i64 0]) (.cells #[.int .i64 0, .int .i64 0] 56)) (i := 0) (v := .int .i64 0) rfl
    have k1 := blk_cell (blk_old (blk_new w 56 #[.int .i64 0, .int .i64 0]) (.cells #[.int .i64 0, .int .i64 0] 56)) (i := 1) (v := .int .i64 0) rfl
    refine bodyPost_ret (v := .agg #[.int .i64 0, .int .i64 0]) (by simp [results, Try.results73, go_sem, k0, k1]) rfl ⟨rfl, below_up (below_alloc w (.cells #[.int .i64 0, .int .i64 0] 56)) (below_alloc (w.alloc (.cells #[.int .i64 0, .int .i64 0] 56)) (.cells #[.int .i64 0, .int .i64 0] 56))⟩
  · unfold Two
    show Calls Try.prog 73 #[.int .i64 1, .int .i64 0, .int .i64 1] w fun e w' => e = .returned (.agg #[.int .i64 1, .int .i64 0]) ∧ Below w.heap.size w w'
    go_enter Try.func73, Try.ntmps73
    have a0 := blk_cell b0 (i := 0) rfl
    have a1 := blk_cell b0 (i := 1) rfl
    have d0 := blk_cell b1 (i := 0) rfl
    have d1 := blk_cell b1 (i := 1) rfl
    have f0 := blk_frozen b0 0
    have f1 := blk_frozen b0 1
    have h0 := blk_frozen b1 0
    have h1 := blk_frozen b1 1
    go_wp2
    clear a0 a1 d0 d1 f0 f1 h0 h1
    have k0 := blk_cell (blk_old (blk_new w 56 #[.int .i64 1, .int .i64 0]) (.cells #[.int .i64 1, .int .i64 0] 56)) (i := 0) (v := .int .i64 1) rfl
    have k1 := blk_cell (blk_old (blk_new w 56 #[.int .i64 1, .int .i64 0]) (.cells #[.int .i64 1, .int .i64 0] 56)) (i := 1) (v := .int .i64 0) rfl
    refine bodyPost_ret (v := .agg #[.int .i64 1, .int .i64 0]) (by simp [results, Try.results73, go_sem, k0, k1]) rfl ⟨rfl, below_up (below_alloc w (.cells #[.int .i64 1, .int .i64 0] 56)) (below_alloc (w.alloc (.cells #[.int .i64 1, .int .i64 0] 56)) (.cells #[.int .i64 1, .int .i64 0] 56))⟩
  · unfold Two
    show Calls Try.prog 73 #[.int .i64 2, .int .i64 0, .int .i64 1] w fun e w' => e = .returned (.agg #[.int .i64 0, .int .i64 1]) ∧ Below w.heap.size w w'
    go_enter Try.func73, Try.ntmps73
    have a0 := blk_cell b0 (i := 0) rfl
    have a1 := blk_cell b0 (i := 1) rfl
    have d0 := blk_cell b1 (i := 0) rfl
    have d1 := blk_cell b1 (i := 1) rfl
    have f0 := blk_frozen b0 0
    have f1 := blk_frozen b0 1
    have h0 := blk_frozen b1 0
    have h1 := blk_frozen b1 1
    go_wp2
    clear a0 a1 d0 d1 f0 f1 h0 h1
    have k0 := blk_cell (blk_old (blk_new w 56 #[.int .i64 0, .int .i64 1]) (.cells #[.int .i64 0, .int .i64 1] 56)) (i := 0) (v := .int .i64 0) rfl
    have k1 := blk_cell (blk_old (blk_new w 56 #[.int .i64 0, .int .i64 1]) (.cells #[.int .i64 0, .int .i64 1] 56)) (i := 1) (v := .int .i64 1) rfl
    refine bodyPost_ret (v := .agg #[.int .i64 0, .int .i64 1]) (by simp [results, Try.results73, go_sem, k0, k1]) rfl ⟨rfl, below_up (below_alloc w (.cells #[.int .i64 0, .int .i64 1] 56)) (below_alloc (w.alloc (.cells #[.int .i64 0, .int .i64 1] 56)) (.cells #[.int .i64 0, .int .i64 1] 56))⟩
  · unfold Two
    show Calls Try.prog 73 #[.int .i64 3, .int .i64 0, .int .i64 1] w fun e w' => e = .returned (.agg #[.int .i64 1, .int .i64 1]) ∧ Below w.heap.size w w'
    go_enter Try.func73, Try.ntmps73
    have a0 := blk_cell b0 (i := 0) rfl
    have a1 := blk_cell b0 (i := 1) rfl
    have d0 := blk_cell b1 (i := 0) rfl
    have d1 := blk_cell b1 (i := 1) rfl
    have f0 := blk_frozen b0 0
    have f1 := blk_frozen b0 1
    have h0 := blk_frozen b1 0
    have h1 := blk_frozen b1 1
    go_wp2
    clear a0 a1 d0 d1 f0 f1 h0 h1
    have k0 := blk_cell (blk_old (blk_new w 56 #[.int .i64 1, .int .i64 1]) (.cells #[.int .i64 1, .int .i64 1] 56)) (i := 0) (v := .int .i64 1) rfl
    have k1 := blk_cell (blk_old (blk_new w 56 #[.int .i64 1, .int .i64 1]) (.cells #[.int .i64 1, .int .i64 1] 56)) (i := 1) (v := .int .i64 1) rfl
    refine bodyPost_ret (v := .agg #[.int .i64 1, .int .i64 1]) (by simp [results, Try.results73, go_sem, k0, k1]) rfl ⟨rfl, below_up (below_alloc w (.cells #[.int .i64 1, .int .i64 1] 56)) (below_alloc (w.alloc (.cells #[.int .i64 1, .int .i64 1] 56)) (.cells #[.int .i64 1, .int .i64 1] 56))⟩
set_option maxHeartbeats 400000 in
theorem signalsBy_any (s : Nat) (w : World) (hs : s < 4) : Calls Try.prog 59 #[.int .i64 (s : Int)] w (Two s w) := by
  have hb := below_alloc w (.cells #[.int .i64 0, .int .i64 0] 56)
  have HE := Lib.hid (eachOfTwo_any s (w.alloc (.cells #[.int .i64 0, .int .i64 0] 56)) hs)
  have HB := Lib.hid hb
  have HK := Lib.hid (blk_new w 56 #[.int .i64 0, .int .i64 0])
  clear hb
  generalize hx : ((sg s 0 : Nat) : Int) = x at *
  generalize hy : ((sg s 1 : Nat) : Int) = y at *
  have HX := Lib.hid (And.intro hx hy)
  clear hx hy
  go_enter Try.func59, Try.ntmps59
  go_wp2_with fail
  generalize w.alloc (.cells #[.int .i64 0, .int .i64 0] 56) = W0 at *
  refine HE.out.mono ?_
  rintro e w1 ⟨rfl, hb⟩
  have K1 := Lib.hid (blk_below HK.out hb)
  have B1 := Lib.hid (below_up HB.out hb)
  rw [HX.out.1, HX.out.2]
  have a0 := blk_cell K1.out (i := 0) rfl
  have a1 := blk_cell K1.out (i := 1) rfl
  have f0 := blk_frozen K1.out 0
  have f1 := blk_frozen K1.out 1
  clear hb HK HB HE
  go_wp2
  clear a0 a1 f0 f1
  have B2 := blk_set (blk_set K1.out 0 (.int .i64 x)) 1 (.int .i64 y)
  have k0 := blk_cell B2 (i := 0) (v := .int .i64 x) rfl
  have k1 := blk_cell B2 (i := 1) (v := .int .i64 y) rfl
  have HB2 := Lib.hid ((B1.out.setCell (p := ⟨w.heap.size, 0, none⟩) (Nat.le_refl _) (.int .i64 x)).setCell (p := ⟨w.heap.size, 1, none⟩) (Nat.le_refl _) (.int .i64 y))
  clear B2 K1 B1
  generalize (w1.setCell ⟨w.heap.size, 0, none⟩ (.int .i64 x)).setCell ⟨w.heap.size, 1, none⟩ (.int .i64 y) = WE at *
  refine bodyPost_ret (v := .agg #[.int .i64 x, .int .i64 y]) (by simp [results, Try.results59, go_sem, k0, k1]) rfl ?_
  exact ⟨by rw [HX.out.1, HX.out.2], HB2.out⟩
set_option maxHeartbeats 400000 in
theorem actsBehind_any (s : Nat) (w : World) (hs : s < 4) : Calls Try.prog 60 #[.int .i64 (s : Int)] w (Two s w) := by
  have hb := below_alloc w (.cells #[.int .i64 0, .int .i64 0] 56)
  have HE := Lib.hid (eachOfTwo_any s (w.alloc (.cells #[.int .i64 0, .int .i64 0] 56)) hs)
  have HB := Lib.hid hb
  have HK := Lib.hid (blk_new w 56 #[.int .i64 0, .int .i64 0])
  clear hb
  generalize hx : ((sg s 0 : Nat) : Int) = x at *
  generalize hy : ((sg s 1 : Nat) : Int) = y at *
  have HX := Lib.hid (And.intro hx hy)
  clear hx hy
  go_enter Try.func60, Try.ntmps60
  go_wp2_with fail
  generalize w.alloc (.cells #[.int .i64 0, .int .i64 0] 56) = W0 at *
  refine HE.out.mono ?_
  rintro e w1 ⟨rfl, hb⟩
  have K1 := Lib.hid (blk_below HK.out hb)
  have B1 := Lib.hid (below_up HB.out hb)
  rw [HX.out.1, HX.out.2]
  have a0 := blk_cell K1.out (i := 0) rfl
  have a1 := blk_cell K1.out (i := 1) rfl
  have f0 := blk_frozen K1.out 0
  have f1 := blk_frozen K1.out 1
  clear hb HK HB HE
  go_wp2
  clear a0 a1 f0 f1
  have B2 := blk_set (blk_set K1.out 0 (.int .i64 x)) 1 (.int .i64 y)
  have k0 := blk_cell B2 (i := 0) (v := .int .i64 x) rfl
  have k1 := blk_cell B2 (i := 1) (v := .int .i64 y) rfl
  have HB2 := Lib.hid ((B1.out.setCell (p := ⟨w.heap.size, 0, none⟩) (Nat.le_refl _) (.int .i64 x)).setCell (p := ⟨w.heap.size, 1, none⟩) (Nat.le_refl _) (.int .i64 y))
  clear B2 K1 B1
  generalize (w1.setCell ⟨w.heap.size, 0, none⟩ (.int .i64 x)).setCell ⟨w.heap.size, 1, none⟩ (.int .i64 y) = WE at *
  refine bodyPost_ret (v := .agg #[.int .i64 x, .int .i64 y]) (by simp [results, Try.results60, go_sem, k0, k1]) rfl ?_
  exact ⟨by rw [HX.out.1, HX.out.2], HB2.out⟩

def Pays (xs : List Int) (ss hs ks : List (List Int)) (s r : Nat) (w : World) (e : Ending) (w' : World) : Prop :=
  e = .returned (.tuple #[.agg #[.int .i64 (spk ss ks s r 0), .int .i64 (spk ss ks s r 1)], .int .i64 (hea xs hs s r)]) ∧ Below w.heap.size w w'
def spc (ss ks : List (List Int)) (s r k j : Nat) : Int := if j < k then spk ss ks s r j else 0
def heK (xs : List Int) (hs : List (List Int)) (s r : Nat) : Nat → Int
  | 0 => 0
  | k + 1 => heK xs hs s r k + hea1 xs hs s r k
theorem heK_bd {xs ss hs ks} (v : VTk xs ss hs ks) (s r : Nat) : ∀ {k : Nat}, k ≤ 2 → -81 * k ≤ heK xs hs s r k ∧ heK xs hs s r k ≤ 81 * k
  | 0, _ => by simp [heK]
  | k + 1, h => by
    have h1 := heK_bd v s r (k := k) (by omega)
    have h2 := v.hea1 s r (k := k) (by omega)
    simp only [heK]
    omega
/-- What talkPays has before type k. -/
structure TPI (p : TP) (w : World) (xs : List Int) (ss hs ks : List (List Int)) (s r g8 g9 k : Nat) (W : World) : Prop where
  t : TB p W w.heap.size xs ss hs ks
  k6 : Blk W (w.heap.size + 1) 56 #[.int .i64 0, .int .i64 0]
  k8 : Blk W g8 56 #[.int .i64 (sg r 0 : Nat), .int .i64 (sg r 1 : Nat)]
  k9 : Blk W g9 56 #[.int .i64 (spc ss ks s r k 0), .int .i64 (spc ss ks s r k 1)]
  b : Below w.heap.size w W
  l8 : w.heap.size + 2 ≤ g8
  l9 : g8 < g9
theorem TPI.up {p w xs ss hs ks s r g8 g9 k W W'} (h : TPI p w xs ss hs ks s r g8 g9 k W) (q : Below W.heap.size W W') : TPI p w xs ss hs ks s r g8 g9 k W' :=
  ⟨h.t.up q, blk_below h.k6 q, blk_below h.k8 q, blk_below h.k9 q, below_up h.b q, h.l8, h.l9⟩
theorem TPI.c8 {p w xs ss hs ks s r g8 g9 k W} (h : TPI p w xs ss hs ks s r g8 g9 k W) {j : Nat} (hj : j < 2) : W.cell? ⟨g8, j, none⟩ = some (.int .i64 (sg r j : Nat)) := by
  have : j = 0 ∨ j = 1 := by omega
  rcases this with rfl | rfl
  · exact blk_cell h.k8 rfl
  · exact blk_cell h.k8 rfl
theorem TPI.set {p w xs ss hs ks s r g8 g9 k W} (h : TPI p w xs ss hs ks s r g8 g9 k W) (h0 : TV p w xs ss hs ks) (hk : k < 2) : TPI p w xs ss hs ks s r g8 g9 (k + 1) (W.setCell ⟨g9, k, none⟩ (.int .i64 (spk ss ks s r k))) := by
  have l8 := h.l8
  have l9 := h.l9
  have bb := h.b.setCell (p := ⟨g9, k, none⟩) (by show w.heap.size ≤ g9; omega) (.int .i64 (spk ss ks s r k))
  refine ⟨⟨blk_other h.t.box (by show w.heap.size ≠ g9; omega) _, h0.keep (Keep.below bb)⟩, blk_other h.k6 (by show w.heap.size + 1 ≠ g9; omega) _, blk_other h.k8 (by show g8 ≠ g9; omega) _, ?_, bb, l8, l9⟩
  have e := blk_set h.k9 k (.int .i64 (spk ss ks s r k))
  have : k = 0 ∨ k = 1 := by omega
  rcases this with rfl | rfl
  · simpa [spc] using e
  · simpa [spc] using e
set_option maxRecDepth 100000 in
set_option maxHeartbeats 3200000 in
theorem talkPays_any (p : TP) (xs : List Int) (ss hs ks : List (List Int)) (s r : Nat) (w : World) (h : TV p w xs ss hs ks) (hs4 : s < 4) (hr4 : r < 4) :
    Calls Try.prog 51 #[.agg #[.slice (some ⟨p.b1, p.o1, none⟩) 2 p.c1, .slice (some ⟨p.b2, p.o2, none⟩) 2 p.c2, .slice (some ⟨p.b3, p.o3, none⟩) 2 p.c3, .slice (some ⟨p.b4, p.o4, none⟩) 2 p.c4], .int .i64 (s : Int), .int .i64 (r : Int)] w (Pays xs ss hs ks s r w) := by
  have H0 := Lib.hid h
  have HV := Lib.hid h.v
  have b0 := (TB.start h).up (below_alloc _ (.cells #[.int .i64 0, .int .i64 0] 56))
  have b6 := blk_new (w.alloc (.cells #[.slice (some ⟨p.b1, p.o1, none⟩) 2 p.c1, .slice (some ⟨p.b2, p.o2, none⟩) 2 p.c2, .slice (some ⟨p.b3, p.o3, none⟩) 2 p.c3, .slice (some ⟨p.b4, p.o4, none⟩) 2 p.c4] 26)) 56 #[.int .i64 0, .int .i64 0]
  have bb := below_up (below_alloc w (.cells #[.slice (some ⟨p.b1, p.o1, none⟩) 2 p.c1, .slice (some ⟨p.b2, p.o2, none⟩) 2 p.c2, .slice (some ⟨p.b3, p.o3, none⟩) 2 p.c3, .slice (some ⟨p.b4, p.o4, none⟩) 2 p.c4] 26)) (below_alloc (w.alloc (.cells #[.slice (some ⟨p.b1, p.o1, none⟩) 2 p.c1, .slice (some ⟨p.b2, p.o2, none⟩) 2 p.c2, .slice (some ⟨p.b3, p.o3, none⟩) 2 p.c3, .slice (some ⟨p.b4, p.o4, none⟩) 2 p.c4] 26)) (.cells #[.int .i64 0, .int .i64 0] 56))
  simp only [World.size_alloc] at b6
  have HB := Lib.hid b0
  have HK := Lib.hid b6
  have HD := Lib.hid bb
  have HZ := Lib.hid (show w.heap.size + 2 ≤ ((w.alloc (.cells #[.slice (some ⟨p.b1, p.o1, none⟩) 2 p.c1, .slice (some ⟨p.b2, p.o2, none⟩) 2 p.c2, .slice (some ⟨p.b3, p.o3, none⟩) 2 p.c3, .slice (some ⟨p.b4, p.o4, none⟩) 2 p.c4] 26)).alloc (.cells #[.int .i64 0, .int .i64 0] 56)).heap.size by simp)
  clear h b0 b6 bb
  go_enter Try.func51, Try.ntmps51
  go_wp2_with fail
  generalize (w.alloc (.cells #[.slice (some ⟨p.b1, p.o1, none⟩) 2 p.c1, .slice (some ⟨p.b2, p.o2, none⟩) 2 p.c2, .slice (some ⟨p.b3, p.o3, none⟩) 2 p.c3, .slice (some ⟨p.b4, p.o4, none⟩) 2 p.c4] 26)).alloc (.cells #[.int .i64 0, .int .i64 0] 56) = W1 at *
  refine (actsBehind_any r W1 hr4).mono ?_
  rintro e w1 ⟨rfl, hb⟩
  have hz := hb.size
  have HA := Lib.hid (show TPI p w xs ss hs ks s r w1.heap.size (w1.heap.size + 1) 0 ((w1.alloc (.cells #[.int .i64 (sg r 0 : Nat), .int .i64 (sg r 1 : Nat)] 56)).alloc (.cells #[.int .i64 0, .int .i64 0] 56)) from by
    have q1 := below_alloc w1 (.cells #[.int .i64 (sg r 0 : Nat), .int .i64 (sg r 1 : Nat)] 56)
    have q2 := below_alloc (w1.alloc (.cells #[.int .i64 (sg r 0 : Nat), .int .i64 (sg r 1 : Nat)] 56)) (.cells #[.int .i64 0, .int .i64 0] 56)
    have q3 := blk_new (w1.alloc (.cells #[.int .i64 (sg r 0 : Nat), .int .i64 (sg r 1 : Nat)] 56)) 56 #[.int .i64 0, .int .i64 0]
    rw [World.size_alloc] at q3
    exact ⟨((HB.out.up hb).up q1).up q2, blk_below (blk_below (blk_below HK.out hb) q1) q2, blk_old (blk_new w1 _ _) _, by simpa [spc] using q3, below_up (below_up (below_up HD.out hb) q1) q2, by have := HZ.out; omega, by omega⟩)
  clear hz hb HB HK HD HZ
  generalize hr0 : ((sg r 0 : Nat) : Int) = a0 at *
  generalize hr1 : ((sg r 1 : Nat) : Int) = a1 at *
  have HR := Lib.hid (And.intro hr0 hr1)
  clear hr0 hr1
  go_wp2_with fail
  generalize (w1.alloc (.cells #[.int .i64 a0, .int .i64 a1] 56)).alloc (.cells #[.int .i64 0, .int .i64 0] 56) = W2 at *
  have hz9 := HA.out.l8
  generalize w1.heap.size = g8 at *
  refine (signalsBy_any s W2 hs4).mono ?_
  rintro e w2 ⟨rfl, hb⟩
  have HS := Lib.hid (HA.out.up hb)
  have hs0 := sg_lt s 0
  have hs1 := sg_lt s 1
  clear hb HA
  go_wp2
  go_loopw [10, 18] (fun hh i wr => ∃ k : Nat, k ≤ 2 ∧ i = .int .i64 k ∧ hh = .int .i64 (heK xs hs s r k) ∧ Hid (TPI p w xs ss hs ks s r g8 (g8 + 1) k wr)) (fun _ i _ => 2 - (intOf i).toNat)
  case atStart => exact ⟨0, by omega, rfl, rfl, HS⟩
  case round =>
    clear HS
    obtain ⟨k, hk, rfl, rfl, HS⟩ := hrel
    have c : k < 2 ∨ k = 2 := by omega
    rcases c with hk2 | rfl
    · have c : ∃ S, S < 2 ∧ sg s k = S := ⟨_, sg_lt s k, rfl⟩
      obtain ⟨S, hS, hSe⟩ := c
      have c : ∃ D, D < 2 ∧ sg r S = D := ⟨_, sg_lt r S, rfl⟩
      obtain ⟨D, hD, hDe⟩ := c
      have d8 := HS.out.c8 hS
      rw [hDe] at d8
      have x0 := HS.out.t.c0
      have x1 := HS.out.t.c1
      have x2 := HS.out.t.c2
      have x3 := HS.out.t.c3
      have y0 := HS.out.t.t.x k hk2
      have y1 := HS.out.t.t.t2.row k hk2
      have y2 := HS.out.t.t.t3.row k hk2
      have y3 := HS.out.t.t.t4.row k hk2
      have z1 := HS.out.t.t.t2.cell k D hk2 hD
      have z2 := HS.out.t.t.t3.cell k D hk2 hD
      have z3 := HS.out.t.t.t4.cell k S hk2 hS
      have hE1 : spk ss ks s r k = g2 ss k D - g2 ks k S := by unfold spk; rw [hSe, hDe]
      have hE2 : heK xs hs s r (k + 1) = heK xs hs s r k + gi xs k * g2 hs k D := by rw [heK, hea1, hSe, hDe]
      have v1 := HV.out.spk s r hk2
      have HN := Lib.hid (HS.out.set H0.out hk2)
      have g0 := blk_cell HS.out.k9 (i := 0) rfl
      have g1 := blk_cell HS.out.k9 (i := 1) rfl
      have f0 := blk_frozen HS.out.k9 k
      have gk : ∃ v, wr.cell? ⟨g8 + 1, k, none⟩ = some v := by
        have : k = 0 ∨ k = 1 := by omega
        rcases this with rfl | rfl
        · exact ⟨_, g0⟩
        · exact ⟨_, g1⟩
      obtain ⟨vk, gk⟩ := gk
      have l1 := HV.out.2.1.bd hk2 hD
      have l2 := HV.out.2.2.2.bd hk2 hS
      have l3 := mul9 (HV.out.x hk2) (HV.out.2.2.1.bd hk2 hD)
      have l4 : -81 * k ≤ heK xs hs s r k ∧ heK xs hs s r k ≤ 81 * k := heK_bd HV.out s r (by omega)
      rw [hE1] at HN v1
      have HE2 := Lib.hid hE2
      have HSe := Lib.hid hSe
      have w1' : IntKind.i64.wrap (g2 ss k D - g2 ks k S) = g2 ss k D - g2 ks k S := wrapIn (by omega)
      have w2' : IntKind.i64.wrap (gi xs k * g2 hs k D) = gi xs k * g2 hs k D := wrapIn (by omega)
      have w3' : IntKind.i64.wrap (heK xs hs s r k + gi xs k * g2 hs k D) = heK xs hs s r k + gi xs k * g2 hs k D := wrapIn (by omega)
      clear hE1 hE2 g0 g1 HS hDe
      have ix : ∀ W, (Instr.index 56 (.agg #[.int .i64 (sg s 0 : Nat), .int .i64 (sg s 1 : Nat)]) (.int .i64 k)).run Try.prog W = .ok (.int .i64 (S : Nat)) W := by
        have : k = 0 ∨ k = 1 := by omega
        rcases this with rfl | rfl
        · rw [← hSe]; exact fun _ => by kernel_rfl
        · rw [← hSe]; exact fun _ => by kernel_rfl
      have hSi : (S : Int) < 2 := by omega
      have hDi : (D : Int) < 2 := by omega
      clear hSe
      generalize sg s 0 = S0 at *
      generalize sg s 1 = S1 at *
      generalize hGX : gi xs k = X at *
      generalize g2 ss k D = U at *
      generalize g2 ks k S = C at *
      generalize hGH : g2 hs k D = H at *
      have HGX := Lib.hid (And.intro hGX hGH)
      clear hGX hGH
      generalize heK xs hs s r k = E at *
      go_wp2
      clear ix
      go_still_tail 18, (by kernel_rfl)
      go_wp2
      clear x0 x1 x2 x3 y0 y1 y2 y3 z1 z2 z3 d8 gk f0
      generalize wr.setCell ⟨g8 + 1, k, none⟩ (.int .i64 (U - C)) = W3 at *
      have x0 := HN.out.t.c0
      have x2 := HN.out.t.c2
      have y0 := HN.out.t.t.x k hk2
      have y2 := HN.out.t.t.t3.row k hk2
      have z2 := HN.out.t.t.t3.cell k D hk2 hD
      rw [HGX.out.1] at y0
      rw [HGX.out.2] at z2
      go_quiet (fail)
      clear x0 x2 y0 y2 z2
      go_wp2
      go_roundw
      case rel => exact ⟨k + 1, by omega, by go_num, by rw [HE2.out], Lib.hid (HN.out.up (Quiet.below ⟨_, rfl⟩))⟩
      case measure => simp [intOf]; omega
    · have HE := Lib.hid (show hea xs hs s r = heK xs hs s r 2 from by simp [hea, heK])
      have q0 := blk_cell HS.out.k9 (i := 0) rfl
      have q1 := blk_cell HS.out.k9 (i := 1) rfl
      have r0 := blk_cell HS.out.k6 (i := 0) rfl
      have r1 := blk_cell HS.out.k6 (i := 1) rfl
      have f0 := blk_frozen HS.out.k6 0
      have f1 := blk_frozen HS.out.k6 1
      have e0 : spc ss ks s r 2 0 = spk ss ks s r 0 := rfl
      have e1 : spc ss ks s r 2 1 = spk ss ks s r 1 := rfl
      rw [e0] at q0
      rw [e1] at q1
      have K6 := Lib.hid HS.out.k6
      have HD := Lib.hid HS.out.b
      clear e0 e1 HS
      generalize hX : spk ss ks s r 0 = X at *
      generalize hY : spk ss ks s r 1 = Y at *
      have HXY := Lib.hid (And.intro hX hY)
      clear hX hY
      generalize heK xs hs s r 2 = E at *
      go_wp2
      clear q0 q1 r0 r1 f0 f1
      have B2 := blk_set (blk_set K6.out 0 (.int .i64 X)) 1 (.int .i64 Y)
      have k0 := blk_cell B2 (i := 0) (v := .int .i64 X) rfl
      have k1 := blk_cell B2 (i := 1) (v := .int .i64 Y) rfl
      have HB2 := Lib.hid ((HD.out.setCell (p := ⟨w.heap.size + 1, 0, none⟩) (by show w.heap.size ≤ w.heap.size + 1; omega) (.int .i64 X)).setCell (p := ⟨w.heap.size + 1, 1, none⟩) (by show w.heap.size ≤ w.heap.size + 1; omega) (.int .i64 Y))
      clear B2 K6 HD
      generalize (wr.setCell ⟨w.heap.size + 1, 0, none⟩ (.int .i64 X)).setCell ⟨w.heap.size + 1, 1, none⟩ (.int .i64 Y) = WE at *
      refine bodyPost_ret (v := .tuple #[.agg #[.int .i64 X, .int .i64 Y], .int .i64 E]) (by simp [results, Try.results51, go_sem, k0, k1]) rfl ?_
      exact ⟨by rw [HE.out, HXY.out.1, HXY.out.2], HB2.out⟩

end Go.Proofs.Ytcjanlbhgfadpaa

/- TalkPays, by the program; valid or not. -/
namespace Go.Proofs.Ytcjanlbhgfadpaa
open Go.RowKit

/-- A talk's pays, if all is valid. -/
def Okt (xs : List Int) (ss hs ks : List (List Int)) (s r : Int) : Prop := VTk xs ss hs ks ∧ Blw 4 s ∧ Blw 4 r
noncomputable def tpL (xs : List Int) (ss hs ks : List (List Int)) (s r : Int) : List Int := if pb (Okt xs ss hs ks s r) then [spk ss ks s.toNat r.toNat 0, spk ss ks s.toNat r.toNat 1] else []
noncomputable def tpH (xs : List Int) (ss hs ks : List (List Int)) (s r : Int) : Int := if pb (Okt xs ss hs ks s r) then hea xs hs s.toNat r.toNat else 0
theorem tp_yes {xs ss hs ks} {s r : Nat} (v : VTk xs ss hs ks) (h1 : s < 4) (h2 : r < 4) : tpL xs ss hs ks s r = [spk ss ks s r 0, spk ss ks s r 1] ∧ tpH xs ss hs ks s r = hea xs hs s r := by
  have h := pb_true (p := Okt xs ss hs ks s r) ⟨v, ⟨by omega, by omega⟩, by omega, by omega⟩
  unfold tpL tpH
  rw [if_pos h, if_pos h]
  exact ⟨rfl, rfl⟩
theorem tp_no {xs ss hs ks} {s r : Int} (h : ¬ Okt xs ss hs ks s r) : tpL xs ss hs ks s r = [] ∧ tpH xs ss hs ks s r = 0 := by
  have h := pb_false h
  unfold tpL tpH
  rw [h]
  exact ⟨rfl, rfl⟩
theorem tpL_len (xs ss hs ks s r) : (tpL xs ss hs ks s r).length ≤ 2 := by unfold tpL; split <;> simp
/-- A new list and a number. -/
def NewIH (w : World) (ys : List Int) (h : Int) (e : Ending) (w' : World) : Prop :=
  ∃ Av c gg, e = .returned (.tuple #[.slice Av ys.length c, .int .i64 h]) ∧ OwnI w.heap.size w'.heap.size w' gg Av ys.length c ys ∧ w.heap.size ≤ gg ∧ Below w.heap.size w w'
theorem NewIH.nil {w w' : World} {ys : List Int} {h : Int} (hb : Below w.heap.size w w') (hy : ys = []) (h0 : h = 0) : NewIH w ys h (.returned (.tuple #[.slice none 0 0, .int .i64 0])) w' := by
  subst hy
  subst h0
  exact ⟨none, 0, w.heap.size, rfl, OwnI.nil _ _ _ _, Nat.le_refl _, hb⟩
theorem NewIH.two {w w' : World} {g : Nat} {x y h : Int} (hb : Below w.heap.size w w') (hg : w.heap.size ≤ g) (hx : Fit x) (hy : Fit y) (hB : Blk w' g 3 #[.int .i64 x, .int .i64 y]) : NewIH w [x, y] h (.returned (.tuple #[.slice (some ⟨g, 0, none⟩) 2 2, .int .i64 h])) w' :=
  ⟨_, _, g, rfl, ⟨⟨rfl, Nat.le_refl _, by simp, fun z hz => by simp at hz; rcases hz with rfl | rfl <;> assumption, fun _ => ⟨g, 0, rfl, fun k hk => by
    have hk2 : k < 2 := hk
    have : k = 0 ∨ k = 1 := by omega
    rcases this with rfl | rfl
    · exact blk_cell hB rfl
    · exact blk_cell hB rfl⟩⟩, fun _ => ⟨0, rfl, hg, blk_lt hB, fun k _ => blk_frozen hB _⟩⟩, hg, hb⟩
set_option maxRecDepth 100000 in
set_option maxHeartbeats 3200000 in
theorem TalkPays_impl (A1 A2 A3 A4 : Option Addr) (n1 c1 n2 c2 n3 c3 n4 c4 : Nat) (xs : List Int) (ss hs ks : List (List Int)) (s r : Int) (w : World) (h : TkR w A1 A2 A3 A4 n1 c1 n2 c2 n3 c3 n4 c4 xs ss hs ks) (hs_ : Fit s) (hr_ : Fit r) :
    Calls Try.prog 18 #[.agg #[.slice A1 n1 c1, .slice A2 n2 c2, .slice A3 n3 c3, .slice A4 n4 c4], .int .i64 s, .int .i64 r] w (NewIH w (tpL xs ss hs ks s r) (tpH xs ss hs ks s r)) := by
  have HT := Lib.hid (TLX.start 26 h)
  have HB := Lib.hid (below_alloc w (.cells #[.slice A1 n1 c1, .slice A2 n2 c2, .slice A3 n3 c3, .slice A4 n4 c4] 26))
  by_cases v : VTk xs ss hs ks
  rotate_left
  · have HN := Lib.hid (tp_no (s := s) (r := r) (fun o => v o.1))
    go_enter Try.func18, Try.ntmps18
    have q0 := HT.out.c0
    have q1 := HT.out.c1
    have q2 := HT.out.c2
    have q3 := HT.out.c3
    go_wp2_with fail
    clear q0 q1 q2 q3
    generalize w.alloc (.cells #[.slice A1 n1 c1, .slice A2 n2 c2, .slice A3 n3 c3, .slice A4 n4 c4] 26) = W0 at *
    refine (pb_false v ▸ ValidTalk_impl _ _ _ _ _ _ _ _ _ _ _ _ _ _ _ _ _ HT.out.r).mono ?_
    rintro e w1 ⟨rfl, hb⟩
    replace HT := Lib.hid (HT.out.up hb)
    replace HB := Lib.hid (below_up HB.out hb)
    clear hb
    go_wp2
    refine bodyPost_ret (v := .tuple #[.slice none 0 0, .int .i64 0]) (by simp [results, Try.results18, go_sem]) rfl ?_
    exact NewIH.nil HB.out HN.out.1 HN.out.2
  by_cases e1 : Blw 4 s
  rotate_left
  · have HN := Lib.hid (tp_no (xs := xs) (ss := ss) (hs := hs) (ks := ks) (s := s) (r := r) (fun o => e1 o.2.1))
    go_enter Try.func18, Try.ntmps18
    have q0 := HT.out.c0
    have q1 := HT.out.c1
    have q2 := HT.out.c2
    have q3 := HT.out.c3
    go_wp2_with fail
    clear q0 q1 q2 q3
    generalize w.alloc (.cells #[.slice A1 n1 c1, .slice A2 n2 c2, .slice A3 n3 c3, .slice A4 n4 c4] 26) = W0 at *
    refine (pb_true v ▸ ValidTalk_impl _ _ _ _ _ _ _ _ _ _ _ _ _ _ _ _ _ HT.out.r).mono ?_
    rintro e w1 ⟨rfl, hb⟩
    replace HT := Lib.hid (HT.out.up hb)
    replace HB := Lib.hid (below_up HB.out hb)
    clear hb
    go_wp2_with fail
    refine (pb_false e1 ▸ isBelow_any 4 s _).mono ?_
    rintro e w2 ⟨rfl, rfl⟩
    go_wp2
    refine bodyPost_ret (v := .tuple #[.slice none 0 0, .int .i64 0]) (by simp [results, Try.results18, go_sem]) rfl ?_
    exact NewIH.nil HB.out HN.out.1 HN.out.2
  by_cases e2 : Blw 4 r
  rotate_left
  · have HN := Lib.hid (tp_no (xs := xs) (ss := ss) (hs := hs) (ks := ks) (s := s) (r := r) (fun o => e2 o.2.2))
    go_enter Try.func18, Try.ntmps18
    have q0 := HT.out.c0
    have q1 := HT.out.c1
    have q2 := HT.out.c2
    have q3 := HT.out.c3
    go_wp2_with fail
    clear q0 q1 q2 q3
    generalize w.alloc (.cells #[.slice A1 n1 c1, .slice A2 n2 c2, .slice A3 n3 c3, .slice A4 n4 c4] 26) = W0 at *
    refine (pb_true v ▸ ValidTalk_impl _ _ _ _ _ _ _ _ _ _ _ _ _ _ _ _ _ HT.out.r).mono ?_
    rintro e w1 ⟨rfl, hb⟩
    replace HT := Lib.hid (HT.out.up hb)
    replace HB := Lib.hid (below_up HB.out hb)
    clear hb
    go_wp2_with fail
    refine (pb_true e1 ▸ isBelow_any 4 s _).mono ?_
    rintro e w2 ⟨rfl, rfl⟩
    go_wp2_with fail
    refine (pb_false e2 ▸ isBelow_any 4 r _).mono ?_
    rintro e w3 ⟨rfl, rfl⟩
    go_wp2
    refine bodyPost_ret (v := .tuple #[.slice none 0 0, .int .i64 0]) (by simp [results, Try.results18, go_sem]) rfl ?_
    exact NewIH.nil HB.out HN.out.1 HN.out.2
  obtain ⟨a, ha, rfl⟩ : ∃ a : Nat, a < 4 ∧ s = a := ⟨s.toNat, by have := e1.1; have := e1.2; omega, by have := e1.1; omega⟩
  obtain ⟨b, hb4, rfl⟩ : ∃ b : Nat, b < 4 ∧ r = b := ⟨r.toNat, by have := e2.1; have := e2.2; omega, by have := e2.1; omega⟩
  obtain ⟨p, ⟨rfl, rfl, rfl, rfl⟩, ⟨rfl, rfl, rfl, rfl⟩, ⟨rfl, rfl, rfl, rfl⟩, hv⟩ := h.tv v
  have HY := Lib.hid (tp_yes v ha hb4)
  have HV := Lib.hid hv
  clear hv
  go_enter Try.func18, Try.ntmps18
  have q0 := HT.out.c0
  have q1 := HT.out.c1
  have q2 := HT.out.c2
  have q3 := HT.out.c3
  go_wp2_with fail
  clear q0 q1 q2 q3
  generalize w.alloc (.cells #[.slice (some ⟨p.b1, p.o1, none⟩) 2 p.c1, .slice (some ⟨p.b2, p.o2, none⟩) 2 p.c2, .slice (some ⟨p.b3, p.o3, none⟩) 2 p.c3, .slice (some ⟨p.b4, p.o4, none⟩) 2 p.c4] 26) = W0 at *
  refine (pb_true v ▸ ValidTalk_impl _ _ _ _ _ _ _ _ _ _ _ _ _ _ _ _ _ HT.out.r).mono ?_
  rintro e w1 ⟨rfl, hb⟩
  replace HT := Lib.hid (HT.out.up hb)
  replace HB := Lib.hid (below_up HB.out hb)
  clear hb
  go_wp2_with fail
  refine (pb_true e1 ▸ isBelow_any 4 (a : Int) _).mono ?_
  rintro e w2 ⟨rfl, rfl⟩
  go_wp2_with fail
  refine (pb_true e2 ▸ isBelow_any 4 (b : Int) _).mono ?_
  rintro e w3 ⟨rfl, rfl⟩
  have q0 := HT.out.c0
  have q1 := HT.out.c1
  have q2 := HT.out.c2
  have q3 := HT.out.c3
  go_wp2_with fail
  clear q0 q1 q2 q3
  refine (talkPays_any p xs ss hs ks a b _ (HV.out.keep (Keep.below HB.out)) ha hb4).mono ?_
  rintro e w4 ⟨rfl, hb⟩
  have HB4 := Lib.hid (below_up HB.out hb)
  have HF := Lib.hid (And.intro (HV.out.v.spk a b (k := 0) (by omega)) (HV.out.v.spk a b (k := 1) (by omega)))
  clear hb HT HB
  generalize spk ss ks a b 0 = X at *
  generalize spk ss ks a b 1 = Y at *
  generalize hea xs hs a b = E at *
  go_wp2
  have hb1 := below_alloc w4 (.cells #[.int .i64 X, .int .i64 Y] 56)
  have hb2 := below_alloc (w4.alloc (.cells #[.int .i64 X, .int .i64 Y] 56)) (.cells #[.int .i64 X, .int .i64 Y] 3)
  have hB := blk_new (w4.alloc (.cells #[.int .i64 X, .int .i64 Y] 56)) 3 #[.int .i64 X, .int .i64 Y]
  rw [World.size_alloc] at hB
  refine bodyPost_ret (v := .tuple #[.slice (some ⟨w4.heap.size + 1, 0, none⟩) 2 2, .int .i64 E]) (by simp [results, Try.results18, go_sem]) rfl ?_
  rw [HY.out.1, HY.out.2]
  have hF := HF.out
  have hz := HB4.out.size
  exact NewIH.two (below_up (below_up HB4.out hb1) hb2) (by omega) ⟨by omega, by omega⟩ ⟨by omega, by omega⟩ hB

end Go.Proofs.Ytcjanlbhgfadpaa

/- Members of sets, parts of tables, numbers put to their places, numbers without a common factor. Plain. -/
namespace Go.Proofs.Ytcjanlbhgfadpaa
open V (sumN detN rowC colC cofN minorN skip sgn)

/-- The members below j of a set. -/
def memL (s : Nat) : Nat → List Int
  | 0 => []
  | j + 1 => if s / 2 ^ j % 2 = 1 then memL s j ++ [(j : Int)] else memL s j
theorem memL_yes {s j : Nat} (h : s / 2 ^ j % 2 = 1) : memL s (j + 1) = memL s j ++ [(j : Int)] := by rw [memL, if_pos h]
theorem memL_no {s j : Nat} (h : ¬ s / 2 ^ j % 2 = 1) : memL s (j + 1) = memL s j := by rw [memL, if_neg h]
theorem memL_le (s : Nat) : ∀ j, (memL s j).length ≤ j
  | 0 => by simp [memL]
  | j + 1 => by
    have := memL_le s j
    rw [memL]
    split
    · rw [List.length_append, List.length_singleton]; omega
    · omega
theorem memL_bd (s : Nat) : ∀ j, ∀ x ∈ memL s j, 0 ≤ x ∧ x < (j : Int)
  | 0, x, h => by simp [memL] at h
  | j + 1, x, h => by
    rw [memL] at h
    split at h
    · rcases List.mem_append.1 h with h | h
      · have := memL_bd s j x h; omega
      · simp at h; omega
    · have := memL_bd s j x h; omega

/-- A list of as many places. -/
def lstN (r : Nat → Nat) (k : Nat) : List Int := (List.range k).map fun p => (r p : Int)
theorem lstN_len (r : Nat → Nat) (k : Nat) : (lstN r k).length = k := by simp [lstN]
theorem gi_lstN {r : Nat → Nat} {k p : Nat} (h : p < k) : gi (lstN r k) p = (r p : Int) := by
  rw [gi_get (by rw [lstN_len]; exact h)]; simp [lstN]

/-- The first j numbers of a row of a part; the first i rows. -/
def prtR (a : List (List Int)) (i : Nat) (c : Nat → Nat) (more : Int) (j : Nat) : List Int := (List.range j).map fun q => g2 a i (c q) + more
def prtL (a : List (List Int)) (r c : Nat → Nat) (more : Int) (l i : Nat) : List (List Int) := (List.range i).map fun p => prtR a (r p) c more l
theorem prtR_succ (a : List (List Int)) (i : Nat) (c : Nat → Nat) (more : Int) (j : Nat) : prtR a i c more (j + 1) = prtR a i c more j ++ [g2 a i (c j) + more] := by simp [prtR, List.range_succ]
theorem prtL_succ (a : List (List Int)) (r c : Nat → Nat) (more : Int) (l i : Nat) : prtL a r c more l (i + 1) = prtL a r c more l i ++ [prtR a (r i) c more l] := by simp [prtL, List.range_succ]
theorem prtR_len (a : List (List Int)) (i : Nat) (c : Nat → Nat) (more : Int) (j : Nat) : (prtR a i c more j).length = j := by simp [prtR]
theorem prtL_len (a : List (List Int)) (r c : Nat → Nat) (more : Int) (l i : Nat) : (prtL a r c more l i).length = i := by simp [prtL]
theorem gi_prtR {a : List (List Int)} {i : Nat} {c : Nat → Nat} {more : Int} {j q : Nat} (h : q < j) : gi (prtR a i c more j) q = g2 a i (c q) + more := by
  rw [gi_get (by rw [prtR_len]; exact h)]; simp [prtR]
theorem gr_prtL {a : List (List Int)} {r c : Nat → Nat} {more : Int} {l i p : Nat} (h : p < i) : gr (prtL a r c more l i) p = prtR a (r p) c more l := by
  rw [gr_get (by rw [prtL_len]; exact h)]; simp [prtL]
theorem prtL_sq (a : List (List Int)) (r c : Nat → Nat) (more : Int) (k : Nat) : Sq k (prtL a r c more k k) (fun p q => g2 a (r p) (c q) + more) :=
  ⟨prtL_len _ _ _ _ _ _, fun p hp => by rw [gr_prtL hp, prtR_len], fun p q hp hq => by unfold g2; rw [gr_prtL hp, gi_prtR hq]; rfl⟩
theorem prtR_bd {a : List (List Int)} {i : Nat} {c : Nat → Nat} {more : Int} {j : Nat} (h : ∀ q, q < j → -9 ≤ g2 a i (c q) ∧ g2 a i (c q) ≤ 9) (hm : 0 ≤ more ∧ more ≤ 18) : ∀ x ∈ prtR a i c more j, -27 ≤ x ∧ x ≤ 27 := fun x hx => by
  obtain ⟨q, hq, rfl⟩ := List.mem_map.1 hx
  have := h q (List.mem_range.1 hq)
  omega

/-- Numbers put to their places among n: the first k of them. -/
def putL (n : Nat) (r : Nat → Nat) (xs : List Int) : Nat → List Int
  | 0 => List.replicate n 0
  | k + 1 => (putL n r xs k).set (r k) (gi xs k)
theorem putL_len (n : Nat) (r : Nat → Nat) (xs : List Int) : ∀ k, (putL n r xs k).length = n
  | 0 => by simp [putL]
  | k + 1 => by rw [putL, List.length_set, putL_len n r xs k]
theorem gi_set_at {xs : List Int} {i k : Nat} {v : Int} (h : k < xs.length) : gi (xs.set i v) k = if i = k then v else gi xs k := by
  rw [gi_get (by rw [List.length_set]; exact h), gi_get h, List.getElem_set]
theorem gi_putL {n : Nat} {r : Nat → Nat} {xs : List Int} {i : Nat} (hi : i < n) : ∀ {k}, (∀ p q, p < q → q < k → r p ≠ r q) → gi (putL n r xs k) i = sumN (fun p => if r p = i then gi xs p else 0) k
  | 0, _ => by rw [putL, gi_get (by simpa using hi)]; simp [sumN]
  | k + 1, h => by
    have ih := gi_putL (xs := xs) hi (k := k) fun p q hp hq => h p q hp (by omega)
    rw [putL, gi_set_at (by rw [putL_len]; exact hi), sumN]
    by_cases e : r k = i
    · rw [if_pos e, if_pos e]
      have : sumN (fun p => if r p = i then gi xs p else 0) k = sumN (fun _ => 0) k := sumN_congr fun p hp => by rw [if_neg (fun e2 => h p k hp (by omega) (e2.trans e.symm))]
      rw [this, sumN_zero]; omega
    · rw [if_neg e, if_neg e, ih]; omega

/-- Numbers without signs, divided by g. -/
def clrL (xs : List Int) (g : Int) (i : Nat) : List Int := (List.range i).map fun p => max (gi xs p) (- gi xs p) / g
theorem clrL_succ (xs : List Int) (g : Int) (i : Nat) : clrL xs g (i + 1) = clrL xs g i ++ [max (gi xs i) (- gi xs i) / g] := by simp [clrL, List.range_succ]
theorem clrL_len (xs : List Int) (g : Int) (i : Nat) : (clrL xs g i).length = i := by simp [clrL]
theorem gi_clrL {xs : List Int} {g : Int} {i p : Nat} (h : p < i) : gi (clrL xs g i) p = max (gi xs p) (- gi xs p) / g := by
  rw [gi_get (by rw [clrL_len]; exact h)]; simp [clrL]
/-- Not all numbers are 0, and none have different signs. -/
structure ClrP (xs : List Int) : Prop where
  nz : ∃ p, p < xs.length ∧ gi xs p ≠ 0
  sg : (∀ p, p < xs.length → 0 ≤ gi xs p) ∨ ∀ p, p < xs.length → gi xs p ≤ 0
theorem gcdL_zero {xs : List Int} : ∀ {k}, gcdL xs k = 0 ↔ ∀ p, p < k → gi xs p = 0
  | 0 => by simp [gcdL]
  | k + 1 => by
    have ih := gcdL_zero (xs := xs) (k := k)
    rw [gcdL]
    constructor
    · intro h p hp
      have h1 : gcdL xs k = 0 := by
        apply Classical.byContradiction; intro hn
        have := gcdI_pos_left (b := gi xs k) hn; omega
      by_cases e : p = k
      · subst e
        apply Classical.byContradiction; intro hn
        have := gcdI_pos (a := gcdL xs p) hn; omega
      · exact ih.1 h1 p (by omega)
    · intro h
      rw [ih.2 fun p hp => h p (by omega), h k (by omega)]
      rfl
theorem gcdL_dvd (xs : List Int) : ∀ {k p}, p < k → gcdL xs k ∣ gi xs p
  | 0, _, h => absurd h (by omega)
  | k + 1, p, h => by
    rw [gcdL]
    by_cases e : p = k
    · subst e; exact gcdI_dvd_right _ _
    · exact Int.dvd_trans (gcdI_dvd_left _ _) (gcdL_dvd xs (k := k) (by omega))
end Go.Proofs.Ytcjanlbhgfadpaa

/- Members of sets, by the model. -/
namespace Go.Proofs.Ytcjanlbhgfadpaa
open Go.RowKit

theorem div_pow_succ (x i : Nat) : x / 2 ^ (i + 1) = x / 2 ^ i / 2 := by rw [Nat.pow_succ, Nat.div_div_eq_div_mul]
set_option maxHeartbeats 400000 in
theorem bit_any (x j : Nat) (w : World) (hx : x ≤ 1000) (hj : j ≤ 1000) : Calls Try.prog 71 #[.int .i64 x, .int .i64 j] w fun e w' => e = .returned (.int .i64 ((x / 2 ^ j % 2 : Nat) : Int)) ∧ w = w' := by
  go_enter Try.func71, Try.ntmps71
  go_wp2
  go_loop [0, 1] (fun s t => ∃ i k : Nat, i + k = j ∧ t = .int .i64 k ∧ s = .int .i64 ((x / 2 ^ i : Nat) : Int)) (fun _ t => (intOf t).toNat)
  case atStart => exact ⟨0, j, by omega, rfl, by simp⟩
  case round =>
    obtain ⟨i, k, hik, rfl, rfl⟩ := hrel
    have hb : x / 2 ^ i ≤ 1000 := Nat.le_trans (Nat.div_le_self _ _) hx
    have HS := Lib.hid (div_pow_succ x i)
    have hk1 : k ≤ 1000 := by omega
    have HI := Lib.hid hik
    generalize hy : x / 2 ^ i = y at *
    have HY := Lib.hid hy
    clear hy hik
    by_cases hk : 0 < k
    · have hk' : (0 : Int) < (k : Int) := by omega
      go_wp2
      go_round
      case rel => exact ⟨i + 1, k - 1, by have := HI.out; omega, by go_num, by rw [HS.out]; go_num⟩
      case measure => simp [intOf]; omega
    · obtain rfl : k = 0 := by omega
      go_wp2
      go_ret
      exact ⟨ret_int (by
        have h1 := HI.out
        have h2 := HY.out
        obtain rfl : j = i := by omega
        have h3 : ((x / 2 ^ j % 2 : Nat) : Int) = ((y : Nat) : Int) % 2 := by rw [h2]; omega
        first | exact h3.symm | (rw [← h3]; simp)), rfl⟩

theorem memb_bd (s j : Nat) (hj : j ≤ 100) : ∀ y ∈ memL s j, -1000000000000000 ≤ y ∧ y ≤ 1000000000000000 := fun y hy => by have := memL_bd s j y hy; omega
end Go.Proofs.Ytcjanlbhgfadpaa

/- Some rows and columns of a table, by the model. -/
namespace Go.Proofs.Ytcjanlbhgfadpaa
open Go.RowKit

/-- One number more, appended in a region that draws its order. -/
theorem IU.push2 {wb v ys w w2 w1 x} {gg cap : Nat} (h : IU wb v ys w) (hb : Below w.heap.size w w2)
    (hown : w1.ownsRow wb.heap.size 3 1 (.slice (some ⟨gg, 0, none⟩) (ys.length + 1) cap) (ys.length + 1) (ys.map iv ++ [iv x])) (hgrow : w2.grownBy w1 v.ownBlock) (hlt : gg < w1.heap.size) :
    IU wb (.slice (some ⟨gg, 0, none⟩) (ys.length + 1) cap) (ys ++ [x]) w1 := by
  have hu : ∀ k, v.ownBlock = some k → wb.heap.size ≤ k := fun k hk => (h.bi.own.lt k hk).1
  have hz := h.up.size
  have hz2 := hb.size
  refine ⟨⟨by rw [List.length_append, List.length_singleton, List.map_append]; exact hown, fun k hk => ?_⟩, ?_⟩
  · have : gg = k := by simpa [Value.ownBlock] using hk
    omega
  · exact (below_up h.up hb).grown hgrow (by omega) fun k hk => hu k hk
theorem TN.push2 {wb H v vs xss u ys w w2 w1 x} {gg cap : Nat} (h : TN wb H v vs xss u ys w) (hb : Below w.heap.size w w2)
    (hown : w1.ownsRow H 3 1 (.slice (some ⟨gg, 0, none⟩) (ys.length + 1) cap) (ys.length + 1) (ys.map iv ++ [iv x])) (hgrow : w2.grownBy w1 u.ownBlock) (hlt : gg < w1.heap.size) :
    TN wb H v vs xss (.slice (some ⟨gg, 0, none⟩) (ys.length + 1) cap) (ys ++ [x]) w1 := by
  have hu : ∀ k, u.ownBlock = some k → H ≤ k := fun k hk => (h.bi.own.lt k hk).1
  have hz := h.up.size
  have hz2 := hb.size
  have hlh := h.lh
  have hhs := h.hs
  have hsz := hgrow.size
  have hbelow : ∀ k, k < H → w1.heap[k]? = w.heap[k]? := fun k hk =>
    (hgrow.block k (by omega) (fun e => by have := hu k e.symm; omega)).trans (hb.block k (by omega))
  refine ⟨h.bo.of_blocks fun k _ hk _ => hbelow k hk, ⟨by rw [List.length_append, List.length_singleton, List.map_append]; exact hown, fun k hk => ?_⟩, hlh, by omega, ?_⟩
  · have : gg = k := by simpa [Value.ownBlock] using hk
    omega
  · exact (below_up h.up hb).grown hgrow (by omega) fun k hk => by have := hu k hk; omega
theorem IU.qu {wb v ys w w'} (h : IU wb v ys w) (k : Quiet w w') : IU wb v ys w' := h.next k.below
theorem TN.next {wb H v vs xss u ys w w'} (h : TN wb H v vs xss u ys w) (k : Below w.heap.size w w') : TN wb H v vs xss u ys w' := by
  have hhs := h.hs
  have hz := k.size
  exact ⟨h.bo.of_blocks fun g _ hg _ => k.block g (by omega), (h.bi.below k).mono k.size, h.lh, by omega, below_up h.up k⟩
theorem TN.qu {wb H v vs xss u ys w w'} (h : TN wb H v vs xss u ys w) (k : Quiet w w') : TN wb H v vs xss u ys w' := h.next k.below

/-- Places of a table in a list. -/
structure Pl (w : World) (X : Option Addr) (k c : Nat) (r : Nat → Nat) (n : Nat) : Prop where
  ints : Ints w X k c (lstN r k)
  lt : ∀ p, p < k → r p < n

end Go.Proofs.Ytcjanlbhgfadpaa

/- One block alone has turned: what is elsewhere stays; new lists whose block is known. -/
namespace Go.Proofs.Ytcjanlbhgfadpaa
open Go.RowKit
theorem eqI_same (xs : List Int) : eqI xs xs = true := eqI_yes rfl fun _ _ => rfl
theorem OwnI.one {lo hi g w w' b A n c xs} (h : OwnI lo hi w b A n c xs) (k : One g w w') (hne : b ≠ g) : OwnI lo hi w' b A n c xs := h.of_block fun _ => k.block b hne
theorem One.below {S g : Nat} {a w w' : World} (h : Below S a w) (k : One g w w') (hg : S ≤ g) : Below S a w' := Touch.below h (k.touch (Nat.le_refl g) (Nat.lt_succ_self g)) hg
theorem NewI.ge {w w' : World} {ys : List Int} {e : Ending} (h : NewI w ys e w') :
    ∃ Av c gg, e = .returned (.slice Av ys.length c) ∧ OwnI w.heap.size w'.heap.size w' gg Av ys.length c ys ∧ w.heap.size ≤ gg ∧ Below w.heap.size w w' := by
  obtain ⟨Av, n, c, gg, rfl, rfl, ho, hb⟩ := h
  by_cases h0 : 0 < ys.length
  · obtain ⟨o, e, h1, h2, hf⟩ := ho.own h0
    exact ⟨Av, c, gg, rfl, ho, h1, hb⟩
  · exact ⟨Av, c, w.heap.size, rfl, ⟨ho.ints, fun hn => absurd hn h0⟩, Nat.le_refl _, hb⟩
end Go.Proofs.Ytcjanlbhgfadpaa

/- What talks pay, by the model. -/
namespace Go.Proofs.Ytcjanlbhgfadpaa
open Go.RowKit

def spL (ss ks : List (List Int)) (s r k : Nat) : List Int := (List.range k).map (spk ss ks s r)
theorem spL_succ (ss ks : List (List Int)) (s r k : Nat) : spL ss ks s r (k + 1) = spL ss ks s r k ++ [spk ss ks s r k] := by simp [spL, List.range_succ]
theorem spL_len (ss ks : List (List Int)) (s r k : Nat) : (spL ss ks s r k).length = k := by simp [spL]
set_option maxRecDepth 100000 in
set_option maxHeartbeats 6400000 in
theorem says_any (p : TP) (xs : List Int) (ss hs ks : List (List Int)) (s r : Nat) (w : World) (h : TV p w xs ss hs ks) (hs4 : s < 4) (hr4 : r < 4) :
    Calls Try.prog 53 #[.agg #[.slice (some ⟨p.b1, p.o1, none⟩) 2 p.c1, .slice (some ⟨p.b2, p.o2, none⟩) 2 p.c2, .slice (some ⟨p.b3, p.o3, none⟩) 2 p.c3, .slice (some ⟨p.b4, p.o4, none⟩) 2 p.c4], .int .i64 (s : Int), .int .i64 (r : Int)] w (NewIH w [spk ss ks s r 0, spk ss ks s r 1] (hea xs hs s r)) := by
  have HV := Lib.hid h.v
  have HB := Lib.hid (TB.start h)
  have HD := Lib.hid (below_alloc w (.cells #[.slice (some ⟨p.b1, p.o1, none⟩) 2 p.c1, .slice (some ⟨p.b2, p.o2, none⟩) 2 p.c2, .slice (some ⟨p.b3, p.o3, none⟩) 2 p.c3, .slice (some ⟨p.b4, p.o4, none⟩) 2 p.c4] 26))
  have HS0 := Lib.hid (show IU (w.alloc (.cells #[.slice (some ⟨p.b1, p.o1, none⟩) 2 p.c1, .slice (some ⟨p.b2, p.o2, none⟩) 2 p.c2, .slice (some ⟨p.b3, p.o3, none⟩) 2 p.c3, .slice (some ⟨p.b4, p.o4, none⟩) 2 p.c4] 26)) (.slice (some ⟨w.heap.size + 1, 0, none⟩) 0 0) [] ((w.alloc (.cells #[.slice (some ⟨p.b1, p.o1, none⟩) 2 p.c1, .slice (some ⟨p.b2, p.o2, none⟩) 2 p.c2, .slice (some ⟨p.b3, p.o3, none⟩) 2 p.c3, .slice (some ⟨p.b4, p.o4, none⟩) 2 p.c4] 26)).alloc (.cells #[] 3)) by have h := IU.start (w.alloc (.cells #[.slice (some ⟨p.b1, p.o1, none⟩) 2 p.c1, .slice (some ⟨p.b2, p.o2, none⟩) 2 p.c2, .slice (some ⟨p.b3, p.o3, none⟩) 2 p.c3, .slice (some ⟨p.b4, p.o4, none⟩) 2 p.c4] 26)); rw [World.size_alloc] at h; exact h)
  clear h
  go_enter Try.func53, Try.ntmps53
  go_wp2
  generalize w.alloc (.cells #[.slice (some ⟨p.b1, p.o1, none⟩) 2 p.c1, .slice (some ⟨p.b2, p.o2, none⟩) 2 p.c2, .slice (some ⟨p.b3, p.o3, none⟩) 2 p.c3, .slice (some ⟨p.b4, p.o4, none⟩) 2 p.c4] 26) = W0 at *
  go_loopw [8, 9, 10] (fun v hh i wr => ∃ k : Nat, k ≤ 2 ∧ i = .int .i64 k ∧ hh = .int .i64 (heK xs hs s r k) ∧ Hid (IU W0 v (spL ss ks s r k) wr)) (fun _ _ i _ => 2 - (intOf i).toNat)
  case atStart => exact ⟨0, by omega, rfl, rfl, HS0⟩
  case round =>
    clear HS0
    obtain ⟨k, hk, rfl, rfl, HI⟩ := hrel
    obtain ⟨Av, cv, rfl⟩ := HI.out.bi.form
    have c : k < 2 ∨ k = 2 := by omega
    rcases c with hk2 | rfl
    · have c : ∃ S, S < 2 ∧ sg s k = S := ⟨_, sg_lt s k, rfl⟩
      obtain ⟨S, hS, hSe⟩ := c
      have c : ∃ D, D < 2 ∧ sg r S = D := ⟨_, sg_lt r S, rfl⟩
      obtain ⟨D, hD, hDe⟩ := c
      have HB1 := Lib.hid (fun W => bit_any s k W (by omega) (by omega))
      rw [show s / 2 ^ k % 2 = S from hSe] at HB1
      have HB2 := Lib.hid (fun W => bit_any r S W (by omega) (by omega))
      rw [show r / 2 ^ S % 2 = D from hDe] at HB2
      have hE1 : spk ss ks s r k = g2 ss k D - g2 ks k S := by unfold spk; rw [hSe, hDe]
      have hE2 : heK xs hs s r (k + 1) = heK xs hs s r k + gi xs k * g2 hs k D := by rw [heK, hea1, hSe, hDe]
      have HSU := Lib.hid (spL_succ ss ks s r k)
      have HML := Lib.hid (spL_len ss ks s r k)
      have v1 := HV.out.spk s r hk2
      have l1 := HV.out.2.1.bd hk2 hD
      have l2 := HV.out.2.2.2.bd hk2 hS
      have l3 := mul9 (HV.out.x hk2) (HV.out.2.2.1.bd hk2 hD)
      have l4 : -81 * k ≤ heK xs hs s r k ∧ heK xs hs s r k ≤ 81 * k := heK_bd HV.out s r (by omega)
      rw [hE1] at HSU v1
      have HE2 := Lib.hid hE2
      have HW : Hid (IntKind.i64.wrap (g2 ss k D - g2 ks k S) = g2 ss k D - g2 ks k S) := Lib.hid (wrapIn (by omega))
      have hSi : (S : Int) < 2 := by omega
      have hDi : (D : Int) < 2 := by omega
      have hki : (k : Int) < 2 := by omega
      clear hE1 hE2 hSe hDe
      -- the cells, at W0 and then at every world behind it
      have HXa := Lib.hid HB.out.c0
      have HXb := Lib.hid HB.out.c1
      have HXc := Lib.hid HB.out.c2
      have HXd := Lib.hid HB.out.c3
      have HY0 := Lib.hid (HB.out.t.x k hk2)
      have HY1 := Lib.hid (HB.out.t.t2.row k hk2)
      have HY2 := Lib.hid (HB.out.t.t3.row k hk2)
      have HY3 := Lib.hid (HB.out.t.t4.row k hk2)
      have HZ1 := Lib.hid (HB.out.t.t2.cell k D hk2 hD)
      have HZ2 := Lib.hid (HB.out.t.t3.cell k D hk2 hD)
      have HZ3 := Lib.hid (HB.out.t.t4.cell k S hk2 hS)
      generalize gi xs k = X at *
      generalize g2 ss k D = U at *
      generalize g2 ks k S = C at *
      generalize g2 hs k D = H at *
      generalize heK xs hs s r k = E at *
      generalize spL ss ks s r k = ys at *
      have w2' : IntKind.i64.wrap (X * H) = X * H := wrapIn (by omega)
      have w3' : IntKind.i64.wrap (E + X * H) = E + X * H := wrapIn (by omega)
      have HF := Lib.hid (show ∀ wr : World, Below W0.heap.size W0 wr → (wr.cell? ⟨w.heap.size, 1, none⟩ = some (.slice (some ⟨p.b2, p.o2, none⟩) 2 p.c2) ∧ wr.cell? ⟨w.heap.size, 3, none⟩ = some (.slice (some ⟨p.b4, p.o4, none⟩) 2 p.c4) ∧ wr.cell? ⟨p.b2, p.o2 + k, none⟩ = some (.slice (some ⟨p.r2 k, p.q2 k, none⟩) 2 (p.d2 k)) ∧ wr.cell? ⟨p.b4, p.o4 + k, none⟩ = some (.slice (some ⟨p.r4 k, p.q4 k, none⟩) 2 (p.d4 k)) ∧ wr.cell? ⟨p.r2 k, p.q2 k + D, none⟩ = some (.int .i64 U) ∧ wr.cell? ⟨p.r4 k, p.q4 k + S, none⟩ = some (.int .i64 C)) from fun wr hb => ⟨Keep.below hb _ _ HXb.out, Keep.below hb _ _ HXd.out, Keep.below hb _ _ HY1.out, Keep.below hb _ _ HY3.out, Keep.below hb _ _ HZ1.out, Keep.below hb _ _ HZ3.out⟩)
      have hwz := HI.out.up.size
      have hwn := blk_lt HB.out.box
      obtain ⟨i0, hi0, hz0, hz1, hz2⟩ := info_parts Try.info_int
      go_wp2_with (go_at_call 71; (first | (refine (HB1.out _).mono ?_; rintro e w' ⟨rfl, rfl⟩; clear HB1) | (refine (HB2.out _).mono ?_; rintro e w' ⟨rfl, rfl⟩)))
      obtain ⟨k1, k2, k3, k4, k5, k6⟩ := HF.out wr HI.out.up
      go_region_held3 (fun wr => (wr.cell? ⟨w.heap.size, 1, none⟩ = some (.slice (some ⟨p.b2, p.o2, none⟩) 2 p.c2) ∧ wr.cell? ⟨w.heap.size, 3, none⟩ = some (.slice (some ⟨p.b4, p.o4, none⟩) 2 p.c4) ∧ wr.cell? ⟨p.b2, p.o2 + k, none⟩ = some (.slice (some ⟨p.r2 k, p.q2 k, none⟩) 2 (p.d2 k)) ∧ wr.cell? ⟨p.b4, p.o4 + k, none⟩ = some (.slice (some ⟨p.r4 k, p.q4 k, none⟩) 2 (p.d4 k)) ∧ wr.cell? ⟨p.r2 k, p.q2 k + D, none⟩ = some (.int .i64 U) ∧ wr.cell? ⟨p.r4 k, p.q4 k + S, none⟩ = some (.int .i64 C)))
        (first | exact HKK.out | exact HF.out _ HI.out.up | go_keep)
        ((refine step_append_lies _ (by rfl) _ _ _ (by rfl) W0.heap.size 3 i0 _ 1 8 Try.underlying23 hi0 hz0 hz1 hz2 rfl (by omega) (.slice Av ys.length cv) ys.length (ys.map iv) (by rfl) ((HI.out.bi.own.alloc _).drew) ⟨wr.heap.size, 0, none⟩ 1 1 [iv (IntKind.i64.wrap (U - C))] (by rfl) (by rfl) (World.news_of_block (w := (wr.alloc (.cells #[iv (IntKind.i64.wrap (U - C))] 3)).drew) (cs := #[iv (IntKind.i64.wrap (U - C))]) (t := 3) (fr := (0, 0)) (heap_alloc_new wr _)) (by simp [Value.oneCell', iv]) (by omega) (by have := HML.out; unfold maxLen; omega) (by have := HML.out; omega) (by simp; omega) (wr.heap.size + 1) (by simp) ?_; intro gg cap w1 hown1 hgrow hat hlt1; rw [HW.out] at hown1; have HI2 := Lib.hid (HI.out.push2 ((below_alloc wr _).drew) hown1 hgrow hlt1); have HKK := Lib.hid (HF.out _ HI2.out.up); clear hown1 hgrow hat hlt1 HI))
      clear k1 k2 k3 k4 k5 k6
      have q0 := Keep.below HI2.out.up _ _ HXa.out
      have q2 := Keep.below HI2.out.up _ _ HXc.out
      have q3 := Keep.below HI2.out.up _ _ HY0.out
      have q4 := Keep.below HI2.out.up _ _ HY2.out
      have q5 := Keep.below HI2.out.up _ _ HZ2.out
      go_wp2
      go_quiet (fail)
      clear q0 q2 q3 q4 q5
      go_wp2
      go_roundw
      case rel => exact ⟨k + 1, by omega, by go_num, by rw [HE2.out], Lib.hid (by rw [HSU.out]; exact HI2.out.qu ⟨_, rfl⟩)⟩
      case measure => simp [intOf]; omega
    · have HE := Lib.hid (show heK xs hs s r 2 = hea xs hs s r from by simp [hea, heK])
      have HL := Lib.hid (show spL ss ks s r 2 = [spk ss ks s r 0, spk ss ks s r 1] from rfl)
      have v0 := HV.out.spk s r (k := 0) (by omega)
      have v1 := HV.out.spk s r (k := 1) (by omega)
      have HN := Lib.hid (HI.out.new (by rw [spL_len]; omega) (fun y hy => by rw [HL.out] at hy; simp at hy; omega))
      rw [HL.out] at HN
      clear v0 v1 HI
      go_wp2
      refine bodyPost_ret (v := .tuple #[.slice Av (spL ss ks s r 2).length cv, .int .i64 (heK xs hs s r 2)]) (by simp [results, Try.results53, go_sem]) rfl ?_
      rw [HE.out, HL.out]
      obtain ⟨A', c', gg, e, ho, hg, hb⟩ := NewI.ge HN.out
      injection e with e
      injection e with e1 e2 e3
      subst e1
      subst e3
      have hz := HD.out.size
      exact ⟨_, _, gg, rfl, ho.mono hz (Nat.le_refl _), by omega, below_up HD.out hb⟩
set_option maxRecDepth 100000 in
set_option maxHeartbeats 3200000 in
theorem TalkPays_spec (A1 A2 A3 A4 : Option Addr) (n1 c1 n2 c2 n3 c3 n4 c4 : Nat) (xs : List Int) (ss hs ks : List (List Int)) (s r : Int) (w : World) (h : TkR w A1 A2 A3 A4 n1 c1 n2 c2 n3 c3 n4 c4 xs ss hs ks) (hs_ : Fit s) (hr_ : Fit r) :
    Calls Try.prog 19 #[.agg #[.slice A1 n1 c1, .slice A2 n2 c2, .slice A3 n3 c3, .slice A4 n4 c4], .int .i64 s, .int .i64 r] w (NewIH w (tpL xs ss hs ks s r) (tpH xs ss hs ks s r)) := by
  have HT := Lib.hid (TLX.start 26 h)
  have HB := Lib.hid (below_alloc w (.cells #[.slice A1 n1 c1, .slice A2 n2 c2, .slice A3 n3 c3, .slice A4 n4 c4] 26))
  by_cases v : VTk xs ss hs ks
  rotate_left
  · have HN := Lib.hid (tp_no (s := s) (r := r) (fun o => v o.1))
    go_enter Try.func19, Try.ntmps19
    have q0 := HT.out.c0
    have q1 := HT.out.c1
    have q2 := HT.out.c2
    have q3 := HT.out.c3
    go_wp2_with fail
    clear q0 q1 q2 q3
    generalize w.alloc (.cells #[.slice A1 n1 c1, .slice A2 n2 c2, .slice A3 n3 c3, .slice A4 n4 c4] 26) = W0 at *
    refine (pb_false v ▸ validTalk_any _ _ _ _ _ _ _ _ _ _ _ _ _ _ _ _ _ HT.out.r).mono ?_
    rintro e w1 ⟨rfl, hb⟩
    replace HT := Lib.hid (HT.out.up hb)
    replace HB := Lib.hid (below_up HB.out hb)
    clear hb
    go_wp2
    refine bodyPost_ret (v := .tuple #[.slice none 0 0, .int .i64 0]) (by simp [results, Try.results19, go_sem]) rfl ?_
    exact NewIH.nil HB.out HN.out.1 HN.out.2
  by_cases e1 : InR s 0 3
  rotate_left
  · have HN := Lib.hid (tp_no (xs := xs) (ss := ss) (hs := hs) (ks := ks) (s := s) (r := r) (fun o => e1 ⟨o.2.1.1, by have := o.2.1.2; omega⟩))
    go_enter Try.func19, Try.ntmps19
    have q0 := HT.out.c0
    have q1 := HT.out.c1
    have q2 := HT.out.c2
    have q3 := HT.out.c3
    go_wp2_with fail
    clear q0 q1 q2 q3
    generalize w.alloc (.cells #[.slice A1 n1 c1, .slice A2 n2 c2, .slice A3 n3 c3, .slice A4 n4 c4] 26) = W0 at *
    refine (pb_true v ▸ validTalk_any _ _ _ _ _ _ _ _ _ _ _ _ _ _ _ _ _ HT.out.r).mono ?_
    rintro e w1 ⟨rfl, hb⟩
    replace HT := Lib.hid (HT.out.up hb)
    replace HB := Lib.hid (below_up HB.out hb)
    clear hb
    go_wp2_with fail
    refine (pb_false e1 ▸ inRange_any s 0 3 _).mono ?_
    rintro e w2 ⟨rfl, rfl⟩
    go_wp2
    refine bodyPost_ret (v := .tuple #[.slice none 0 0, .int .i64 0]) (by simp [results, Try.results19, go_sem]) rfl ?_
    exact NewIH.nil HB.out HN.out.1 HN.out.2
  by_cases e2 : InR r 0 3
  rotate_left
  · have HN := Lib.hid (tp_no (xs := xs) (ss := ss) (hs := hs) (ks := ks) (s := s) (r := r) (fun o => e2 ⟨o.2.2.1, by have := o.2.2.2; omega⟩))
    go_enter Try.func19, Try.ntmps19
    have q0 := HT.out.c0
    have q1 := HT.out.c1
    have q2 := HT.out.c2
    have q3 := HT.out.c3
    go_wp2_with fail
    clear q0 q1 q2 q3
    generalize w.alloc (.cells #[.slice A1 n1 c1, .slice A2 n2 c2, .slice A3 n3 c3, .slice A4 n4 c4] 26) = W0 at *
    refine (pb_true v ▸ validTalk_any _ _ _ _ _ _ _ _ _ _ _ _ _ _ _ _ _ HT.out.r).mono ?_
    rintro e w1 ⟨rfl, hb⟩
    replace HT := Lib.hid (HT.out.up hb)
    replace HB := Lib.hid (below_up HB.out hb)
    clear hb
    go_wp2_with fail
    refine (pb_true e1 ▸ inRange_any s 0 3 _).mono ?_
    rintro e w2 ⟨rfl, rfl⟩
    go_wp2_with fail
    refine (pb_false e2 ▸ inRange_any r 0 3 _).mono ?_
    rintro e w3 ⟨rfl, rfl⟩
    go_wp2
    refine bodyPost_ret (v := .tuple #[.slice none 0 0, .int .i64 0]) (by simp [results, Try.results19, go_sem]) rfl ?_
    exact NewIH.nil HB.out HN.out.1 HN.out.2
  obtain ⟨a, ha, rfl⟩ : ∃ a : Nat, a < 4 ∧ s = a := ⟨s.toNat, by have := e1.1; have := e1.2; omega, by have := e1.1; omega⟩
  obtain ⟨b, hb4, rfl⟩ : ∃ b : Nat, b < 4 ∧ r = b := ⟨r.toNat, by have := e2.1; have := e2.2; omega, by have := e2.1; omega⟩
  obtain ⟨p, ⟨rfl, rfl, rfl, rfl⟩, ⟨rfl, rfl, rfl, rfl⟩, ⟨rfl, rfl, rfl, rfl⟩, hv⟩ := h.tv v
  have HY := Lib.hid (tp_yes v ha hb4)
  have HV := Lib.hid hv
  clear hv
  go_enter Try.func19, Try.ntmps19
  have q0 := HT.out.c0
  have q1 := HT.out.c1
  have q2 := HT.out.c2
  have q3 := HT.out.c3
  go_wp2_with fail
  clear q0 q1 q2 q3
  generalize w.alloc (.cells #[.slice (some ⟨p.b1, p.o1, none⟩) 2 p.c1, .slice (some ⟨p.b2, p.o2, none⟩) 2 p.c2, .slice (some ⟨p.b3, p.o3, none⟩) 2 p.c3, .slice (some ⟨p.b4, p.o4, none⟩) 2 p.c4] 26) = W0 at *
  refine (pb_true v ▸ validTalk_any _ _ _ _ _ _ _ _ _ _ _ _ _ _ _ _ _ HT.out.r).mono ?_
  rintro e w1 ⟨rfl, hb⟩
  replace HT := Lib.hid (HT.out.up hb)
  replace HB := Lib.hid (below_up HB.out hb)
  clear hb
  go_wp2_with fail
  refine (pb_true e1 ▸ inRange_any (a : Int) 0 3 _).mono ?_
  rintro e w2 ⟨rfl, rfl⟩
  go_wp2_with fail
  refine (pb_true e2 ▸ inRange_any (b : Int) 0 3 _).mono ?_
  rintro e w3 ⟨rfl, rfl⟩
  have q0 := HT.out.c0
  have q1 := HT.out.c1
  have q2 := HT.out.c2
  have q3 := HT.out.c3
  go_wp2_with fail
  clear q0 q1 q2 q3
  refine (says_any p xs ss hs ks a b _ (HV.out.keep (Keep.below HB.out)) ha hb4).mono ?_
  rintro e w4 ⟨Av, c, gg, rfl, ho, hg, hb⟩
  have HB4 := Lib.hid (below_up HB.out hb)
  have HO := Lib.hid ho
  have HG := Lib.hid (Nat.le_trans HB.out.size hg)
  have hz := HB.out.size
  have HZ := Lib.hid hz
  clear hb HT HB ho hg hz
  go_wp2
  refine bodyPost_ret (v := .tuple #[.slice Av [spk ss ks a b 0, spk ss ks a b 1].length c, .int .i64 (hea xs hs a b)]) (by simp [results, Try.results19, go_sem]) rfl ?_
  rw [HY.out.1, HY.out.2]
  exact ⟨_, _, gg, rfl, HO.out.mono HZ.out (Nat.le_refl _), HG.out, HB4.out⟩

end Go.Proofs.Ytcjanlbhgfadpaa

/- Means of a table with shares, by both programs. -/
namespace Go.Proofs.Ytcjanlbhgfadpaa
open Go.RowKit

theorem VT.vsn {a : List (List Int)} (v : VT a) (x : List Int) : pb (VSn x a.length) = pb (VS x a.length) :=
  pb_congr ⟨fun h => h.2.2, fun h => ⟨by have := v.n1; omega, by have := v.n3; omega, h⟩⟩
theorem VT.vsm {a : List (List Int)} (v : VT a) (x : List Int) : pb (VSn x (gr a 0).length) = pb (VS x (gr a 0).length) :=
  pb_congr ⟨fun h => h.2.2, fun h => ⟨by have := v.m1; omega, by have := v.m3; omega, h⟩⟩
theorem VT.pb_ {a : List (List Int)} {x y : List Int} (v : VT a) (hx : VS x a.length) (hy : VS y (gr a 0).length) : PB a x y a.length (gr a 0).length :=
  ⟨fun i j hi hj => v.bd hi hj, fun i hi => hx.2.1 i (by have := hx.1; omega), fun j hj => hy.2.1 j (by have := hy.1; omega)⟩
structure POk (a : List (List Int)) (x y : List Int) : Prop where
  v : VT a
  x : VS x a.length
  y : VS y (gr a 0).length
noncomputable def payF (a : List (List Int)) (x y : List Int) : Value := if pb (POk a x y) = true then frV (payU a x y (gr a 0).length a.length) (tot x * tot y) else .agg #[.int .i64 0, .int .i64 0]
theorem payF_yes {a x y} (h : POk a x y) : payF a x y = frV (payU a x y (gr a 0).length a.length) (tot x * tot y) := by rw [payF, if_pos (pb_true h)]
theorem payF_no {a x y} (h : ¬ POk a x y) : payF a x y = .agg #[.int .i64 0, .int .i64 0] := by rw [payF, if_neg (by rw [pb_false h]; decide)]

theorem validShares_any' (A : Option Addr) (n c : Nat) (xs : List Int) (m : Int) (w : World) (hx : Ints w A n c xs) (hm : m ≤ 3) :
    Calls Try.prog 69 #[.slice A n c, .int .i64 m] w fun e w' => e = .returned (.bool (pb (VS xs m))) ∧ Quiet w w' := validShares_any A n c xs m w hx hm
theorem frV_form (u d : Int) : ∃ U D, frV u d = .agg #[.int .i64 U, .int .i64 D] := ⟨_, _, rfl⟩
theorem payF_form (a : List (List Int)) (x y : List Int) : ∃ U D, payF a x y = .agg #[.int .i64 U, .int .i64 D] := by
  unfold payF
  split
  · exact frV_form _ _
  · exact ⟨_, _, rfl⟩

end Go.Proofs.Ytcjanlbhgfadpaa

/- Ints compared by the library's cmp.Compare. -/
namespace Go.Proofs.Ytcjanlbhgfadpaa
open Go.RowKit

end Go.Proofs.Ytcjanlbhgfadpaa

/- Fractions compared by the harness; less, by both programs. -/
namespace Go.Proofs.Ytcjanlbhgfadpaa
open Go.RowKit


def lessB (u d v e : Int) : Bool := decide (u * e < v * d)
theorem less_bd {u v : Int} (hu : -1000000000 ≤ u ∧ u ≤ 1000000000) (hv : 0 ≤ v ∧ v ≤ 1000000000) : -1000000000000000000 ≤ u * v ∧ u * v ≤ 1000000000000000000 := by
  have h1 : u * v ≤ 1000000000 * v := Int.mul_le_mul_of_nonneg_right hu.2 hv.1
  have h2 : -1000000000 * v ≤ u * v := Int.mul_le_mul_of_nonneg_right hu.1 hv.1
  omega


end Go.Proofs.Ytcjanlbhgfadpaa

/- Shares of one alone; the worst mean: by both programs. -/
namespace Go.Proofs.Ytcjanlbhgfadpaa
open Go.RowKit

theorem alloc_set (w : World) (cs : Array Value) (t : TypeId) (i : Nat) (v : Value) : (w.alloc (.cells cs t)).setCell ⟨w.heap.size, i, none⟩ v = w.alloc (.cells (cs.setIfInBounds i v) t) := by
  unfold World.setCell World.alloc
  congr 1
  apply Array.ext
  · simp
  · intro j h1 h2
    simp only [Array.size_modify, Array.size_push] at h1
    rw [Array.getElem_modify]
    by_cases e : w.heap.size = j
    · subst e; simp
    · rw [if_neg e, Array.getElem_push_lt (by omega), Array.getElem_push_lt (by omega)]
def MadeO (w : World) (n i : Nat) (e : Ending) (w' : World) : Prop :=
  e = .returned (.slice (some ⟨w.heap.size, 0, none⟩) n n) ∧ OwnI w.heap.size w'.heap.size w' w.heap.size (some ⟨w.heap.size, 0, none⟩) n n (onl n i) ∧ Below w.heap.size w w'
theorem onl_own (w w1 : World) (n i : Nat) (hn : n ≤ 100) (hr : w1.rowIs w.heap.size 3 n (fun j => if j = i then .int .i64 1 else .int .i64 0)) :
    OwnI w.heap.size w1.heap.size w1 w.heap.size (some ⟨w.heap.size, 0, none⟩) n n (onl n i) :=
  OwnI.of_rowIs (onl_len n i) (by omega) (fun x hx => by
    obtain ⟨k, hk, rfl⟩ := List.mem_iff_getElem.1 hx
    rw [onl_len] at hk
    have := onl_bd (n := n) (i := i) hk
    rw [gi_get (by rw [onl_len]; exact hk)] at this
    omega) (Nat.le_refl _) hr.lt hr fun k hk => by
      show (if k = i then Value.int .i64 1 else Value.int .i64 0) = _
      rw [gi_onl hk]; split <;> rfl

end Go.Proofs.Ytcjanlbhgfadpaa

