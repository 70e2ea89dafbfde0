/- The law FnExactLeftOver holds: for every game (and every struct of these fields that is none) the program's LeftOver answers as the model's, leaves the argument as it was, and its answers own their memory. No condition. -/
import Derived.Test.YtnonbefeomnbpaaQ11
namespace Go.Proofs.Ytnonbefeomnbpaa
open Go.ChangeShapes Go.WideShapes Go.ChangeAt Go.RowKit Go.Deep

/-- What the law knows: its argument, the program's own copy of it, the model's lists, the program's lists. -/
structure Fx (w : World) (A B : Option Addr) (n c m d : Nat) (xs ys : List (List Int)) (lo mid hi g g3 g4 S1 gs1 : Nat) (As1 : Option Addr) (cs1 gs2 : Nat) (As2 : Option Addr) (cs2 L1 L2 gg1 : Nat) (Ag1 : Option Addr) (cg1 gg2 : Nat) (Ag2 : Option Addr) (cg2 : Nat) (R C r1 r2 : List Int) (W : World) : Prop where
  fg : GS w W A B n c m d xs ys
  fx : XS lo mid hi W g g3 g4 n m xs ys
  fs1 : OwnI S1 lo W gs1 As1 R.length cs1 R
  fs2 : OwnI S1 lo W gs2 As2 C.length cs2 C
  fr1 : OwnI L1 L2 W gg1 Ag1 R.length cg1 r1
  fr2 : OwnI L1 L2 W gg2 Ag2 C.length cg2 r2
  ne : 0 < R.length → 0 < C.length → gg1 ≠ gg2
  h1 : w.heap.size < lo
  h2 : hi ≤ L1
  h3 : lo ≤ hi
theorem Fx.up {w A B n c m d xs ys lo mid hi g g3 g4 S1 gs1 As1 cs1 gs2 As2 cs2 L1 L2 gg1 Ag1 cg1 gg2 Ag2 cg2 R C r1 r2 W W'} (h : Fx w A B n c m d xs ys lo mid hi g g3 g4 S1 gs1 As1 cs1 gs2 As2 cs2 L1 L2 gg1 Ag1 cg1 gg2 Ag2 cg2 R C r1 r2 W) (k : Below W.heap.size W W') : Fx w A B n c m d xs ys lo mid hi g g3 g4 S1 gs1 As1 cs1 gs2 As2 cs2 L1 L2 gg1 Ag1 cg1 gg2 Ag2 cg2 R C r1 r2 W' :=
  ⟨h.fg.up k, h.fx.up k, h.fs1.below k, h.fs2.below k, h.fr1.below k, h.fr2.below k, h.ne, h.h1, h.h2, h.h3⟩
theorem Fx.cells {w A B n c m d xs ys lo mid hi g g3 g4 S1 gs1 As1 cs1 gs2 As2 cs2 L1 L2 gg1 Ag1 cg1 gg2 Ag2 cg2 R C r1 r2 W} (h : Fx w A B n c m d xs ys lo mid hi g g3 g4 S1 gs1 As1 cs1 gs2 As2 cs2 L1 L2 gg1 Ag1 cg1 gg2 Ag2 cg2 R C r1 r2 W) :
    (W.cell? ⟨w.heap.size, 0, none⟩ = some (.slice A n c) ∧ W.cell? ⟨w.heap.size, 1, none⟩ = some (.slice B m d)) ∧ (W.cell? ⟨g, 0, none⟩ = some (.slice (some ⟨g3, 0, none⟩) n n) ∧ W.cell? ⟨g, 1, none⟩ = some (.slice (some ⟨g4, 0, none⟩) m m)) :=
  ⟨⟨h.fg.c0, h.fg.c1⟩, ⟨h.fx.c0, h.fx.c1⟩⟩
/-- .. behind the marks: the copy is no longer asked for. -/
structure Fy (w : World) (A B : Option Addr) (n c m d : Nat) (xs ys : List (List Int)) (lo S1 gs1 : Nat) (As1 : Option Addr) (cs1 gs2 : Nat) (As2 : Option Addr) (cs2 L1 L2 gg1 : Nat) (Ag1 : Option Addr) (cg1 gg2 : Nat) (Ag2 : Option Addr) (cg2 : Nat) (R C r1 r2 : List Int) (W : World) : Prop where
  fg : GS w W A B n c m d xs ys
  fs1 : OwnI S1 lo W gs1 As1 R.length cs1 R
  fs2 : OwnI S1 lo W gs2 As2 C.length cs2 C
  fr1 : OwnI L1 L2 W gg1 Ag1 R.length cg1 r1
  fr2 : OwnI L1 L2 W gg2 Ag2 C.length cg2 r2
  ne : 0 < R.length → 0 < C.length → gg1 ≠ gg2
  h1 : w.heap.size < lo
  h2 : lo ≤ L1
theorem Fy.up {w A B n c m d xs ys lo S1 gs1 As1 cs1 gs2 As2 cs2 L1 L2 gg1 Ag1 cg1 gg2 Ag2 cg2 R C r1 r2 W W'} (h : Fy w A B n c m d xs ys lo S1 gs1 As1 cs1 gs2 As2 cs2 L1 L2 gg1 Ag1 cg1 gg2 Ag2 cg2 R C r1 r2 W) (k : Below W.heap.size W W') : Fy w A B n c m d xs ys lo S1 gs1 As1 cs1 gs2 As2 cs2 L1 L2 gg1 Ag1 cg1 gg2 Ag2 cg2 R C r1 r2 W' :=
  ⟨h.fg.up k, h.fs1.below k, h.fs2.below k, h.fr1.below k, h.fr2.below k, h.ne, h.h1, h.h2⟩
theorem Fx.mark {w A B n c m d xs ys lo mid hi g g3 g4 S1 gs1 As1 cs1 gs2 As2 cs2 L1 L2 gg1 Ag1 cg1 gg2 Ag2 cg2 R C r1 r2 W W1 W2} (h : Fx w A B n c m d xs ys lo mid hi g g3 g4 S1 gs1 As1 cs1 gs2 As2 cs2 L1 L2 gg1 Ag1 cg1 gg2 Ag2 cg2 R C r1 r2 W) (k : Below W.heap.size W W1) (t : Touch lo hi W1 W2) :
    Fy w A B n c m d xs ys lo S1 gs1 As1 cs1 gs2 As2 cs2 L1 L2 gg1 Ag1 cg1 gg2 Ag2 cg2 R C r1 r2 W2 :=
  ⟨(h.fg.up k).touch t h.h1, (h.fs1.below k).touch t (.inl (Nat.le_refl _)), (h.fs2.below k).touch t (.inl (Nat.le_refl _)), (h.fr1.below k).touch t (.inr h.h2), (h.fr2.below k).touch t (.inr h.h2), h.ne, h.h1, Nat.le_trans h.h3 h.h2⟩
theorem Fy.one {w A B n c m d xs ys lo S1 gs1 As1 cs1 gs2 As2 cs2 L1 L2 gg1 Ag1 cg1 gg2 Ag2 cg2 R C r1 r2 W W2 b} (h : Fy w A B n c m d xs ys lo S1 gs1 As1 cs1 gs2 As2 cs2 L1 L2 gg1 Ag1 cg1 gg2 Ag2 cg2 R C r1 r2 W) (hb : L1 ≤ b ∧ b < L2) (hm : One b W W2) : GS w W2 A B n c m d xs ys ∧ OwnI S1 lo W2 gs1 As1 R.length cs1 R ∧ OwnI S1 lo W2 gs2 As2 C.length cs2 C :=
  let t := hm.touch hb.1 hb.2
  ⟨h.fg.touch t (Nat.lt_of_lt_of_le h.h1 h.h2), h.fs1.touch t (.inl h.h2), h.fs2.touch t (.inl h.h2)⟩
theorem Fy.mark1 {w A B n c m d xs ys lo S1 gs1 As1 cs1 gs2 As2 cs2 L1 L2 gg1 Ag1 cg1 gg2 Ag2 cg2 R C r1 r2 W W2 r1'} (h : Fy w A B n c m d xs ys lo S1 gs1 As1 cs1 gs2 As2 cs2 L1 L2 gg1 Ag1 cg1 gg2 Ag2 cg2 R C r1 r2 W) (ho : OwnI L1 L2 W2 gg1 Ag1 R.length cg1 r1') (hz : R.length = 0 → W = W2) (hm : One gg1 W W2) :
    Fy w A B n c m d xs ys lo S1 gs1 As1 cs1 gs2 As2 cs2 L1 L2 gg1 Ag1 cg1 gg2 Ag2 cg2 R C r1' r2 W2 := by
  by_cases h0 : R.length = 0
  · have e := hz h0
    subst e
    exact ⟨h.fg, h.fs1, h.fs2, ho, h.fr2, h.ne, h.h1, h.h2⟩
  · obtain ⟨_, _, a, b, _⟩ := h.fr1.own (by omega)
    obtain ⟨x, y, z⟩ := h.one ⟨a, b⟩ hm
    exact ⟨x, y, z, ho, h.fr2.of_block (fun hn => hm.block _ (fun e => h.ne (by omega) hn e.symm)), h.ne, h.h1, h.h2⟩
theorem Fy.mark2 {w A B n c m d xs ys lo S1 gs1 As1 cs1 gs2 As2 cs2 L1 L2 gg1 Ag1 cg1 gg2 Ag2 cg2 R C r1 r2 W W2 r2'} (h : Fy w A B n c m d xs ys lo S1 gs1 As1 cs1 gs2 As2 cs2 L1 L2 gg1 Ag1 cg1 gg2 Ag2 cg2 R C r1 r2 W) (ho : OwnI L1 L2 W2 gg2 Ag2 C.length cg2 r2') (hz : C.length = 0 → W = W2) (hm : One gg2 W W2) :
    Fy w A B n c m d xs ys lo S1 gs1 As1 cs1 gs2 As2 cs2 L1 L2 gg1 Ag1 cg1 gg2 Ag2 cg2 R C r1 r2' W2 := by
  by_cases h0 : C.length = 0
  · have e := hz h0
    subst e
    exact ⟨h.fg, h.fs1, h.fs2, h.fr1, ho, h.ne, h.h1, h.h2⟩
  · obtain ⟨_, _, a, b, _⟩ := h.fr2.own (by omega)
    obtain ⟨x, y, z⟩ := h.one ⟨a, b⟩ hm
    exact ⟨x, y, z, h.fr1.of_block (fun hn => hm.block _ (fun e => h.ne hn (by omega) e)), ho, h.ne, h.h1, h.h2⟩

set_option maxRecDepth 100000 in
set_option maxHeartbeats 3200000 in
theorem exLeftOver_calls (A B : Option Addr) (n c m d : Nat) (xs ys : List (List Int)) (w : World) (hx : IntRows w A n c xs) (hy : IntRows w B m d ys) :
    Calls Try.prog 12 #[.agg #[.slice A n c, .slice B m d]] w (Ret (.bool true) w) := by
  have HG := Lib.hid (GS.start hx hy)
  clear hx hy
  go_enter Try.func12, Try.ntmps12
  go_wp2_with fail
  generalize w.alloc (.cells #[.slice A n c, .slice B m d] 38) = W0 at *
  refine (szGame_any _ _ _ _ _ _ _ _ _ _ HG.out.rx HG.out.ry (by omega) (by omega)).mono ?_
  rintro e w1 ⟨rfl, hb⟩
  have H1 := Lib.hid (HG.out.up hb)
  have a0 := H1.out.c0
  have a1 := H1.out.c1
  clear hb HG
  by_cases hs : szG 1048576 xs ys < 0
  · go_wp2
    go_ret
    exact ⟨rfl, H1.out.below⟩
  have HZ := Lib.hid (szG_offs hs (by omega) (by omega))
  go_wp2_with fail
  refine (toGame_any _ _ _ _ _ _ _ _ _ H1.out.rx H1.out.ry).mono ?_
  rintro e w2 ⟨g1, g2, mid, rfl, o1, o2, hb, -⟩
  have H2 := Lib.hid (H1.out.up hb)
  have O1 := Lib.hid o1.rows
  have O2 := Lib.hid o2.rows
  clear hb H1 o1 o2 a0 a1
  go_wp2_with fail
  refine (LeftOver_spec _ _ _ _ _ _ _ _ _ O1.out O2.out).mono ?_
  intro e w3 hlo
  obtain ⟨R, C, hRC, As1, _, cs1, gs1, As2, _, cs2, gs2, rfl, rfl, rfl, os, os2, hb⟩ := hlo.lists
  have HRC := Lib.hid hRC
  have HER := Lib.hid (eqI_same R)
  have HEC := Lib.hid (eqI_same C)
  obtain ⟨hR3, hC3⟩ := hRC.le
  clear hlo hRC
  have H3 := Lib.hid (H2.out.up hb)
  have HS := Lib.hid (And.intro os os2)
  have a0 := H3.out.c0
  have a1 := H3.out.c1
  have hS := blk_lt H2.out.box
  have hS2 := hb.size
  clear hb H2 O1 O2 os os2
  go_wp2_with fail
  refine (toGame_any _ _ _ _ _ _ _ _ _ H3.out.rx H3.out.ry).mono ?_
  rintro e w4 ⟨g3, g4, mid, rfl, o1, o2, hb, hm1, hm2⟩
  have H4 := Lib.hid (H3.out.up hb)
  have HS4 := Lib.hid (And.intro (HS.out.1.below hb) (HS.out.2.below hb))
  have O1 := Lib.hid o1
  have O2 := Lib.hid o2
  clear hb H3 o1 o2 a0 a1 HS
  go_wp2_with fail
  have H5 := Lib.hid (H4.out.up (below_alloc _ (.cells #[.slice (some ⟨g3, 0, none⟩) n n, .slice (some ⟨g4, 0, none⟩) m m] 29)))
  have HS5 := Lib.hid (And.intro (HS4.out.1.below (below_alloc _ (.cells #[.slice (some ⟨g3, 0, none⟩) n n, .slice (some ⟨g4, 0, none⟩) m m] 29))) (HS4.out.2.below (below_alloc _ (.cells #[.slice (some ⟨g3, 0, none⟩) n n, .slice (some ⟨g4, 0, none⟩) m m] 29))))
  have X5 := Lib.hid (XS.start O1.out O2.out hm1 hm2 (Nat.le_refl _))
  have hz5 : w4.heap.size < (w4.alloc (.cells #[.slice (some ⟨g3, 0, none⟩) n n, .slice (some ⟨g4, 0, none⟩) m m] 29)).heap.size := by simp
  clear H4 O1 O2 HS4
  generalize w4.alloc (.cells #[.slice (some ⟨g3, 0, none⟩) n n, .slice (some ⟨g4, 0, none⟩) m m] 29) = W5 at *
  generalize w4.heap.size = g at *
  refine (LeftOver_impl _ _ _ _ _ _ _ _ _ X5.out.rows.1 X5.out.rows.2).mono ?_
  intro e w6 hlo
  obtain ⟨R', C', hRC, Ag1, _, cg1, gg1, Ag2, _, cg2, gg2, rfl, rfl, rfl, og, og2, hb, hne⟩ := hlo.lists
  obtain ⟨rfl, rfl⟩ := HRC.out.one hRC
  have HNE := Lib.hid hne
  clear hlo hRC hne
  have H6 := Lib.hid (H5.out.up hb)
  have X6 := Lib.hid (X5.out.up hb)
  have HS6 := Lib.hid (And.intro (HS5.out.1.below hb) (HS5.out.2.below hb))
  have HG6 := Lib.hid (And.intro og og2)
  have hL := hb.size
  clear hb H5 X5 HS5 og og2
  go_wp2_with fail
  refine (HER.out ▸ eqIntS_any _ _ _ _ _ _ R R w6 HG6.out.1.ints HS6.out.1.ints).mono ?_
  rintro e w7 ⟨rfl, hq⟩
  have hb : Below w6.heap.size w6 w7 := hq.below
  have H7 := Lib.hid (H6.out.up hb)
  have X7 := Lib.hid (X6.out.up hb)
  have HS7 := Lib.hid (And.intro (HS6.out.1.below hb) (HS6.out.2.below hb))
  have HG7 := Lib.hid (And.intro (HG6.out.1.below hb) (HG6.out.2.below hb))
  have hL7 := hb.size
  clear hb hq H6 X6 HS6 HG6
  go_wp2_with fail
  refine (HEC.out ▸ eqIntS_any _ _ _ _ _ _ C C w7 HG7.out.2.ints HS7.out.2.ints).mono ?_
  rintro e w7b ⟨rfl, hq⟩
  have hb : Below w7.heap.size w7 w7b := hq.below
  have H7b := Lib.hid (H7.out.up hb)
  have X7b := Lib.hid (X7.out.up hb)
  have HS7b := Lib.hid (And.intro (HS7.out.1.below hb) (HS7.out.2.below hb))
  have HG7b := Lib.hid (And.intro (HG7.out.1.below hb) (HG7.out.2.below hb))
  clear hb hq H7 X7 HS7 HG7
  have HE := Lib.hid (show Fx w A B n c m d xs ys w3.heap.size mid g g g3 g4 w2.heap.size gs1 As1 cs1 gs2 As2 cs2 W5.heap.size w6.heap.size gg1 Ag1 cg1 gg2 Ag2 cg2 R C R C w7b.drew from
    Fx.up (W := w7b) ⟨H7b.out, X7b.out, HS7b.out.1, HS7b.out.2, HG7b.out.1, HG7b.out.2, HNE.out, by omega, Nat.le_of_lt hz5, Nat.le_trans hm1 hm2⟩ ((Below.refl _ _).drew))
  have k0 := X7b.out.c0
  have k1 := X7b.out.c1
  have k2 := H7b.out.c0
  have k3 := H7b.out.c1
  clear H7b X7b HS7b HG7b HNE
  generalize w6.heap.size = L2 at *
  go_wp2_with fail
  go_region_held3 (fun W => (W.cell? ⟨w.heap.size, 0, none⟩ = some (.slice A n c) ∧ W.cell? ⟨w.heap.size, 1, none⟩ = some (.slice B m d)) ∧ (W.cell? ⟨g, 0, none⟩ = some (.slice (some ⟨g3, 0, none⟩) n n) ∧ W.cell? ⟨g, 1, none⟩ = some (.slice (some ⟨g4, 0, none⟩) m m))) (first | exact HK.out.cells | exact HF.out.cells | exact HE.out.cells)
    (first
    | (go_at_call 35; refine (toGame_any _ _ _ _ _ _ xs ys _ ?_ ?_).mono ?_; exact HE.out.fg.rx; exact HE.out.fg.ry; rintro e w8 ⟨g5, g6, mid2, rfl, o1, o2, hb, -⟩; have HF := Lib.hid (HE.out.up hb); have O1 := Lib.hid o1.rows; have O2 := Lib.hid o2.rows; clear hb HE o1 o2)
    | (go_at_call 36; refine ((eqG_refl xs ys) ▸ eqGame_any _ _ _ _ _ _ _ _ _ _ _ _ xs ys xs ys _ ?_ ?_ ?_ ?_).mono ?_; exact HF.out.fx.rows.1; exact HF.out.fx.rows.2; exact O1.out; exact O2.out; rintro e w9 ⟨rfl, hb⟩; have HK := Lib.hid (HF.out.up hb); clear hb HF O1 O2))
  have k0 := HK.out.fx.c0
  have k1 := HK.out.fx.c1
  go_wp2_with fail
  refine (markGame_any w3.heap.size mid g g g3 g4 n m xs ys 1 _ HK.out.fx (by omega) (by omega) HZ.out.1 HZ.out.2).mono ?_
  rintro e w10 ⟨rfl, W10, hbm, htm⟩
  have HY := Lib.hid (HK.out.mark hbm htm)
  have q1 := offs_ge xs xs.length
  have q2 := offs_ge ys ys.length
  have q5 := HZ.out.1
  have q6 := HZ.out.2
  clear hbm htm HK k0 k1 k2 k3
  go_wp2_with fail
  refine (HER.out ▸ eqIntS_any _ _ _ _ _ _ R R _ HY.out.fr1.ints HY.out.fs1.ints).mono ?_
  rintro e w11 ⟨rfl, hq⟩
  have HY1 := Lib.hid (HY.out.up hq.below)
  clear hq HY
  go_wp2_with fail
  refine (HEC.out ▸ eqIntS_any _ _ _ _ _ _ C C _ HY1.out.fr2.ints HY1.out.fs2.ints).mono ?_
  rintro e w12 ⟨rfl, hq⟩
  have HY2 := Lib.hid (HY1.out.up hq.below)
  clear hq HY1
  go_wp2_with fail
  refine (markIntS_any _ _ _ _ _ _ _ 1 _ HY2.out.fr1 (by omega) (by omega)).mono ?_
  rintro e w13 ⟨rfl, ho, hz, hm⟩
  have HY3 := Lib.hid (HY2.out.mark1 ho hz hm)
  clear ho hz hm HY2
  go_wp2_with fail
  refine (markIntS_any _ _ _ _ _ _ _ (1 + R.length) _ HY3.out.fr2 (by omega) (by omega)).mono ?_
  rintro e w14 ⟨rfl, ho, hz, hm⟩
  have HY4 := Lib.hid (HY3.out.mark2 ho hz hm)
  clear ho hz hm HY3
  go_wp2_with fail
  refine (heldIntS_any _ _ _ (1) _ HY4.out.fr1.ints (by omega) (by omega)).mono ?_
  rintro e w15 ⟨rfl, hq⟩
  have HY5 := Lib.hid (HY4.out.up hq.below)
  clear hq HY4
  go_wp2_with fail
  refine (heldIntS_any _ _ _ (1 + R.length) _ HY5.out.fr2.ints (by omega) (by omega)).mono ?_
  rintro e w16 ⟨rfl, hq⟩
  have HY6 := Lib.hid (HY5.out.up hq.below)
  clear hq HY5
  have a0 := HY6.out.fg.c0
  have a1 := HY6.out.fg.c1
  go_wp2_with fail
  refine (toGame_any _ _ _ _ _ _ _ _ _ HY6.out.fg.rx HY6.out.fg.ry).mono ?_
  rintro e w17 ⟨g7, g8, mid3, rfl, o1, o2, hb, -⟩
  have HY7 := Lib.hid (HY6.out.up hb)
  have O1 := Lib.hid o1.rows
  have O2 := Lib.hid o2.rows
  clear hb HY6 o1 o2 a0 a1
  go_wp2_with fail
  refine (LeftOver_impl _ _ _ _ _ _ _ _ _ O1.out O2.out).mono ?_
  intro e w18 hlo
  obtain ⟨R', C', hRC, Ah1, _, ch1, gh1, Ah2, _, ch2, gh2, rfl, rfl, rfl, oh, oh2, hb, -⟩ := hlo.lists
  obtain ⟨rfl, rfl⟩ := HRC.out.one hRC
  have HY8 := Lib.hid (HY7.out.up hb)
  have HH := Lib.hid (And.intro oh.ints oh2.ints)
  clear hb HY7 O1 O2 oh oh2 hlo hRC
  go_wp2_with fail
  refine (HER.out ▸ eqIntS_any _ _ _ _ _ _ R R _ HH.out.1 HY8.out.fs1.ints).mono ?_
  rintro e w19 ⟨rfl, hq⟩
  have HY9 := Lib.hid (HY8.out.up hq.below)
  have HH2 := Lib.hid (HH.out.2.keep (Keep.quiet hq))
  clear hq HY8 HH
  go_wp2_with fail
  refine (HEC.out ▸ eqIntS_any _ _ _ _ _ _ C C _ HH2.out HY9.out.fs2.ints).mono ?_
  rintro e w20 ⟨rfl, hq⟩
  have HY10 := Lib.hid (HY9.out.up hq.below)
  clear hq HY9 HH2
  go_wp2_with fail
  refine (heldIntS_any _ _ _ (1) _ HY10.out.fr1.ints (by omega) (by omega)).mono ?_
  rintro e w21 ⟨rfl, hq⟩
  have HY11 := Lib.hid (HY10.out.up hq.below)
  clear hq HY10
  go_wp2_with fail
  refine (heldIntS_any _ _ _ (1 + R.length) _ HY11.out.fr2.ints (by omega) (by omega)).mono ?_
  rintro e w22 ⟨rfl, hq⟩
  have HY12 := Lib.hid (HY11.out.up hq.below)
  clear hq HY11
  go_wp2
  go_ret
  exact ⟨rfl, HY12.out.fg.below⟩


set_option maxRecDepth 100000 in
theorem hFnExactLeftOver_lifted (os : Os) (started : os.Started) (H : Type) (enc : TypeId × Value → H) :
    ReturnsInHanded {} Try.checked os 12 .any (Rows.fnExactLeftOverSpec.pre6 enc Try.prog Try.f12 Rows.fnExactLeftOverRow.domain false) (Rows.fnExactLeftOverSpec.post enc Try.prog Try.f12 false true false false) := by
  refine returnsInHanded_of_change_sized (C := Try.checked) Try.own started (by kernel_rfl) Try.func12
    (ChangeSpec.witness6 (enc := enc) (C := Try.checked) false ⟨#[], #[.agg #[.slice none 0 0, .slice none 0 0]], []⟩ 8 (by kernel_rfl) (by kernel_rfl) (by kernel_rfl) (by kernel_rfl)) ?_
  intro W base args ds gs before hval0 hW _ hwt _
  have hval : ∀ (j : Nat) t v, Try.f12.params[j]? = some t → args[j]? = some v → Value.okWide Try.prog W .any base t v := hval0
  have hA : ∃ p, DataW.TrodAll enc Try.prog W 0 (fun _ => true) true Try.f12.params.toList args.toList ds p := by obtain ⟨p, q, hA0, _⟩ := hW; exact ⟨p, hA0⟩
  obtain ⟨p, hA⟩ := hA
  have hwt' := weights_arg hwt (j := 0) (t := 38) (by rw [Try.params12]; rfl) (d := ds.getD 0 .nil)
  rw [Try.params12] at hA hval
  obtain ⟨v0, d0, rfl, rfl, h0⟩ := trodAll_one hA
  obtain ⟨A, n, c, xs, B, m, d, ys, rfl, hx, hy⟩ := open_game (hval 0 38 v0 rfl rfl) h0 (hwt' rfl)
  refine (exLeftOver_calls A B n c m d xs ys W hx hy).mono fun e W' ⟨he, hb⟩ => ?_
  subst he
  exact ⟨_, rfl, law_post (F := Try.f12) rfl rfl (by rw [Try.params12]; simp only [List.mem_cons, List.not_mem_nil, or_false, forall_eq]; exact ⟨by kernel_rfl, of_decide_eq_true (by kernel_rfl)⟩) hW (fun h => by subst h; rfl) hb⟩

theorem hFnExactLeftOver_holds : Rows.FnExactLeftOverSaid :=
  OpenClaim.holds_of_wide 12 Try.f12 rfl rfl rfl rfl rfl rfl rfl ⟨rfl, rfl, rfl, rfl, rfl⟩ rfl rfl rfl rfl rfl (by kernel_rfl) Try.func12
    (by unfold joinedFacts; simp only [Bool.and_eq_true]; (repeat' apply And.intro) <;> (first | (with_reducible exact prog_enters) | ((with_reducible refine prog_lifts ?_); rfl) | ((with_reducible refine prog_make ?_); rfl) | kernel_rfl))
    (of_decide_eq_true (by kernel_rfl)) (by unfold Func.isWrapper; first | (rw [if_pos (by decide +kernel)]; kernel_rfl) | (rw [if_neg (by decide +kernel)]; exact ⟨rfl, rfl⟩))
    (fun os started H enc _ => hFnExactLeftOver_lifted os started H enc)

end Go.Proofs.Ytnonbefeomnbpaa
