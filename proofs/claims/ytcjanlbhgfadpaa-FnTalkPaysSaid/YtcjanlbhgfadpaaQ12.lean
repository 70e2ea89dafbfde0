/- Texts merged: TK12 TK13 TK14 TK15 Y1 K7 Y3 TK16. -/
import Derived.Test.YtcjanlbhgfadpaaQ11
import Derived.Deep.Cut
/- Talks drawn. -/
namespace Go.Proofs.Ytcjanlbhgfadpaa
open Go.RowKit

/-- Two rows of their own, written out. -/
theorem own_two {W : World} {lo hi b q1 q2 : Nat} (x1 y1 x2 y2 : Int) (k1 : Blk W q1 3 #[.int .i64 x1, .int .i64 y1]) (k2 : Blk W q2 3 #[.int .i64 x2, .int .i64 y2])
    (k : Blk W b 23 #[.slice (some ⟨q1, 0, none⟩) 2 2, .slice (some ⟨q2, 0, none⟩) 2 2]) (h1 : Fit x1) (h2 : Fit y1) (h3 : Fit x2) (h4 : Fit y2)
    (n1 : q1 ≠ q2) (n2 : q1 ≠ b) (n3 : q2 ≠ b) (l1 : lo ≤ q1 ∧ q1 < hi) (l2 : lo ≤ q2 ∧ q2 < hi) (l3 : lo ≤ b ∧ b < hi) : OwnR lo hi W b (some ⟨b, 0, none⟩) 2 2 [[x1, y1], [x2, y2]] := by
  have two : ∀ (q : Nat) (x y : Int), Blk W q 3 #[.int .i64 x, .int .i64 y] → Fit x → Fit y → lo ≤ q ∧ q < hi → OwnI lo hi W q (some ⟨q, 0, none⟩) 2 2 [x, y] := fun q x y hb hx hy hl =>
    ⟨⟨rfl, Nat.le_refl _, by omega, fun z hz => by simp at hz; rcases hz with rfl | rfl <;> assumption, fun _ => ⟨q, 0, rfl, fun j hj => by
      have : j = 0 ∨ j = 1 := by omega
      rcases this with rfl | rfl
      · exact blk_cell hb rfl
      · exact blk_cell hb rfl⟩⟩, fun _ => ⟨0, rfl, hl.1, hl.2, fun j _ => blk_frozen hb _⟩⟩
  refine ⟨rfl, Nat.le_refl _, by omega, fun _ => ⟨0, fun k => if k = 0 then q1 else q2, fun k => if k = 0 then some ⟨q1, 0, none⟩ else some ⟨q2, 0, none⟩, fun _ => 2, rfl, l3.1, l3.2, fun k hk => ?_, fun i j hij hj _ _ => ?_⟩⟩
  · have : k = 0 ∨ k = 1 := by omega
    rcases this with rfl | rfl
    · exact ⟨blk_frozen k _, blk_cell k rfl, two _ _ _ k1 h1 h2 l1, fun _ => n2⟩
    · exact ⟨blk_frozen k _, blk_cell k rfl, two _ _ _ k2 h3 h4 l2, fun _ => n3⟩
  · obtain rfl : i = 0 := by omega
    obtain rfl : j = 1 := by omega
    exact n1
theorem OwnI.ne {lo hi W b A n c xs} (h : OwnI lo hi W b A n c xs) {W' : World} (e : ∀ k, lo ≤ k → k < hi → k < W.heap.size → W'.heap[k]? = W.heap[k]?) : OwnI lo hi W' b A n c xs :=
  h.of_block fun hn => by obtain ⟨_, _, h1, h2, _⟩ := h.own hn; exact e b h1 h2 (h.lt hn)
/-- A talk under way beside a reader. -/
structure TkS (w0 : World) (g : Nat) (A : Option Addr) (l c p h2 h3 q1 : Nat) (A2 A3 A4 : Option Addr) (c2 c3 c4 : Nat) (xs : List Int) (ss hs ks : List (List Int)) (b2 b3 b4 lo1 hi1 lo2 hi2 lo3 hi3 lo4 hi4 : Nat) (W : World) : Prop where
  rd : Rdr w0 W g A l c p
  k2 : Blk W h2 26 #[.slice none 0 0, .slice none 0 0, .slice none 0 0, .slice none 0 0]
  box : Blk W h3 26 #[.slice (some ⟨q1, 0, none⟩) 2 2, .slice A2 2 c2, .slice A3 2 c3, .slice A4 2 c4]
  o1 : OwnI lo1 hi1 W q1 (some ⟨q1, 0, none⟩) 2 2 xs
  o2 : OwnR lo2 hi2 W b2 A2 2 c2 ss
  o3 : OwnR lo3 hi3 W b3 A3 2 c3 hs
  o4 : OwnR lo4 hi4 W b4 A4 2 c4 ks
  r4 : (gr ks 0).length = 2
  hg : g < h2 ∧ h2 < h3
  a : (h2 < lo1 ∧ h2 < lo2) ∧ h2 < lo3 ∧ h2 < lo4
  f : ((hi1 ≤ h3 ∨ h3 < lo1) ∧ (hi2 ≤ h3 ∨ h3 < lo2)) ∧ (hi3 ≤ h3 ∨ h3 < lo3) ∧ (hi4 ≤ h3 ∨ h3 < lo4)
  d : hi1 ≤ lo2 ∧ hi1 ≤ lo3 ∧ hi1 ≤ lo4
  d4 : (hi4 ≤ lo2 ∨ hi2 ≤ lo4) ∧ (hi4 ≤ lo3 ∨ hi3 ≤ lo4)
  m : (hi1 ≤ W.heap.size ∧ hi4 ≤ W.heap.size) ∧ (hi2 ≤ W.heap.size ∧ hi3 ≤ W.heap.size) ∧ h3 < W.heap.size
theorem TkS.up {w0 g A l c p h2 h3 q1 A2 A3 A4 c2 c3 c4 xs ss hs ks b2 b3 b4 lo1 hi1 lo2 hi2 lo3 hi3 lo4 hi4 W W' p'} (h : TkS w0 g A l c p h2 h3 q1 A2 A3 A4 c2 c3 c4 xs ss hs ks b2 b3 b4 lo1 hi1 lo2 hi2 lo3 hi3 lo4 hi4 W) (k : W.grownBy W' (some g)) (r : Rdr w0 W' g A l c p') : TkS w0 g A l c p' h2 h3 q1 A2 A3 A4 c2 c3 c4 xs ss hs ks b2 b3 b4 lo1 hi1 lo2 hi2 lo3 hi3 lo4 hi4 W' := by
  have hg := h.hg
  have a := h.a
  have e : ∀ x, x ≠ g → x < W.heap.size → W'.heap[x]? = W.heap[x]? := fun x hx hl => k.block x hl (fun e => hx (by injection e))
  have z := k.size
  have m := h.m
  exact ⟨r, (e _ (by omega) (blk_lt h.k2)).trans h.k2, (e _ (by omega) (blk_lt h.box)).trans h.box, h.o1.ne fun x h1 _ h3 => e x (by omega) h3, h.o2.of_blocks fun x h1 _ h3 => e x (by omega) h3, h.o3.of_blocks fun x h1 _ h3 => e x (by omega) h3, h.o4.of_blocks fun x h1 _ h3 => e x (by omega) h3, h.r4, h.hg, h.a, h.f, h.d, h.d4, by omega⟩
theorem TkS.below {w0 g A l c p h2 h3 q1 A2 A3 A4 c2 c3 c4 xs ss hs ks b2 b3 b4 lo1 hi1 lo2 hi2 lo3 hi3 lo4 hi4 W W'} (h : TkS w0 g A l c p h2 h3 q1 A2 A3 A4 c2 c3 c4 xs ss hs ks b2 b3 b4 lo1 hi1 lo2 hi2 lo3 hi3 lo4 hi4 W) (k : Below W.heap.size W W') : TkS w0 g A l c p h2 h3 q1 A2 A3 A4 c2 c3 c4 xs ss hs ks b2 b3 b4 lo1 hi1 lo2 hi2 lo3 hi3 lo4 hi4 W' := h.up (grown_of_below k) (h.rd.below_ k)
theorem TkS.c0 {w0 g A l c p h2 h3 q1 A2 A3 A4 c2 c3 c4 xs ss hs ks b2 b3 b4 lo1 hi1 lo2 hi2 lo3 hi3 lo4 hi4 W} (h : TkS w0 g A l c p h2 h3 q1 A2 A3 A4 c2 c3 c4 xs ss hs ks b2 b3 b4 lo1 hi1 lo2 hi2 lo3 hi3 lo4 hi4 W) : W.cell? ⟨h3, 0, none⟩ = some (.slice (some ⟨q1, 0, none⟩) 2 2) := blk_cell h.box rfl
theorem TkS.c1 {w0 g A l c p h2 h3 q1 A2 A3 A4 c2 c3 c4 xs ss hs ks b2 b3 b4 lo1 hi1 lo2 hi2 lo3 hi3 lo4 hi4 W} (h : TkS w0 g A l c p h2 h3 q1 A2 A3 A4 c2 c3 c4 xs ss hs ks b2 b3 b4 lo1 hi1 lo2 hi2 lo3 hi3 lo4 hi4 W) : W.cell? ⟨h3, 1, none⟩ = some (.slice A2 2 c2) := blk_cell h.box rfl
theorem TkS.c2 {w0 g A l c p h2 h3 q1 A2 A3 A4 c2 c3 c4 xs ss hs ks b2 b3 b4 lo1 hi1 lo2 hi2 lo3 hi3 lo4 hi4 W} (h : TkS w0 g A l c p h2 h3 q1 A2 A3 A4 c2 c3 c4 xs ss hs ks b2 b3 b4 lo1 hi1 lo2 hi2 lo3 hi3 lo4 hi4 W) : W.cell? ⟨h3, 2, none⟩ = some (.slice A3 2 c3) := blk_cell h.box rfl
theorem TkS.c3 {w0 g A l c p h2 h3 q1 A2 A3 A4 c2 c3 c4 xs ss hs ks b2 b3 b4 lo1 hi1 lo2 hi2 lo3 hi3 lo4 hi4 W} (h : TkS w0 g A l c p h2 h3 q1 A2 A3 A4 c2 c3 c4 xs ss hs ks b2 b3 b4 lo1 hi1 lo2 hi2 lo3 hi3 lo4 hi4 W) : W.cell? ⟨h3, 3, none⟩ = some (.slice A4 2 c4) := blk_cell h.box rfl
theorem TkS.set2 {w0 g A l c p h2 h3 q1 A2 A3 A4 c2 c3 c4 xs ss hs ks b2 b3 b4 lo1 hi1 lo2 hi2 lo3 hi3 lo4 hi4 W B LO HI zs} (h : TkS w0 g A l c p h2 h3 q1 A2 A3 A4 c2 c3 c4 xs ss hs ks b2 b3 b4 lo1 hi1 lo2 hi2 lo3 hi3 lo4 hi4 W) (hn : OwnR LO HI W B (some ⟨B, 0, none⟩) 2 2 zs) (h0 : h3 < LO ∧ hi1 ≤ LO ∧ hi4 ≤ LO ∧ HI ≤ W.heap.size) : TkS w0 g A l c p h2 h3 q1 (some ⟨B, 0, none⟩) A3 A4 2 c3 c4 xs zs hs ks B b3 b4 lo1 hi1 LO HI lo3 hi3 lo4 hi4 (W.setCell ⟨h3, 1, none⟩ (.slice (some ⟨B, 0, none⟩) 2 2)) := by
  have hg := h.hg
  have a := h.a
  have f := h.f
  have d := h.d
  have d4 := h.d4
  have m := h.m
  have e : ∀ x, x ≠ h3 → (W.setCell ⟨h3, 1, none⟩ (.slice (some ⟨B, 0, none⟩) 2 2)).heap[x]? = W.heap[x]? := fun x hx => Below.heap_setCell _ _ _ _ hx
  have hs_ : (W.setCell ⟨h3, 1, none⟩ (.slice (some ⟨B, 0, none⟩) 2 2)).heap.size = W.heap.size := by simp
  have O1 := h.o1.ne (W' := W.setCell ⟨h3, 1, none⟩ (.slice (some ⟨B, 0, none⟩) 2 2)) fun x h1 h2 _ => e x (by omega)
  have O2 := h.o2.of_blocks (w' := W.setCell ⟨h3, 1, none⟩ (.slice (some ⟨B, 0, none⟩) 2 2)) fun x h1 h2 _ => e x (by omega)
  have O3 := h.o3.of_blocks (w' := W.setCell ⟨h3, 1, none⟩ (.slice (some ⟨B, 0, none⟩) 2 2)) fun x h1 h2 _ => e x (by omega)
  have O4 := h.o4.of_blocks (w' := W.setCell ⟨h3, 1, none⟩ (.slice (some ⟨B, 0, none⟩) 2 2)) fun x h1 h2 _ => e x (by omega)
  have ON := hn.of_blocks (w' := W.setCell ⟨h3, 1, none⟩ (.slice (some ⟨B, 0, none⟩) 2 2)) fun x h1 h2 _ => e x (by omega)
  exact ⟨⟨(e _ (by omega)).trans h.rd.box, h.rd.bytes, h.rd.below.setCell (by show w0.heap.size ≤ h3; have := h.rd.lt; omega) _, h.rd.lt, h.rd.small⟩, (e _ (by omega)).trans h.k2, blk_set h.box 1 _, O1, ON, O3, O4, h.r4, h.hg, by omega, by omega, by omega, by omega, by omega⟩
theorem TkS.set3 {w0 g A l c p h2 h3 q1 A2 A3 A4 c2 c3 c4 xs ss hs ks b2 b3 b4 lo1 hi1 lo2 hi2 lo3 hi3 lo4 hi4 W B LO HI zs} (h : TkS w0 g A l c p h2 h3 q1 A2 A3 A4 c2 c3 c4 xs ss hs ks b2 b3 b4 lo1 hi1 lo2 hi2 lo3 hi3 lo4 hi4 W) (hn : OwnR LO HI W B (some ⟨B, 0, none⟩) 2 2 zs) (h0 : h3 < LO ∧ hi1 ≤ LO ∧ hi4 ≤ LO ∧ HI ≤ W.heap.size) : TkS w0 g A l c p h2 h3 q1 A2 (some ⟨B, 0, none⟩) A4 c2 2 c4 xs ss zs ks b2 B b4 lo1 hi1 lo2 hi2 LO HI lo4 hi4 (W.setCell ⟨h3, 2, none⟩ (.slice (some ⟨B, 0, none⟩) 2 2)) := by
  have hg := h.hg
  have a := h.a
  have f := h.f
  have d := h.d
  have d4 := h.d4
  have m := h.m
  have e : ∀ x, x ≠ h3 → (W.setCell ⟨h3, 2, none⟩ (.slice (some ⟨B, 0, none⟩) 2 2)).heap[x]? = W.heap[x]? := fun x hx => Below.heap_setCell _ _ _ _ hx
  have hs_ : (W.setCell ⟨h3, 2, none⟩ (.slice (some ⟨B, 0, none⟩) 2 2)).heap.size = W.heap.size := by simp
  have O1 := h.o1.ne (W' := W.setCell ⟨h3, 2, none⟩ (.slice (some ⟨B, 0, none⟩) 2 2)) fun x h1 h2 _ => e x (by omega)
  have O2 := h.o2.of_blocks (w' := W.setCell ⟨h3, 2, none⟩ (.slice (some ⟨B, 0, none⟩) 2 2)) fun x h1 h2 _ => e x (by omega)
  have O3 := h.o3.of_blocks (w' := W.setCell ⟨h3, 2, none⟩ (.slice (some ⟨B, 0, none⟩) 2 2)) fun x h1 h2 _ => e x (by omega)
  have O4 := h.o4.of_blocks (w' := W.setCell ⟨h3, 2, none⟩ (.slice (some ⟨B, 0, none⟩) 2 2)) fun x h1 h2 _ => e x (by omega)
  have ON := hn.of_blocks (w' := W.setCell ⟨h3, 2, none⟩ (.slice (some ⟨B, 0, none⟩) 2 2)) fun x h1 h2 _ => e x (by omega)
  exact ⟨⟨(e _ (by omega)).trans h.rd.box, h.rd.bytes, h.rd.below.setCell (by show w0.heap.size ≤ h3; have := h.rd.lt; omega) _, h.rd.lt, h.rd.small⟩, (e _ (by omega)).trans h.k2, blk_set h.box 2 _, O1, O2, ON, O4, h.r4, h.hg, by omega, by omega, by omega, by omega, by omega⟩
theorem TkS.set4 {w0 g A l c p h2 h3 q1 A2 A3 A4 c2 c3 c4 xs ss hs ks b2 b3 b4 lo1 hi1 lo2 hi2 lo3 hi3 lo4 hi4 W B LO HI zs} (h : TkS w0 g A l c p h2 h3 q1 A2 A3 A4 c2 c3 c4 xs ss hs ks b2 b3 b4 lo1 hi1 lo2 hi2 lo3 hi3 lo4 hi4 W) (hn : OwnR LO HI W B (some ⟨B, 0, none⟩) 2 2 zs) (h0 : h3 < LO ∧ hi1 ≤ LO ∧ hi4 ≤ LO ∧ HI ≤ W.heap.size ∧ (HI ≤ lo2 ∨ hi2 ≤ LO) ∧ (HI ≤ lo3 ∨ hi3 ≤ LO)) (hr : (gr zs 0).length = 2) : TkS w0 g A l c p h2 h3 q1 A2 A3 (some ⟨B, 0, none⟩) c2 c3 2 xs ss hs zs b2 b3 B lo1 hi1 lo2 hi2 lo3 hi3 LO HI (W.setCell ⟨h3, 3, none⟩ (.slice (some ⟨B, 0, none⟩) 2 2)) := by
  have hg := h.hg
  have a := h.a
  have f := h.f
  have d := h.d
  have d4 := h.d4
  have m := h.m
  have e : ∀ x, x ≠ h3 → (W.setCell ⟨h3, 3, none⟩ (.slice (some ⟨B, 0, none⟩) 2 2)).heap[x]? = W.heap[x]? := fun x hx => Below.heap_setCell _ _ _ _ hx
  have hs_ : (W.setCell ⟨h3, 3, none⟩ (.slice (some ⟨B, 0, none⟩) 2 2)).heap.size = W.heap.size := by simp
  have O1 := h.o1.ne (W' := W.setCell ⟨h3, 3, none⟩ (.slice (some ⟨B, 0, none⟩) 2 2)) fun x h1 h2 _ => e x (by omega)
  have O2 := h.o2.of_blocks (w' := W.setCell ⟨h3, 3, none⟩ (.slice (some ⟨B, 0, none⟩) 2 2)) fun x h1 h2 _ => e x (by omega)
  have O3 := h.o3.of_blocks (w' := W.setCell ⟨h3, 3, none⟩ (.slice (some ⟨B, 0, none⟩) 2 2)) fun x h1 h2 _ => e x (by omega)
  have O4 := h.o4.of_blocks (w' := W.setCell ⟨h3, 3, none⟩ (.slice (some ⟨B, 0, none⟩) 2 2)) fun x h1 h2 _ => e x (by omega)
  have ON := hn.of_blocks (w' := W.setCell ⟨h3, 3, none⟩ (.slice (some ⟨B, 0, none⟩) 2 2)) fun x h1 h2 _ => e x (by omega)
  exact ⟨⟨(e _ (by omega)).trans h.rd.box, h.rd.bytes, h.rd.below.setCell (by show w0.heap.size ≤ h3; have := h.rd.lt; omega) _, h.rd.lt, h.rd.small⟩, (e _ (by omega)).trans h.k2, blk_set h.box 3 _, O1, O2, O3, ON, hr, h.hg, by omega, by omega, by omega, by omega, by omega⟩
theorem TkS.setW {w0 g A l c p h2 h3 q1 A2 A3 A4 c2 c3 c4 xs ss hs ks b2 b3 b4 lo1 hi1 lo2 hi2 lo3 hi3 lo4 hi4 W} (h : TkS w0 g A l c p h2 h3 q1 A2 A3 A4 c2 c3 c4 xs ss hs ks b2 b3 b4 lo1 hi1 lo2 hi2 lo3 hi3 lo4 hi4 W) : W.cell? ⟨q1, 0, none⟩ = some (.int .i64 (gi xs 0)) ∧ W.frozen? ⟨q1, 0, none⟩ = false ∧ TkS w0 g A l c p h2 h3 q1 A2 A3 A4 c2 c3 c4 (xs.set 0 0) ss hs ks b2 b3 b4 lo1 hi1 lo2 hi2 lo3 hi3 lo4 hi4 (W.setCell ⟨q1, 0, none⟩ (.int .i64 0)) := by
  have hg := h.hg
  have a := h.a
  have f := h.f
  have d := h.d
  have d4 := h.d4
  have m := h.m
  obtain ⟨o', e', l1, l2, hf⟩ := h.o1.own (by omega)
  injection e' with e'
  injection e' with _ e' _
  subst e'
  obtain ⟨b', o', e', hc⟩ := h.o1.ints.at_ (by omega)
  injection e' with e'
  injection e' with e1 e2 _
  subst e1
  subst e2
  have c0 := hc 0 (by omega)
  have f0 := hf 0 (by omega)
  simp only [Nat.add_zero] at c0 f0
  have e : ∀ x, x ≠ q1 → (W.setCell ⟨q1, 0, none⟩ (.int .i64 0)).heap[x]? = W.heap[x]? := fun x hx => Below.heap_setCell _ _ _ _ hx
  have hs_ : (W.setCell ⟨q1, 0, none⟩ (.int .i64 0)).heap.size = W.heap.size := by simp
  have O1 := h.o1.set (i := 0) (by omega) (v := 0) (by omega)
  simp only [Nat.add_zero] at O1
  exact ⟨c0, f0, ⟨(e _ (by omega)).trans h.rd.box, h.rd.bytes, h.rd.below.setCell (by show w0.heap.size ≤ q1; have := h.rd.lt; omega) _, h.rd.lt, h.rd.small⟩, (e _ (by omega)).trans h.k2, (e _ (by omega)).trans h.box, O1,
    h.o2.of_blocks (w' := W.setCell ⟨q1, 0, none⟩ (.int .i64 0)) fun x h1 h2 _ => e x (by omega), h.o3.of_blocks (w' := W.setCell ⟨q1, 0, none⟩ (.int .i64 0)) fun x h1 h2 _ => e x (by omega), h.o4.of_blocks (w' := W.setCell ⟨q1, 0, none⟩ (.int .i64 0)) fun x h1 h2 _ => e x (by omega), h.r4, h.hg, h.a, h.f, h.d, h.d4, by omega⟩
theorem TkS.setC {w0 g A l c p h2 h3 q1 A2 A3 A4 c2 c3 c4 xs ss hs ks b2 b3 b4 lo1 hi1 lo2 hi2 lo3 hi3 lo4 hi4 W} (h : TkS w0 g A l c p h2 h3 q1 A2 A3 A4 c2 c3 c4 xs ss hs ks b2 b3 b4 lo1 hi1 lo2 hi2 lo3 hi3 lo4 hi4 W) : ∃ o gR oR cc v, A4 = some ⟨b4, o, none⟩ ∧ W.cell? ⟨b4, o, none⟩ = some (.slice (some ⟨gR, oR, none⟩) 2 cc) ∧ W.cell? ⟨gR, oR, none⟩ = some v ∧ W.frozen? ⟨gR, oR, none⟩ = false ∧
    TkS w0 g A l c p h2 h3 q1 A2 A3 A4 c2 c3 c4 xs ss hs (ks.set 0 ((gr ks 0).set 0 (-1))) b2 b3 b4 lo1 hi1 lo2 hi2 lo3 hi3 lo4 hi4 (W.setCell ⟨gR, oR, none⟩ (.int .i64 (-1))) := by
  have hg := h.hg
  have a := h.a
  have f := h.f
  have d := h.d
  have d4 := h.d4
  have m := h.m
  have hr4 := h.r4
  have hl4 := h.o4.len
  obtain ⟨o, gR, R, cc, rfl, c1, hI, hset⟩ := h.o4.at_row (i := 0) (by omega)
  rw [hr4] at c1 hI
  obtain ⟨oR, rfl, l1, l2, hf⟩ := hI.own (by omega)
  obtain ⟨b', o', e', hc⟩ := hI.ints.at_ (by omega)
  injection e' with e'
  injection e' with e1 e2 _
  subst e1
  subst e2
  have c0 := hc 0 (by omega)
  have f0 := hf 0 (by omega)
  simp only [Nat.add_zero] at c0 f0 c1
  have e : ∀ x, x ≠ gR → (W.setCell ⟨gR, oR, none⟩ (.int .i64 (-1))).heap[x]? = W.heap[x]? := fun x hx => Below.heap_setCell _ _ _ _ hx
  have hs_ : (W.setCell ⟨gR, oR, none⟩ (.int .i64 (-1))).heap.size = W.heap.size := by simp
  have OI := hI.set (i := 0) (by omega) (v := -1) (by omega)
  simp only [Nat.add_zero] at OI
  have hone := (One.refl gR W).set oR (.int .i64 (-1))
  obtain ⟨O4, _⟩ := hset _ ((gr ks 0).set 0 (-1)) (by simp) (by rw [hr4]; exact OI) (fun h0 => absurd h0 (by omega)) hone
  have r4' : (gr (ks.set 0 ((gr ks 0).set 0 (-1))) 0).length = 2 := by rw [gr_set_eq (by omega), List.length_set]; exact hr4
  exact ⟨o, gR, oR, cc, _, rfl, c1, c0, f0, ⟨(e _ (by omega)).trans h.rd.box, h.rd.bytes, h.rd.below.setCell (by show w0.heap.size ≤ gR; have := h.rd.lt; omega) _, h.rd.lt, h.rd.small⟩, (e _ (by omega)).trans h.k2, (e _ (by omega)).trans h.box,
    h.o1.ne (W' := W.setCell ⟨gR, oR, none⟩ (.int .i64 (-1))) fun x h1 h2 _ => e x (by omega), h.o2.of_blocks (w' := W.setCell ⟨gR, oR, none⟩ (.int .i64 (-1))) fun x h1 h2 _ => e x (by omega), h.o3.of_blocks (w' := W.setCell ⟨gR, oR, none⟩ (.int .i64 (-1))) fun x h1 h2 _ => e x (by omega), O4, r4', h.hg, h.a, h.f, h.d, h.d4, by omega⟩
theorem TkS.fin {w0 g A l c p h2 h3 q1 A2 A3 A4 c2 c3 c4 xs ss hs ks b2 b3 b4 lo1 hi1 lo2 hi2 lo3 hi3 lo4 hi4 W} (h : TkS w0 g A l c p h2 h3 q1 A2 A3 A4 c2 c3 c4 xs ss hs ks b2 b3 b4 lo1 hi1 lo2 hi2 lo3 hi3 lo4 hi4 W) (v0 v1 v2 v3 : Value) {WE : World} (hWE : WE = (((W.setCell ⟨h2, 0, none⟩ v0).setCell ⟨h2, 1, none⟩ v1).setCell ⟨h2, 2, none⟩ v2).setCell ⟨h2, 3, none⟩ v3) :
    Blk WE h2 26 #[v0, v1, v2, v3] ∧ OwnI lo1 hi1 WE q1 (some ⟨q1, 0, none⟩) 2 2 xs ∧ OwnR lo2 hi2 WE b2 A2 2 c2 ss ∧ OwnR lo3 hi3 WE b3 A3 2 c3 hs ∧ OwnR lo4 hi4 WE b4 A4 2 c4 ks ∧ Rdr w0 WE g A l c p := by
  subst hWE
  have hg := h.hg
  have a := h.a
  have e : ∀ x, x ≠ h2 → ((((W.setCell ⟨h2, 0, none⟩ v0).setCell ⟨h2, 1, none⟩ v1).setCell ⟨h2, 2, none⟩ v2).setCell ⟨h2, 3, none⟩ v3).heap[x]? = W.heap[x]? := fun x hx =>
    (Below.heap_setCell _ _ _ _ hx).trans ((Below.heap_setCell _ _ _ _ hx).trans ((Below.heap_setCell _ _ _ _ hx).trans (Below.heap_setCell _ _ _ _ hx)))
  have l : w0.heap.size ≤ h2 := by have := h.rd.lt; omega
  exact ⟨blk_set (blk_set (blk_set (blk_set h.k2 0 v0) 1 v1) 2 v2) 3 v3, h.o1.ne fun x h1 h2 _ => e x (by omega), h.o2.of_blocks fun x h1 h2 _ => e x (by omega), h.o3.of_blocks fun x h1 h2 _ => e x (by omega), h.o4.of_blocks fun x h1 h2 _ => e x (by omega),
    ⟨(e _ (by omega)).trans h.rd.box, h.rd.bytes, (((h.rd.below.setCell (p := ⟨h2, 0, none⟩) l v0).setCell (p := ⟨h2, 1, none⟩) l v1).setCell (p := ⟨h2, 2, none⟩) l v2).setCell (p := ⟨h2, 3, none⟩) l v3, h.rd.lt, h.rd.small⟩⟩
/-- A talk that a reader drew. -/
def SomeTk (w0 w : World) (g : Nat) (A : Option Addr) (l c p : Nat) (e : Ending) (w' : World) : Prop :=
  ∃ A1 c1 A2 c2 A3 c3 A4 c4 xs ss hs ks b1 b2 b3 b4 p' lo1 hi1 lo2 hi2 lo3 hi3 lo4 hi4, e = .returned (.agg #[.slice A1 2 c1, .slice A2 2 c2, .slice A3 2 c3, .slice A4 2 c4]) ∧ OwnI lo1 hi1 w' b1 A1 2 c1 xs ∧ OwnR lo2 hi2 w' b2 A2 2 c2 ss ∧ OwnR lo3 hi3 w' b3 A3 2 c3 hs ∧ OwnR lo4 hi4 w' b4 A4 2 c4 ks ∧
    ((w.heap.size < lo1 ∧ w.heap.size < lo2) ∧ w.heap.size < lo3 ∧ w.heap.size < lo4) ∧ Rdr w0 w' g A l c p' ∧ p' ≤ p + 80
set_option maxRecDepth 100000 in
set_option maxHeartbeats 6400000 in
theorem someTalk_any (w0 w : World) (g : Nat) (A : Option Addr) (l c p : Nat) (h : Rdr w0 w g A l c p) (hp : p < 800000000) :
    Calls Try.prog 43 #[.pointer (some ⟨g, 0, none⟩)] w (SomeTk w0 w g A l c p) := by
  have hgw := blk_lt h.box
  have hal := below_alloc w (.cells #[.slice none 0 0, .slice none 0 0, .slice none 0 0, .slice none 0 0] 26)
  have HR0 := Lib.hid (h.below_ hal)
  have K2 := Lib.hid (blk_new w 26 #[.slice none 0 0, .slice none 0 0, .slice none 0 0, .slice none 0 0])
  have hz0 : w.heap.size < (w.alloc (.cells #[.slice none 0 0, .slice none 0 0, .slice none 0 0, .slice none 0 0] 26)).heap.size := by simp
  have HZ := Lib.hid hz0
  clear h hal hz0
  go_enter Try.func43, Try.ntmps43
  go_wp2_with fail
  generalize w.alloc (.cells #[.slice none 0 0, .slice none 0 0, .slice none 0 0, .slice none 0 0] 26) = W0 at *
  have HC := Lib.hid (pick_any w0 W0 g A l c p 3 HR0.out (by omega))
  go_wp2_with fail
  refine HC.out.mono ?_
  rintro e w1 ⟨k, rfl, hk1, _, hr, z, hw⟩
  have hone := Rdr.one (g := g) W0 (.int .i64 (p + 1 : Nat)) z
  rw [← hw] at hone
  have hgr := hone.grown
  obtain ⟨k0, k1⟩ := hk1 (by omega)
  clear hone hw hk1 HC
  have HG := Lib.hid hgr
  have HR1 := Lib.hid hr
  clear hgr hr HR0
  have HC := Lib.hid (pick_any w0 w1 g A l c (p + 1) 3 HR1.out (by omega))
  go_wp2_with fail
  refine HC.out.mono ?_
  rintro e w2 ⟨j, rfl, hk1, _, hr, z, hw⟩
  have hone := Rdr.one (g := g) w1 (.int .i64 ((p + 1) + 1 : Nat)) z
  rw [← hw] at hone
  have hgr := hone.grown
  obtain ⟨j0, j1⟩ := hk1 (by omega)
  clear hone hw hk1 HC
  have HG2 := Lib.hid (grown_trans HG.out hgr)
  have HR2 := Lib.hid (hr.below_ (below_alloc w2 (.cells #[.int .i64 (1 + k), .int .i64 (1 + j)] 3)))
  have K1 := Lib.hid (blk_new w2 3 #[.int .i64 (1 + k), .int .i64 (1 + j)])
  have HQ := Lib.hid (show W0.heap.size ≤ w2.heap.size ∧ w2.heap.size < (w2.alloc (.cells #[.int .i64 (1 + k), .int .i64 (1 + j)] 3)).heap.size from ⟨HG2.out.size, by simp⟩)
  have K2a := Lib.hid (show Blk (w2.alloc (.cells #[.int .i64 (1 + k), .int .i64 (1 + j)] 3)) w.heap.size 26 #[.slice none 0 0, .slice none 0 0, .slice none 0 0, .slice none 0 0] from blk_old ((HG2.out.block _ (blk_lt K2.out) (fun e => by injection e; omega)).trans K2.out) _)
  clear hgr hr HG HR1 K2 HG2
  have hw1 : IntKind.i64.wrap (1 + k) = 1 + k := wrapIn (by omega)
  have hw2 : IntKind.i64.wrap (1 + j) = 1 + j := wrapIn (by omega)
  have HT := Lib.hid (tableOf_any w0 (w2.alloc (.cells #[.int .i64 (1 + k), .int .i64 (1 + j)] 3)) g A l c (p + 1 + 1) 2 2 (-3) 3 HR2.out (by omega) (by omega) (by omega) (by omega) (by omega) (by omega))
  go_wp2_with fail
  clear hw1 hw2
  generalize w2.alloc (.cells #[.int .i64 (1 + k), .int .i64 (1 + j)] 3) = W3 at *
  generalize w2.heap.size = q1 at *
  refine HT.out.mono ?_
  rintro e w3 ⟨A2, c2, vs, ss, p3, rfl, hl2, hin2, ht2, hp3⟩
  obtain ⟨A', n', c', b2, e, hn', O2⟩ := ht2.bo.owns (by omega)
  injection e with e1 e2 e3
  subst e1
  subst e2
  subst e3
  have HO2 := Lib.hid O2
  have HG3 := Lib.hid ht2.up
  have HR3 := Lib.hid ht2.rd
  have HL2 := Lib.hid hl2
  clear ht2 O2 HR2 HT hl2 hn' hin2
  have HT := Lib.hid (tableOf_any w0 w3 g A l c p3 2 2 (-3) 3 HR3.out (by omega) (by omega) (by omega) (by omega) (by omega) (by omega))
  go_wp2_with fail
  refine HT.out.mono ?_
  rintro e w4 ⟨A3, c3, vs, hs, p4, rfl, hl3, hin3, ht3, hp4⟩
  obtain ⟨A', n', c', b3, e, hn', O3⟩ := ht3.bo.owns (by omega)
  injection e with e1 e2 e3
  subst e1
  subst e2
  subst e3
  have HO3 := Lib.hid O3
  have HG4 := Lib.hid ht3.up
  have HR4 := Lib.hid ht3.rd
  have HL3 := Lib.hid hl3
  clear ht3 O3 HT hl3 hn' hin3
  have HC := Lib.hid (one_lit w0 w4 _ g A l c p4 w4.heap.size 3 [3, 1, 5] HR4.out (by omega) (below_alloc w4 (.cells #[iv 3, iv 1, iv 5] 3)) (Nat.le_refl _) (Ints.lit w4 [3, 1, 5] (by decide) (by decide)) (by omega))
  go_wp2_with fail
  refine HC.out.mono ?_
  rintro e w5 ⟨x, rfl, hx, hr, hgr⟩
  have hx1 : 1 ≤ x ∧ x ≤ 5 := by simp at hx; omega
  have HG5 := Lib.hid hgr
  have HR5 := Lib.hid hr
  clear hx hr hgr HC HR4
  have HT := Lib.hid (tableOf_any w0 w5 g A l c (p4 + 1) 2 2 0 x HR5.out (by omega) (by omega) (by omega) (by omega) (by omega) (by omega))
  go_wp2_with fail
  refine HT.out.mono ?_
  rintro e w6 ⟨A4, c4, vs, ks, p6, rfl, hl4, hin4, ht4, hp6⟩
  obtain ⟨A', n', c', b4, e, hn', O4⟩ := ht4.bo.owns (by omega)
  injection e with e1 e2 e3
  subst e1
  subst e2
  subst e3
  have HO4 := Lib.hid O4
  have HG6 := Lib.hid ht4.up
  have HR6 := Lib.hid ht4.rd
  have HL4 := Lib.hid (show ks.length = 2 ∧ (gr ks 0).length = 2 from ⟨hl4, (hin4 _ (gr_mem (by omega))).1⟩)
  have HP6 := Lib.hid hp6
  clear ht4 O4 HT hl4 hn' hin4 HR5
  have HS := Lib.hid (show TkS w0 g A l c p6 w.heap.size w6.heap.size q1 A2 A3 A4 c2 c3 c4 [1 + k, 1 + j] ss hs ks b2 b3 b4 q1 (q1 + 1) W3.heap.size w3.heap.size w3.heap.size w4.heap.size w5.heap.size w6.heap.size (w6.alloc (.cells #[.slice (some ⟨q1, 0, none⟩) 2 2, .slice A2 2 c2, .slice A3 2 c3, .slice A4 2 c4] 26)) from by
    have g46 := grown_trans HG5.out HG6.out
    have g36 := grown_trans HG4.out g46
    have g06 := grown_trans HG3.out g36
    have z1 := HG3.out.size
    have z2 := HG4.out.size
    have z3 := HG5.out.size
    have z4 := HG6.out.size
    have zq := HQ.out
    have zz := HZ.out
    have e : ∀ (a : World), a.grownBy w6 (some g) → ∀ x, x ≠ g → x < a.heap.size → (w6.alloc (.cells #[.slice (some ⟨q1, 0, none⟩) 2 2, .slice A2 2 c2, .slice A3 2 c3, .slice A4 2 c4] 26)).heap[x]? = a.heap[x]? := fun a ha x hx hl =>
      (Below.heap_alloc _ _ _ (by have := ha.size; omega)).trans (ha.block x hl (fun e => hx (by injection e)))
    have k1' : Blk (w6.alloc (.cells #[.slice (some ⟨q1, 0, none⟩) 2 2, .slice A2 2 c2, .slice A3 2 c3, .slice A4 2 c4] 26)) q1 3 #[.int .i64 (1 + k), .int .i64 (1 + j)] := (e _ g06 _ (by omega) (by omega)).trans K1.out
    refine ⟨HR6.out.below_ (below_alloc _ _), (e _ g06 _ (by omega) (by omega)).trans K2a.out, blk_new _ _ _, ⟨⟨rfl, Nat.le_refl _, by omega, fun y hy => by simp at hy; omega, fun _ => ⟨q1, 0, rfl, fun i hi => ?_⟩⟩, fun _ => ⟨0, rfl, Nat.le_refl _, Nat.lt_succ_self _, fun i _ => blk_frozen k1' _⟩⟩,
      HO2.out.of_blocks fun x h1 _ h3 => e _ g36 x (by omega) h3, HO3.out.of_blocks fun x h1 _ h3 => e _ g46 x (by omega) h3, HO4.out.of_blocks fun x h1 _ h3 => (Below.heap_alloc _ _ _ (by omega)), HL4.out.2, ⟨hgw, by omega⟩, by omega, by omega, by omega, by omega, by rw [World.size_alloc]; omega⟩
    have : i = 0 ∨ i = 1 := by omega
    rcases this with rfl | rfl
    · exact blk_cell k1' rfl
    · exact blk_cell k1' rfl)
  clear HR6 HO2 HO3 HO4 HG3 HG4 HG5 HG6 HL2 HL3 HL4 K1 K2a HQ HR3
  generalize [1 + k, 1 + j] = xs at *
  have HC := Lib.hid (pick_any w0 _ g A l c p6 4 HS.out.rd (by omega))
  go_wp2_with fail
  generalize w6.alloc (.cells #[.slice (some ⟨q1, 0, none⟩) 2 2, .slice A2 2 c2, .slice A3 2 c3, .slice A4 2 c4] 26) = W6 at *
  generalize w6.heap.size = h3 at *
  generalize W3.heap.size = lo2 at *
  generalize w3.heap.size = lo3 at *
  generalize w4.heap.size = hi3 at *
  generalize w5.heap.size = lo4 at *
  generalize q1 + 1 = hi1 at *
  refine HC.out.mono ?_
  rintro e w7 ⟨y, rfl, hk1, _, hr, z, hw⟩
  have hone := Rdr.one (g := g) W6 (.int .i64 (p6 + 1 : Nat)) z
  rw [← hw] at hone
  have HS7 := Lib.hid (HS.out.up hone.grown hr)
  obtain ⟨y0, y1⟩ := hk1 (by omega)
  have HPP := Lib.hid (show p6 ≤ p + 60 by have := HP6.out; omega)
  clear hone hw hk1 hr HC HS HP6
  by_cases hy1 : y = 1
  · subst hy1
    have hb := below_up (below_up (below_alloc w7 (.cells #[.int .i64 0, .int .i64 0] 3)) (below_alloc (w7.alloc (.cells #[.int .i64 0, .int .i64 0] 3)) (.cells #[.int .i64 0, .int .i64 0] 3))) (below_alloc ((w7.alloc (.cells #[.int .i64 0, .int .i64 0] 3)).alloc (.cells #[.int .i64 0, .int .i64 0] 3)) (.cells #[.slice (some ⟨w7.heap.size, 0, none⟩) 2 2, .slice (some ⟨w7.heap.size + 1, 0, none⟩) 2 2] 23))
    have a1 := blk_new w7 3 #[.int .i64 0, .int .i64 0]
    have a2 := blk_new (w7.alloc (.cells #[.int .i64 0, .int .i64 0] 3)) 3 #[.int .i64 0, .int .i64 0]
    have a3 := blk_new ((w7.alloc (.cells #[.int .i64 0, .int .i64 0] 3)).alloc (.cells #[.int .i64 0, .int .i64 0] 3)) 23 #[.slice (some ⟨w7.heap.size, 0, none⟩) 2 2, .slice (some ⟨w7.heap.size + 1, 0, none⟩) 2 2]
    simp only [World.size_alloc] at a2 a3
    have HSx := Lib.hid (HS7.out.below hb)
    have hm := HS7.out.m
    have qf := HSx.out.c3
    have ff := blk_frozen HSx.out.box 3
    have hO := own_two (lo := w7.heap.size) (hi := w7.heap.size + 3) 0 0 0 0 (blk_old (blk_old a1 _) _) (blk_old a2 _) a3 ⟨by omega, by omega⟩ ⟨by omega, by omega⟩ ⟨by omega, by omega⟩ ⟨by omega, by omega⟩ (by omega) (by omega) (by omega) (by omega) (by omega) (by omega)
    have HS8 := Lib.hid (HSx.out.set4 hO (by simp only [World.size_alloc]; omega) rfl)
    clear hb a1 a2 a3 hm hO HSx HS7
    have HC := Lib.hid HS8.out.rd
    go_wp2_with fail
    clear qf ff
    generalize (((w7.alloc (.cells #[.int .i64 0, .int .i64 0] 3)).alloc (.cells #[.int .i64 0, .int .i64 0] 3)).alloc (.cells #[.slice (some ⟨w7.heap.size, 0, none⟩) 2 2, .slice (some ⟨w7.heap.size + 1, 0, none⟩) 2 2] 23)).setCell ⟨h3, 3, none⟩ (.slice (some ⟨w7.heap.size + 1 + 1, 0, none⟩) 2 2) = W8 at *
    clear HC
    have HC := Lib.hid (pick_any w0 W8 g A l c (p6 + 1) 40 HS8.out.rd (by have := HPP.out; omega))
    go_wp2_with fail
    refine HC.out.mono ?_
    rintro e w20 ⟨v, rfl, hk1, _, hr, z, hw⟩
    have hone := Rdr.one (g := g) W8 (.int .i64 ((p6 + 1) + 1 : Nat)) z
    rw [← hw] at hone
    have HSa := Lib.hid (HS8.out.up hone.grown hr)
    obtain ⟨v0, v1⟩ := hk1 (by omega)
    clear hone hw hk1 hr HC HS8
    by_cases hv0 : v = 0
    · subst hv0
      have q0 := HSa.out.c0
      obtain ⟨c0, f0, hS⟩ := HSa.out.setW
      have HSb := Lib.hid hS
      clear hS
      go_upto_region 13 with (fail)
      clear q0 c0 f0
      generalize w20.setCell ⟨q1, 0, none⟩ (.int .i64 0) = w21 at *
      have q0 := HSb.out.c0
      have q1_ := HSb.out.c1
      have q2 := HSb.out.c2
      have q3 := HSb.out.c3
      have r0 := blk_cell HSb.out.k2 (i := 0) rfl
      have r1 := blk_cell HSb.out.k2 (i := 1) rfl
      have r2 := blk_cell HSb.out.k2 (i := 2) rfl
      have r3 := blk_cell HSb.out.k2 (i := 3) rfl
      have g0 := blk_frozen HSb.out.k2 0
      have g1 := blk_frozen HSb.out.k2 1
      have g2_ := blk_frozen HSb.out.k2 2
      have g3 := blk_frozen HSb.out.k2 3
      go_wp2
      clear q0 q1_ q2 q3 r0 r1 r2 r3 g0 g1 g2_ g3
      have HF := Lib.hid (HSb.out.fin (.slice (some ⟨q1, 0, none⟩) 2 2) (.slice A2 2 c2) (.slice A3 2 c3) (.slice (some ⟨w7.heap.size + 1 + 1, 0, none⟩) 2 2) rfl)
      have HA := Lib.hid HSb.out.a
      clear HSb
      generalize (((w21.setCell ⟨w.heap.size, 0, none⟩ (.slice (some ⟨q1, 0, none⟩) 2 2)).setCell ⟨w.heap.size, 1, none⟩ (.slice A2 2 c2)).setCell ⟨w.heap.size, 2, none⟩ (.slice A3 2 c3)).setCell ⟨w.heap.size, 3, none⟩ (.slice (some ⟨w7.heap.size + 1 + 1, 0, none⟩) 2 2) = WE at *
      have k0 := blk_cell HF.out.1 (i := 0) (v := .slice (some ⟨q1, 0, none⟩) 2 2) rfl
      have k1 := blk_cell HF.out.1 (i := 1) (v := .slice A2 2 c2) rfl
      have k2 := blk_cell HF.out.1 (i := 2) (v := .slice A3 2 c3) rfl
      have k3 := blk_cell HF.out.1 (i := 3) (v := .slice (some ⟨w7.heap.size + 1 + 1, 0, none⟩) 2 2) rfl
      refine bodyPost_ret (v := .agg #[.slice (some ⟨q1, 0, none⟩) 2 2, .slice A2 2 c2, .slice A3 2 c3, .slice (some ⟨w7.heap.size + 1 + 1, 0, none⟩) 2 2]) (by simp [results, Try.results43, go_sem, k0, k1, k2, k3]) rfl ?_
      exact ⟨_, _, _, _, _, _, _, _, _, _, _, _, _, _, _, _, _, _, _, _, _, _, _, _, _, rfl, HF.out.2.1, HF.out.2.2.1, HF.out.2.2.2.1, HF.out.2.2.2.2.1, HA.out, HF.out.2.2.2.2.2, by have := HPP.out; omega⟩
    by_cases hv1 : v = 1
    · subst hv1
      obtain ⟨o4, gR, oR, cc, vv, eA, c1, c0, f0, hS⟩ := HSa.out.setC
      have q3 := HSa.out.c3
      have HSb := Lib.hid hS
      clear hS
      injection eA with eA
      injection eA with _ eA _
      subst eA
      go_upto_region 13 with (fail)
      clear q3 c1 c0 f0
      generalize w20.setCell ⟨gR, oR, none⟩ (.int .i64 (-1)) = w21 at *
      have q0 := HSb.out.c0
      have q1_ := HSb.out.c1
      have q2 := HSb.out.c2
      have q3 := HSb.out.c3
      have r0 := blk_cell HSb.out.k2 (i := 0) rfl
      have r1 := blk_cell HSb.out.k2 (i := 1) rfl
      have r2 := blk_cell HSb.out.k2 (i := 2) rfl
      have r3 := blk_cell HSb.out.k2 (i := 3) rfl
      have g0 := blk_frozen HSb.out.k2 0
      have g1 := blk_frozen HSb.out.k2 1
      have g2_ := blk_frozen HSb.out.k2 2
      have g3 := blk_frozen HSb.out.k2 3
      go_wp2
      clear q0 q1_ q2 q3 r0 r1 r2 r3 g0 g1 g2_ g3
      have HF := Lib.hid (HSb.out.fin (.slice (some ⟨q1, 0, none⟩) 2 2) (.slice A2 2 c2) (.slice A3 2 c3) (.slice (some ⟨w7.heap.size + 1 + 1, 0, none⟩) 2 2) rfl)
      have HA := Lib.hid HSb.out.a
      clear HSb
      generalize (((w21.setCell ⟨w.heap.size, 0, none⟩ (.slice (some ⟨q1, 0, none⟩) 2 2)).setCell ⟨w.heap.size, 1, none⟩ (.slice A2 2 c2)).setCell ⟨w.heap.size, 2, none⟩ (.slice A3 2 c3)).setCell ⟨w.heap.size, 3, none⟩ (.slice (some ⟨w7.heap.size + 1 + 1, 0, none⟩) 2 2) = WE at *
      have k0 := blk_cell HF.out.1 (i := 0) (v := .slice (some ⟨q1, 0, none⟩) 2 2) rfl
      have k1 := blk_cell HF.out.1 (i := 1) (v := .slice A2 2 c2) rfl
      have k2 := blk_cell HF.out.1 (i := 2) (v := .slice A3 2 c3) rfl
      have k3 := blk_cell HF.out.1 (i := 3) (v := .slice (some ⟨w7.heap.size + 1 + 1, 0, none⟩) 2 2) rfl
      refine bodyPost_ret (v := .agg #[.slice (some ⟨q1, 0, none⟩) 2 2, .slice A2 2 c2, .slice A3 2 c3, .slice (some ⟨w7.heap.size + 1 + 1, 0, none⟩) 2 2]) (by simp [results, Try.results43, go_sem, k0, k1, k2, k3]) rfl ?_
      exact ⟨_, _, _, _, _, _, _, _, _, _, _, _, _, _, _, _, _, _, _, _, _, _, _, _, _, rfl, HF.out.2.1, HF.out.2.2.1, HF.out.2.2.2.1, HF.out.2.2.2.2.1, HA.out, HF.out.2.2.2.2.2, by have := HPP.out; omega⟩
    have hn0 : (v == 0) = false := by simp [hv0]
    have hn1 : (v == 1) = false := by simp [hv1]
    clear hv0 hv1
    have HSb := HSa
    obtain ⟨w21, hw21⟩ : ∃ W, W = w20 := ⟨_, rfl⟩
    subst hw21
    have q0 := HSb.out.c0
    have q1_ := HSb.out.c1
    have q2 := HSb.out.c2
    have q3 := HSb.out.c3
    have r0 := blk_cell HSb.out.k2 (i := 0) rfl
    have r1 := blk_cell HSb.out.k2 (i := 1) rfl
    have r2 := blk_cell HSb.out.k2 (i := 2) rfl
    have r3 := blk_cell HSb.out.k2 (i := 3) rfl
    have g0 := blk_frozen HSb.out.k2 0
    have g1 := blk_frozen HSb.out.k2 1
    have g2_ := blk_frozen HSb.out.k2 2
    have g3 := blk_frozen HSb.out.k2 3
    go_wp2
    clear q0 q1_ q2 q3 r0 r1 r2 r3 g0 g1 g2_ g3
    have HF := Lib.hid (HSb.out.fin (.slice (some ⟨q1, 0, none⟩) 2 2) (.slice A2 2 c2) (.slice A3 2 c3) (.slice (some ⟨w7.heap.size + 1 + 1, 0, none⟩) 2 2) rfl)
    have HA := Lib.hid HSb.out.a
    clear HSb
    generalize (((w21.setCell ⟨w.heap.size, 0, none⟩ (.slice (some ⟨q1, 0, none⟩) 2 2)).setCell ⟨w.heap.size, 1, none⟩ (.slice A2 2 c2)).setCell ⟨w.heap.size, 2, none⟩ (.slice A3 2 c3)).setCell ⟨w.heap.size, 3, none⟩ (.slice (some ⟨w7.heap.size + 1 + 1, 0, none⟩) 2 2) = WE at *
    have k0 := blk_cell HF.out.1 (i := 0) (v := .slice (some ⟨q1, 0, none⟩) 2 2) rfl
    have k1 := blk_cell HF.out.1 (i := 1) (v := .slice A2 2 c2) rfl
    have k2 := blk_cell HF.out.1 (i := 2) (v := .slice A3 2 c3) rfl
    have k3 := blk_cell HF.out.1 (i := 3) (v := .slice (some ⟨w7.heap.size + 1 + 1, 0, none⟩) 2 2) rfl
    refine bodyPost_ret (v := .agg #[.slice (some ⟨q1, 0, none⟩) 2 2, .slice A2 2 c2, .slice A3 2 c3, .slice (some ⟨w7.heap.size + 1 + 1, 0, none⟩) 2 2]) (by simp [results, Try.results43, go_sem, k0, k1, k2, k3]) rfl ?_
    exact ⟨_, _, _, _, _, _, _, _, _, _, _, _, _, _, _, _, _, _, _, _, _, _, _, _, _, rfl, HF.out.2.1, HF.out.2.2.1, HF.out.2.2.2.1, HF.out.2.2.2.2.1, HA.out, HF.out.2.2.2.2.2, by have := HPP.out; omega⟩
  by_cases hy0 : y = 0
  rotate_left
  · have hn1 : (y == 1) = false := by simp [hy1]
    have hn0 : (y == 0) = false := by simp [hy0]
    clear hy0 hy1
    have HC := Lib.hid (pick_any w0 w7 g A l c (p6 + 1) 40 HS7.out.rd (by have := HPP.out; omega))
    go_wp2_with fail
    refine HC.out.mono ?_
    rintro e w20 ⟨v, rfl, hk1, _, hr, z, hw⟩
    have hone := Rdr.one (g := g) w7 (.int .i64 ((p6 + 1) + 1 : Nat)) z
    rw [← hw] at hone
    have HSa := Lib.hid (HS7.out.up hone.grown hr)
    obtain ⟨v0, v1⟩ := hk1 (by omega)
    clear hone hw hk1 hr HC HS7
    by_cases hv0 : v = 0
    · subst hv0
      have q0 := HSa.out.c0
      obtain ⟨c0, f0, hS⟩ := HSa.out.setW
      have HSb := Lib.hid hS
      clear hS
      go_upto_region 13 with (fail)
      clear q0 c0 f0
      generalize w20.setCell ⟨q1, 0, none⟩ (.int .i64 0) = w21 at *
      have q0 := HSb.out.c0
      have q1_ := HSb.out.c1
      have q2 := HSb.out.c2
      have q3 := HSb.out.c3
      have r0 := blk_cell HSb.out.k2 (i := 0) rfl
      have r1 := blk_cell HSb.out.k2 (i := 1) rfl
      have r2 := blk_cell HSb.out.k2 (i := 2) rfl
      have r3 := blk_cell HSb.out.k2 (i := 3) rfl
      have g0 := blk_frozen HSb.out.k2 0
      have g1 := blk_frozen HSb.out.k2 1
      have g2_ := blk_frozen HSb.out.k2 2
      have g3 := blk_frozen HSb.out.k2 3
      go_wp2
      clear q0 q1_ q2 q3 r0 r1 r2 r3 g0 g1 g2_ g3
      have HF := Lib.hid (HSb.out.fin (.slice (some ⟨q1, 0, none⟩) 2 2) (.slice A2 2 c2) (.slice A3 2 c3) (.slice A4 2 c4) rfl)
      have HA := Lib.hid HSb.out.a
      clear HSb
      generalize (((w21.setCell ⟨w.heap.size, 0, none⟩ (.slice (some ⟨q1, 0, none⟩) 2 2)).setCell ⟨w.heap.size, 1, none⟩ (.slice A2 2 c2)).setCell ⟨w.heap.size, 2, none⟩ (.slice A3 2 c3)).setCell ⟨w.heap.size, 3, none⟩ (.slice A4 2 c4) = WE at *
      have k0 := blk_cell HF.out.1 (i := 0) (v := .slice (some ⟨q1, 0, none⟩) 2 2) rfl
      have k1 := blk_cell HF.out.1 (i := 1) (v := .slice A2 2 c2) rfl
      have k2 := blk_cell HF.out.1 (i := 2) (v := .slice A3 2 c3) rfl
      have k3 := blk_cell HF.out.1 (i := 3) (v := .slice A4 2 c4) rfl
      refine bodyPost_ret (v := .agg #[.slice (some ⟨q1, 0, none⟩) 2 2, .slice A2 2 c2, .slice A3 2 c3, .slice A4 2 c4]) (by simp [results, Try.results43, go_sem, k0, k1, k2, k3]) rfl ?_
      exact ⟨_, _, _, _, _, _, _, _, _, _, _, _, _, _, _, _, _, _, _, _, _, _, _, _, _, rfl, HF.out.2.1, HF.out.2.2.1, HF.out.2.2.2.1, HF.out.2.2.2.2.1, HA.out, HF.out.2.2.2.2.2, by have := HPP.out; omega⟩
    by_cases hv1 : v = 1
    · subst hv1
      obtain ⟨o4, gR, oR, cc, vv, eA, c1, c0, f0, hS⟩ := HSa.out.setC
      have q3 := HSa.out.c3
      have HSb := Lib.hid hS
      clear hS
      subst eA
      go_upto_region 13 with (fail)
      clear q3 c1 c0 f0
      generalize w20.setCell ⟨gR, oR, none⟩ (.int .i64 (-1)) = w21 at *
      have q0 := HSb.out.c0
      have q1_ := HSb.out.c1
      have q2 := HSb.out.c2
      have q3 := HSb.out.c3
      have r0 := blk_cell HSb.out.k2 (i := 0) rfl
      have r1 := blk_cell HSb.out.k2 (i := 1) rfl
      have r2 := blk_cell HSb.out.k2 (i := 2) rfl
      have r3 := blk_cell HSb.out.k2 (i := 3) rfl
      have g0 := blk_frozen HSb.out.k2 0
      have g1 := blk_frozen HSb.out.k2 1
      have g2_ := blk_frozen HSb.out.k2 2
      have g3 := blk_frozen HSb.out.k2 3
      go_wp2
      clear q0 q1_ q2 q3 r0 r1 r2 r3 g0 g1 g2_ g3
      have HF := Lib.hid (HSb.out.fin (.slice (some ⟨q1, 0, none⟩) 2 2) (.slice A2 2 c2) (.slice A3 2 c3) (.slice (some ⟨b4, o4, none⟩) 2 c4) rfl)
      have HA := Lib.hid HSb.out.a
      clear HSb
      generalize (((w21.setCell ⟨w.heap.size, 0, none⟩ (.slice (some ⟨q1, 0, none⟩) 2 2)).setCell ⟨w.heap.size, 1, none⟩ (.slice A2 2 c2)).setCell ⟨w.heap.size, 2, none⟩ (.slice A3 2 c3)).setCell ⟨w.heap.size, 3, none⟩ (.slice (some ⟨b4, o4, none⟩) 2 c4) = WE at *
      have k0 := blk_cell HF.out.1 (i := 0) (v := .slice (some ⟨q1, 0, none⟩) 2 2) rfl
      have k1 := blk_cell HF.out.1 (i := 1) (v := .slice A2 2 c2) rfl
      have k2 := blk_cell HF.out.1 (i := 2) (v := .slice A3 2 c3) rfl
      have k3 := blk_cell HF.out.1 (i := 3) (v := .slice (some ⟨b4, o4, none⟩) 2 c4) rfl
      refine bodyPost_ret (v := .agg #[.slice (some ⟨q1, 0, none⟩) 2 2, .slice A2 2 c2, .slice A3 2 c3, .slice (some ⟨b4, o4, none⟩) 2 c4]) (by simp [results, Try.results43, go_sem, k0, k1, k2, k3]) rfl ?_
      exact ⟨_, _, _, _, _, _, _, _, _, _, _, _, _, _, _, _, _, _, _, _, _, _, _, _, _, rfl, HF.out.2.1, HF.out.2.2.1, HF.out.2.2.2.1, HF.out.2.2.2.2.1, HA.out, HF.out.2.2.2.2.2, by have := HPP.out; omega⟩
    have hn0 : (v == 0) = false := by simp [hv0]
    have hn1 : (v == 1) = false := by simp [hv1]
    clear hv0 hv1
    have HSb := HSa
    obtain ⟨w21, hw21⟩ : ∃ W, W = w20 := ⟨_, rfl⟩
    subst hw21
    have q0 := HSb.out.c0
    have q1_ := HSb.out.c1
    have q2 := HSb.out.c2
    have q3 := HSb.out.c3
    have r0 := blk_cell HSb.out.k2 (i := 0) rfl
    have r1 := blk_cell HSb.out.k2 (i := 1) rfl
    have r2 := blk_cell HSb.out.k2 (i := 2) rfl
    have r3 := blk_cell HSb.out.k2 (i := 3) rfl
    have g0 := blk_frozen HSb.out.k2 0
    have g1 := blk_frozen HSb.out.k2 1
    have g2_ := blk_frozen HSb.out.k2 2
    have g3 := blk_frozen HSb.out.k2 3
    go_wp2
    clear q0 q1_ q2 q3 r0 r1 r2 r3 g0 g1 g2_ g3
    have HF := Lib.hid (HSb.out.fin (.slice (some ⟨q1, 0, none⟩) 2 2) (.slice A2 2 c2) (.slice A3 2 c3) (.slice A4 2 c4) rfl)
    have HA := Lib.hid HSb.out.a
    clear HSb
    generalize (((w21.setCell ⟨w.heap.size, 0, none⟩ (.slice (some ⟨q1, 0, none⟩) 2 2)).setCell ⟨w.heap.size, 1, none⟩ (.slice A2 2 c2)).setCell ⟨w.heap.size, 2, none⟩ (.slice A3 2 c3)).setCell ⟨w.heap.size, 3, none⟩ (.slice A4 2 c4) = WE at *
    have k0 := blk_cell HF.out.1 (i := 0) (v := .slice (some ⟨q1, 0, none⟩) 2 2) rfl
    have k1 := blk_cell HF.out.1 (i := 1) (v := .slice A2 2 c2) rfl
    have k2 := blk_cell HF.out.1 (i := 2) (v := .slice A3 2 c3) rfl
    have k3 := blk_cell HF.out.1 (i := 3) (v := .slice A4 2 c4) rfl
    refine bodyPost_ret (v := .agg #[.slice (some ⟨q1, 0, none⟩) 2 2, .slice A2 2 c2, .slice A3 2 c3, .slice A4 2 c4]) (by simp [results, Try.results43, go_sem, k0, k1, k2, k3]) rfl ?_
    exact ⟨_, _, _, _, _, _, _, _, _, _, _, _, _, _, _, _, _, _, _, _, _, _, _, _, _, rfl, HF.out.2.1, HF.out.2.2.1, HF.out.2.2.2.1, HF.out.2.2.2.2.1, HA.out, HF.out.2.2.2.2.2, by have := HPP.out; omega⟩
  subst hy0
  clear hy1
  have hb := below_up (below_up (below_alloc w7 (.cells #[.int .i64 1, .int .i64 0] 3)) (below_alloc (w7.alloc (.cells #[.int .i64 1, .int .i64 0] 3)) (.cells #[.int .i64 0, .int .i64 1] 3))) (below_alloc ((w7.alloc (.cells #[.int .i64 1, .int .i64 0] 3)).alloc (.cells #[.int .i64 0, .int .i64 1] 3)) (.cells #[.slice (some ⟨w7.heap.size, 0, none⟩) 2 2, .slice (some ⟨w7.heap.size + 1, 0, none⟩) 2 2] 23))
  have a1 := blk_new w7 3 #[.int .i64 1, .int .i64 0]
  have a2 := blk_new (w7.alloc (.cells #[.int .i64 1, .int .i64 0] 3)) 3 #[.int .i64 0, .int .i64 1]
  have a3 := blk_new ((w7.alloc (.cells #[.int .i64 1, .int .i64 0] 3)).alloc (.cells #[.int .i64 0, .int .i64 1] 3)) 23 #[.slice (some ⟨w7.heap.size, 0, none⟩) 2 2, .slice (some ⟨w7.heap.size + 1, 0, none⟩) 2 2]
  simp only [World.size_alloc] at a2 a3
  have HSx := Lib.hid (HS7.out.below hb)
  have hm := HS7.out.m
  have qf := HSx.out.c2
  have ff := blk_frozen HSx.out.box 2
  have hO := own_two (lo := w7.heap.size) (hi := w7.heap.size + 3) 1 0 0 1 (blk_old (blk_old a1 _) _) (blk_old a2 _) a3 ⟨by omega, by omega⟩ ⟨by omega, by omega⟩ ⟨by omega, by omega⟩ ⟨by omega, by omega⟩ (by omega) (by omega) (by omega) (by omega) (by omega) (by omega)
  have HS8 := Lib.hid (HSx.out.set3 hO (by simp only [World.size_alloc]; omega))
  clear hb a1 a2 a3 hm hO HSx HS7
  go_wp2_with fail
  clear qf ff
  generalize (((w7.alloc (.cells #[.int .i64 1, .int .i64 0] 3)).alloc (.cells #[.int .i64 0, .int .i64 1] 3)).alloc (.cells #[.slice (some ⟨w7.heap.size, 0, none⟩) 2 2, .slice (some ⟨w7.heap.size + 1, 0, none⟩) 2 2] 23)).setCell ⟨h3, 2, none⟩ (.slice (some ⟨w7.heap.size + 1 + 1, 0, none⟩) 2 2) = W8 at *
  refine (pick_any w0 W8 g A l c (p6 + 1) 3 HS8.out.rd (by have := HPP.out; omega)).mono ?_
  rintro e w9 ⟨a, rfl, hk1, _, hr, z, hw⟩
  have hone := Rdr.one (g := g) W8 (.int .i64 (p6 + 1 + 1 : Nat)) z
  rw [← hw] at hone
  have HS9 := Lib.hid (HS8.out.up hone.grown hr)
  obtain ⟨a0, a1⟩ := hk1 (by omega)
  clear hone hw hk1 hr HS8
  have HS9a := Lib.hid (HS9.out.below (below_alloc w9 (.cells #[.int .i64 0, .int .i64 (1 + a)] 3)))
  have K1 := Lib.hid (blk_new w9 3 #[.int .i64 0, .int .i64 (1 + a)])
  have HM9 := Lib.hid HS9.out.m
  have HC := Lib.hid (pick_any w0 (w9.alloc (.cells #[.int .i64 0, .int .i64 (1 + a)] 3)) g A l c (p6 + 1 + 1) 3 HS9a.out.rd (by have := HPP.out; omega))
  have hwa : IntKind.i64.wrap (1 + a) = 1 + a := wrapIn (by omega)
  clear HS9
  go_wp2_with fail
  generalize w9.alloc (.cells #[.int .i64 0, .int .i64 (1 + a)] 3) = W9 at *
  generalize w9.heap.size = r1 at *
  refine HC.out.mono ?_
  rintro e w10 ⟨b, rfl, hk1, _, hr, z, hw⟩
  have hone := Rdr.one (g := g) W9 (.int .i64 (p6 + 1 + 1 + 1 : Nat)) z
  rw [← hw] at hone
  have HSd := Lib.hid (HS9a.out.up hone.grown hr)
  have hg2 := HS9a.out.hg
  have hm9 := HM9.out
  have K1b := Lib.hid ((hone.grown.block r1 (blk_lt K1.out) (fun e => by injection e; omega)).trans K1.out)
  obtain ⟨b0, b1⟩ := hk1 (by omega)
  clear hone hw hk1 hr HS9a HC K1
  have hr1 := blk_lt (show Blk w10 r1 _ _ from K1b.out)
  have hwb : IntKind.i64.wrap (1 + b) = 1 + b := wrapIn (by omega)
  have hb := below_up (below_alloc w10 (.cells #[.int .i64 0, .int .i64 (1 + b)] 3)) (below_alloc (w10.alloc (.cells #[.int .i64 0, .int .i64 (1 + b)] 3)) (.cells #[.slice (some ⟨r1, 0, none⟩) 2 2, .slice (some ⟨w10.heap.size, 0, none⟩) 2 2] 23))
  have a2 := blk_new w10 3 #[.int .i64 0, .int .i64 (1 + b)]
  have a3 := blk_new (w10.alloc (.cells #[.int .i64 0, .int .i64 (1 + b)] 3)) 23 #[.slice (some ⟨r1, 0, none⟩) 2 2, .slice (some ⟨w10.heap.size, 0, none⟩) 2 2]
  simp only [World.size_alloc] at a3
  have HSx := Lib.hid (HSd.out.below hb)
  have qf := HSx.out.c1
  have ff := blk_frozen HSx.out.box 1
  have hO := own_two (lo := r1) (hi := w10.heap.size + 2) 0 (1 + a) 0 (1 + b) (blk_old (blk_old K1b.out _) _) (blk_old a2 _) a3 ⟨by omega, by omega⟩ ⟨by omega, by omega⟩ ⟨by omega, by omega⟩ ⟨by omega, by omega⟩ (by omega) (by omega) (by omega) (by omega) (by omega) (by omega)
  have HS11 := Lib.hid (HSx.out.set2 hO (by simp only [World.size_alloc]; omega))
  clear hb a2 a3 hO HSx HSd hg2 hm9 HM9 K1b
  have HC := Lib.hid HS11.out.rd
  go_wp2_with fail
  clear qf ff hwa hwb hr1
  generalize ((w10.alloc (.cells #[.int .i64 0, .int .i64 (1 + b)] 3)).alloc (.cells #[.slice (some ⟨r1, 0, none⟩) 2 2, .slice (some ⟨w10.heap.size, 0, none⟩) 2 2] 23)).setCell ⟨h3, 1, none⟩ (.slice (some ⟨w10.heap.size + 1, 0, none⟩) 2 2) = W11 at *
  clear HC
  have HC := Lib.hid (pick_any w0 W11 g A l c (p6 + 1 + 1 + 1) 40 HS11.out.rd (by have := HPP.out; omega))
  go_wp2_with fail
  refine HC.out.mono ?_
  rintro e w20 ⟨v, rfl, hk1, _, hr, z, hw⟩
  have hone := Rdr.one (g := g) W11 (.int .i64 ((p6 + 1 + 1 + 1) + 1 : Nat)) z
  rw [← hw] at hone
  have HSa := Lib.hid (HS11.out.up hone.grown hr)
  obtain ⟨v0, v1⟩ := hk1 (by omega)
  clear hone hw hk1 hr HC HS11
  by_cases hv0 : v = 0
  · subst hv0
    have q0 := HSa.out.c0
    obtain ⟨c0, f0, hS⟩ := HSa.out.setW
    have HSb := Lib.hid hS
    clear hS
    go_upto_region 13 with (fail)
    clear q0 c0 f0
    generalize w20.setCell ⟨q1, 0, none⟩ (.int .i64 0) = w21 at *
    have q0 := HSb.out.c0
    have q1_ := HSb.out.c1
    have q2 := HSb.out.c2
    have q3 := HSb.out.c3
    have r0 := blk_cell HSb.out.k2 (i := 0) rfl
    have r1 := blk_cell HSb.out.k2 (i := 1) rfl
    have r2 := blk_cell HSb.out.k2 (i := 2) rfl
    have r3 := blk_cell HSb.out.k2 (i := 3) rfl
    have g0 := blk_frozen HSb.out.k2 0
    have g1 := blk_frozen HSb.out.k2 1
    have g2_ := blk_frozen HSb.out.k2 2
    have g3 := blk_frozen HSb.out.k2 3
    go_wp2
    clear q0 q1_ q2 q3 r0 r1 r2 r3 g0 g1 g2_ g3
    have HF := Lib.hid (HSb.out.fin (.slice (some ⟨q1, 0, none⟩) 2 2) (.slice (some ⟨w10.heap.size + 1, 0, none⟩) 2 2) (.slice (some ⟨w7.heap.size + 1 + 1, 0, none⟩) 2 2) (.slice A4 2 c4) rfl)
    have HA := Lib.hid HSb.out.a
    clear HSb
    generalize (((w21.setCell ⟨w.heap.size, 0, none⟩ (.slice (some ⟨q1, 0, none⟩) 2 2)).setCell ⟨w.heap.size, 1, none⟩ (.slice (some ⟨w10.heap.size + 1, 0, none⟩) 2 2)).setCell ⟨w.heap.size, 2, none⟩ (.slice (some ⟨w7.heap.size + 1 + 1, 0, none⟩) 2 2)).setCell ⟨w.heap.size, 3, none⟩ (.slice A4 2 c4) = WE at *
    have k0 := blk_cell HF.out.1 (i := 0) (v := .slice (some ⟨q1, 0, none⟩) 2 2) rfl
    have k1 := blk_cell HF.out.1 (i := 1) (v := .slice (some ⟨w10.heap.size + 1, 0, none⟩) 2 2) rfl
    have k2 := blk_cell HF.out.1 (i := 2) (v := .slice (some ⟨w7.heap.size + 1 + 1, 0, none⟩) 2 2) rfl
    have k3 := blk_cell HF.out.1 (i := 3) (v := .slice A4 2 c4) rfl
    refine bodyPost_ret (v := .agg #[.slice (some ⟨q1, 0, none⟩) 2 2, .slice (some ⟨w10.heap.size + 1, 0, none⟩) 2 2, .slice (some ⟨w7.heap.size + 1 + 1, 0, none⟩) 2 2, .slice A4 2 c4]) (by simp [results, Try.results43, go_sem, k0, k1, k2, k3]) rfl ?_
    exact ⟨_, _, _, _, _, _, _, _, _, _, _, _, _, _, _, _, _, _, _, _, _, _, _, _, _, rfl, HF.out.2.1, HF.out.2.2.1, HF.out.2.2.2.1, HF.out.2.2.2.2.1, HA.out, HF.out.2.2.2.2.2, by have := HPP.out; omega⟩
  by_cases hv1 : v = 1
  · subst hv1
    obtain ⟨o4, gR, oR, cc, vv, eA, c1, c0, f0, hS⟩ := HSa.out.setC
    have q3 := HSa.out.c3
    have HSb := Lib.hid hS
    clear hS
    subst eA
    go_upto_region 13 with (fail)
    clear q3 c1 c0 f0
    generalize w20.setCell ⟨gR, oR, none⟩ (.int .i64 (-1)) = w21 at *
    have q0 := HSb.out.c0
    have q1_ := HSb.out.c1
    have q2 := HSb.out.c2
    have q3 := HSb.out.c3
    have r0 := blk_cell HSb.out.k2 (i := 0) rfl
    have r1 := blk_cell HSb.out.k2 (i := 1) rfl
    have r2 := blk_cell HSb.out.k2 (i := 2) rfl
    have r3 := blk_cell HSb.out.k2 (i := 3) rfl
    have g0 := blk_frozen HSb.out.k2 0
    have g1 := blk_frozen HSb.out.k2 1
    have g2_ := blk_frozen HSb.out.k2 2
    have g3 := blk_frozen HSb.out.k2 3
    go_wp2
    clear q0 q1_ q2 q3 r0 r1 r2 r3 g0 g1 g2_ g3
    have HF := Lib.hid (HSb.out.fin (.slice (some ⟨q1, 0, none⟩) 2 2) (.slice (some ⟨w10.heap.size + 1, 0, none⟩) 2 2) (.slice (some ⟨w7.heap.size + 1 + 1, 0, none⟩) 2 2) (.slice (some ⟨b4, o4, none⟩) 2 c4) rfl)
    have HA := Lib.hid HSb.out.a
    clear HSb
    generalize (((w21.setCell ⟨w.heap.size, 0, none⟩ (.slice (some ⟨q1, 0, none⟩) 2 2)).setCell ⟨w.heap.size, 1, none⟩ (.slice (some ⟨w10.heap.size + 1, 0, none⟩) 2 2)).setCell ⟨w.heap.size, 2, none⟩ (.slice (some ⟨w7.heap.size + 1 + 1, 0, none⟩) 2 2)).setCell ⟨w.heap.size, 3, none⟩ (.slice (some ⟨b4, o4, none⟩) 2 c4) = WE at *
    have k0 := blk_cell HF.out.1 (i := 0) (v := .slice (some ⟨q1, 0, none⟩) 2 2) rfl
    have k1 := blk_cell HF.out.1 (i := 1) (v := .slice (some ⟨w10.heap.size + 1, 0, none⟩) 2 2) rfl
    have k2 := blk_cell HF.out.1 (i := 2) (v := .slice (some ⟨w7.heap.size + 1 + 1, 0, none⟩) 2 2) rfl
    have k3 := blk_cell HF.out.1 (i := 3) (v := .slice (some ⟨b4, o4, none⟩) 2 c4) rfl
    refine bodyPost_ret (v := .agg #[.slice (some ⟨q1, 0, none⟩) 2 2, .slice (some ⟨w10.heap.size + 1, 0, none⟩) 2 2, .slice (some ⟨w7.heap.size + 1 + 1, 0, none⟩) 2 2, .slice (some ⟨b4, o4, none⟩) 2 c4]) (by simp [results, Try.results43, go_sem, k0, k1, k2, k3]) rfl ?_
    exact ⟨_, _, _, _, _, _, _, _, _, _, _, _, _, _, _, _, _, _, _, _, _, _, _, _, _, rfl, HF.out.2.1, HF.out.2.2.1, HF.out.2.2.2.1, HF.out.2.2.2.2.1, HA.out, HF.out.2.2.2.2.2, by have := HPP.out; omega⟩
  have hn0 : (v == 0) = false := by simp [hv0]
  have hn1 : (v == 1) = false := by simp [hv1]
  clear hv0 hv1
  have HSb := HSa
  obtain ⟨w21, hw21⟩ : ∃ W, W = w20 := ⟨_, rfl⟩
  subst hw21
  have q0 := HSb.out.c0
  have q1_ := HSb.out.c1
  have q2 := HSb.out.c2
  have q3 := HSb.out.c3
  have r0 := blk_cell HSb.out.k2 (i := 0) rfl
  have r1 := blk_cell HSb.out.k2 (i := 1) rfl
  have r2 := blk_cell HSb.out.k2 (i := 2) rfl
  have r3 := blk_cell HSb.out.k2 (i := 3) rfl
  have g0 := blk_frozen HSb.out.k2 0
  have g1 := blk_frozen HSb.out.k2 1
  have g2_ := blk_frozen HSb.out.k2 2
  have g3 := blk_frozen HSb.out.k2 3
  go_wp2
  clear q0 q1_ q2 q3 r0 r1 r2 r3 g0 g1 g2_ g3
  have HF := Lib.hid (HSb.out.fin (.slice (some ⟨q1, 0, none⟩) 2 2) (.slice (some ⟨w10.heap.size + 1, 0, none⟩) 2 2) (.slice (some ⟨w7.heap.size + 1 + 1, 0, none⟩) 2 2) (.slice A4 2 c4) rfl)
  have HA := Lib.hid HSb.out.a
  clear HSb
  generalize (((w21.setCell ⟨w.heap.size, 0, none⟩ (.slice (some ⟨q1, 0, none⟩) 2 2)).setCell ⟨w.heap.size, 1, none⟩ (.slice (some ⟨w10.heap.size + 1, 0, none⟩) 2 2)).setCell ⟨w.heap.size, 2, none⟩ (.slice (some ⟨w7.heap.size + 1 + 1, 0, none⟩) 2 2)).setCell ⟨w.heap.size, 3, none⟩ (.slice A4 2 c4) = WE at *
  have k0 := blk_cell HF.out.1 (i := 0) (v := .slice (some ⟨q1, 0, none⟩) 2 2) rfl
  have k1 := blk_cell HF.out.1 (i := 1) (v := .slice (some ⟨w10.heap.size + 1, 0, none⟩) 2 2) rfl
  have k2 := blk_cell HF.out.1 (i := 2) (v := .slice (some ⟨w7.heap.size + 1 + 1, 0, none⟩) 2 2) rfl
  have k3 := blk_cell HF.out.1 (i := 3) (v := .slice A4 2 c4) rfl
  refine bodyPost_ret (v := .agg #[.slice (some ⟨q1, 0, none⟩) 2 2, .slice (some ⟨w10.heap.size + 1, 0, none⟩) 2 2, .slice (some ⟨w7.heap.size + 1 + 1, 0, none⟩) 2 2, .slice A4 2 c4]) (by simp [results, Try.results43, go_sem, k0, k1, k2, k3]) rfl ?_
  exact ⟨_, _, _, _, _, _, _, _, _, _, _, _, _, _, _, _, _, _, _, _, _, _, _, _, _, rfl, HF.out.2.1, HF.out.2.2.1, HF.out.2.2.2.1, HF.out.2.2.2.2.1, HA.out, HF.out.2.2.2.2.2, by have := HPP.out; omega⟩

end Go.Proofs.Ytcjanlbhgfadpaa

/- Talks drawn by the laws. -/
namespace Go.Proofs.Ytcjanlbhgfadpaa
open Go.RowKit

/-- A talk of its own, its blocks behind L. -/
structure DTk (L : Nat) (A1 : Option Addr) (c1 : Nat) (A2 : Option Addr) (c2 : Nat) (A3 : Option Addr) (c3 : Nat) (A4 : Option Addr) (c4 : Nat) (xs : List Int) (ss hs ks : List (List Int)) (W : World) : Prop where
  o1 : ∃ lo hi b, OwnI lo hi W b A1 2 c1 xs ∧ L < lo
  o2 : ∃ lo hi b, OwnR lo hi W b A2 2 c2 ss ∧ L < lo
  o3 : ∃ lo hi b, OwnR lo hi W b A3 2 c3 hs ∧ L < lo
  o4 : ∃ lo hi b, OwnR lo hi W b A4 2 c4 ks ∧ L < lo
theorem DTk.stay {L A1 c1 A2 c2 A3 c3 A4 c4 xs ss hs ks W W'} (h : DTk L A1 c1 A2 c2 A3 c3 A4 c4 xs ss hs ks W) (e : ∀ x, L < x → x < W.heap.size → W'.heap[x]? = W.heap[x]?) : DTk L A1 c1 A2 c2 A3 c3 A4 c4 xs ss hs ks W' :=
  ⟨let ⟨lo, hi, b, q, l⟩ := h.o1; ⟨lo, hi, b, q.ne fun x h1 _ h3 => e x (by omega) h3, l⟩, let ⟨lo, hi, b, q, l⟩ := h.o2; ⟨lo, hi, b, q.of_blocks fun x h1 _ h3 => e x (by omega) h3, l⟩,
   let ⟨lo, hi, b, q, l⟩ := h.o3; ⟨lo, hi, b, q.of_blocks fun x h1 _ h3 => e x (by omega) h3, l⟩, let ⟨lo, hi, b, q, l⟩ := h.o4; ⟨lo, hi, b, q.of_blocks fun x h1 _ h3 => e x (by omega) h3, l⟩⟩
theorem DTk.up {L A1 c1 A2 c2 A3 c3 A4 c4 xs ss hs ks W W' g} (h : DTk L A1 c1 A2 c2 A3 c3 A4 c4 xs ss hs ks W) (hg : g ≤ L) (k : W.grownBy W' (some g)) : DTk L A1 c1 A2 c2 A3 c3 A4 c4 xs ss hs ks W' := h.stay fun x h1 h2 => k.block x h2 (fun e => by injection e; omega)
theorem DTk.tkr {L A1 c1 A2 c2 A3 c3 A4 c4 xs ss hs ks W} (h : DTk L A1 c1 A2 c2 A3 c3 A4 c4 xs ss hs ks W) : TkR W A1 A2 A3 A4 2 c1 2 c2 2 c3 2 c4 xs ss hs ks :=
  ⟨let ⟨_, _, _, q, _⟩ := h.o1; q.ints, let ⟨_, _, _, q, _⟩ := h.o2; q.rows, let ⟨_, _, _, q, _⟩ := h.o3; q.rows, let ⟨_, _, _, q, _⟩ := h.o4; q.rows⟩
theorem DTk.fin {L A1 c1 A2 c2 A3 c3 A4 c4 xs ss hs ks W h2} (h : DTk L A1 c1 A2 c2 A3 c3 A4 c4 xs ss hs ks W) (hl : h2 ≤ L) (v0 v1 v2 v3 : Value) : DTk L A1 c1 A2 c2 A3 c3 A4 c4 xs ss hs ks ((((W.setCell ⟨h2, 0, none⟩ v0).setCell ⟨h2, 1, none⟩ v1).setCell ⟨h2, 2, none⟩ v2).setCell ⟨h2, 3, none⟩ v3) :=
  h.stay fun x h1 _ => (Below.heap_setCell _ _ _ _ (by show x ≠ h2; omega)).trans ((Below.heap_setCell _ _ _ _ (by show x ≠ h2; omega)).trans ((Below.heap_setCell _ _ _ _ (by show x ≠ h2; omega)).trans (Below.heap_setCell _ _ _ _ (by show x ≠ h2; omega))))
/-- A talk that bytes give. -/
def DrawnTk (w : World) (e : Ending) (w' : World) : Prop :=
  ∃ A1 c1 A2 c2 A3 c3 A4 c4 xs ss hs ks, e = .returned (.agg #[.slice A1 2 c1, .slice A2 2 c2, .slice A3 2 c3, .slice A4 2 c4]) ∧ TkR w' A1 A2 A3 A4 2 c1 2 c2 2 c3 2 c4 xs ss hs ks ∧ Below w.heap.size w w'
/-- .. and two numbers. -/
def DrawnTkNN (w : World) (e : Ending) (w' : World) : Prop :=
  ∃ A1 c1 A2 c2 A3 c3 A4 c4 xs ss hs ks s r, e = .returned (.tuple #[.agg #[.slice A1 2 c1, .slice A2 2 c2, .slice A3 2 c3, .slice A4 2 c4], .int .i64 s, .int .i64 r]) ∧ TkR w' A1 A2 A3 A4 2 c1 2 c2 2 c3 2 c4 xs ss hs ks ∧ Below w.heap.size w w' ∧ (-1 ≤ s ∧ s ≤ 4) ∧ -1 ≤ r ∧ r ≤ 4
set_option maxRecDepth 100000 in
set_option maxHeartbeats 3200000 in
theorem DrawValidTalk_any (A : Option Addr) (n c : Nat) (w : World) (h : Bytes w A n c) :
    Calls Try.prog 14 #[.slice A n c] w (DrawnTk w) := by
  have HB := Lib.hid (below_alloc w (.cells #[.slice none 0 0, .slice none 0 0, .slice none 0 0, .slice none 0 0] 26))
  have HK := Lib.hid (blk_new w 26 #[.slice none 0 0, .slice none 0 0, .slice none 0 0, .slice none 0 0])
  have H0 := Lib.hid (newReader_any A n c _ (h.keep (Keep.below (below_alloc w (.cells #[.slice none 0 0, .slice none 0 0, .slice none 0 0, .slice none 0 0] 26)))))
  clear h
  go_enter Try.func14, Try.ntmps14
  go_wp2_with fail
  have HZ : Hid (w.heap.size < (w.alloc (.cells #[.slice none 0 0, .slice none 0 0, .slice none 0 0, .slice none 0 0] 26)).heap.size) := Lib.hid (by simp)
  generalize w.alloc (.cells #[.slice none 0 0, .slice none 0 0, .slice none 0 0, .slice none 0 0] 26) = W0 at *
  refine H0.out.mono ?_
  rintro e w1 ⟨Ab, l, cb, rfl, hl, hr, hs⟩
  have HS := Lib.hid (show W0.heap.size < w1.heap.size by omega)
  have H1 := Lib.hid (someTalk_any W0 w1 W0.heap.size Ab l cb 0 hr (by omega))
  clear hr hl hs H0
  go_wp2_with fail
  refine H1.out.mono ?_
  rintro e w2 ⟨A1, c1, A2, c2, A3, c3, A4, c4, xs, ss, hs, ks, b1, b2, b3, b4, p', lo1, hi1, lo2, hi2, lo3, hi3, lo4, hi4, rfl, o1, o2, o3, o4, hlo, rd, hp⟩
  have HD := Lib.hid (show DTk w1.heap.size A1 c1 A2 c2 A3 c3 A4 c4 xs ss hs ks w2 from ⟨⟨_, _, _, o1, hlo.1.1⟩, ⟨_, _, _, o2, hlo.1.2⟩, ⟨_, _, _, o3, hlo.2.1⟩, ⟨_, _, _, o4, hlo.2.2⟩⟩)
  have HLT := Lib.hid (show w.heap.size ≤ w1.heap.size ∧ W0.heap.size ≤ w1.heap.size by have := HZ.out; have := HS.out; omega)
  have HR := Lib.hid rd
  clear o1 o2 o3 o4 hlo rd H1
  have HK2 := Lib.hid (blk_below HK.out HR.out.below)
  have HB2 := Lib.hid (below_up HB.out HR.out.below)
  clear HB HK HZ HS HR
  have d0 := blk_cell HK2.out (i := 0) (v := .slice none 0 0) rfl
  have d1 := blk_cell HK2.out (i := 1) (v := .slice none 0 0) rfl
  have d2 := blk_cell HK2.out (i := 2) (v := .slice none 0 0) rfl
  have d3 := blk_cell HK2.out (i := 3) (v := .slice none 0 0) rfl
  have g0 := blk_frozen HK2.out 0
  have g1 := blk_frozen HK2.out 1
  have g2_ := blk_frozen HK2.out 2
  have g3 := blk_frozen HK2.out 3
  go_wp2
  clear d0 d1 d2 d3 g0 g1 g2_ g3
  have B1 := Lib.hid (blk_set (blk_set (blk_set (blk_set HK2.out 0 (.slice A1 2 c1)) 1 (.slice A2 2 c2)) 2 (.slice A3 2 c3)) 3 (.slice A4 2 c4))
  have HBX := Lib.hid ((((HB2.out.setCell (p := ⟨w.heap.size, 0, none⟩) (Nat.le_refl _) (.slice A1 2 c1)).setCell (p := ⟨w.heap.size, 1, none⟩) (Nat.le_refl _) (.slice A2 2 c2)).setCell (p := ⟨w.heap.size, 2, none⟩) (Nat.le_refl _) (.slice A3 2 c3)).setCell (p := ⟨w.heap.size, 3, none⟩) (Nat.le_refl _) (.slice A4 2 c4))
  have HF := Lib.hid (HD.out.fin (h2 := w.heap.size) HLT.out.1 (.slice A1 2 c1) (.slice A2 2 c2) (.slice A3 2 c3) (.slice A4 2 c4))
  clear HK2 HB2 HD
  generalize (((w2.setCell ⟨w.heap.size, 0, none⟩ (.slice A1 2 c1)).setCell ⟨w.heap.size, 1, none⟩ (.slice A2 2 c2)).setCell ⟨w.heap.size, 2, none⟩ (.slice A3 2 c3)).setCell ⟨w.heap.size, 3, none⟩ (.slice A4 2 c4) = WE at *
  have q0 := blk_cell B1.out (i := 0) (v := .slice A1 2 c1) rfl
  have q1 := blk_cell B1.out (i := 1) (v := .slice A2 2 c2) rfl
  have q2 := blk_cell B1.out (i := 2) (v := .slice A3 2 c3) rfl
  have q3 := blk_cell B1.out (i := 3) (v := .slice A4 2 c4) rfl
  refine bodyPost_ret (v := .agg #[.slice A1 2 c1, .slice A2 2 c2, .slice A3 2 c3, .slice A4 2 c4]) (by simp [results, Try.results14, go_sem, q0, q1, q2, q3]) rfl ?_
  exact ⟨_, _, _, _, _, _, _, _, _, _, _, _, rfl, HF.out.tkr, HBX.out⟩
set_option maxRecDepth 100000 in
set_option maxHeartbeats 3200000 in
theorem DrawTalkRests_any (A : Option Addr) (n c : Nat) (w : World) (h : Bytes w A n c) :
    Calls Try.prog 22 #[.slice A n c] w (DrawnTk w) := by
  have HB := Lib.hid (below_alloc w (.cells #[.slice none 0 0, .slice none 0 0, .slice none 0 0, .slice none 0 0] 26))
  have HK := Lib.hid (blk_new w 26 #[.slice none 0 0, .slice none 0 0, .slice none 0 0, .slice none 0 0])
  have H0 := Lib.hid (newReader_any A n c _ (h.keep (Keep.below (below_alloc w (.cells #[.slice none 0 0, .slice none 0 0, .slice none 0 0, .slice none 0 0] 26)))))
  clear h
  go_enter Try.func22, Try.ntmps22
  go_wp2_with fail
  have HZ : Hid (w.heap.size < (w.alloc (.cells #[.slice none 0 0, .slice none 0 0, .slice none 0 0, .slice none 0 0] 26)).heap.size) := Lib.hid (by simp)
  generalize w.alloc (.cells #[.slice none 0 0, .slice none 0 0, .slice none 0 0, .slice none 0 0] 26) = W0 at *
  refine H0.out.mono ?_
  rintro e w1 ⟨Ab, l, cb, rfl, hl, hr, hs⟩
  have HS := Lib.hid (show W0.heap.size < w1.heap.size by omega)
  have H1 := Lib.hid (someTalk_any W0 w1 W0.heap.size Ab l cb 0 hr (by omega))
  clear hr hl hs H0
  go_wp2_with fail
  refine H1.out.mono ?_
  rintro e w2 ⟨A1, c1, A2, c2, A3, c3, A4, c4, xs, ss, hs, ks, b1, b2, b3, b4, p', lo1, hi1, lo2, hi2, lo3, hi3, lo4, hi4, rfl, o1, o2, o3, o4, hlo, rd, hp⟩
  have HD := Lib.hid (show DTk w1.heap.size A1 c1 A2 c2 A3 c3 A4 c4 xs ss hs ks w2 from ⟨⟨_, _, _, o1, hlo.1.1⟩, ⟨_, _, _, o2, hlo.1.2⟩, ⟨_, _, _, o3, hlo.2.1⟩, ⟨_, _, _, o4, hlo.2.2⟩⟩)
  have HLT := Lib.hid (show w.heap.size ≤ w1.heap.size ∧ W0.heap.size ≤ w1.heap.size by have := HZ.out; have := HS.out; omega)
  have HR := Lib.hid rd
  clear o1 o2 o3 o4 hlo rd H1
  have HK2 := Lib.hid (blk_below HK.out HR.out.below)
  have HB2 := Lib.hid (below_up HB.out HR.out.below)
  clear HB HK HZ HS HR
  have d0 := blk_cell HK2.out (i := 0) (v := .slice none 0 0) rfl
  have d1 := blk_cell HK2.out (i := 1) (v := .slice none 0 0) rfl
  have d2 := blk_cell HK2.out (i := 2) (v := .slice none 0 0) rfl
  have d3 := blk_cell HK2.out (i := 3) (v := .slice none 0 0) rfl
  have g0 := blk_frozen HK2.out 0
  have g1 := blk_frozen HK2.out 1
  have g2_ := blk_frozen HK2.out 2
  have g3 := blk_frozen HK2.out 3
  go_wp2
  clear d0 d1 d2 d3 g0 g1 g2_ g3
  have B1 := Lib.hid (blk_set (blk_set (blk_set (blk_set HK2.out 0 (.slice A1 2 c1)) 1 (.slice A2 2 c2)) 2 (.slice A3 2 c3)) 3 (.slice A4 2 c4))
  have HBX := Lib.hid ((((HB2.out.setCell (p := ⟨w.heap.size, 0, none⟩) (Nat.le_refl _) (.slice A1 2 c1)).setCell (p := ⟨w.heap.size, 1, none⟩) (Nat.le_refl _) (.slice A2 2 c2)).setCell (p := ⟨w.heap.size, 2, none⟩) (Nat.le_refl _) (.slice A3 2 c3)).setCell (p := ⟨w.heap.size, 3, none⟩) (Nat.le_refl _) (.slice A4 2 c4))
  have HF := Lib.hid (HD.out.fin (h2 := w.heap.size) HLT.out.1 (.slice A1 2 c1) (.slice A2 2 c2) (.slice A3 2 c3) (.slice A4 2 c4))
  clear HK2 HB2 HD
  generalize (((w2.setCell ⟨w.heap.size, 0, none⟩ (.slice A1 2 c1)).setCell ⟨w.heap.size, 1, none⟩ (.slice A2 2 c2)).setCell ⟨w.heap.size, 2, none⟩ (.slice A3 2 c3)).setCell ⟨w.heap.size, 3, none⟩ (.slice A4 2 c4) = WE at *
  have q0 := blk_cell B1.out (i := 0) (v := .slice A1 2 c1) rfl
  have q1 := blk_cell B1.out (i := 1) (v := .slice A2 2 c2) rfl
  have q2 := blk_cell B1.out (i := 2) (v := .slice A3 2 c3) rfl
  have q3 := blk_cell B1.out (i := 3) (v := .slice A4 2 c4) rfl
  refine bodyPost_ret (v := .agg #[.slice A1 2 c1, .slice A2 2 c2, .slice A3 2 c3, .slice A4 2 c4]) (by simp [results, Try.results22, go_sem, q0, q1, q2, q3]) rfl ?_
  exact ⟨_, _, _, _, _, _, _, _, _, _, _, _, rfl, HF.out.tkr, HBX.out⟩
set_option maxRecDepth 100000 in
set_option maxHeartbeats 3200000 in
theorem DrawTells_any (A : Option Addr) (n c : Nat) (w : World) (h : Bytes w A n c) :
    Calls Try.prog 27 #[.slice A n c] w (DrawnTk w) := by
  have HB := Lib.hid (below_alloc w (.cells #[.slice none 0 0, .slice none 0 0, .slice none 0 0, .slice none 0 0] 26))
  have HK := Lib.hid (blk_new w 26 #[.slice none 0 0, .slice none 0 0, .slice none 0 0, .slice none 0 0])
  have H0 := Lib.hid (newReader_any A n c _ (h.keep (Keep.below (below_alloc w (.cells #[.slice none 0 0, .slice none 0 0, .slice none 0 0, .slice none 0 0] 26)))))
  clear h
  go_enter Try.func27, Try.ntmps27
  go_wp2_with fail
  have HZ : Hid (w.heap.size < (w.alloc (.cells #[.slice none 0 0, .slice none 0 0, .slice none 0 0, .slice none 0 0] 26)).heap.size) := Lib.hid (by simp)
  generalize w.alloc (.cells #[.slice none 0 0, .slice none 0 0, .slice none 0 0, .slice none 0 0] 26) = W0 at *
  refine H0.out.mono ?_
  rintro e w1 ⟨Ab, l, cb, rfl, hl, hr, hs⟩
  have HS := Lib.hid (show W0.heap.size < w1.heap.size by omega)
  have H1 := Lib.hid (someTalk_any W0 w1 W0.heap.size Ab l cb 0 hr (by omega))
  clear hr hl hs H0
  go_wp2_with fail
  refine H1.out.mono ?_
  rintro e w2 ⟨A1, c1, A2, c2, A3, c3, A4, c4, xs, ss, hs, ks, b1, b2, b3, b4, p', lo1, hi1, lo2, hi2, lo3, hi3, lo4, hi4, rfl, o1, o2, o3, o4, hlo, rd, hp⟩
  have HD := Lib.hid (show DTk w1.heap.size A1 c1 A2 c2 A3 c3 A4 c4 xs ss hs ks w2 from ⟨⟨_, _, _, o1, hlo.1.1⟩, ⟨_, _, _, o2, hlo.1.2⟩, ⟨_, _, _, o3, hlo.2.1⟩, ⟨_, _, _, o4, hlo.2.2⟩⟩)
  have HLT := Lib.hid (show w.heap.size ≤ w1.heap.size ∧ W0.heap.size ≤ w1.heap.size by have := HZ.out; have := HS.out; omega)
  have HR := Lib.hid rd
  clear o1 o2 o3 o4 hlo rd H1
  have HK2 := Lib.hid (blk_below HK.out HR.out.below)
  have HB2 := Lib.hid (below_up HB.out HR.out.below)
  clear HB HK HZ HS HR
  have d0 := blk_cell HK2.out (i := 0) (v := .slice none 0 0) rfl
  have d1 := blk_cell HK2.out (i := 1) (v := .slice none 0 0) rfl
  have d2 := blk_cell HK2.out (i := 2) (v := .slice none 0 0) rfl
  have d3 := blk_cell HK2.out (i := 3) (v := .slice none 0 0) rfl
  have g0 := blk_frozen HK2.out 0
  have g1 := blk_frozen HK2.out 1
  have g2_ := blk_frozen HK2.out 2
  have g3 := blk_frozen HK2.out 3
  go_wp2
  clear d0 d1 d2 d3 g0 g1 g2_ g3
  have B1 := Lib.hid (blk_set (blk_set (blk_set (blk_set HK2.out 0 (.slice A1 2 c1)) 1 (.slice A2 2 c2)) 2 (.slice A3 2 c3)) 3 (.slice A4 2 c4))
  have HBX := Lib.hid ((((HB2.out.setCell (p := ⟨w.heap.size, 0, none⟩) (Nat.le_refl _) (.slice A1 2 c1)).setCell (p := ⟨w.heap.size, 1, none⟩) (Nat.le_refl _) (.slice A2 2 c2)).setCell (p := ⟨w.heap.size, 2, none⟩) (Nat.le_refl _) (.slice A3 2 c3)).setCell (p := ⟨w.heap.size, 3, none⟩) (Nat.le_refl _) (.slice A4 2 c4))
  have HF := Lib.hid (HD.out.fin (h2 := w.heap.size) HLT.out.1 (.slice A1 2 c1) (.slice A2 2 c2) (.slice A3 2 c3) (.slice A4 2 c4))
  clear HK2 HB2 HD
  generalize (((w2.setCell ⟨w.heap.size, 0, none⟩ (.slice A1 2 c1)).setCell ⟨w.heap.size, 1, none⟩ (.slice A2 2 c2)).setCell ⟨w.heap.size, 2, none⟩ (.slice A3 2 c3)).setCell ⟨w.heap.size, 3, none⟩ (.slice A4 2 c4) = WE at *
  have q0 := blk_cell B1.out (i := 0) (v := .slice A1 2 c1) rfl
  have q1 := blk_cell B1.out (i := 1) (v := .slice A2 2 c2) rfl
  have q2 := blk_cell B1.out (i := 2) (v := .slice A3 2 c3) rfl
  have q3 := blk_cell B1.out (i := 3) (v := .slice A4 2 c4) rfl
  refine bodyPost_ret (v := .agg #[.slice A1 2 c1, .slice A2 2 c2, .slice A3 2 c3, .slice A4 2 c4]) (by simp [results, Try.results27, go_sem, q0, q1, q2, q3]) rfl ?_
  exact ⟨_, _, _, _, _, _, _, _, _, _, _, _, rfl, HF.out.tkr, HBX.out⟩
set_option maxRecDepth 100000 in
set_option maxHeartbeats 3200000 in
theorem DrawHonestCost_any (A : Option Addr) (n c : Nat) (w : World) (h : Bytes w A n c) :
    Calls Try.prog 30 #[.slice A n c] w (DrawnTk w) := by
  have HB := Lib.hid (below_alloc w (.cells #[.slice none 0 0, .slice none 0 0, .slice none 0 0, .slice none 0 0] 26))
  have HK := Lib.hid (blk_new w 26 #[.slice none 0 0, .slice none 0 0, .slice none 0 0, .slice none 0 0])
  have H0 := Lib.hid (newReader_any A n c _ (h.keep (Keep.below (below_alloc w (.cells #[.slice none 0 0, .slice none 0 0, .slice none 0 0, .slice none 0 0] 26)))))
  clear h
  go_enter Try.func30, Try.ntmps30
  go_wp2_with fail
  have HZ : Hid (w.heap.size < (w.alloc (.cells #[.slice none 0 0, .slice none 0 0, .slice none 0 0, .slice none 0 0] 26)).heap.size) := Lib.hid (by simp)
  generalize w.alloc (.cells #[.slice none 0 0, .slice none 0 0, .slice none 0 0, .slice none 0 0] 26) = W0 at *
  refine H0.out.mono ?_
  rintro e w1 ⟨Ab, l, cb, rfl, hl, hr, hs⟩
  have HS := Lib.hid (show W0.heap.size < w1.heap.size by omega)
  have H1 := Lib.hid (someTalk_any W0 w1 W0.heap.size Ab l cb 0 hr (by omega))
  clear hr hl hs H0
  go_wp2_with fail
  refine H1.out.mono ?_
  rintro e w2 ⟨A1, c1, A2, c2, A3, c3, A4, c4, xs, ss, hs, ks, b1, b2, b3, b4, p', lo1, hi1, lo2, hi2, lo3, hi3, lo4, hi4, rfl, o1, o2, o3, o4, hlo, rd, hp⟩
  have HD := Lib.hid (show DTk w1.heap.size A1 c1 A2 c2 A3 c3 A4 c4 xs ss hs ks w2 from ⟨⟨_, _, _, o1, hlo.1.1⟩, ⟨_, _, _, o2, hlo.1.2⟩, ⟨_, _, _, o3, hlo.2.1⟩, ⟨_, _, _, o4, hlo.2.2⟩⟩)
  have HLT := Lib.hid (show w.heap.size ≤ w1.heap.size ∧ W0.heap.size ≤ w1.heap.size by have := HZ.out; have := HS.out; omega)
  have HR := Lib.hid rd
  clear o1 o2 o3 o4 hlo rd H1
  have HK2 := Lib.hid (blk_below HK.out HR.out.below)
  have HB2 := Lib.hid (below_up HB.out HR.out.below)
  clear HB HK HZ HS HR
  have d0 := blk_cell HK2.out (i := 0) (v := .slice none 0 0) rfl
  have d1 := blk_cell HK2.out (i := 1) (v := .slice none 0 0) rfl
  have d2 := blk_cell HK2.out (i := 2) (v := .slice none 0 0) rfl
  have d3 := blk_cell HK2.out (i := 3) (v := .slice none 0 0) rfl
  have g0 := blk_frozen HK2.out 0
  have g1 := blk_frozen HK2.out 1
  have g2_ := blk_frozen HK2.out 2
  have g3 := blk_frozen HK2.out 3
  go_wp2
  clear d0 d1 d2 d3 g0 g1 g2_ g3
  have B1 := Lib.hid (blk_set (blk_set (blk_set (blk_set HK2.out 0 (.slice A1 2 c1)) 1 (.slice A2 2 c2)) 2 (.slice A3 2 c3)) 3 (.slice A4 2 c4))
  have HBX := Lib.hid ((((HB2.out.setCell (p := ⟨w.heap.size, 0, none⟩) (Nat.le_refl _) (.slice A1 2 c1)).setCell (p := ⟨w.heap.size, 1, none⟩) (Nat.le_refl _) (.slice A2 2 c2)).setCell (p := ⟨w.heap.size, 2, none⟩) (Nat.le_refl _) (.slice A3 2 c3)).setCell (p := ⟨w.heap.size, 3, none⟩) (Nat.le_refl _) (.slice A4 2 c4))
  have HF := Lib.hid (HD.out.fin (h2 := w.heap.size) HLT.out.1 (.slice A1 2 c1) (.slice A2 2 c2) (.slice A3 2 c3) (.slice A4 2 c4))
  clear HK2 HB2 HD
  generalize (((w2.setCell ⟨w.heap.size, 0, none⟩ (.slice A1 2 c1)).setCell ⟨w.heap.size, 1, none⟩ (.slice A2 2 c2)).setCell ⟨w.heap.size, 2, none⟩ (.slice A3 2 c3)).setCell ⟨w.heap.size, 3, none⟩ (.slice A4 2 c4) = WE at *
  have q0 := blk_cell B1.out (i := 0) (v := .slice A1 2 c1) rfl
  have q1 := blk_cell B1.out (i := 1) (v := .slice A2 2 c2) rfl
  have q2 := blk_cell B1.out (i := 2) (v := .slice A3 2 c3) rfl
  have q3 := blk_cell B1.out (i := 3) (v := .slice A4 2 c4) rfl
  refine bodyPost_ret (v := .agg #[.slice A1 2 c1, .slice A2 2 c2, .slice A3 2 c3, .slice A4 2 c4]) (by simp [results, Try.results30, go_sem, q0, q1, q2, q3]) rfl ?_
  exact ⟨_, _, _, _, _, _, _, _, _, _, _, _, rfl, HF.out.tkr, HBX.out⟩
theorem lit4_ints (w : World) (a b c d : Int) (ha : -9 ≤ a ∧ a ≤ 9) (hb : -9 ≤ b ∧ b ≤ 9) (hc : -9 ≤ c ∧ c ≤ 9) (hd : -9 ≤ d ∧ d ≤ 9) : Ints (w.alloc (.cells #[iv a, iv b, iv c, iv d] 3)) (some ⟨w.heap.size, 0, none⟩) 4 4 [a, b, c, d] := by
  have k := blk_new w 3 #[iv a, iv b, iv c, iv d]
  refine ⟨rfl, Nat.le_refl _, by omega, fun x hx => by simp at hx; omega, fun _ => ⟨_, 0, rfl, fun i hi => ?_⟩⟩
  have : i = 0 ∨ i = 1 ∨ i = 2 ∨ i = 3 := by omega
  rcases this with rfl | rfl | rfl | rfl
  · exact blk_cell k rfl
  · exact blk_cell k rfl
  · exact blk_cell k rfl
  · exact blk_cell k rfl
set_option maxRecDepth 100000 in
set_option maxHeartbeats 3200000 in
theorem DrawTalkPays_any (A : Option Addr) (n c : Nat) (w : World) (h : Bytes w A n c) :
    Calls Try.prog 17 #[.slice A n c] w (DrawnTkNN w) := by
  have HB := Lib.hid (below_alloc w (.cells #[.slice none 0 0, .slice none 0 0, .slice none 0 0, .slice none 0 0] 26))
  have HK := Lib.hid (blk_new w 26 #[.slice none 0 0, .slice none 0 0, .slice none 0 0, .slice none 0 0])
  have H0 := Lib.hid (newReader_any A n c _ (h.keep (Keep.below (below_alloc w (.cells #[.slice none 0 0, .slice none 0 0, .slice none 0 0, .slice none 0 0] 26)))))
  clear h
  go_enter Try.func17, Try.ntmps17
  go_wp2_with fail
  have HZ : Hid (w.heap.size < (w.alloc (.cells #[.slice none 0 0, .slice none 0 0, .slice none 0 0, .slice none 0 0] 26)).heap.size) := Lib.hid (by simp)
  generalize w.alloc (.cells #[.slice none 0 0, .slice none 0 0, .slice none 0 0, .slice none 0 0] 26) = W0 at *
  refine H0.out.mono ?_
  rintro e w1 ⟨Ab, l, cb, rfl, hl, hr, hs⟩
  have HS := Lib.hid (show W0.heap.size < w1.heap.size by omega)
  have H1 := Lib.hid (someTalk_any W0 w1 W0.heap.size Ab l cb 0 hr (by omega))
  clear hr hl hs H0
  go_wp2_with fail
  refine H1.out.mono ?_
  rintro e w2 ⟨A1, c1, A2, c2, A3, c3, A4, c4, xs, ss, hs, ks, b1, b2, b3, b4, p', lo1, hi1, lo2, hi2, lo3, hi3, lo4, hi4, rfl, o1, o2, o3, o4, hlo, rd, hp⟩
  have HD := Lib.hid (show DTk w1.heap.size A1 c1 A2 c2 A3 c3 A4 c4 xs ss hs ks w2 from ⟨⟨_, _, _, o1, hlo.1.1⟩, ⟨_, _, _, o2, hlo.1.2⟩, ⟨_, _, _, o3, hlo.2.1⟩, ⟨_, _, _, o4, hlo.2.2⟩⟩)
  have HLT := Lib.hid (show w.heap.size ≤ w1.heap.size ∧ W0.heap.size ≤ w1.heap.size by have := HZ.out; have := HS.out; omega)
  have HR := Lib.hid rd
  clear o1 o2 o3 o4 hlo rd H1
  have HC := Lib.hid (pick_any W0 w2 W0.heap.size Ab l cb (p') 4 HR.out (by omega))
  go_wp2_with fail
  refine HC.out.mono ?_
  rintro e w3 ⟨i, rfl, hk1, _, hr, z, hw⟩
  have hone := Rdr.one (g := W0.heap.size) w2 (.int .i64 (p' + 1 : Nat)) z
  rw [← hw] at hone
  obtain ⟨i0, i1⟩ := hk1 (by omega)
  have HDw3 := Lib.hid (HD.out.up HLT.out.2 hone.grown)
  have HRw3 := Lib.hid hr
  clear hone hw hk1 hr HC HD HR
  have HC := Lib.hid (pick_any W0 w3 W0.heap.size Ab l cb (p' + 1) 4 HRw3.out (by omega))
  go_wp2_with fail
  refine HC.out.mono ?_
  rintro e w4 ⟨j, rfl, hk1, _, hr, z, hw⟩
  have hone := Rdr.one (g := W0.heap.size) w3 (.int .i64 (p' + 1 + 1 : Nat)) z
  rw [← hw] at hone
  obtain ⟨j0, j1⟩ := hk1 (by omega)
  have HDw3w4 := Lib.hid (HDw3.out.up HLT.out.2 hone.grown)
  have HRw3w4 := Lib.hid hr
  clear hone hw hk1 hr HC HDw3 HRw3
  have HC := Lib.hid (one_lit W0 w4 _ W0.heap.size Ab l cb (p' + 1 + 1) w4.heap.size 4 [i, j, 1, 4] HRw3w4.out (by omega) (below_alloc w4 (.cells #[iv i, iv j, iv 1, iv 4] 3)) (Nat.le_refl _) (lit4_ints w4 i j 1 4 (by omega) (by omega) (by omega) (by omega)) (by omega))
  go_wp2_with fail
  refine HC.out.mono ?_
  rintro e w5 ⟨s, rfl, hx, hr, hgr⟩
  have sb : -1 ≤ s ∧ s ≤ 4 := by simp at hx; omega
  have HDw3w4w5 := Lib.hid (HDw3w4.out.up HLT.out.2 hgr)
  have HRw3w4w5 := Lib.hid hr
  clear hx hr hgr HC HDw3w4 HRw3w4
  have HC := Lib.hid (pick_any W0 w5 W0.heap.size Ab l cb (p' + 1 + 1 + 1) 4 HRw3w4w5.out (by omega))
  go_wp2_with fail
  refine HC.out.mono ?_
  rintro e w6 ⟨u, rfl, hk1, _, hr, z, hw⟩
  have hone := Rdr.one (g := W0.heap.size) w5 (.int .i64 (p' + 1 + 1 + 1 + 1 : Nat)) z
  rw [← hw] at hone
  obtain ⟨u0, u1⟩ := hk1 (by omega)
  have HDw3w4w5w6 := Lib.hid (HDw3w4w5.out.up HLT.out.2 hone.grown)
  have HRw3w4w5w6 := Lib.hid hr
  clear hone hw hk1 hr HC HDw3w4w5 HRw3w4w5
  have HC := Lib.hid (pick_any W0 w6 W0.heap.size Ab l cb (p' + 1 + 1 + 1 + 1) 4 HRw3w4w5w6.out (by omega))
  go_wp2_with fail
  refine HC.out.mono ?_
  rintro e w7 ⟨v, rfl, hk1, _, hr, z, hw⟩
  have hone := Rdr.one (g := W0.heap.size) w6 (.int .i64 (p' + 1 + 1 + 1 + 1 + 1 : Nat)) z
  rw [← hw] at hone
  obtain ⟨v0, v1⟩ := hk1 (by omega)
  have HDw3w4w5w6w7 := Lib.hid (HDw3w4w5w6.out.up HLT.out.2 hone.grown)
  have HRw3w4w5w6w7 := Lib.hid hr
  clear hone hw hk1 hr HC HDw3w4w5w6 HRw3w4w5w6
  have HC := Lib.hid (one_lit W0 w7 _ W0.heap.size Ab l cb (p' + 1 + 1 + 1 + 1 + 1) w7.heap.size 4 [u, v, 2, (-1)] HRw3w4w5w6w7.out (by omega) (below_alloc w7 (.cells #[iv u, iv v, iv 2, iv (-1)] 3)) (Nat.le_refl _) (lit4_ints w7 u v 2 (-1) (by omega) (by omega) (by omega) (by omega)) (by omega))
  go_wp2_with fail
  refine HC.out.mono ?_
  rintro e w8 ⟨r, rfl, hx, hr, hgr⟩
  have rb : -1 ≤ r ∧ r ≤ 4 := by simp at hx; omega
  have HDw3w4w5w6w7w8 := Lib.hid (HDw3w4w5w6w7.out.up HLT.out.2 hgr)
  have HRw3w4w5w6w7w8 := Lib.hid hr
  clear hx hr hgr HC HDw3w4w5w6w7 HRw3w4w5w6w7
  have HK2 := Lib.hid (blk_below HK.out HRw3w4w5w6w7w8.out.below)
  have HB2 := Lib.hid (below_up HB.out HRw3w4w5w6w7w8.out.below)
  clear HB HK HZ HS HRw3w4w5w6w7w8
  have d0 := blk_cell HK2.out (i := 0) (v := .slice none 0 0) rfl
  have d1 := blk_cell HK2.out (i := 1) (v := .slice none 0 0) rfl
  have d2 := blk_cell HK2.out (i := 2) (v := .slice none 0 0) rfl
  have d3 := blk_cell HK2.out (i := 3) (v := .slice none 0 0) rfl
  have g0 := blk_frozen HK2.out 0
  have g1 := blk_frozen HK2.out 1
  have g2_ := blk_frozen HK2.out 2
  have g3 := blk_frozen HK2.out 3
  go_wp2
  clear d0 d1 d2 d3 g0 g1 g2_ g3
  have B1 := Lib.hid (blk_set (blk_set (blk_set (blk_set HK2.out 0 (.slice A1 2 c1)) 1 (.slice A2 2 c2)) 2 (.slice A3 2 c3)) 3 (.slice A4 2 c4))
  have HBX := Lib.hid ((((HB2.out.setCell (p := ⟨w.heap.size, 0, none⟩) (Nat.le_refl _) (.slice A1 2 c1)).setCell (p := ⟨w.heap.size, 1, none⟩) (Nat.le_refl _) (.slice A2 2 c2)).setCell (p := ⟨w.heap.size, 2, none⟩) (Nat.le_refl _) (.slice A3 2 c3)).setCell (p := ⟨w.heap.size, 3, none⟩) (Nat.le_refl _) (.slice A4 2 c4))
  have HF := Lib.hid (HDw3w4w5w6w7w8.out.fin (h2 := w.heap.size) HLT.out.1 (.slice A1 2 c1) (.slice A2 2 c2) (.slice A3 2 c3) (.slice A4 2 c4))
  clear HK2 HB2 HDw3w4w5w6w7w8
  generalize (((w8.setCell ⟨w.heap.size, 0, none⟩ (.slice A1 2 c1)).setCell ⟨w.heap.size, 1, none⟩ (.slice A2 2 c2)).setCell ⟨w.heap.size, 2, none⟩ (.slice A3 2 c3)).setCell ⟨w.heap.size, 3, none⟩ (.slice A4 2 c4) = WE at *
  have q0 := blk_cell B1.out (i := 0) (v := .slice A1 2 c1) rfl
  have q1 := blk_cell B1.out (i := 1) (v := .slice A2 2 c2) rfl
  have q2 := blk_cell B1.out (i := 2) (v := .slice A3 2 c3) rfl
  have q3 := blk_cell B1.out (i := 3) (v := .slice A4 2 c4) rfl
  refine bodyPost_ret (v := .tuple #[.agg #[.slice A1 2 c1, .slice A2 2 c2, .slice A3 2 c3, .slice A4 2 c4], .int .i64 s, .int .i64 r]) (by simp [results, Try.results17, go_sem, q0, q1, q2, q3]) rfl ?_
  exact ⟨_, _, _, _, _, _, _, _, _, _, _, _, _, _, rfl, HF.out.tkr, HBX.out, sb, rb⟩

end Go.Proofs.Ytcjanlbhgfadpaa

/- What the laws of talks turn on. -/
namespace Go.Proofs.Ytcjanlbhgfadpaa
open Go.RowKit

/-- Costs, written out, and stored in a talk's box. -/
theorem cost_store {w1 W : World} {v0 v1 v2 v3 : Value} (Z : Below w1.heap.size w1 W) (K : Blk W w1.heap.size 26 #[v0, v1, v2, v3]) (x1 y1 x2 y2 : Int) (f1 : Fit x1) (f2 : Fit y1) (f3 : Fit x2) (f4 : Fit y2) :
    (((W.alloc (.cells #[.int .i64 x1, .int .i64 y1] 3)).alloc (.cells #[.int .i64 x2, .int .i64 y2] 3)).alloc (.cells #[.slice (some ⟨W.heap.size, 0, none⟩) 2 2, .slice (some ⟨W.heap.size + 1, 0, none⟩) 2 2] 23)).cell? ⟨w1.heap.size, 3, none⟩ = some v3 ∧ (((W.alloc (.cells #[.int .i64 x1, .int .i64 y1] 3)).alloc (.cells #[.int .i64 x2, .int .i64 y2] 3)).alloc (.cells #[.slice (some ⟨W.heap.size, 0, none⟩) 2 2, .slice (some ⟨W.heap.size + 1, 0, none⟩) 2 2] 23)).frozen? ⟨w1.heap.size, 3, none⟩ = false ∧ ((((W.alloc (.cells #[.int .i64 x1, .int .i64 y1] 3)).alloc (.cells #[.int .i64 x2, .int .i64 y2] 3)).alloc (.cells #[.slice (some ⟨W.heap.size, 0, none⟩) 2 2, .slice (some ⟨W.heap.size + 1, 0, none⟩) 2 2] 23)).cell? ⟨w1.heap.size, 0, none⟩ = some v0 ∧ (((W.alloc (.cells #[.int .i64 x1, .int .i64 y1] 3)).alloc (.cells #[.int .i64 x2, .int .i64 y2] 3)).alloc (.cells #[.slice (some ⟨W.heap.size, 0, none⟩) 2 2, .slice (some ⟨W.heap.size + 1, 0, none⟩) 2 2] 23)).cell? ⟨w1.heap.size, 1, none⟩ = some v1 ∧ (((W.alloc (.cells #[.int .i64 x1, .int .i64 y1] 3)).alloc (.cells #[.int .i64 x2, .int .i64 y2] 3)).alloc (.cells #[.slice (some ⟨W.heap.size, 0, none⟩) 2 2, .slice (some ⟨W.heap.size + 1, 0, none⟩) 2 2] 23)).cell? ⟨w1.heap.size, 2, none⟩ = some v2) ∧
    Below w1.heap.size w1 ((((W.alloc (.cells #[.int .i64 x1, .int .i64 y1] 3)).alloc (.cells #[.int .i64 x2, .int .i64 y2] 3)).alloc (.cells #[.slice (some ⟨W.heap.size, 0, none⟩) 2 2, .slice (some ⟨W.heap.size + 1, 0, none⟩) 2 2] 23)).setCell ⟨w1.heap.size, 3, none⟩ (.slice (some ⟨W.heap.size + 1 + 1, 0, none⟩) 2 2)) ∧ Blk ((((W.alloc (.cells #[.int .i64 x1, .int .i64 y1] 3)).alloc (.cells #[.int .i64 x2, .int .i64 y2] 3)).alloc (.cells #[.slice (some ⟨W.heap.size, 0, none⟩) 2 2, .slice (some ⟨W.heap.size + 1, 0, none⟩) 2 2] 23)).setCell ⟨w1.heap.size, 3, none⟩ (.slice (some ⟨W.heap.size + 1 + 1, 0, none⟩) 2 2)) w1.heap.size 26 #[v0, v1, v2, .slice (some ⟨W.heap.size + 1 + 1, 0, none⟩) 2 2] ∧ IntRows ((((W.alloc (.cells #[.int .i64 x1, .int .i64 y1] 3)).alloc (.cells #[.int .i64 x2, .int .i64 y2] 3)).alloc (.cells #[.slice (some ⟨W.heap.size, 0, none⟩) 2 2, .slice (some ⟨W.heap.size + 1, 0, none⟩) 2 2] 23)).setCell ⟨w1.heap.size, 3, none⟩ (.slice (some ⟨W.heap.size + 1 + 1, 0, none⟩) 2 2)) (some ⟨W.heap.size + 1 + 1, 0, none⟩) 2 2 [[x1, y1], [x2, y2]] := by
  have hg := blk_lt K
  have hb : Below W.heap.size W (((W.alloc (.cells #[.int .i64 x1, .int .i64 y1] 3)).alloc (.cells #[.int .i64 x2, .int .i64 y2] 3)).alloc (.cells #[.slice (some ⟨W.heap.size, 0, none⟩) 2 2, .slice (some ⟨W.heap.size + 1, 0, none⟩) 2 2] 23)) := below_up (below_up (below_alloc _ _) (below_alloc _ _)) (below_alloc _ _)
  have KA := blk_below K hb
  have a1 := blk_new W 3 #[.int .i64 x1, .int .i64 y1]
  have a2 := blk_new (W.alloc (.cells #[.int .i64 x1, .int .i64 y1] 3)) 3 #[.int .i64 x2, .int .i64 y2]
  have a3 := blk_new ((W.alloc (.cells #[.int .i64 x1, .int .i64 y1] 3)).alloc (.cells #[.int .i64 x2, .int .i64 y2] 3)) 23 #[.slice (some ⟨W.heap.size, 0, none⟩) 2 2, .slice (some ⟨W.heap.size + 1, 0, none⟩) 2 2]
  simp only [World.size_alloc] at a2 a3
  refine ⟨blk_cell KA rfl, blk_frozen KA 3, ⟨blk_cell KA rfl, blk_cell KA rfl, blk_cell KA rfl⟩, (below_up Z hb).setCell (Nat.le_refl _) _, blk_set KA 3 _, ?_⟩
  exact rows_two x1 y1 x2 y2 (blk_other (blk_old (blk_old a1 _) _) (by show W.heap.size ≠ w1.heap.size; omega) _) (blk_other (blk_old a2 _) (by show W.heap.size + 1 ≠ w1.heap.size; omega) _) (blk_other a3 (by show W.heap.size + 1 + 1 ≠ w1.heap.size; omega) _) f1 f2 f3 f4
/-- Costs exchanged. -/
def cX (ks : List (List Int)) : List (List Int) := [[g2 ks 0 1, g2 ks 0 0], [g2 ks 1 1, g2 ks 1 0]]
theorem V2_cX {ks : List (List Int)} (v : V2 ks 0) : V2 (cX ks) 0 := by
  have a := v.bd (i := 0) (j := 0) (by omega) (by omega)
  have b := v.bd (i := 0) (j := 1) (by omega) (by omega)
  have c := v.bd (i := 1) (j := 0) (by omega) (by omega)
  have d := v.bd (i := 1) (j := 1) (by omega) (by omega)
  exact ⟨rfl, ⟨rfl, b, a⟩, ⟨rfl, d, c⟩⟩
theorem g2_cX (ks : List (List Int)) {k j : Nat} (hk : k < 2) (hj : j < 2) : g2 (cX ks) k (1 - j) = g2 ks k j := by
  have a : k = 0 ∨ k = 1 := by omega
  have b : j = 0 ∨ j = 1 := by omega
  rcases a with rfl | rfl <;> rcases b with rfl | rfl <;> rfl
def rX (r : Nat) : Nat := sg r 1 + 2 * sg r 0
theorem rX_lt (r : Nat) : rX r < 4 := by unfold rX; have := sg_lt r 1; have := sg_lt r 0; omega
theorem sg_swap {s : Nat} (hs : s < 4) {k : Nat} (hk : k < 2) : sg (3 - s) k = 1 - sg s k := by
  have a : k = 0 ∨ k = 1 := by omega
  have c : s = 0 ∨ s = 1 ∨ s = 2 ∨ s = 3 := by omega
  rcases a with rfl | rfl <;> rcases c with rfl | rfl | rfl | rfl <;> decide
theorem sg_rX {r : Nat} (hr : r < 4) {j : Nat} (hj : j < 2) : sg (rX r) (1 - j) = sg r j := by
  have a : j = 0 ∨ j = 1 := by omega
  have c : r = 0 ∨ r = 1 ∨ r = 2 ∨ r = 3 := by omega
  rcases a with rfl | rfl <;> rcases c with rfl | rfl | rfl | rfl <;> decide
theorem spk_swap (ss ks : List (List Int)) {s r k : Nat} (hs : s < 4) (hr : r < 4) (hk : k < 2) : spk ss (cX ks) (3 - s) (rX r) k = spk ss ks s r k := by
  unfold spk
  rw [sg_swap hs hk, sg_rX hr (sg_lt s k), g2_cX ks hk (sg_lt s k)]
theorem hea_swap (xs : List Int) (hs : List (List Int)) {s r : Nat} (hs4 : s < 4) (hr : r < 4) : hea xs hs (3 - s) (rX r) = hea xs hs s r := by
  unfold hea hea1
  rw [sg_swap hs4 (k := 0) (by omega), sg_swap hs4 (k := 1) (by omega), sg_rX hr (sg_lt s 0), sg_rX hr (sg_lt s 1)]
/-- Where talk is free there is a rest at which both types say the same. -/
theorem free_rest {xs ss hs ks} (h0 : ∀ i j, i < 2 → j < 2 → g2 ks i j = 0) : ∃ r, r < 4 ∧ TRest xs ss hs ks 0 r := by
  have s0 : ∀ k, sg 0 k = 0 := fun k => by simp [sg]
  have all : ∀ r, r < 4 → sg r 0 = sg r 1 → (∀ x, x < 4 → hea xs hs 0 x ≤ hea xs hs 0 r) → TRest xs ss hs ks 0 r := fun r _ he hm x hx => by
    have hk : ∀ k, k < 2 → spk ss ks x r k = spk ss ks 0 r k := fun k hk => by
      unfold spk
      rw [h0 k _ hk (sg_lt _ _), h0 k _ hk (sg_lt _ _), s0]
      have : sg x k = 0 ∨ sg x k = 1 := by have := sg_lt x k; omega
      rcases this with e | e
      · rw [e]
      · rw [e, he]
    exact ⟨Int.le_of_eq (hk 0 (by omega)), Int.le_of_eq (hk 1 (by omega)), hm x hx⟩
  have hv : ∀ x, hea xs hs 0 x = gi xs 0 * g2 hs 0 (sg x 0) + gi xs 1 * g2 hs 1 (sg x 0) := fun x => by unfold hea hea1; rw [s0, s0]
  have t0 : sg 0 0 = 0 := rfl
  have t3 : sg 3 0 = 1 := rfl
  by_cases hc : gi xs 0 * g2 hs 0 1 + gi xs 1 * g2 hs 1 1 ≤ gi xs 0 * g2 hs 0 0 + gi xs 1 * g2 hs 1 0
  · refine ⟨0, by omega, all 0 (by omega) rfl fun x hx => ?_⟩
    rw [hv, hv, t0]
    have : sg x 0 = 0 ∨ sg x 0 = 1 := by have := sg_lt x 0; omega
    rcases this with e | e
    · rw [e]; exact Int.le_refl _
    · rw [e]; exact hc
  · refine ⟨3, by omega, all 3 (by omega) rfl fun x hx => ?_⟩
    rw [hv, hv, t3]
    have : sg x 0 = 0 ∨ sg x 0 = 1 := by have := sg_lt x 0; omega
    rcases this with e | e
    · rw [e]; omega
    · rw [e]; exact Int.le_refl _
def bst2 (xs : List Int) (hs : List (List Int)) : Nat → Int
  | 0 => 0
  | k + 1 => bst2 xs hs k + gi xs k * (if g2 hs k 0 < g2 hs k 1 then g2 hs k 1 else g2 hs k 0)
theorem mul_mx {x a b : Int} (hx : 0 ≤ x) : x * (if a < b then b else a) = if x * a < x * b then x * b else x * a := by
  by_cases h : a < b
  · rw [if_pos h]
    have := Int.mul_le_mul_of_nonneg_left (Int.le_of_lt h) hx
    split <;> omega
  · rw [if_neg h]
    have := Int.mul_le_mul_of_nonneg_left (show b ≤ a by omega) hx
    split <;> omega
/-- What is told is acted on in the best way. -/
theorem told_best {xs ss hs ks} (v : VTk xs ss hs ks) {s r : Nat} (hs4 : s = 1 ∨ s = 2) (hr : r < 4) (h : TRest xs ss hs ks s r) : hea xs hs s r = bst2 xs hs 2 := by
  have q0 := (h 0 (by omega)).2.2
  have q1 := (h 1 (by omega)).2.2
  have q2 := (h 2 (by omega)).2.2
  have q3 := (h 3 (by omega)).2.2
  have x0 := v.x (k := 0) (by omega)
  have x1 := v.x (k := 1) (by omega)
  have e : bst2 xs hs 2 = (if gi xs 0 * g2 hs 0 0 < gi xs 0 * g2 hs 0 1 then gi xs 0 * g2 hs 0 1 else gi xs 0 * g2 hs 0 0) + (if gi xs 1 * g2 hs 1 0 < gi xs 1 * g2 hs 1 1 then gi xs 1 * g2 hs 1 1 else gi xs 1 * g2 hs 1 0) := by
    simp only [bst2]
    rw [mul_mx (by omega), mul_mx (by omega)]
    omega
  rw [e]
  have c : r = 0 ∨ r = 1 ∨ r = 2 ∨ r = 3 := by omega
  have a00 : sg 0 0 = 0 := rfl
  have a01 : sg 0 1 = 0 := rfl
  have a10 : sg 1 0 = 1 := rfl
  have a11 : sg 1 1 = 0 := rfl
  have a20 : sg 2 0 = 0 := rfl
  have a21 : sg 2 1 = 1 := rfl
  have a30 : sg 3 0 = 1 := rfl
  have a31 : sg 3 1 = 1 := rfl
  rcases hs4 with rfl | rfl <;> rcases c with rfl | rfl | rfl | rfl <;> (simp only [hea, hea1, a00, a01, a10, a11, a20, a21, a30, a31] at q0 q1 q2 q3 ⊢; (repeat' split) <;> omega)
theorem hoF_cases (xs ss hs ks) : hoF xs ss hs ks = -1 ∨ ∃ c : Nat, c < 10 ∧ hoF xs ss hs ks = c ∧ VTk xs ss hs ks ∧ Tel xs ss hs (cL c) ∧ ∀ d, d < c → ¬ Tel xs ss hs (cL d) := by
  by_cases v : VTk xs ss hs ks
  · by_cases h : ∃ c, c < 10 ∧ Tel xs ss hs (cL c)
    · have key : ∀ n c, c ≤ n → c < 10 → Tel xs ss hs (cL c) → ∃ c : Nat, c < 10 ∧ Tel xs ss hs (cL c) ∧ ∀ d, d < c → ¬ Tel xs ss hs (cL d) := by
        intro n
        induction n with
        | zero => intro c hc h1 h2; exact ⟨c, h1, h2, fun d hd => absurd hd (by omega)⟩
        | succ n ih =>
          intro c hc h1 h2
          by_cases he : ∃ d, d < c ∧ Tel xs ss hs (cL d)
          · obtain ⟨d, hd, ht⟩ := he
            exact ih d (by omega) (by omega) ht
          · exact ⟨c, h1, h2, fun d hd ht => he ⟨d, hd, ht⟩⟩
      obtain ⟨c, h1, h2⟩ := h
      obtain ⟨c, h1, h2, h3⟩ := key c c (Nat.le_refl _) h1 h2
      exact .inr ⟨c, h1, hoF_hit v h1 h2 h3, v, h2, h3⟩
    · exact .inl (hoF_none v fun c hc ht => h ⟨c, hc, ht⟩)
  · exact .inl (hoF_no v)

end Go.Proofs.Ytcjanlbhgfadpaa

/- What the laws on rests of talks turn on. -/
namespace Go.Proofs.Ytcjanlbhgfadpaa
open Go.RowKit

theorem trF_rest {xs ss hs ks} (v : VTk xs ss hs ks) {k : Nat} (hk : k < (trF xs ss hs ks).length) : ∃ s r : Nat, s < 4 ∧ r < 4 ∧ gr (trF xs ss hs ks) k = [(s : Int), (r : Int)] ∧ TRest xs ss hs ks s r := by
  rw [trF_yes v] at hk ⊢
  obtain ⟨s, r, h1, h2, h3, h4⟩ := trL_mem 16 (gr_mem hk)
  exact ⟨s, r, by omega, h1, h3, h4⟩
/-- A law's talk and its rests, in memory. -/
structure LW (p : TP) (w1 : World) (xs : List Int) (ss hs ks : List (List Int)) (A : Option Addr) (n c : Nat) (F : List (List Int)) (W : World) : Prop where
  Z : Below w1.heap.size w1 W
  K : Blk W w1.heap.size 26 #[.slice (some ⟨p.b1, p.o1, none⟩) 2 p.c1, .slice (some ⟨p.b2, p.o2, none⟩) 2 p.c2, .slice (some ⟨p.b3, p.o3, none⟩) 2 p.c3, .slice (some ⟨p.b4, p.o4, none⟩) 2 p.c4]
  R : IntRows W A n c F
theorem LW.up {p w1 xs ss hs ks A n c F W W'} (h : LW p w1 xs ss hs ks A n c F W) (k : Below W.heap.size W W') : LW p w1 xs ss hs ks A n c F W' := ⟨below_up h.Z k, blk_below h.K k, h.R.keep (Keep.below k)⟩
/-- .. what a rest pays, beside it. -/
structure LP (p : TP) (w1 : World) (xs : List Int) (ss hs ks : List (List Int)) (A : Option Addr) (n c : Nat) (F : List (List Int)) (B : Option Addr) (d : Nat) (X Y : Int) (W : World) : Prop where
  l : LW p w1 xs ss hs ks A n c F W
  P : Ints W B 2 d [X, Y]
theorem LP.up {p w1 xs ss hs ks A n c F B d X Y W W'} (h : LP p w1 xs ss hs ks A n c F B d X Y W) (k : Below W.heap.size W W') : LP p w1 xs ss hs ks A n c F B d X Y W' := ⟨h.l.up k, h.P.keep (Keep.below k)⟩
theorem row_at {w A n c F} (h : IntRows w A n c F) {k s r : Nat} (hk : k < n) (hg : gr F k = [(s : Int), (r : Int)]) :
    ∃ b o b2 o2 cc, A = some ⟨b, o, none⟩ ∧ w.cell? ⟨b, o + k, none⟩ = some (.slice (some ⟨b2, o2, none⟩) 2 cc) ∧ w.cell? ⟨b2, o2, none⟩ = some (.int .i64 (s : Int)) ∧ w.cell? ⟨b2, o2 + 1, none⟩ = some (.int .i64 (r : Int)) := by
  obtain ⟨b, o, rfl, hr⟩ := h.at_ (by omega)
  obtain ⟨R1, cc, r1, hI⟩ := hr k hk
  rw [hg] at r1 hI
  obtain ⟨b2, o2, rfl, d0, d1⟩ := ints2_at hI
  exact ⟨b, o, b2, o2, cc, rfl, r1, d0, d1⟩
theorem TalkPays_at {p : TP} {xs ss hs ks} {s r : Nat} (W : World) (h : TkR W (some ⟨p.b1, p.o1, none⟩) (some ⟨p.b2, p.o2, none⟩) (some ⟨p.b3, p.o3, none⟩) (some ⟨p.b4, p.o4, none⟩) 2 p.c1 2 p.c2 2 p.c3 2 p.c4 xs ss hs ks) (v : VTk xs ss hs ks) (hs4 : s < 4) (hr4 : r < 4) :
    Calls Try.prog 18 #[.agg #[.slice (some ⟨p.b1, p.o1, none⟩) 2 p.c1, .slice (some ⟨p.b2, p.o2, none⟩) 2 p.c2, .slice (some ⟨p.b3, p.o3, none⟩) 2 p.c3, .slice (some ⟨p.b4, p.o4, none⟩) 2 p.c4], .int .i64 (s : Int), .int .i64 (r : Int)] W (NewIH W [spk ss ks s r 0, spk ss ks s r 1] (hea xs hs s r)) := by
  have t := tp_yes v hs4 hr4
  have c := TalkPays_impl _ _ _ _ _ _ _ _ _ _ _ _ xs ss hs ks (s : Int) (r : Int) W h ⟨by omega, by omega⟩ ⟨by omega, by omega⟩
  rw [t.1, t.2] at c
  exact c
theorem tot2 {xs : List Int} (h : xs.length = 2) : tot xs = gi xs 0 + gi xs 1 := by unfold tot; rw [h]; simp only [sm]; omega
theorem free_zero {ks : List (List Int)} (v : V2 ks 0) (h : tot (gr ks 0) + tot (gr ks 1) = 0) : ∀ i j, i < 2 → j < 2 → g2 ks i j = 0 := by
  rw [tot2 v.2.1.1, tot2 v.2.2.1] at h
  have a := v.bd (i := 0) (j := 0) (by omega) (by omega)
  have b := v.bd (i := 0) (j := 1) (by omega) (by omega)
  have c := v.bd (i := 1) (j := 0) (by omega) (by omega)
  have d := v.bd (i := 1) (j := 1) (by omega) (by omega)
  simp only [g2] at a b c d
  intro i j hi hj
  have e : i = 0 ∨ i = 1 := by omega
  have f : j = 0 ∨ j = 1 := by omega
  rcases e with rfl | rfl <;> rcases f with rfl | rfl <;> (show gi _ _ = 0; omega)
/-- Both types say the same at a rest. -/
def dmB (F : List (List Int)) (k : Nat) : Prop := gi (gr F k) 0 = 0 ∨ gi (gr F k) 0 = 3
theorem free_dumb {xs ss hs ks} (v : VTk xs ss hs ks) (h : tot (gr ks 0) + tot (gr ks 1) = 0) : ∃ k, k < (trF xs ss hs ks).length ∧ dmB (trF xs ss hs ks) k := by
  obtain ⟨r, hr, ht⟩ := free_rest (xs := xs) (ss := ss) (hs := hs) (free_zero v.2.2.2 h)
  rw [trF_yes v]
  have hm := trL_in hr ht 16 (by omega)
  obtain ⟨i, hi, e⟩ := List.getElem_of_mem hm
  exact ⟨i, hi, .inl (by rw [gr_get hi, e]; rfl)⟩
theorem bst2_bd {xs ss hs ks} (v : VTk xs ss hs ks) : ∀ {k : Nat}, k ≤ 2 → -81 * k ≤ bst2 xs hs k ∧ bst2 xs hs k ≤ 81 * k
  | 0, _ => by simp [bst2]
  | k + 1, h => by
    have h1 := bst2_bd v (k := k) (by omega)
    have a := v.2.2.1.bd (i := k) (j := 0) (by omega) (by omega)
    have b := v.2.2.1.bd (i := k) (j := 1) (by omega) (by omega)
    have h2 := mul9 (v.x (k := k) (by omega)) (show -9 ≤ (if g2 hs k 0 < g2 hs k 1 then g2 hs k 1 else g2 hs k 0) ∧ (if g2 hs k 0 < g2 hs k 1 then g2 hs k 1 else g2 hs k 0) ≤ 9 by split <;> omega)
    simp only [bst2]
    omega

end Go.Proofs.Ytcjanlbhgfadpaa

/- Small functions of the laws. -/
namespace Go.Proofs.Ytcjanlbhgfadpaa
open Go.RowKit

set_option maxHeartbeats 400000 in
theorem total_any (A : Option Addr) (n c : Nat) (xs : List Int) (w : World) (hx : Ints w A n c xs) (hs : SumOk xs) :
    Calls Try.prog 26 #[.slice A n c] w fun e w' => e = .returned (.int .i64 (tot xs)) ∧ Quiet w w' := by
  have hl : n ≤ 1000 := by rw [← hx.len]; exact hs.n
  have HX := Lib.hid hx
  have HS := Lib.hid hs
  have HL := Lib.hid hx.len
  clear hx hs
  go_enter Try.func26, Try.ntmps26
  go_wp2
  go_loopw [3, 4] (fun s i wr => ∃ k : Nat, k ≤ n ∧ i = .int .i64 k ∧ s = .int .i64 (sm xs k) ∧ Quiet w wr) (fun _ i _ => n - (intOf i).toNat)
  case atStart => exact ⟨0, Nat.zero_le _, rfl, rfl, Quiet.refl _⟩
  case round =>
    obtain ⟨k, hk, rfl, rfl, q, rfl⟩ := hrel
    by_cases hlt : k < n
    · obtain ⟨b, o, rfl, hc⟩ := HX.out.at_ (by omega)
      have c1 := hc k hlt
      obtain ⟨b1, b2⟩ := HS.out.sm (k := k) (by rw [HL.out]; exact hk)
      obtain ⟨b3, b4⟩ := HS.out.bd k (by rw [HL.out]; exact hlt)
      clear hc
      go_wp2
      go_roundw
      case rel => exact ⟨k + 1, by omega, by go_num, rfl, ⟨_, rfl⟩⟩
      case measure => simp [intOf]; omega
    · obtain rfl : k = n := by omega
      go_wp2
      go_ret
      exact ⟨ret_int (by rw [tot, HL.out]), ⟨_, rfl⟩⟩

set_option maxHeartbeats 400000 in
theorem equalInts_any (A B : Option Addr) (n c m d : Nat) (xs ys : List Int) (w : World) (hx : Ints w A n c xs) (hy : Ints w B m d ys) :
    Calls Try.prog 20 #[.slice A n c, .slice B m d] w fun e w' => e = .returned (.bool (eqI xs ys)) ∧ Quiet w w' := by
  obtain ⟨lx, cx, mx, _, hx⟩ := hx
  obtain ⟨ly, cy, my, _, hy⟩ := hy
  have Lx := Lib.hid lx
  have Ly := Lib.hid ly
  clear lx ly
  by_cases hnm : n = m
  · subst hnm
    go_enter Try.func20, Try.ntmps20
    go_wp2
    go_loopw [5] (fun i wr => ∃ k : Nat, k ≤ n ∧ i = .int .i64 k ∧ (∀ j, j < k → gi xs j = gi ys j) ∧ Quiet w wr) (fun i _ => n - (intOf i).toNat)
    case atStart => exact ⟨0, Nat.zero_le _, rfl, fun _ h => absurd h (by omega), Quiet.refl _⟩
    case round =>
      obtain ⟨k, hk, rfl, hall, q, rfl⟩ := hrel
      have HALL := Lib.hid hall
      clear hall
      by_cases hlt : k < n
      · obtain ⟨b, o, rfl, hcx⟩ := hx (by omega)
        obtain ⟨b2, o2, rfl, hcy⟩ := hy (by omega)
        have c1 := hcx k hlt
        have c2 := hcy k hlt
        clear hx hy hcx hcy
        by_cases he : gi xs k = gi ys k
        · have he' : (gi xs k != gi ys k) = false := by simp [he]
          have HE := Lib.hid he
          clear he
          go_wp2
          go_quiet (fail)
          go_wp2
          go_roundw
          case rel => exact ⟨k + 1, by omega, by go_num, fun j hj => by
            by_cases hjk : j < k
            · exact HALL.out j hjk
            · obtain rfl : j = k := by omega
              exact HE.out, ⟨_, rfl⟩⟩
          case measure => simp [intOf]; omega
        · have he' : (gi xs k != gi ys k) = true := by simpa using he
          go_wp2
          go_quiet (fail)
          go_wp2
          go_ret
          exact ⟨ret_bool (eqI_no he).symm, Quiet.two _ _ _⟩
      · obtain rfl : k = n := by omega
        go_wp2
        go_ret
        exact ⟨ret_bool (eqI_yes (by rw [Lx.out, Ly.out]) fun j hj => HALL.out j (by rw [Lx.out] at hj; exact hj)).symm, ⟨_, rfl⟩⟩
  · go_enter Try.func20, Try.ntmps20
    go_wp2
    go_ret
    exact ⟨ret_bool (eqI_len (by rw [Lx.out, Ly.out]; exact hnm)).symm, Quiet.refl _⟩

end Go.Proofs.Ytcjanlbhgfadpaa

/- Even tables, by both programs. -/
namespace Go.Proofs.Ytcjanlbhgfadpaa
open Go.RowKit

theorem VQ.len2 {a : List (List Int)} {n : Nat} (v : VQ a) (hl : a.length = n) : (gr a 0).length = n := by have := v.2; omega
/-- A square that is the same with rows as columns. -/
structure EvP (a : List (List Int)) : Prop where
  q : VQ a
  e : ∀ i j, i < a.length → j < a.length → g2 a i j = g2 a j i


theorem g2_flipT {a : List (List Int)} {n m i j : Nat} (hi : i < m) (hj : j < n) : g2 (flip a n m) i j = g2 a j i := by
  unfold g2
  rw [gr_flip hi, gi_col hj]
  rfl

/-- The table is even just if the arrays of it and it turned are the same. -/
theorem even_cells {a : List (List Int)} (v : VQ a) : EvP a ↔ cs9 (full9 a a.length a.length) = cs9 (full9 (flip a a.length a.length) a.length a.length) := by
  constructor
  · intro h
    refine cs9_congr fun r c _ _ => ?_
    unfold full9
    by_cases e : r < a.length ∧ c < a.length
    · rw [if_pos e, if_pos e, g2_flipT e.1 e.2]; exact h.e r c e.1 e.2
    · rw [if_neg e, if_neg e]
  · intro h
    refine ⟨v, fun i j hi hj => ?_⟩
    have h3 := v.1.n3
    have e1 := cs9_get (full9 a a.length a.length) (i := i) (j := j) (by omega) (by omega)
    have e2 := cs9_get (full9 (flip a a.length a.length) a.length a.length) (i := i) (j := j) (by omega) (by omega)
    rw [h, e2] at e1
    injection e1 with e1
    injection e1 with _ e1
    unfold full9 at e1
    rw [if_pos ⟨hi, hj⟩, if_pos ⟨hi, hj⟩, g2_flipT hi hj] at e1
    exact e1.symm

end Go.Proofs.Ytcjanlbhgfadpaa

/- Rows compared, by the laws; squares turned. -/
namespace Go.Proofs.Ytcjanlbhgfadpaa
open Go.RowKit

set_option maxHeartbeats 400000 in
theorem equalRows_any (A B : Option Addr) (n c m d : Nat) (xs ys : List (List Int)) (w : World) (hx : IntRows w A n c xs) (hy : IntRows w B m d ys) :
    Calls Try.prog 24 #[.slice A n c, .slice B m d] w fun e w' => e = .returned (.bool (eqRR xs ys)) ∧ Quiet w w' := by
  obtain ⟨lx, cx, mx, hx⟩ := hx
  obtain ⟨ly, cy, my, hy⟩ := hy
  have Lx := Lib.hid lx
  have Ly := Lib.hid ly
  clear lx ly
  by_cases hnm : n = m
  · subst hnm
    go_enter Try.func24, Try.ntmps24
    go_wp2
    go_loopw [5] (fun i wr => ∃ k : Nat, k ≤ n ∧ i = .int .i64 k ∧ Hid (∀ j, j < k → eqI (gr xs j) (gr ys j) = true) ∧ Quiet w wr) (fun i _ => n - (intOf i).toNat)
    case atStart => exact ⟨0, Nat.zero_le _, rfl, Lib.hid (fun _ h => absurd h (by omega)), Quiet.refl _⟩
    case round =>
      obtain ⟨k, hk, rfl, HALL, q, rfl⟩ := hrel
      by_cases hlt : k < n
      · obtain ⟨b, o, rfl, hcx⟩ := hx (by omega)
        obtain ⟨b2, o2, rfl, hcy⟩ := hy (by omega)
        obtain ⟨R, cc, c1, hR⟩ := hcx k hlt
        obtain ⟨R2, cc2, c2, hR2⟩ := hcy k hlt
        clear hx hy hcx hcy
        cases he : eqI (gr xs k) (gr ys k) with
        | true =>
          have HE := Lib.hid he
          have hq := fun W (hW : Quiet w W) => (he ▸ equalInts_any _ _ _ _ _ _ _ _ W (hR.keep (Keep.quiet hW)) (hR2.keep (Keep.quiet hW)))
          clear he
          go_wp2
          go_quiet ((go_at_call 20; exact quiet_fit (hq _ (by first | exact ⟨_, rfl⟩ | exact Quiet.two _ _ _)) (fun m => by first | exact drewN_to1 _ _ _ | exact drewN_to2 _ _ _ _)))
          go_wp2
          go_roundw
          case rel => exact ⟨k + 1, by omega, by go_num, Lib.hid (fun j hj => by
            by_cases hjk : j < k
            · exact HALL.out j hjk
            · obtain rfl : j = k := by omega
              exact HE.out), ⟨_, rfl⟩⟩
          case measure => simp [intOf]; omega
        | false =>
          have HE := Lib.hid he
          have hq := fun W (hW : Quiet w W) => (he ▸ equalInts_any _ _ _ _ _ _ _ _ W (hR.keep (Keep.quiet hW)) (hR2.keep (Keep.quiet hW)))
          clear he
          go_wp2
          go_quiet ((go_at_call 20; exact quiet_fit (hq _ (by first | exact ⟨_, rfl⟩ | exact Quiet.two _ _ _)) (fun m => by first | exact drewN_to1 _ _ _ | exact drewN_to2 _ _ _ _)))
          go_wp2
          go_ret
          exact ⟨ret_bool (eqRR_no HE.out).symm, Quiet.two _ _ _⟩
      · obtain rfl : k = n := by omega
        go_wp2
        go_ret
        exact ⟨ret_bool (eqRR_yes (by rw [Lx.out, Ly.out]) fun j hj => HALL.out j (by rw [Lx.out] at hj; exact hj)).symm, ⟨_, rfl⟩⟩
  · go_enter Try.func24, Try.ntmps24
    go_wp2
    go_ret
    exact ⟨ret_bool (eqRR_len (by rw [Lx.out, Ly.out]; exact hnm)).symm, Quiet.refl _⟩
theorem VQ.m {a : List (List Int)} {k : Nat} (v : VQ a) (h : a.length = k) : (gr a 0).length = k := by have := v.2; omega
theorem VQ.flip {a : List (List Int)} {k : Nat} (v : VQ a) (h : a.length = k) : VQ (flip a k k) := by
  have h1 := v.1.flip
  rw [h, v.m h] at h1
  refine ⟨h1, ?_⟩
  have := v.1.n1
  rw [flip_len, gr_flip (by omega)]
  simp
theorem VQ.even {a : List (List Int)} {k : Nat} (v : VQ a) (h : a.length = k) : Even a k := by have h1 := v.1.even; rw [v.m h] at h1; exact h1
theorem VQ.evenP {a : List (List Int)} {k : Nat} (v : VQ a) (h : a.length = k) : EvP a ↔ Go.Proofs.Ytcjanlbhgfadpaa.flip a k k = a := by
  constructor
  · intro e
    refine gr_ext (by rw [flip_len, h]) fun i hi => ?_
    rw [flip_len] at hi
    refine gi_ext (by rw [gr_flip hi, (v.1.rows i (by omega)).1, v.m h]; simp) fun j hj => ?_
    rw [gr_flip hi] at hj
    have hj' : j < k := by simpa using hj
    have := g2_flipT (a := a) (n := k) (m := k) hi hj'
    unfold g2 at this
    rw [this]
    exact e.e j i (by omega) (by omega)
  · intro e
    refine ⟨v, fun i j hi hj => ?_⟩
    have := g2_flipT (a := a) (n := k) (m := k) (i := i) (j := j) (by omega) (by omega)
    rw [e] at this
    exact this

end Go.Proofs.Ytcjanlbhgfadpaa

/- The laws' bit; costs exchanged in a region that draws its order. -/
namespace Go.Proofs.Ytcjanlbhgfadpaa
open Go.RowKit

def tpw : Nat → Int
  | 0 => 1
  | i + 1 => wrap64 (2 * tpw i)
set_option maxHeartbeats 400000 in
theorem tpow_any (n : Nat) (w : World) (hn : n ≤ 10) : Calls Try.prog 54 #[.int .i64 n] w fun e w' => e = .returned (.int .i64 (tpw n)) ∧ w = w' := by
  go_enter Try.func54, Try.ntmps54
  go_wp2
  go_loop [0, 3] (fun t s => ∃ i k : Nat, i + k = n ∧ t = .int .i64 k ∧ s = .int .i64 (tpw i)) (fun t _ => (intOf t).toNat)
  case atStart => exact ⟨0, n, by omega, rfl, rfl⟩
  case round =>
    obtain ⟨i, k, hik, rfl, rfl⟩ := hrel
    have HS : Hid (tpw (i + 1) = wrap64 (2 * tpw i)) := Lib.hid rfl
    have HI := Lib.hid hik
    have hk1 : k ≤ 10 := by omega
    clear hik
    by_cases hk : 0 < k
    · have hk' : (0 : Int) < (k : Int) := by omega
      generalize tpw i = v at *
      go_wp2
      go_round
      case rel => exact ⟨i + 1, k - 1, by have := HI.out; omega, by go_num, by rw [HS.out]⟩
      case measure => simp [intOf]; omega
    · obtain rfl : k = 0 := by omega
      go_wp2
      go_ret
      exact ⟨ret_int (congrArg tpw (by have h1 := HI.out; omega)), rfl⟩
set_option maxHeartbeats 1000000 in
theorem tbit_any (r j : Nat) (w : World) (hr : r < 4) (hj : j < 2) : Calls Try.prog 21 #[.int .i64 (r : Int), .int .i64 (j : Int)] w fun e w' => e = .returned (.int .i64 (sg r j : Nat)) ∧ w = w' := by
  have HP := Lib.hid (tpow_any j w (by omega))
  have c : r = 0 ∨ r = 1 ∨ r = 2 ∨ r = 3 := by omega
  have d : j = 0 ∨ j = 1 := by omega
  have e0 : tpw 0 = 1 := rfl
  have e1 : tpw 1 = 2 := by simp only [tpw]; unfold wrap64; omega
  rcases c with rfl | rfl | rfl | rfl <;> rcases d with rfl | rfl
  all_goals
    (first | rw [e0] at HP | rw [e1] at HP)
    clear e0 e1 hr hj
    go_enter Try.func21, Try.ntmps21
    go_wp2_with fail
    refine HP.out.mono ?_
    rintro e w' ⟨rfl, rfl⟩
    clear HP
    go_wp2
    go_ret
    exact ⟨ret_int (by decide), rfl⟩
structure RXc (p : TP) (w1 : World) (L1 L2 gp : Nat) (Ap : Option Addr) (cp : Nat) (ls : List Int) (k00 k01 k10 k11 : Int) (L : Array Bool) (u57 u58 u59 u60 u61 u62 u63 u64 u65 u66 u67 u68 u69 u70 u71 u72 u73 u74 u75 u76 u77 u78 u79 u80 u81 u82 u83 u84 : Value) (G1 : Nat) (G2 : Nat) (G3 : Nat) (W : World) : Prop where
  Z : Below w1.heap.size w1 W
  K : On L 28 ∨ Blk W w1.heap.size 26 #[.slice (some ⟨p.b1, p.o1, none⟩) 2 p.c1, .slice (some ⟨p.b2, p.o2, none⟩) 2 p.c2, .slice (some ⟨p.b3, p.o3, none⟩) 2 p.c3, .slice (some ⟨p.b4, p.o4, none⟩) 2 p.c4]
  po : OwnI L1 L2 W gp Ap 2 cp ls
  zz : w1.heap.size < W.heap.size
  e57 : On L 0 → u57 = .pointer (some ⟨w1.heap.size, 3, none⟩)
  e58 : On L 1 → u58 = .slice (some ⟨p.b4, p.o4, none⟩) 2 p.c4
  e59 : On L 2 → u59 = .pointer (some ⟨p.b4, p.o4, none⟩)
  e60 : On L 3 → u60 = .slice (some ⟨p.r4 0, p.q4 0, none⟩) 2 (p.d4 0)
  e61 : On L 4 → u61 = .pointer (some ⟨p.r4 0, p.q4 0 + 1, none⟩)
  e62 : On L 5 → u62 = .int .i64 k01
  n1 : On L 28 → On L 1 ∧ True
  e63 : On L 6 → u63 = .pointer (some ⟨w1.heap.size, 3, none⟩)
  e64 : On L 7 → u64 = .slice (some ⟨p.b4, p.o4, none⟩) 2 p.c4
  e65 : On L 8 → u65 = .pointer (some ⟨p.b4, p.o4, none⟩)
  e66 : On L 9 → u66 = .slice (some ⟨p.r4 0, p.q4 0, none⟩) 2 (p.d4 0)
  e67 : On L 10 → u67 = .pointer (some ⟨p.r4 0, p.q4 0, none⟩)
  e68 : On L 11 → u68 = .int .i64 k00
  n7 : On L 28 → On L 7 ∧ True
  e70 : On L 13 → u70 = .pointer (some ⟨w1.heap.size, 3, none⟩)
  e71 : On L 14 → u71 = .slice (some ⟨p.b4, p.o4, none⟩) 2 p.c4
  e72 : On L 15 → u72 = .pointer (some ⟨p.b4, p.o4 + 1, none⟩)
  e73 : On L 16 → u73 = .slice (some ⟨p.r4 1, p.q4 1, none⟩) 2 (p.d4 1)
  e74 : On L 17 → u74 = .pointer (some ⟨p.r4 1, p.q4 1 + 1, none⟩)
  e75 : On L 18 → u75 = .int .i64 k11
  n14 : On L 28 → On L 14 ∧ True
  e76 : On L 19 → u76 = .pointer (some ⟨w1.heap.size, 3, none⟩)
  e77 : On L 20 → u77 = .slice (some ⟨p.b4, p.o4, none⟩) 2 p.c4
  e78 : On L 21 → u78 = .pointer (some ⟨p.b4, p.o4 + 1, none⟩)
  e79 : On L 22 → u79 = .slice (some ⟨p.r4 1, p.q4 1, none⟩) 2 (p.d4 1)
  e80 : On L 23 → u80 = .pointer (some ⟨p.r4 1, p.q4 1, none⟩)
  e81 : On L 24 → u81 = .int .i64 k10
  n20 : On L 28 → On L 20 ∧ True
  e69 : On L 12 → u69 = .slice (some ⟨G1, 0, none⟩) 2 2
  b69 : On L 12 → Blk W G1 3 #[.int .i64 k01, .int .i64 k00] ∧ w1.heap.size < G1
  e82 : On L 25 → u82 = .slice (some ⟨G2, 0, none⟩) 2 2
  b82 : On L 25 → Blk W G2 3 #[.int .i64 k11, .int .i64 k10] ∧ w1.heap.size < G2
  e83 : On L 26 → u83 = .slice (some ⟨G3, 0, none⟩) 2 2
  b83 : On L 26 → Blk W G3 23 #[.slice (some ⟨G1, 0, none⟩) 2 2, .slice (some ⟨G2, 0, none⟩) 2 2] ∧ w1.heap.size < G3
  m12 : On L 26 → On L 12 ∧ On L 25
  m28 : On L 28 → On L 26 ∧ True
  e84 : On L 27 → u84 = .pointer (some ⟨w1.heap.size, 3, none⟩)
  y : On L 28 → Blk W w1.heap.size 26 #[.slice (some ⟨p.b1, p.o1, none⟩) 2 p.c1, .slice (some ⟨p.b2, p.o2, none⟩) 2 p.c2, .slice (some ⟨p.b3, p.o3, none⟩) 2 p.c3, .slice (some ⟨G3, 0, none⟩) 2 2]
theorem RXc.up {p w1 L1 L2 gp Ap cp ls k00 k01 k10 k11 L u57 u58 u59 u60 u61 u62 u63 u64 u65 u66 u67 u68 u69 u70 u71 u72 u73 u74 u75 u76 u77 u78 u79 u80 u81 u82 u83 u84 G1 G2 G3 W W'} (Hy : RXc p w1 L1 L2 gp Ap cp ls k00 k01 k10 k11 L u57 u58 u59 u60 u61 u62 u63 u64 u65 u66 u67 u68 u69 u70 u71 u72 u73 u74 u75 u76 u77 u78 u79 u80 u81 u82 u83 u84 G1 G2 G3 W) (k : Below W.heap.size W W') : RXc p w1 L1 L2 gp Ap cp ls k00 k01 k10 k11 L u57 u58 u59 u60 u61 u62 u63 u64 u65 u66 u67 u68 u69 u70 u71 u72 u73 u74 u75 u76 u77 u78 u79 u80 u81 u82 u83 u84 G1 G2 G3 W' :=
  ⟨below_up Hy.Z k, Hy.K.imp id (fun q => blk_below q k), Hy.po.below k, Nat.lt_of_lt_of_le Hy.zz k.size, Hy.e57, Hy.e58, Hy.e59, Hy.e60, Hy.e61, Hy.e62, Hy.n1, Hy.e63, Hy.e64, Hy.e65, Hy.e66, Hy.e67, Hy.e68, Hy.n7, Hy.e70, Hy.e71, Hy.e72, Hy.e73, Hy.e74, Hy.e75, Hy.n14, Hy.e76, Hy.e77, Hy.e78, Hy.e79, Hy.e80, Hy.e81, Hy.n20, Hy.e69, fun o => ⟨blk_below (Hy.b69 o).1 k, (Hy.b69 o).2⟩, Hy.e82, fun o => ⟨blk_below (Hy.b82 o).1 k, (Hy.b82 o).2⟩, Hy.e83, fun o => ⟨blk_below (Hy.b83 o).1 k, (Hy.b83 o).2⟩, Hy.m12, Hy.m28, Hy.e84, fun o => blk_below (Hy.y o) k⟩

end Go.Proofs.Ytcjanlbhgfadpaa

