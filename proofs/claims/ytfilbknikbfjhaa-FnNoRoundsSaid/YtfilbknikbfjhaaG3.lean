/- A game under way: the box is written; the second table is appended to. -/
import Derived.Test.YtfilbknikbfjhaaG2
namespace Go.Proofs.Ytfilbknikbfjhaa
open Go.RowKit

theorem Bld.set_box {lo hi w v vs xss} {h : Nat} {cs : Array Value} (b : Bld lo hi w v vs xss) (hb : Blk w h 25 cs) (hcs : ∀ (k : Nat) (v : Value), cs[k]? = some v → ∀ (kk : IntKind) (x : Int), v ≠ Value.int kk x) (i : Nat) (u : Value) :
    Bld lo hi (w.setCell ⟨h, i, none⟩ u) v vs xss := by
  have hno := box_ne_own hb b.own (by decide)
  obtain ⟨ho, h4, G, R, C, h2, h3⟩ := b
  refine ⟨blk_kept ho fun g hg => Below.heap_setCell _ _ _ _ (fun e => hno (by rw [hg, e])), h4, G, R, C, fun k hk => ⟨(h2 k hk).1, (h2 k hk).2.1.of_block fun hp => Below.heap_setCell _ _ _ _ ?_, (h2 k hk).2.2⟩, h3⟩
  show G k ≠ h
  obtain ⟨o, e, _, _, _⟩ := (h2 k hk).2.1.own hp
  obtain ⟨b', o', e', hc⟩ := (h2 k hk).2.1.ints.at_ hp
  rw [e] at e'
  injection e' with e'
  injection e' with e1 _ _
  rw [e1]
  exact Ne.symm (box_ne_int (k := .i64) hb hcs ⟨_, hc 0 hp⟩)

/-- The box's second cell is written. -/
theorem GO.rebox {w0 w3 mid g A l c p Aa na ca ga xa Bb nb cb vs xb h w Nb nn cn vs' xb'} (o : GO w0 w3 mid g A l c p Aa na ca ga xa (.slice Bb nb cb) vs xb h w) (hmh : mid ≤ h) (hb : Bld mid w.heap.size w (.slice Nb nn cn) vs' xb') :
    GO w0 w3 mid g A l c p Aa na ca ga xa (.slice Nb nn cn) vs' xb' h (w.setCell ⟨h, 1, none⟩ (.slice Nb nn cn)) := by
  have hgl := o.gl
  have hlm := o.lm
  have hs : (w.setCell ⟨h, 1, none⟩ (.slice Nb nn cn)).heap.size = w.heap.size := by simp [World.setCell]
  refine ⟨⟨blk_other o.rd.box (by show g ≠ h; omega) _, o.rd.bytes, o.rd.below.setCell (by show w0.heap.size ≤ h; have := o.rd.lt; omega) _, o.rd.lt, o.rd.small⟩, o.a.of_blocks fun k _ h2 _ => Below.heap_setCell _ _ _ _ (by show k ≠ h; omega), by rw [hs]; exact hb.set_box o.box (box_slices _ _ _ _ _ _) 1 _, o.gl, o.lm, by rw [hs]; exact o.mw, ?_, blk_set o.box 1 _⟩
  exact ⟨o.up.os, o.up.tape, o.up.output, by rw [hs]; exact o.up.size, fun k hk hne => (Below.heap_setCell _ _ _ _ (by show k ≠ h; omega)).trans (o.up.block k hk hne)⟩

def cutW (w : World) (m : Nat) : World := { w with heap := w.heap.extract 0 m }
theorem cutW_size {w : World} {m : Nat} (h : m ≤ w.heap.size) : (cutW w m).heap.size = m := by simp [cutW]; omega
theorem cutW_block {w : World} {m k : Nat} (hm : m ≤ w.heap.size) (h : k < m) : (cutW w m).heap[k]? = w.heap[k]? := by
  simp only [cutW]
  rw [Array.getElem?_extract]
  simp
  omega
theorem GO.to {w0 w3 mid g A l c p Aa na ca ga xa v vs xb h w} (o : GO w0 w3 mid g A l c p Aa na ca ga xa v vs xb h w) : TO w0 (cutW w mid) g A l c p v vs xb w := by
  have hgl := o.gl
  have hlm := o.lm
  have hs := cutW_size o.mw
  refine ⟨o.rd, by rw [hs]; exact o.b, by rw [hs]; omega, ⟨rfl, rfl, rfl, by rw [hs]; exact o.mw, fun k hk _ => ?_⟩⟩
  rw [hs] at hk
  exact (cutW_block o.mw hk).symm
/-- What lies below mid is as it was. -/
theorem grown_cut {w w' : World} {mid g k : Nat} (u : (cutW w mid).grownBy w' (some g)) (hm : mid ≤ w.heap.size) (hk : k < mid) (hne : k ≠ g) : w'.heap[k]? = w.heap[k]? := by
  have := u.block k (by rw [cutW_size hm]; exact hk) (fun e => hne (by injection e))
  rw [this, cutW_block hm hk]
theorem Bld.small_rows {lo hi w v vs xss} (b : Bld lo hi w v vs xss) (s : Small xss) : ∃ A n c, v = .slice A n c ∧ IntRows w A n c xss := by
  obtain ⟨A, n, c, g, e, _, ho⟩ := b.owns (by have := s.n; omega)
  exact ⟨A, n, c, e, ho.rows⟩

/-- A game drawn: its tables are of small numbers, in memory of their own behind st. -/
def GameOut (w0 : World) (st g : Nat) (A : Option Addr) (l c p : Nat) (e : Ending) (w' : World) : Prop :=
  ∃ Aa na ca ga ha xa Ab nb cb gb hb xb lo p', e = .returned (.agg #[.slice Aa na ca, .slice Ab nb cb]) ∧ Small xa ∧ Small xb ∧ st < lo ∧ OwnR lo ha w' ga Aa na ca xa ∧ OwnR lo hb w' gb Ab nb cb xb ∧ Rdr w0 w' g A l c p' ∧ p' ≤ p + 100
/-- At the end: the box's cells go to the result's. -/
theorem game_done {w0 w3 mid g A l c p p0 Aa na ca ga xa w r} {v : Value} {vs : List Value} {xb : List (List Int)} {Ab : Option Addr} {nb cb : Nat} (rd : Rdr w0 w g A l c p) (a : OwnR w3 mid w ga Aa na ca xa) (b : Bld mid w.heap.size w (.slice Ab nb cb) vs xb)
    (sa : Small xa) (sb : Small xb) (hr : r < w3) (hlm : w3 ≤ mid) (hg : g ≠ r) (hw : w0.heap.size ≤ r) (hp : p ≤ p0 + 100) (x y : Value) (hv : v = .agg #[.slice Aa na ca, .slice Ab nb cb]) :
    GameOut w0 r g A l c p0 (.returned v) ((w.setCell ⟨r, 0, none⟩ x).setCell ⟨r, 1, none⟩ y) := by
  have hs : ((w.setCell ⟨r, 0, none⟩ x).setCell ⟨r, 1, none⟩ y).heap.size = w.heap.size := by simp [World.setCell]
  have hk : ∀ k, k ≠ r → ((w.setCell ⟨r, 0, none⟩ x).setCell ⟨r, 1, none⟩ y).heap[k]? = w.heap[k]? := fun k hne => (Below.heap_setCell _ _ _ _ hne).trans (Below.heap_setCell _ _ _ _ hne)
  have hbb := b.of_blocks (w' := (w.setCell ⟨r, 0, none⟩ x).setCell ⟨r, 1, none⟩ y) fun k h1 _ _ => hk k (by omega)
  obtain ⟨A', n', c', gb, e, _, hown⟩ := hbb.owns (by have := sb.n; omega)
  injection e with e1 e2 e3
  subst e1
  subst e2
  subst e3
  exact ⟨Aa, na, ca, ga, mid, xa, Ab, nb, cb, gb, w.heap.size, xb, w3, p, by rw [hv], sa, sb, hr, a.of_blocks fun k h1 _ _ => hk k (by omega), hown.mono hlm (Nat.le_refl _), ⟨blk_other (blk_other rd.box (p := ⟨r, 0, none⟩) hg _) (p := ⟨r, 1, none⟩) hg _, rd.bytes, (rd.below.setCell (p := ⟨r, 0, none⟩) hw _).setCell (p := ⟨r, 1, none⟩) hw _, rd.lt, rd.small⟩, hp⟩
end Go.Proofs.Ytfilbknikbfjhaa
