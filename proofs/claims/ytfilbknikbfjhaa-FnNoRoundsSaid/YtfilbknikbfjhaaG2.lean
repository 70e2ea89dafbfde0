/- A game under way: both tables and the box. -/
import Derived.Test.YtfilbknikbfjhaaG1
import Derived.Test.YtfilbknikbfjhaaR12
namespace Go.Proofs.Ytfilbknikbfjhaa
open Go.RowKit

theorem add_at (b o i : Nat) : (⟨b, o, none⟩ : Addr).add i = ⟨b, o + i, none⟩ := by unfold Addr.add; split <;> simp_all
theorem OwnI.mono_lo {lo hi lo' w b A n c xs} (h : OwnI lo hi w b A n c xs) (k : lo' ≤ lo) : OwnI lo' hi w b A n c xs := h.mono k (Nat.le_refl _)
theorem ownsRow_lo {w : World} {base base' : Nat} {e : TypeId} {size n : Nat} {v : Value} {xs : List Value} (h : w.ownsRow base e size v n xs) (k : base' ≤ base) : w.ownsRow base' e size v n xs := by
  obtain ⟨h1, h2⟩ := h
  refine ⟨h1, ?_⟩
  rcases h2 with h2 | ⟨g, cap, cur, rfl, hb, r⟩
  · exact .inl h2
  · exact .inr ⟨g, cap, cur, rfl, Nat.le_trans k hb, r⟩
theorem Bld.mono_lo {lo hi lo' w v vs xss} (h : Bld lo hi w v vs xss) (k : lo' ≤ lo) : Bld lo' hi w v vs xss := by
  obtain ⟨h1, h4, G, R, C, h2, h3⟩ := h
  exact ⟨ownsRow_lo h1 k, h4, G, R, C, fun j hj => ⟨(h2 j hj).1, (h2 j hj).2.1.mono_lo k, (h2 j hj).2.2⟩, h3⟩

/-- A number of a table that append has made is set. -/
theorem Bld.set_at {lo hi w v vs xss} (h : Bld lo hi w v vs xss) {i j : Nat} (h0 : i < xss.length) (h1 : j < (gr xss i).length) {x : Int} (hx : -9223372036854775808 ≤ x ∧ x ≤ 9223372036854775807) :
    ∃ bo c b o cc, v = .slice (some ⟨bo, 0, none⟩) xss.length c ∧ w.cell? ⟨bo, i, none⟩ = some (.slice (some ⟨b, o, none⟩) (gr xss i).length cc) ∧ lo ≤ b ∧ b < hi ∧ (∃ y, w.cell? ⟨b, o + j, none⟩ = some (.int .i64 y)) ∧ w.frozen? ⟨b, o + j, none⟩ = false ∧
      Bld lo hi (w.setCell ⟨b, o + j, none⟩ (.int .i64 x)) v vs (xss.set i ((gr xss i).set j x)) := by
  obtain ⟨ho, h4, G, R, C, h2, h3⟩ := h
  obtain ⟨q0, q1, q2⟩ := h2 i h0
  obtain ⟨o, e, l1, l2, hf⟩ := q1.own (by omega)
  have q1' := q1
  rw [e] at q1' q0
  have hset := q1'.set h1 hx
  obtain ⟨b', o', e', hc⟩ := q1.ints.at_ (by omega)
  rw [e] at e'
  injection e' with e'
  injection e' with e1 e2 _
  have hc0 := hc j h1
  rw [← e1, ← e2] at hc0
  have hlen : ∀ k, (gr (xss.set i ((gr xss i).set j x)) k).length = (gr xss k).length := fun k => by
    by_cases e : k = i
    · subst e; rw [gr_set_eq h0, List.length_set]
    · rw [gr_set_ne e]
  have hv : ∃ bo c, v = .slice (some ⟨bo, 0, none⟩) xss.length c ∧ w.cell? ⟨bo, i, none⟩ = vs[i]? := by
    rcases ho.2 with ⟨_, h5⟩ | ⟨g, cap, cur, rfl, hb, _⟩
    · omega
    · have hcx := ho.cells (g := g) rfl i _ q0
      rw [add_at, Nat.zero_add] at hcx
      exact ⟨g, cap, rfl, by rw [q0]; exact hcx⟩
  obtain ⟨bo, c, ev, hcv⟩ := hv
  refine ⟨bo, c, G i, o, C i, ev, by rw [hcv, q0], l1, l2, ⟨_, hc0⟩, hf j h1, ⟨?_, h4, G, R, C, fun k hk => ?_, fun k l hkl hl hk0 hl0 => ?_⟩⟩
  · rw [List.length_set]
    exact blk_kept ho fun g hg => Below.heap_setCell _ _ _ _ (fun e => q2 (by omega) (by rw [hg, e]))
  · rw [List.length_set] at hk
    rw [hlen]
    obtain ⟨a, b, c⟩ := h2 k hk
    refine ⟨a, ?_, c⟩
    by_cases ek : k = i
    · subst ek
      rw [gr_set_eq h0, e]
      exact hset
    · rw [gr_set_ne ek]
      exact b.of_block fun hp => Below.heap_setCell _ _ _ _ (by
        show G k ≠ G i
        rcases Nat.lt_or_gt_of_ne ek with hl | hl
        · exact h3 k i hl h0 hp (by omega)
        · exact Ne.symm (h3 i k hl hk (by omega) hp))
  · rw [List.length_set] at hl
    rw [hlen] at hk0 hl0
    exact h3 k l hkl hl hk0 hl0
/-- .. and of a table of one's own. -/
theorem OwnR.set_at {lo hi w b A n c xss} (h : OwnR lo hi w b A n c xss) {i j : Nat} (h0 : i < n) (h1 : j < (gr xss i).length) {x : Int} (hx : -9223372036854775808 ≤ x ∧ x ≤ 9223372036854775807) :
    ∃ o g r cc, A = some ⟨b, o, none⟩ ∧ w.cell? ⟨b, o + i, none⟩ = some (.slice (some ⟨g, r, none⟩) (gr xss i).length cc) ∧ lo ≤ g ∧ g < hi ∧ (∃ y, w.cell? ⟨g, r + j, none⟩ = some (.int .i64 y)) ∧ w.frozen? ⟨g, r + j, none⟩ = false ∧
      OwnR lo hi (w.setCell ⟨g, r + j, none⟩ (.int .i64 x)) b A n c (xss.set i ((gr xss i).set j x)) := by
  obtain ⟨o, g, R, cc, e, c1, hI, hset⟩ := h.at_row h0
  obtain ⟨r, e2, l1, l2, hf⟩ := hI.own (by omega)
  subst e2
  obtain ⟨b', o', e', hc⟩ := hI.ints.at_ (by omega)
  injection e' with e'
  injection e' with e3 e4 _
  subst e3
  subst e4
  exact ⟨o, g, r, cc, e, c1, l1, l2, ⟨_, hc j h1⟩, hf j h1, (hset _ _ (by rw [List.length_set]) (hI.set h1 hx) (fun hz => absurd hz (by omega)) ((One.refl g w).set _ _)).1⟩

/-- Rows of as many numbers. -/
structure Shp (n m : Nat) (xss : List (List Int)) : Prop where
  len : xss.length = n
  row : ∀ k, k < n → (gr xss k).length = m
  sm : Small xss
theorem Shp.set {n m xss} (h : Shp n m xss) {i j : Nat} (hi : i < n) {x : Int} (hx : -1000 ≤ x ∧ x ≤ 1000) : Shp n m (xss.set i ((gr xss i).set j x)) := by
  have hl := h.len
  have hm := h.sm.rows _ (gr_mem (xs := xss) (k := i) (by omega))
  refine ⟨by rw [List.length_set]; exact hl, fun k hk => ?_, ⟨by rw [List.length_set]; exact h.sm.n, fun r hr => ?_⟩⟩
  · by_cases e : k = i
    · subst e; rw [gr_set_eq (by omega), List.length_set]; exact h.row k hk
    · rw [gr_set_ne e]; exact h.row k hk
  · rcases List.mem_or_eq_of_mem_set hr with hr | rfl
    · exact h.sm.rows r hr
    · refine ⟨by rw [List.length_set]; exact hm.1, fun y hy => ?_⟩
      rcases List.mem_or_eq_of_mem_set hy with hy | rfl
      · exact hm.2 y hy
      · exact hx

structure GO (w0 w3 : World) (mid g : Nat) (A : Option Addr) (l c p : Nat) (Aa : Option Addr) (na ca ga : Nat) (xa : List (List Int)) (v : Value) (vs : List Value) (xb : List (List Int)) (h : Nat) (w : World) : Prop where
  rd : Rdr w0 w g A l c p
  a : OwnR w3.heap.size mid w ga Aa na ca xa
  b : Bld mid w.heap.size w v vs xb
  gl : g < w3.heap.size
  lm : w3.heap.size ≤ mid
  mw : mid ≤ w.heap.size
  up : w3.grownBy w (some g)
  box : Blk w h 25 #[.slice Aa na ca, v]
theorem box_slices (Aa Bb : Option Addr) (na ca nb cb : Nat) : ∀ (k : Nat) (v : Value), (#[.slice Aa na ca, .slice Bb nb cb] : Array Value)[k]? = some v → ∀ (kk : IntKind) (x : Int), v ≠ Value.int kk x := by
  intro k v h kk x e
  subst e
  match k, h with
  | 0, h => simp at h
  | 1, h => simp at h
  | k + 2, h => simp at h
theorem GO.below {w0 w3 mid g A l c p Aa na ca ga xa v vs xb h w w'} (o : GO w0 w3 mid g A l c p Aa na ca ga xa v vs xb h w) (k : Below w.heap.size w w') : GO w0 w3 mid g A l c p Aa na ca ga xa v vs xb h w' :=
  ⟨o.rd.below_ k, o.a.below k, (o.b.below k).mono k.size, o.gl, o.lm, Nat.le_trans o.mw k.size, grown_below o.up k, blk_below o.box k⟩
theorem GO.one {w0 w3 mid g A l c p p' Aa na ca ga xa v vs xb h w w'} (o : GO w0 w3 mid g A l c p Aa na ca ga xa v vs xb h w) (hr : Rdr w0 w' g A l c p') (ho : One g w w') : GO w0 w3 mid g A l c p' Aa na ca ga xa v vs xb h w' := by
  have hgl := o.gl
  have hlm := o.lm
  have hne : h ≠ g := box_ne_box o.box o.rd.box (by decide)
  exact ⟨hr, o.a.of_blocks fun k h1 _ _ => ho.block k (by omega), by rw [ho.size]; exact o.b.of_blocks fun k h1 _ _ => ho.block k (by omega), o.gl, o.lm, by rw [ho.size]; exact o.mw,
    ⟨ho.os.trans o.up.os, ho.tape.trans o.up.tape, ho.output.trans o.up.output, by rw [ho.size]; exact o.up.size, fun k hk hne' => (ho.block k (fun e => hne' (by rw [e]))).trans (o.up.block k hk hne')⟩, (ho.block h hne).trans o.box⟩
/-- A cell from the third world on is set: what has its memory elsewhere stays. -/
theorem GO.setA {w0 w3 mid g A l c p Aa na ca ga xa Bb nb cb vs xb h w} (o : GO w0 w3 mid g A l c p Aa na ca ga xa (.slice Bb nb cb) vs xb h w) {i j : Nat} (h0 : i < na) (h1 : j < (gr xa i).length) {x : Int} (hx : -1000 ≤ x ∧ x ≤ 1000) :
    ∃ oo gg r cc, Aa = some ⟨ga, oo, none⟩ ∧ w.cell? ⟨ga, oo + i, none⟩ = some (.slice (some ⟨gg, r, none⟩) (gr xa i).length cc) ∧ (∃ y, w.cell? ⟨gg, r + j, none⟩ = some (.int .i64 y)) ∧ w.frozen? ⟨gg, r + j, none⟩ = false ∧
      GO w0 w3 mid g A l c p Aa na ca ga (xa.set i ((gr xa i).set j x)) (.slice Bb nb cb) vs xb h (w.setCell ⟨gg, r + j, none⟩ (.int .i64 x)) := by
  obtain ⟨oo, gg, r, cc, e, c1, l1, l2, hy, hf, hown⟩ := o.a.set_at h0 h1 (x := x) (by omega)
  have hgl := o.gl
  have hlm := o.lm
  have hs : (w.setCell ⟨gg, r + j, none⟩ (.int .i64 x)).heap.size = w.heap.size := by simp [World.setCell]
  have hne : h ≠ gg := box_ne_int (k := .i64) o.box (box_slices _ _ _ _ _ _) hy
  refine ⟨oo, gg, r, cc, e, c1, hy, hf, ⟨⟨blk_other o.rd.box (by show g ≠ gg; omega) _, o.rd.bytes, o.rd.below.setCell (by show w0.heap.size ≤ gg; have := o.rd.lt; omega) _, o.rd.lt, o.rd.small⟩, hown, by rw [hs]; exact o.b.of_blocks fun k h1 _ _ => Below.heap_setCell _ _ _ _ (by show k ≠ gg; omega), o.gl, o.lm, by rw [hs]; exact o.mw, ?_, blk_other o.box hne _⟩⟩
  exact ⟨o.up.os, o.up.tape, o.up.output, by rw [hs]; exact o.up.size, fun k hk hne => (Below.heap_setCell _ _ _ _ (by show k ≠ gg; omega)).trans (o.up.block k hk hne)⟩
theorem GO.setB {w0 w3 mid g A l c p Aa na ca ga xa Bb nb cb vs xb h w} (o : GO w0 w3 mid g A l c p Aa na ca ga xa (.slice Bb nb cb) vs xb h w) {i j : Nat} (h0 : i < xb.length) (h1 : j < (gr xb i).length) {x : Int} (hx : -1000 ≤ x ∧ x ≤ 1000) :
    ∃ bo gg r cc, Bb = some ⟨bo, 0, none⟩ ∧ w.cell? ⟨bo, i, none⟩ = some (.slice (some ⟨gg, r, none⟩) (gr xb i).length cc) ∧ (∃ y, w.cell? ⟨gg, r + j, none⟩ = some (.int .i64 y)) ∧ w.frozen? ⟨gg, r + j, none⟩ = false ∧
      GO w0 w3 mid g A l c p Aa na ca ga xa (.slice Bb nb cb) vs (xb.set i ((gr xb i).set j x)) h (w.setCell ⟨gg, r + j, none⟩ (.int .i64 x)) := by
  obtain ⟨bo, c', gg, r, cc, e, c1, l1, l2, hy, hf, hown⟩ := o.b.set_at h0 h1 (x := x) (by omega)
  have hgl := o.gl
  have hlm := o.lm
  have hs : (w.setCell ⟨gg, r + j, none⟩ (.int .i64 x)).heap.size = w.heap.size := by simp [World.setCell]
  have hne : h ≠ gg := box_ne_int (k := .i64) o.box (box_slices _ _ _ _ _ _) hy
  injection e with e1 _ _
  refine ⟨bo, gg, r, cc, e1, c1, hy, hf, ⟨⟨blk_other o.rd.box (by show g ≠ gg; omega) _, o.rd.bytes, o.rd.below.setCell (by show w0.heap.size ≤ gg; have := o.rd.lt; omega) _, o.rd.lt, o.rd.small⟩, o.a.of_blocks fun k _ h2 _ => Below.heap_setCell _ _ _ _ (by show k ≠ gg; omega), by rw [hs]; exact hown, o.gl, o.lm, by rw [hs]; exact o.mw, ?_, blk_other o.box hne _⟩⟩
  exact ⟨o.up.os, o.up.tape, o.up.output, by rw [hs]; exact o.up.size, fun k hk hne => (Below.heap_setCell _ _ _ _ (by show k ≠ gg; omega)).trans (o.up.block k hk hne)⟩
end Go.Proofs.Ytfilbknikbfjhaa
