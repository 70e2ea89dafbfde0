/- Games drawn from bytes. -/
import Derived.Test.YtfilbknikbfjhaaG4
namespace Go.Proofs.Ytfilbknikbfjhaa
open Go.RowKit

/-- A game of small numbers, in memory of its own. -/
def DrawnG (w : World) (e : Ending) (w' : World) : Prop :=
  ∃ Aa na ca xa Ab nb cb xb, e = .returned (.agg #[.slice Aa na ca, .slice Ab nb cb]) ∧ Small xa ∧ Small xb ∧ IntRows w' Aa na ca xa ∧ IntRows w' Ab nb cb xb ∧ Below w.heap.size w w'
/-- A law's game: its box at h, and both tables. -/
structure GW (w : World) (h : Nat) (A : Option Addr) (n c : Nat) (xs : List (List Int)) (B : Option Addr) (m d : Nat) (ys : List (List Int)) (W : World) : Prop where
  below : Below w.heap.size w W
  box : Blk W h 25 #[.slice A n c, .slice B m d]
  ra : IntRows W A n c xs
  rb : IntRows W B m d ys
theorem GW.up {w h A n c xs B m d ys W W'} (o : GW w h A n c xs B m d ys W) (k : Below W.heap.size W W') : GW w h A n c xs B m d ys W' :=
  ⟨below_up o.below k, blk_below o.box k, o.ra.keep (Keep.below k), o.rb.keep (Keep.below k)⟩
theorem GW.start {w A n c xs B m d ys W} (hb : Below w.heap.size w W) (ra : IntRows W A n c xs) (rb : IntRows W B m d ys) : GW w W.heap.size A n c xs B m d ys (W.alloc (.cells #[.slice A n c, .slice B m d] 25)) :=
  ⟨below_up hb (below_alloc _ _), blk_new _ _ _, ra.keep (Keep.below (below_alloc _ _)), rb.keep (Keep.below (below_alloc _ _))⟩
theorem GW.cells {w h A n c xs B m d ys W} (o : GW w h A n c xs B m d ys W) : W.cell? ⟨h, 0, none⟩ = some (.slice A n c) ∧ W.cell? ⟨h, 1, none⟩ = some (.slice B m d) := ⟨blk_cell o.box rfl, blk_cell o.box rfl⟩


set_option maxRecDepth 100000 in
set_option maxHeartbeats 1000000 in
theorem DrawNoRounds_any (A : Option Addr) (n c : Nat) (w : World) (h : Bytes w A n c) :
    Calls Try.prog 22 #[.slice A n c] w (DrawnG w) := by
  have HB := Lib.hid (below_alloc w (.cells #[.slice none 0 0, .slice none 0 0] 25))
  have HK := Lib.hid (blk_new w 25 #[.slice none 0 0, .slice none 0 0])
  have H0 := Lib.hid (newReader_any A n c _ (h.keep (Keep.below (below_alloc w (.cells #[.slice none 0 0, .slice none 0 0] 25)))))
  clear h
  go_enter Try.func22, Try.ntmps22
  go_wp2_with fail
  have HZ : Hid (w.heap.size < (w.alloc (.cells #[.slice none 0 0, .slice none 0 0] 25)).heap.size) := Lib.hid (by simp)
  generalize w.alloc (.cells #[.slice none 0 0, .slice none 0 0] 25) = W0 at *
  refine H0.out.mono ?_
  rintro e w1 ⟨A1, l, c1, rfl, hl, hr, hs⟩
  have HS := Lib.hid (show W0.heap.size ≤ w1.heap.size by omega)
  have H1 := Lib.hid (someGame_any W0 w1 W0.heap.size A1 l c1 0 hr (by omega))
  clear hr hl hs H0
  go_wp2_with fail
  refine H1.out.mono ?_
  rintro e w2 ⟨Aa, na, ca, ga, ha, xa, Ab, nb, cb, gb, hb, xb, lo, p', rfl, sa, sb, hlo, oa, ob, rd, hp⟩
  have HK2 := Lib.hid (blk_below HK.out rd.below)
  have HB2 := Lib.hid (below_up HB.out rd.below)
  have HSA := Lib.hid sa
  have HSB := Lib.hid sb
  have HLO := Lib.hid (show w.heap.size < lo by have := HZ.out; have := HS.out; omega)
  have HOA := Lib.hid oa
  have HOB := Lib.hid ob
  clear sa sb oa ob rd H1 HB HK HZ HS
  have d0 := blk_cell HK2.out (i := 0) (v := .slice none 0 0) rfl
  have d1 := blk_cell HK2.out (i := 1) (v := .slice none 0 0) rfl
  have g0 := blk_frozen HK2.out 0
  have g1 := blk_frozen HK2.out 1
  go_wp2
  clear d0 d1 g0 g1
  have B1 := blk_set (blk_set HK2.out 0 (.slice Aa na ca)) 1 (.slice Ab nb cb)
  have q0 := blk_cell B1 (i := 0) (v := .slice Aa na ca) rfl
  have q1 := blk_cell B1 (i := 1) (v := .slice Ab nb cb) rfl
  have hk : ∀ k, k ≠ w.heap.size → ((w2.setCell ⟨w.heap.size, 0, none⟩ (.slice Aa na ca)).setCell ⟨w.heap.size, 1, none⟩ (.slice Ab nb cb)).heap[k]? = w2.heap[k]? := fun k hne => (Below.heap_setCell _ _ _ _ hne).trans (Below.heap_setCell _ _ _ _ hne)
  have HRA := Lib.hid (HOA.out.of_blocks (w' := (w2.setCell ⟨w.heap.size, 0, none⟩ (.slice Aa na ca)).setCell ⟨w.heap.size, 1, none⟩ (.slice Ab nb cb)) fun k h1 _ _ => hk k (by have := HLO.out; omega)).rows
  have HRB := Lib.hid (HOB.out.of_blocks (w' := (w2.setCell ⟨w.heap.size, 0, none⟩ (.slice Aa na ca)).setCell ⟨w.heap.size, 1, none⟩ (.slice Ab nb cb)) fun k h1 _ _ => hk k (by have := HLO.out; omega)).rows
  have HBX := Lib.hid ((HB2.out.setCell (p := ⟨w.heap.size, 0, none⟩) (Nat.le_refl _) (.slice Aa na ca)).setCell (p := ⟨w.heap.size, 1, none⟩) (Nat.le_refl _) (.slice Ab nb cb))
  clear B1 hk HK2 HB2 HOA HOB
  generalize (w2.setCell ⟨w.heap.size, 0, none⟩ (.slice Aa na ca)).setCell ⟨w.heap.size, 1, none⟩ (.slice Ab nb cb) = WE at *
  refine bodyPost_ret (v := .agg #[.slice Aa na ca, .slice Ab nb cb]) (by simp [results, Try.results22, go_sem, q0, q1]) rfl ?_
  exact ⟨_, _, _, _, _, _, _, _, rfl, HSA.out, HSB.out, HRA.out, HRB.out, HBX.out⟩

set_option maxRecDepth 100000 in
set_option maxHeartbeats 1000000 in
theorem DrawLeftOver_any (A : Option Addr) (n c : Nat) (w : World) (h : Bytes w A n c) :
    Calls Try.prog 14 #[.slice A n c] w (DrawnG w) := by
  have HB := Lib.hid (below_alloc w (.cells #[.slice none 0 0, .slice none 0 0] 25))
  have HK := Lib.hid (blk_new w 25 #[.slice none 0 0, .slice none 0 0])
  have H0 := Lib.hid (newReader_any A n c _ (h.keep (Keep.below (below_alloc w (.cells #[.slice none 0 0, .slice none 0 0] 25)))))
  clear h
  go_enter Try.func14, Try.ntmps14
  go_wp2_with fail
  have HZ : Hid (w.heap.size < (w.alloc (.cells #[.slice none 0 0, .slice none 0 0] 25)).heap.size) := Lib.hid (by simp)
  generalize w.alloc (.cells #[.slice none 0 0, .slice none 0 0] 25) = W0 at *
  refine H0.out.mono ?_
  rintro e w1 ⟨A1, l, c1, rfl, hl, hr, hs⟩
  have HS := Lib.hid (show W0.heap.size ≤ w1.heap.size by omega)
  have H1 := Lib.hid (someGame_any W0 w1 W0.heap.size A1 l c1 0 hr (by omega))
  clear hr hl hs H0
  go_wp2_with fail
  refine H1.out.mono ?_
  rintro e w2 ⟨Aa, na, ca, ga, ha, xa, Ab, nb, cb, gb, hb, xb, lo, p', rfl, sa, sb, hlo, oa, ob, rd, hp⟩
  have HK2 := Lib.hid (blk_below HK.out rd.below)
  have HB2 := Lib.hid (below_up HB.out rd.below)
  have HSA := Lib.hid sa
  have HSB := Lib.hid sb
  have HLO := Lib.hid (show w.heap.size < lo by have := HZ.out; have := HS.out; omega)
  have HOA := Lib.hid oa
  have HOB := Lib.hid ob
  clear sa sb oa ob rd H1 HB HK HZ HS
  have d0 := blk_cell HK2.out (i := 0) (v := .slice none 0 0) rfl
  have d1 := blk_cell HK2.out (i := 1) (v := .slice none 0 0) rfl
  have g0 := blk_frozen HK2.out 0
  have g1 := blk_frozen HK2.out 1
  go_wp2
  clear d0 d1 g0 g1
  have B1 := blk_set (blk_set HK2.out 0 (.slice Aa na ca)) 1 (.slice Ab nb cb)
  have q0 := blk_cell B1 (i := 0) (v := .slice Aa na ca) rfl
  have q1 := blk_cell B1 (i := 1) (v := .slice Ab nb cb) rfl
  have hk : ∀ k, k ≠ w.heap.size → ((w2.setCell ⟨w.heap.size, 0, none⟩ (.slice Aa na ca)).setCell ⟨w.heap.size, 1, none⟩ (.slice Ab nb cb)).heap[k]? = w2.heap[k]? := fun k hne => (Below.heap_setCell _ _ _ _ hne).trans (Below.heap_setCell _ _ _ _ hne)
  have HRA := Lib.hid (HOA.out.of_blocks (w' := (w2.setCell ⟨w.heap.size, 0, none⟩ (.slice Aa na ca)).setCell ⟨w.heap.size, 1, none⟩ (.slice Ab nb cb)) fun k h1 _ _ => hk k (by have := HLO.out; omega)).rows
  have HRB := Lib.hid (HOB.out.of_blocks (w' := (w2.setCell ⟨w.heap.size, 0, none⟩ (.slice Aa na ca)).setCell ⟨w.heap.size, 1, none⟩ (.slice Ab nb cb)) fun k h1 _ _ => hk k (by have := HLO.out; omega)).rows
  have HBX := Lib.hid ((HB2.out.setCell (p := ⟨w.heap.size, 0, none⟩) (Nat.le_refl _) (.slice Aa na ca)).setCell (p := ⟨w.heap.size, 1, none⟩) (Nat.le_refl _) (.slice Ab nb cb))
  clear B1 hk HK2 HB2 HOA HOB
  generalize (w2.setCell ⟨w.heap.size, 0, none⟩ (.slice Aa na ca)).setCell ⟨w.heap.size, 1, none⟩ (.slice Ab nb cb) = WE at *
  refine bodyPost_ret (v := .agg #[.slice Aa na ca, .slice Ab nb cb]) (by simp [results, Try.results14, go_sem, q0, q1]) rfl ?_
  exact ⟨_, _, _, _, _, _, _, _, rfl, HSA.out, HSB.out, HRA.out, HRB.out, HBX.out⟩



end Go.Proofs.Ytfilbknikbfjhaa
