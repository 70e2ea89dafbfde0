/- The reader made; one of some numbers. -/
import Derived.Test.YtfilbknikbfjhaaR2
import Derived.Test.YtfilbknikbfjhaaOwn
import Derived.Test.YtfilbknikbfjhaaA5
namespace Go.Proofs.Ytfilbknikbfjhaa
open Go.RowKit

def MadeRdr (w : World) (l : Nat) (e : Ending) (w' : World) : Prop :=
  ∃ A n c, e = .returned (.pointer (some ⟨w.heap.size, 0, none⟩)) ∧ n = min l 2000 ∧ Rdr w w' w.heap.size A n c 0 ∧ w'.heap.size = w.heap.size + 1

theorem Bytes.cut {w A n c} (h : Bytes w A n c) (hn : 2000 < n) : Bytes w A 2000 c :=
  ⟨by have := h.cap; omega, by omega, fun _ => let ⟨b, o, e, hc⟩ := h.at_ (by omega); ⟨b, o, e, fun k hk => hc k (by omega)⟩⟩

set_option maxHeartbeats 400000 in
theorem newReader_any (A : Option Addr) (n c : Nat) (w : World) (h : Bytes w A n c) :
    Calls Try.prog 60 #[.slice A n c] w (MadeRdr w n) := by
  have hm := h.max
  have hcap := h.cap
  by_cases hn : 2000 < n
  · obtain ⟨b, o, rfl, _⟩ := h.at_ (by omega)
    have HR := Lib.hid (show Rdr w (w.alloc (.cells #[.slice (some ⟨b, o, none⟩) 2000 c, .int .i64 0] 101)) w.heap.size (some ⟨b, o, none⟩) 2000 c 0 from
      ⟨blk_new _ _ _, h.cut hn, below_alloc _ _, Nat.le_refl _, Nat.le_refl _⟩)
    have HM := Lib.hid (show 2000 = min n 2000 by omega)
    have hc2 : 2000 ≤ c := by omega
    clear h
    go_enter Try.func60, Try.ntmps60
    go_wp2
    go_ret
    exact ⟨_, _, _, rfl, HM.out, HR.out, by simp⟩
  · have HR := Lib.hid (show Rdr w (w.alloc (.cells #[.slice A n c, .int .i64 0] 101)) w.heap.size A n c 0 from
      ⟨blk_new _ _ _, h, below_alloc _ _, Nat.le_refl _, by omega⟩)
    have HM := Lib.hid (show n = min n 2000 by omega)
    clear h
    go_enter Try.func60, Try.ntmps60
    go_wp2
    go_ret
    exact ⟨_, _, _, rfl, HM.out, HR.out, by simp⟩

/-- Some draws by the reader in block g: it alone has turned, p has grown by some; new blocks may be there. -/
structure Drawn (w0 : World) (g : Nat) (A : Option Addr) (l c p p' : Nat) (w w' : World) : Prop where
  rd : Rdr w0 w' g A l c p'
  grown : w.grownBy w' (some g)

theorem One.grown {g : Nat} {w w' : World} (h : One g w w') : w.grownBy w' (some g) := ⟨h.os, h.tape, h.output, by rw [h.size]; exact Nat.le_refl _, fun k _ hne => h.block k (fun e => hne (by rw [e]))⟩
theorem Rdr.one {g : Nat} (w : World) (v : Value) (q : Nat) : One g w ((w.setCell ⟨g, 1, none⟩ v).drewN q) :=
  let h := (One.refl g w).set 1 v
  ⟨h.os, h.tape, h.output, h.size, h.block⟩
theorem Rdr.below_ {w0 w w' g A n c p} (h : Rdr w0 w g A n c p) (k : Below w.heap.size w w') : Rdr w0 w' g A n c p :=
  ⟨blk_below h.box k, h.bytes, below_up h.below k, h.lt, h.small⟩

def OneOf (w0 : World) (g : Nat) (A : Option Addr) (l c p : Nat) (xs : List Int) (w : World) (e : Ending) (w' : World) : Prop :=
  ∃ x, e = .returned (.int .i64 x) ∧ x ∈ xs ∧ Rdr w0 w' g A l c (p + 1) ∧ One g w w'

set_option maxHeartbeats 400000 in
theorem one_any (w0 w : World) (g : Nat) (A : Option Addr) (l c p : Nat) (B : Option Addr) (n d : Nat) (xs : List Int) (h : Rdr w0 w g A l c p) (hp : p < 1000000000)
    (hx : Ints w B n d xs) (h0 : 0 < n) (hne : ∀ b o, B = some ⟨b, o, none⟩ → b ≠ g) :
    Calls Try.prog 78 #[.pointer (some ⟨g, 0, none⟩), .slice B n d] w (OneOf w0 g A l c p xs w) := by
  have hm := hx.max
  have HX := Lib.hid hx
  have HC := Lib.hid (pick_any w0 w g A l c p n h hp)
  have HNE := Lib.hid hne
  obtain ⟨b, o, rfl, _⟩ := hx.at_ h0
  clear h hx hne
  go_enter Try.func78, Try.ntmps78
  go_wp2_with fail
  refine HC.out.mono ?_
  rintro e w1 ⟨m, rfl, hm1, _, hr, q, hw⟩
  have H1 := Lib.hid hr
  have hone := Rdr.one (g := g) w (.int .i64 (p + 1 : Nat)) q
  rw [← hw] at hone
  have HO := Lib.hid hone
  obtain ⟨m0, m1⟩ := hm1 (by omega)
  obtain ⟨k, rfl⟩ := Int.eq_ofNat_of_zero_le m0
  have hk : k < n := by omega
  obtain ⟨b', o', e', hc⟩ := HX.out.at_ h0
  injection e' with e'
  injection e' with e1 e2 _
  subst e1
  subst e2
  have ck := hc k hk
  rw [← World.cell?_of_block (w := w) (w' := w1) (hone.block b (HNE.out b o rfl))] at ck
  have HM := Lib.hid (gi_mem (xs := xs) (k := k) (by rw [HX.out.len]; exact hk))
  clear hr hone hc hm1 hw HC HX
  go_wp2
  go_ret
  exact ⟨_, rfl, HM.out, H1.out, HO.out⟩
end Go.Proofs.Ytfilbknikbfjhaa
