/- The reader that draws numbers out of a code. -/
import Derived.Test.YtfilbknikbfjhaaA2
namespace Go.Proofs.Ytfilbknikbfjhaa
open Go.RowKit

/-- A slice of bytes. -/
structure Bytes (w : World) (A : Option Addr) (n c : Nat) : Prop where
  cap : n ≤ c
  max : n ≤ 140737488355328
  at_ : 0 < n → ∃ b o, A = some ⟨b, o, none⟩ ∧ ∀ k, k < n → ∃ v : Int, 0 ≤ v ∧ v ≤ 255 ∧ w.cell? ⟨b, o + k, none⟩ = some (.int .u8 v)
theorem Bytes.keep {w w' A n c} (h : Bytes w A n c) (k : Keep w w') : Bytes w' A n c :=
  ⟨h.cap, h.max, fun hn => let ⟨b, o, e, hc⟩ := h.at_ hn; ⟨b, o, e, fun i hi => let ⟨v, h0, h1, h2⟩ := hc i hi; ⟨v, h0, h1, k _ _ h2⟩⟩⟩

/-- A reader in block g, at position p, over bytes that lie below its block. -/
structure Rdr (w0 w : World) (g : Nat) (A : Option Addr) (n c p : Nat) : Prop where
  box : Blk w g 101 #[.slice A n c, .int .i64 p]
  bytes : Bytes w0 A n c
  below : Below w0.heap.size w0 w
  lt : w0.heap.size ≤ g
  small : n ≤ 2000
theorem Rdr.at_ {w0 w g A n c p} (h : Rdr w0 w g A n c p) : Bytes w A n c := h.bytes.keep (Keep.below h.below)

def Picked (w0 : World) (g : Nat) (A : Option Addr) (l c p : Nat) (n : Int) (w : World) (e : Ending) (w' : World) : Prop :=
  ∃ m : Int, e = .returned (.int .i64 m) ∧ (1 ≤ n → 0 ≤ m ∧ m < n) ∧ (n < 1 → m = 0) ∧ Rdr w0 w' g A l c (p + 1) ∧ ∃ q, w' = (w.setCell ⟨g, 1, none⟩ (.int .i64 (p + 1 : Nat))).drewN q

/-- The world behind the step of the reader. -/
theorem Rdr.step {w0 w g A n c p} (h : Rdr w0 w g A n c p) : Rdr w0 (w.setCell ⟨g, 1, none⟩ (.int .i64 (p + 1 : Nat))) g A n c (p + 1) :=
  ⟨blk_set h.box 1 _, h.bytes, h.below.setCell h.lt _, h.lt, h.small⟩
theorem Rdr.quiet {w0 w w' g A n c p} (h : Rdr w0 w g A n c p) (k : Quiet w w') : Rdr w0 w' g A n c p :=
  ⟨blk_quiet h.box k, h.bytes, below_quiet h.below k, h.lt, h.small⟩
theorem cast_succ (p : Nat) : ((p + 1 : Nat) : Int) = (p : Int) + 1 := by omega

set_option maxRecDepth 100000 in
set_option maxHeartbeats 1000000 in
theorem pick_zero (w0 w : World) (g : Nat) (A : Option Addr) (l c p : Nat) (n : Int) (h : Rdr w0 w g A l c p) (hp : p < 1000000000) (hz : n < 1) :
    Calls Try.prog 79 #[.pointer (some ⟨g, 0, none⟩), .int .i64 n] w (Picked w0 g A l c p n w) := by
  have k0 := blk_cell h.box (i := 0) (v := .slice A l c) rfl
  have k1 := blk_cell h.box (i := 1) (v := .int .i64 p) rfl
  have f1 := blk_frozen h.box 1
  have hs := h.small
  have HS := Lib.hid h.step
  go_enter Try.func79, Try.ntmps79
  go_wp2
  go_ret
  exact ⟨0, rfl, fun h => absurd h (by omega), fun _ => rfl, HS.out, 0, by rw [cast_succ]; rfl⟩

set_option maxRecDepth 100000 in
set_option maxHeartbeats 1000000 in
theorem pick_none (w0 w : World) (g : Nat) (A : Option Addr) (c p : Nat) (n : Int) (h : Rdr w0 w g A 0 c p) (hp : p < 1000000000) (hz : 1 ≤ n) :
    Calls Try.prog 79 #[.pointer (some ⟨g, 0, none⟩), .int .i64 n] w (Picked w0 g A 0 c p n w) := by
  have k0 := blk_cell h.box (i := 0) (v := .slice A 0 c) rfl
  have k1 := blk_cell h.box (i := 1) (v := .int .i64 p) rfl
  have f1 := blk_frozen h.box 1
  have HS := Lib.hid h.step
  have j0 := blk_cell h.step.box (i := 0) (v := .slice A 0 c) rfl
  have j1 := blk_cell h.step.box (i := 1) (v := .int .i64 (p + 1 : Nat)) rfl
  rw [cast_succ] at j0 j1
  go_enter Try.func79, Try.ntmps79
  go_wp2
  go_ret
  exact ⟨0, rfl, fun _ => ⟨Int.le_refl _, by omega⟩, fun h => absurd h (by omega), HS.out, 0, by rw [cast_succ]; rfl⟩

set_option maxRecDepth 100000 in
set_option maxHeartbeats 1000000 in
theorem pick_in (w0 w : World) (g : Nat) (A : Option Addr) (l c p : Nat) (n : Int) (h : Rdr w0 w g A l c p) (hp : p < l) (hz : 1 ≤ n) :
    Calls Try.prog 79 #[.pointer (some ⟨g, 0, none⟩), .int .i64 n] w (Picked w0 g A l c p n w) := by
  have k0 := blk_cell h.box (i := 0) (v := .slice A l c) rfl
  have k1 := blk_cell h.box (i := 1) (v := .int .i64 p) rfl
  have f1 := blk_frozen h.box 1
  have HS := Lib.hid h.step
  have j0 := blk_cell h.step.box (i := 0) (v := .slice A l c) rfl
  have j1 := blk_cell h.step.box (i := 1) (v := .int .i64 (p + 1 : Nat)) rfl
  have hs := h.small
  obtain ⟨b, o, rfl, hc⟩ := h.step.at_.at_ (by omega)
  obtain ⟨v, v0, v1, cb⟩ := hc p hp
  rw [cast_succ] at j0 j1 cb
  have hl0 : ((l : Int) == 0) = false := by simp; omega
  clear hc
  go_enter Try.func79, Try.ntmps79
  go_wp2
  go_ret
  exact ⟨v % n, rfl, fun _ => ⟨Int.emod_nonneg _ (by omega), Int.emod_lt_of_pos _ (by omega)⟩, fun h => absurd h (by omega), HS.out, 0, by rw [cast_succ]; rfl⟩

end Go.Proofs.Ytfilbknikbfjhaa
