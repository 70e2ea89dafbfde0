/- Texts merged: LiftB LiftC LiftT Enter R2 R3 R4 R5 R6 LitI R7 R8 R9 R10 R11 T1 Math4 Math5 Simplex Math6 Math7 Math8 V1 S2 S3 S4 V2 V3 TK3. -/
import Derived.Test.YtcjanlbhgfadpaaQ4
import Derived.ChangeSlices
/- An argument of bytes, opened. -/
namespace Go.Proofs.Ytcjanlbhgfadpaa
open Go.ChangeShapes Go.WideShapes Go.ChangeAt Go.RowKit Go.Deep

theorem Try.cells_u8 : Try.prog.cellsOf 5 = 1 := by kernel_rfl
theorem Try.bytes_u8 : Try.prog.bytesOf 5 = 1 := by kernel_rfl
set_option maxRecDepth 100000 in
theorem open_bytes {H : Type} {enc : TypeId × Value → H} {W : World} {v : Value} {d : DataW H} {p : List MemPlace} {b0 : Nat} (hval : Value.okWide Try.prog W .any b0 22 v)
    (h : DataW.Trod enc Try.prog W 0 (fun _ => true) true 22 v d p) (hw : ∀ n ∈ d.weights Try.prog 22, n ≤ reachBytes) :
    ∃ A n c, v = .slice A n c ∧ Bytes W A n c := by
  obtain ⟨a1, len, cap, rfl⟩ := okWide_slice Try.underlying22 hval
  obtain ⟨fuel, hf⟩ := h
  rcases open_ints Try.underlying22 Try.underlying5 Try.cells_u8 hf with ⟨hcs, hx⟩ | ⟨a, len', cap', zs, hcs, _, hl, hm, hz, hx, hcell, hwz⟩
  · simp [Value.cells] at hcs
    obtain ⟨rfl, rfl, rfl⟩ := hcs
    exact ⟨none, 0, 0, rfl, Nat.le_refl _, by omega, fun h => absurd h (by omega)⟩
  · simp [Value.cells] at hcs
    obtain ⟨rfl, rfl, rfl⟩ := hcs
    simp only [Prod.mk.injEq] at hx
    obtain ⟨rfl, rfl⟩ := hx
    simp only [if_true] at hz
    have h1 := hw _ (weights_slice Try.underlying22 (.inl rfl))
    simp only [lits, List.length_map, List.length_take, List.length_drop, Try.bytes_u8, reachBytes] at h1
    refine ⟨some a, len, cap, rfl, hl, by omega, fun hn => ?_⟩
    have hspot : a.spot = none := by simpa [Addr.add] using World.cell?_spot (hcell 0 (by omega))
    obtain ⟨b, o, sp⟩ := a
    simp only at hspot
    subst hspot
    refine ⟨b, o, rfl, fun k hk => ⟨zs.getD k 0, ?_, ?_, by rw [← add_plain]; exact hcell k (by omega)⟩⟩
    · rw [List.getD_eq_getElem?_getD]; have := hwz (zs.getD k 0) (by rw [List.getD_eq_getElem?_getD, List.getElem?_eq_getElem (show k < zs.length by omega)]; simp)
      simp [Lit.wf, IntKind.min, IntKind.max, IntKind.signed, IntKind.bits] at this
      omega
    · rw [List.getD_eq_getElem?_getD]; have := hwz (zs.getD k 0) (by rw [List.getD_eq_getElem?_getD, List.getElem?_eq_getElem (show k < zs.length by omega)]; simp)
      simp [Lit.wf, IntKind.min, IntKind.max, IntKind.signed, IntKind.bits] at this
      omega
end Go.Proofs.Ytcjanlbhgfadpaa

/- Arguments that are a slice of ints, or an int, opened. -/
namespace Go.Proofs.Ytcjanlbhgfadpaa
open Go.ChangeShapes Go.WideShapes Go.ChangeAt Go.RowKit Go.Deep

set_option maxRecDepth 100000 in
theorem open_intS {H : Type} {enc : TypeId × Value → H} {W : World} {v : Value} {d : DataW H} {p : List MemPlace} {b0 : Nat} (hval : Value.okWide Try.prog W .any b0 23 v)
    (h : DataW.Trod enc Try.prog W 0 (fun _ => true) true 23 v d p) (hw : ∀ n ∈ d.weights Try.prog 23, n ≤ reachBytes) :
    ∃ A n c xs, v = .slice A n c ∧ Ints W A n c xs := by
  obtain ⟨a1, len, cap, rfl⟩ := okWide_slice Try.underlying23 hval
  obtain ⟨fuel, hf⟩ := h
  rcases open_ints Try.underlying23 Try.underlying3 Try.cells3 hf with ⟨hcs, hx⟩ | ⟨a, len', cap', zs, hcs, _, hl, hm, hz, hx, hcell, hwz⟩
  · simp [Value.cells] at hcs
    obtain ⟨rfl, rfl, rfl⟩ := hcs
    exact ⟨none, 0, 0, [], rfl, rfl, Nat.le_refl _, by omega, fun _ h => by simp at h, fun h => absurd h (by omega)⟩
  · simp [Value.cells] at hcs
    obtain ⟨rfl, rfl, rfl⟩ := hcs
    simp only [Prod.mk.injEq] at hx
    obtain ⟨rfl, rfl⟩ := hx
    simp only [if_true] at hz
    have h1 := hw _ (weights_slice Try.underlying23 (.inl rfl))
    simp only [lits, List.length_map, List.length_take, List.length_drop, Try.bytes3, reachBytes] at h1
    have hlen : (zs.take len).length = len := by rw [List.length_take]; omega
    refine ⟨some a, len, cap, zs.take len, rfl, hlen, hl, by omega, fun x hx => ?_, fun hn => ?_⟩
    · have := hwz x (List.mem_of_mem_take hx)
      simp [Lit.wf, IntKind.min, IntKind.max, IntKind.signed, IntKind.bits] at this
      omega
    have hspot : a.spot = none := by simpa [Addr.add] using World.cell?_spot (hcell 0 (by omega))
    obtain ⟨b, o, sp⟩ := a
    simp only at hspot
    subst hspot
    refine ⟨b, o, rfl, fun k hk => ?_⟩
    rw [← add_plain, hcell k (by omega)]
    congr 2
    rw [gi_get (by rw [hlen]; exact hk), List.getElem_take]
    simp [List.getD, show k < zs.length by omega]

set_option maxRecDepth 100000 in
theorem open_num {H : Type} {enc : TypeId × Value → H} {W : World} {v : Value} {d : DataW H} {p : List MemPlace} {b0 : Nat} (hval : Value.okWide Try.prog W .any b0 3 v)
    (h : DataW.Trod enc Try.prog W 0 (fun _ => true) true 3 v d p) : ∃ x, v = .int .i64 x ∧ Fit x := by
  obtain ⟨x, rfl, _, _, hw⟩ := open_int Try.underlying3 hval h
  refine ⟨x, rfl, ?_⟩
  simp [Lit.wf, IntKind.min, IntKind.max, IntKind.signed, IntKind.bits] at hw
  unfold Fit
  omega
end Go.Proofs.Ytcjanlbhgfadpaa

/- An argument that is a talk, opened. -/
namespace Go.Proofs.Ytcjanlbhgfadpaa
open Go.ChangeShapes Go.WideShapes Go.ChangeAt Go.RowKit Go.Deep

section
variable {H : Type} {enc : TypeId × Value → H}
set_option maxRecDepth 100000 in
/-- A cell of the type []int, opened. -/
theorem open_intT_cell {W : World} {v : Value} {x : DataW H × List MemPlace} {fuel : Nat}
    (hf : DataW.trod enc Try.prog W 0 (fun _ => true) true fuel 23 [v] = some x) (hw : ∀ n ∈ x.1.weights Try.prog 23, n ≤ reachBytes) :
    ∃ A n c xs, v = .slice A n c ∧ Ints W A n c xs := by
  rcases open_ints Try.underlying23 Try.underlying3 Try.cells3 hf with ⟨hcs, hx⟩ | ⟨a, len, cap, zs, hcs, _, hl, hm, hz, hx, hcell, hwz⟩
  · obtain rfl : v = .slice none 0 0 := by simpa using hcs
    exact ⟨none, 0, 0, [], rfl, rfl, Nat.le_refl _, by omega, fun _ h => by simp at h, fun h => absurd h (by omega)⟩
  · obtain rfl : v = .slice (some a) len cap := by simpa using hcs
    subst hx
    simp only [if_true] at hz
    have h1 := hw _ (weights_slice Try.underlying23 (.inl rfl))
    simp only [lits, List.length_map, List.length_take, List.length_drop, Try.bytes3, reachBytes] at h1
    have hlen : (zs.take len).length = len := by rw [List.length_take]; omega
    refine ⟨some a, len, cap, zs.take len, rfl, hlen, hl, by omega, fun x hx => ?_, fun hn => ?_⟩
    · have := hwz x (List.mem_of_mem_take hx)
      simp [Lit.wf, IntKind.min, IntKind.max, IntKind.signed, IntKind.bits] at this
      omega
    have hspot : a.spot = none := by simpa [Addr.add] using World.cell?_spot (hcell 0 (by omega))
    obtain ⟨b, o, sp⟩ := a
    simp only at hspot
    subst hspot
    refine ⟨b, o, rfl, fun k hk => ?_⟩
    rw [← add_plain, hcell k (by omega)]
    congr 2
    rw [gi_get (by rw [hlen]; exact hk), List.getElem_take]
    simp [List.getD, show k < zs.length by omega]
theorem Try.cells40 : Try.prog.cellsOf 40 = 4 := by kernel_rfl
set_option maxRecDepth 100000 in
/-- An argument of the type laws.Talk, opened. -/
theorem open_talk {W : World} {v : Value} {d : DataW H} {p : List MemPlace} {b0 : Nat} (hval : Value.okWide Try.prog W .any b0 40 v)
    (h : DataW.Trod enc Try.prog W 0 (fun _ => true) true 40 v d p) (hw : ∀ n ∈ d.weights Try.prog 40, n ≤ reachBytes) :
    ∃ A1 n1 c1 xs A2 n2 c2 ss A3 n3 c3 hs A4 n4 c4 ks, v = .agg #[.slice A1 n1 c1, .slice A2 n2 c2, .slice A3 n3 c3, .slice A4 n4 c4] ∧ TkR W A1 A2 A3 A4 n1 c1 n2 c2 n3 c3 n4 c4 xs ss hs ks := by
  obtain ⟨v0, v1, v2, v3, y0, y1, y2, y3, k, rfl, rfl, rfl, h0, h1, h2, h3⟩ := Go.Joins.open_agg4 Try.underlying40 (by kernel_rfl) Try.cells40 hval h
  have hw0 : ∀ n ∈ y0.1.weights Try.prog 23, n ≤ reachBytes := fun n hn => hw n (by simp [DataW.weights, Try.underlying40, DataW.weightsEach, hn])
  have hw1 : ∀ n ∈ y1.1.weights Try.prog 24, n ≤ reachBytes := fun n hn => hw n (by simp [DataW.weights, Try.underlying40, DataW.weightsEach, hn])
  have hw2 : ∀ n ∈ y2.1.weights Try.prog 24, n ≤ reachBytes := fun n hn => hw n (by simp [DataW.weights, Try.underlying40, DataW.weightsEach, hn])
  have hw3 : ∀ n ∈ y3.1.weights Try.prog 24, n ≤ reachBytes := fun n hn => hw n (by simp [DataW.weights, Try.underlying40, DataW.weightsEach, hn])
  obtain ⟨A1, n1, c1, xs, rfl, r1⟩ := open_intT_cell h0 hw0
  obtain ⟨A2, n2, c2, ss, rfl, r2⟩ := open_rows_cell h1 hw1
  obtain ⟨A3, n3, c3, hs, rfl, r3⟩ := open_rows_cell h2 hw2
  obtain ⟨A4, n4, c4, ks, rfl, r4⟩ := open_rows_cell h3 hw3
  exact ⟨A1, n1, c1, xs, A2, n2, c2, ss, A3, n3, c3, hs, A4, n4, c4, ks, rfl, r1, r2, r3, r4⟩
end

end Go.Proofs.Ytcjanlbhgfadpaa

/- The program may be entered: facts of its head, once for all laws. -/
namespace Go.Proofs.Ytcjanlbhgfadpaa

theorem prog_enters : Try.pinned.checked.prog.mayEnter = true := by kernel_rfl
theorem prog_lifts0 : (false == Try.pinned.checked.prog.liftsFinal) = true := by kernel_rfl
theorem prog_make0 : (Try.pinned.checked.prog.make == some .cut) = true := by kernel_rfl
theorem prog_lifts {b : Bool} (h : b = false) : (b == Try.pinned.checked.prog.liftsFinal) = true := by subst h; exact prog_lifts0
theorem prog_make {m : Make} (h : m = .cut) : (Try.pinned.checked.prog.make == some m) = true := by subst h; exact prog_make0
end Go.Proofs.Ytcjanlbhgfadpaa

/- The reader behind its bytes. -/
namespace Go.Proofs.Ytcjanlbhgfadpaa
open Go.RowKit

theorem xor_pos {a b : Int} (ha : 0 ≤ a) (hb : 0 ≤ b) (ha1 : a ≤ 1000000000000) (hb1 : b ≤ 1000000000000) : ∃ x : Int, 0 ≤ x ∧ x ≤ 2305843009213693952 ∧ bits .xor .i64 a b = x := by
  obtain ⟨m, rfl⟩ := Int.eq_ofNat_of_zero_le ha
  obtain ⟨k, rfl⟩ := Int.eq_ofNat_of_zero_le hb
  have e : ∀ q : Nat, q ≤ 1000000000000 → (BitVec.ofInt 64 (q : Int)).toNat = q := fun q hq => by
    rw [BitVec.ofInt_natCast, BitVec.toNat_ofNat]
    exact Nat.mod_eq_of_lt (by omega)
  have hx : m ^^^ k < 2 ^ 60 := Nat.xor_lt_two_pow (by omega) (by omega)
  refine ⟨((m ^^^ k : Nat) : Int), by omega, by omega, ?_⟩
  show IntKind.i64.wrap ((BitVec.ofInt 64 (m : Int) ^^^ BitVec.ofInt 64 (k : Int)).toNat : Int) = _
  rw [BitVec.toNat_xor, e m (by omega), e k (by omega), IntKind.wrap_i64]
  omega

set_option maxRecDepth 100000 in
set_option maxHeartbeats 2000000 in
theorem pick_out (w0 w : World) (g : Nat) (A : Option Addr) (l c p : Nat) (n : Int) (h : Rdr w0 w g A l c p) (hp : p < 1000000000) (hl : 0 < l) (hpl : l ≤ p) (hz : 1 ≤ n) :
    Calls Try.prog 49 #[.pointer (some ⟨g, 0, none⟩), .int .i64 n] w (Picked w0 g A l c p n w) := by
  have k0 := blk_cell h.box (i := 0) (v := .slice A l c) rfl
  have k1 := blk_cell h.box (i := 1) (v := .int .i64 p) rfl
  have f1 := blk_frozen h.box 1
  have HS := Lib.hid h.step
  have j0 := blk_cell h.step.box (i := 0) (v := .slice A l c) rfl
  have j1 := blk_cell h.step.box (i := 1) (v := .int .i64 (p + 1 : Nat)) rfl
  have hs := h.small
  obtain ⟨b, o, rfl, hc⟩ := h.step.at_.at_ (by omega)
  obtain ⟨v, v0, v1, cb⟩ := hc (p % l) (Nat.mod_lt _ hl)
  obtain ⟨u, u0, u1, cu⟩ := hc ((p * 7 + 3) % l) (Nat.mod_lt _ hl)
  rw [cast_succ] at j0 j1 cb cu
  have hl0 : ((l : Int) == 0) = false := by simp; omega
  have m1 : (p : Int) % l < l := Int.emod_lt_of_pos _ (by omega)
  have m2 : 0 ≤ (p : Int) % l := Int.emod_nonneg _ (by omega)
  have m3 : ((p : Int) * 7 + 3) % l < l := Int.emod_lt_of_pos _ (by omega)
  have m4 : 0 ≤ ((p : Int) * 7 + 3) % l := Int.emod_nonneg _ (by omega)
  have m5 : 0 ≤ (p : Int) / l := Int.ediv_nonneg (by omega) (by omega)
  have m6 : (p : Int) / l ≤ p := Int.ediv_le_self _ (by omega)
  clear hc
  go_enter Try.func49, Try.ntmps49
  go_wp2
  generalize hW : (w.setCell ⟨g, 1, none⟩ (.int .i64 ((p : Int) + 1))) = W1 at *
  have HW := Lib.hid hW
  clear hW
  have hn1 : decide (n < 1) = false := by simp; omega
  go_quiet (fail)
  generalize hX : v * 131 + u * 1117 + (p : Int) * 29 + (p : Int) / l * 53 = X
  have X0 : 0 ≤ X := by omega
  have X1 : X ≤ 1000000000000 := by omega
  clear hX m1 m2 m3 m4 m5 m6 cb cu v0 v1 u0 u1
  obtain ⟨x, x0, x1, xe⟩ := xor_pos X0 (show 0 ≤ X / 64 by omega) X1 (show X / 64 ≤ 1000000000000 by omega)
  have y0 : 0 ≤ x % n := Int.emod_nonneg _ (by omega)
  have y1 : x % n < n := Int.emod_lt_of_pos _ (by omega)
  go_wp2
  go_ret
  exact ⟨x % n, rfl, fun _ => ⟨y0, y1⟩, fun h => absurd h (by omega), HS.out.quiet ⟨nq, by rw [cast_succ, HW.out]⟩, nq, by rw [cast_succ, HW.out]⟩

/-- Whatever the bytes and the number. -/
theorem pick_any (w0 w : World) (g : Nat) (A : Option Addr) (l c p : Nat) (n : Int) (h : Rdr w0 w g A l c p) (hp : p < 1000000000) :
    Calls Try.prog 49 #[.pointer (some ⟨g, 0, none⟩), .int .i64 n] w (Picked w0 g A l c p n w) := by
  by_cases hz : n < 1
  · exact pick_zero w0 w g A l c p n h hp hz
  · rcases Nat.eq_zero_or_pos l with rfl | hl
    · exact pick_none w0 w g A c p n h hp (by omega)
    · by_cases hpl : p < l
      · exact pick_in w0 w g A l c p n h hpl (by omega)
      · exact pick_out w0 w g A l c p n h hp hl (by omega) (by omega)

end Go.Proofs.Ytcjanlbhgfadpaa

/- The reader made; one of some numbers. -/
namespace Go.Proofs.Ytcjanlbhgfadpaa
open Go.RowKit

def MadeRdr (w : World) (l : Nat) (e : Ending) (w' : World) : Prop :=
  ∃ A n c, e = .returned (.pointer (some ⟨w.heap.size, 0, none⟩)) ∧ n = min l 2000 ∧ Rdr w w' w.heap.size A n c 0 ∧ w'.heap.size = w.heap.size + 1

theorem Bytes.cut {w A n c} (h : Bytes w A n c) (hn : 2000 < n) : Bytes w A 2000 c :=
  ⟨by have := h.cap; omega, by omega, fun _ => let ⟨b, o, e, hc⟩ := h.at_ (by omega); ⟨b, o, e, fun k hk => hc k (by omega)⟩⟩

set_option maxHeartbeats 400000 in
theorem newReader_any (A : Option Addr) (n c : Nat) (w : World) (h : Bytes w A n c) :
    Calls Try.prog 44 #[.slice A n c] w (MadeRdr w n) := by
  have hm := h.max
  have hcap := h.cap
  by_cases hn : 2000 < n
  · obtain ⟨b, o, rfl, _⟩ := h.at_ (by omega)
    have HR := Lib.hid (show Rdr w (w.alloc (.cells #[.slice (some ⟨b, o, none⟩) 2000 c, .int .i64 0] 68)) w.heap.size (some ⟨b, o, none⟩) 2000 c 0 from
      ⟨blk_new _ _ _, h.cut hn, below_alloc _ _, Nat.le_refl _, Nat.le_refl _⟩)
    have HM := Lib.hid (show 2000 = min n 2000 by omega)
    have hc2 : 2000 ≤ c := by omega
    clear h
    go_enter Try.func44, Try.ntmps44
    go_wp2
    go_ret
    exact ⟨_, _, _, rfl, HM.out, HR.out, by simp⟩
  · have HR := Lib.hid (show Rdr w (w.alloc (.cells #[.slice A n c, .int .i64 0] 68)) w.heap.size A n c 0 from
      ⟨blk_new _ _ _, h, below_alloc _ _, Nat.le_refl _, by omega⟩)
    have HM := Lib.hid (show n = min n 2000 by omega)
    clear h
    go_enter Try.func44, Try.ntmps44
    go_wp2
    go_ret
    exact ⟨_, _, _, rfl, HM.out, HR.out, by simp⟩

/-- Some draws by the reader in block g: it alone has turned, p has grown by some; new blocks may be there. -/
structure Drawn (w0 : World) (g : Nat) (A : Option Addr) (l c p p' : Nat) (w w' : World) : Prop where
  rd : Rdr w0 w' g A l c p'
  grown : w.grownBy w' (some g)

theorem One.grown {g : Nat} {w w' : World} (h : One g w w') : w.grownBy w' (some g) := ⟨h.os, h.tape, h.output, by rw [h.size]; exact Nat.le_refl _, fun k _ hne => h.block k (fun e => hne (by rw [e]))⟩
theorem Rdr.one {g : Nat} (w : World) (v : Value) (q : Nat) : One g w ((w.setCell ⟨g, 1, none⟩ v).drewN q) :=
  let h := (One.refl g w).set 1 v
  ⟨h.os, h.tape, h.output, h.size, h.block⟩
theorem Rdr.below_ {w0 w w' g A n c p} (h : Rdr w0 w g A n c p) (k : Below w.heap.size w w') : Rdr w0 w' g A n c p :=
  ⟨blk_below h.box k, h.bytes, below_up h.below k, h.lt, h.small⟩

def OneOf (w0 : World) (g : Nat) (A : Option Addr) (l c p : Nat) (xs : List Int) (w : World) (e : Ending) (w' : World) : Prop :=
  ∃ x, e = .returned (.int .i64 x) ∧ x ∈ xs ∧ Rdr w0 w' g A l c (p + 1) ∧ One g w w'

set_option maxHeartbeats 400000 in
theorem one_any (w0 w : World) (g : Nat) (A : Option Addr) (l c p : Nat) (B : Option Addr) (n d : Nat) (xs : List Int) (h : Rdr w0 w g A l c p) (hp : p < 1000000000)
    (hx : Ints w B n d xs) (h0 : 0 < n) (hne : ∀ b o, B = some ⟨b, o, none⟩ → b ≠ g) :
    Calls Try.prog 48 #[.pointer (some ⟨g, 0, none⟩), .slice B n d] w (OneOf w0 g A l c p xs w) := by
  have hm := hx.max
  have HX := Lib.hid hx
  have HC := Lib.hid (pick_any w0 w g A l c p n h hp)
  have HNE := Lib.hid hne
  obtain ⟨b, o, rfl, _⟩ := hx.at_ h0
  clear h hx hne
  go_enter Try.func48, Try.ntmps48
  go_wp2_with fail
  refine HC.out.mono ?_
  rintro e w1 ⟨m, rfl, hm1, _, hr, q, hw⟩
  have H1 := Lib.hid hr
  have hone := Rdr.one (g := g) w (.int .i64 (p + 1 : Nat)) q
  rw [← hw] at hone
  have HO := Lib.hid hone
  obtain ⟨m0, m1⟩ := hm1 (by omega)
  obtain ⟨k, rfl⟩ := Int.eq_ofNat_of_zero_le m0
  have hk : k < n := by omega
  obtain ⟨b', o', e', hc⟩ := HX.out.at_ h0
  injection e' with e'
  injection e' with e1 e2 _
  subst e1
  subst e2
  have ck := hc k hk
  rw [← World.cell?_of_block (w := w) (w' := w1) (hone.block b (HNE.out b o rfl))] at ck
  have HM := Lib.hid (gi_mem (xs := xs) (k := k) (by rw [HX.out.len]; exact hk))
  clear hr hone hc hm1 hw HC HX
  go_wp2
  go_ret
  exact ⟨_, rfl, HM.out, H1.out, HO.out⟩
end Go.Proofs.Ytcjanlbhgfadpaa

/- A table drawn. -/
namespace Go.Proofs.Ytcjanlbhgfadpaa
open Go.RowKit

theorem grown_below {g : Nat} {a b w : World} (h : a.grownBy b (some g)) (k : Below b.heap.size b w) : a.grownBy w (some g) :=
  ⟨k.os.trans h.os, k.tape.trans h.tape, k.output.trans h.output, Nat.le_trans h.size k.size, fun i hi hne => (k.block i (Nat.lt_of_lt_of_le hi h.size)).trans (h.block i hi hne)⟩
/-- An append onto a row from lo on. -/
theorem grown_app {g : Nat} {a b w : World} {row : Option Nat} (h : a.grownBy b (some g)) (k : b.grownBy w row) (hr : ∀ x, row = some x → a.heap.size ≤ x) : a.grownBy w (some g) :=
  ⟨k.os.trans h.os, k.tape.trans h.tape, k.output.trans h.output, Nat.le_trans h.size k.size, fun i hi hne => (k.block i (Nat.lt_of_lt_of_le hi h.size) (fun e => by have := hr i e.symm; omega)).trans (h.block i hi hne)⟩

/-- A table under way: the reader, the rows that are there. -/
structure TO (w0 wb : World) (g : Nat) (A : Option Addr) (l c p : Nat) (v : Value) (vs : List Value) (xss : List (List Int)) (w : World) : Prop where
  rd : Rdr w0 w g A l c p
  bo : Bld wb.heap.size w.heap.size w v vs xss
  gl : g < wb.heap.size
  up : wb.grownBy w (some g)
/-- .. and the row that is begun. -/
structure TI (w0 wb : World) (g : Nat) (A : Option Addr) (l c p H : Nat) (v : Value) (vs : List Value) (xss : List (List Int)) (u : Value) (ys : List Int) (w : World) : Prop where
  rd : Rdr w0 w g A l c p
  bo : Bld wb.heap.size H w v vs xss
  bi : BldI H w.heap.size w u ys
  gl : g < wb.heap.size
  lh : wb.heap.size ≤ H
  hs : H ≤ w.heap.size
  up : wb.grownBy w (some g)
theorem TO.start {w0 wb g A l c p} (h : Rdr w0 wb g A l c p) :
    TO w0 wb g A l c p (.slice (some ⟨wb.heap.size, 0, none⟩) 0 0) [] [] (wb.alloc (.cells #[] 23)) :=
  ⟨h.below_ (below_alloc _ _), by rw [World.size_alloc]; exact Bld.make (Nat.le_refl _), blk_lt h.box, World.grownBy_alloc _ _ _⟩
theorem TO.row {w0 wb g A l c p v vs xss w} (h : TO w0 wb g A l c p v vs xss w) :
    TI w0 wb g A l c p w.heap.size v vs xss (.slice (some ⟨w.heap.size, 0, none⟩) 0 0) [] (w.alloc (.cells #[] 3)) :=
  ⟨h.rd.below_ (below_alloc _ _), h.bo.below (below_alloc _ _), by rw [World.size_alloc]; exact BldI.make (Nat.le_refl _), h.gl, h.up.size, by simp, grown_below h.up (below_alloc _ _)⟩
theorem TI.one {w0 wb g A l c p p' H v vs xss u ys w w'} (h : TI w0 wb g A l c p H v vs xss u ys w) (hr : Rdr w0 w' g A l c p') (ho : One g w w') :
    TI w0 wb g A l c p' H v vs xss u ys w' := by
  have hgl := h.gl
  have hlh := h.lh
  refine ⟨hr, h.bo.of_blocks fun k h1 _ _ => ho.block k (by omega), ?_, h.gl, h.lh, by rw [ho.size]; exact h.hs, ?_⟩
  · rw [ho.size]; exact h.bi.of_blocks fun k h1 _ _ => ho.block k (by omega)
  · exact ⟨ho.os.trans h.up.os, ho.tape.trans h.up.tape, ho.output.trans h.up.output, by rw [ho.size]; exact h.up.size, fun k hk hne => (ho.block k (fun e => hne (by rw [e]))).trans (h.up.block k hk hne)⟩
theorem TI.push {w0 wb g A l c p H v vs xss u u' ys w w' x} (h : TI w0 wb g A l c p H v vs xss u ys w)
    (hown : w'.ownsRow H 3 1 u' (ys.length + 1) (ys.map iv ++ [iv x])) (hgrow : (w.alloc (.cells #[iv x] 3)).grownBy w' u.ownBlock)
    (hat : u'.ownBlock = u.ownBlock ∨ u'.ownBlock = some (w.heap.size + 1)) : TI w0 wb g A l c p H v vs xss u' (ys ++ [x]) w' := by
  have hgl := h.gl
  have hlh := h.lh
  have hhs := h.hs
  have hsz := hgrow.size
  simp only [World.size_alloc] at hsz
  have hu : ∀ k, u.ownBlock = some k → H ≤ k := fun k hk => (h.bi.own.lt k hk).1
  have hbelow : ∀ k, k < H → w'.heap[k]? = w.heap[k]? := fun k hk =>
    (hgrow.block k (by simp; omega) (fun e => by have := hu k e.symm; omega)).trans (Below.heap_alloc _ _ _ (by omega))
  refine ⟨⟨(hbelow g (by omega)).trans h.rd.box, h.rd.bytes, ?_, h.rd.lt, h.rd.small⟩, h.bo.of_blocks fun k _ hk _ => hbelow k hk, ⟨by rw [List.length_append, List.length_singleton, List.map_append]; exact hown, fun k hk => ?_⟩, h.gl, h.lh, by omega, ?_⟩
  · exact ⟨hgrow.os.trans h.rd.below.os, hgrow.tape.trans h.rd.below.tape, hgrow.output.trans h.rd.below.output, by have := h.rd.below.size; omega, fun k hk => (hbelow k (by have := h.rd.lt; omega)).trans (h.rd.below.block k hk)⟩
  · rcases hat with hat | hat
    · have := h.bi.hi_ k (by rw [← hat]; exact hk); omega
    · have := (hown.lt k hk).2; omega
  · exact grown_app (grown_below h.up (below_alloc _ _)) hgrow fun k hk => by have := hu k hk; omega
theorem TI.done {w0 wb g A l c p H v v' vs xss ys w w' Ar cr gr_} (h : TI w0 wb g A l c p H v vs xss (.slice Ar ys.length cr) ys w) (ho : OwnI H w.heap.size w gr_ Ar ys.length cr ys)
    (hown : w'.ownsRow wb.heap.size 23 1 v' (xss.length + 1) (vs ++ [.slice Ar ys.length cr])) (hgrow : (w.alloc (.cells #[.slice Ar ys.length cr] 23)).grownBy w' v.ownBlock)
    (hat : v'.ownBlock = v.ownBlock ∨ v'.ownBlock = some (w.heap.size + 1)) : TO w0 wb g A l c p v' (vs ++ [.slice Ar ys.length cr]) (xss ++ [ys]) w' := by
  have hgl := h.gl
  have hlh := h.lh
  have hhs := h.hs
  have hsz := hgrow.size
  simp only [World.size_alloc] at hsz
  have hv : ∀ k, v.ownBlock = some k → wb.heap.size ≤ k := fun k hk => (h.bo.own.lt k hk).1
  have hbelow : ∀ k, k < wb.heap.size → w'.heap[k]? = w.heap[k]? := fun k hk =>
    (hgrow.block k (by simp; omega) (fun e => by have := hv k e.symm; omega)).trans (Below.heap_alloc _ _ _ (by omega))
  have hb := below_alloc w (.cells #[.slice Ar ys.length cr] 23)
  refine ⟨⟨(hbelow g hgl).trans h.rd.box, h.rd.bytes, ?_, h.rd.lt, h.rd.small⟩, ?_, h.gl, ?_⟩
  · exact ⟨hgrow.os.trans h.rd.below.os, hgrow.tape.trans h.rd.below.tape, hgrow.output.trans h.rd.below.output, by have := h.rd.below.size; omega, fun k hk => (hbelow k (by have := h.rd.lt; omega)).trans (h.rd.below.block k hk)⟩
  · have hbo : Bld wb.heap.size H w v vs xss := h.bo
    exact Bld.push (hi := H) (w := w) hbo hb ((ho.below hb).mono (Nat.le_refl _) (by simp)) hown hgrow (by simpa using hat) hlh hhs
  · exact grown_app (grown_below h.up hb) hgrow fun k hk => hv k hk
end Go.Proofs.Ytcjanlbhgfadpaa

/- A table drawn: the walk. -/
namespace Go.Proofs.Ytcjanlbhgfadpaa
open Go.RowKit
theorem Try.info_row : (Try.prog.info? 23).map (fun i => (i.zero, i.size, i.bytes)) = some (some (.slice none 0 0), 1, 24) := by kernel_rfl
theorem Try.info_int : (Try.prog.info? 3).map (fun i => (i.zero, i.size, i.bytes)) = some (some (.int .i64 0), 1, 8) := by kernel_rfl

def RowIn (m : Nat) (lo hi : Int) (r : List Int) : Prop := r.length = m ∧ ∀ x ∈ r, lo ≤ x ∧ x ≤ hi
def TableOut (w0 : World) (g : Nat) (A : Option Addr) (l c p n m : Nat) (lo hi : Int) (w : World) (e : Ending) (w' : World) : Prop :=
  ∃ Av cv vs xss p', e = .returned (.slice Av n cv) ∧ xss.length = n ∧ (∀ r ∈ xss, RowIn m lo hi r) ∧ TO w0 w g A l c p' (.slice Av n cv) vs xss w' ∧ p' ≤ p + 16

set_option maxHeartbeats 1000000 in
theorem tableOf_any (w0 w : World) (g : Nat) (A : Option Addr) (l c p n m : Nat) (lo hi : Int) (h : Rdr w0 w g A l c p) (hp : p < 900000000) (hn : n ≤ 4) (hm : m ≤ 4) (hl1 : -100 ≤ lo) (hl2 : lo ≤ hi) (hl3 : hi ≤ 100) :
    Calls Try.prog 66 #[.pointer (some ⟨g, 0, none⟩), .int .i64 n, .int .i64 m, .int .i64 lo, .int .i64 hi] w (TableOut w0 g A l c p n m lo hi w) := by
  have HS := Lib.hid (TO.start h)
  clear h
  go_enter Try.func66, Try.ntmps66
  go_wp2
  go_loopw [11] (fun v wr => ∃ (xss : List (List Int)) (vs : List Value) (p' : Nat), xss.length ≤ n ∧ p' ≤ p + 4 * xss.length ∧ Hid (∀ r ∈ xss, RowIn m lo hi r) ∧ Hid (TO w0 w g A l c p' v vs xss wr)) (fun v _ => n - (match v with | .slice _ k _ => k | _ => 0))
  case atStart => exact ⟨[], [], p, Nat.zero_le _, by simp, Lib.hid (fun r hr => by simp at hr), HS⟩
  case round =>
    clear HS
    obtain ⟨xss, vs, p', hxn, hpp, HA, HT⟩ := hrel
    obtain ⟨Av, cv, rfl⟩ := HT.out.bo.form
    by_cases hlt : xss.length < n
    · have HI := Lib.hid HT.out.row
      clear HT
      go_wp2
      generalize wr.heap.size = N at *
      go_loopw [12] (fun u wi => ∃ (ys : List Int) (q : Nat), ys.length ≤ m ∧ q ≤ p' + ys.length ∧ Hid (∀ x ∈ ys, lo ≤ x ∧ x ≤ hi) ∧ Hid (TI w0 w g A l c q N (.slice Av xss.length cv) vs xss u ys wi)) (fun u _ => m - (match u with | .slice _ k _ => k | _ => 0))
      case atStart => exact ⟨[], p', Nat.zero_le _, by simp, Lib.hid (fun r hr => by simp at hr), HI⟩
      case round =>
        clear HI
        obtain ⟨ys, q, hym, hq, HR, HI⟩ := hrel
        obtain ⟨Au, cu, rfl⟩ := HI.out.bi.form
        by_cases hlm : ys.length < m
        · have HC := Lib.hid (pick_any w0 _ g A l c q (hi - lo + 1) HI.out.rd (by omega))
          go_wp2_with fail
          refine HC.out.mono ?_
          rintro e w2 ⟨k, rfl, hk1, _, hr, z, hw⟩
          have hone := Rdr.one (g := g) wr (.int .i64 (q + 1 : Nat)) z
          rw [← hw] at hone
          obtain ⟨k0, k1⟩ := hk1 (by omega)
          have HI2 := Lib.hid (HI.out.one hr hone)
          clear hr hone hw hk1 HC HI
          have hb := below_alloc w2 (.cells #[iv (lo + k)] 3)
          have HB4 := Lib.hid (HI2.out.bi.below hb).own
          have HN := Lib.hid (cell_one_new w2 (iv (lo + k)) 3)
          have hHs := HI2.out.hs
          have hlh := HI2.out.lh
          clear hb
          obtain ⟨i0, hi0, hz0, hz1, hz2⟩ := info_parts Try.info_int
          go_wp2_with (at_builtin; refine wpList_append_own_at _ rfl _ _ 23 rfl N 3 i0 (.int .i64 0) 1 8 Try.underlying23 hi0 hz0 hz1 hz2 rfl (by decide) _ ys.length (ys.map iv) rfl HB4.out ⟨w2.heap.size, 0, none⟩ 1 1 [iv (lo + k)] rfl rfl ?c1 ?c2 ?c3 ?c4 ?c5 ?_)
          case c1 => exact HN.out
          case c2 => intro u hu; simp at hu; subst hu; rfl
          case c3 => unfold maxLen; omega
          case c4 => omega
          case c5 => simp; omega
          intro v' w5 hown' hgrow _ hat
          have HI5 := Lib.hid (HI2.out.push hown' hgrow (by simpa using hat))
          clear HB4 HN hown' hgrow hat HI2
          obtain ⟨Au2, cu2, rfl⟩ := HI5.out.bi.form
          go_wp2
          go_roundw
          case rel => exact ⟨ys ++ [lo + k], q + 1, by simp; omega, by simp; omega, Lib.hid (fun x hx => by
            rcases List.mem_append.1 hx with hx | hx
            · exact HR.out x hx
            · simp at hx; omega), HI5⟩
          case measure => simp; omega
        · obtain ⟨Ar, nr, cr, gg, e, rfl, ho, _⟩ := HI.out.bi.owns (by omega) (fun x hx => by have := HR.out x hx; omega)
          injection e with e1 _ e3
          subst e1
          subst e3
          have HO := Lib.hid ho
          have hym2 : ys.length = m := by omega
          have hb := below_alloc wr (.cells #[.slice Au ys.length cu] 23)
          have HB4 := Lib.hid (HI.out.bo.below hb).own
          have HN := Lib.hid (cell_one_new wr (.slice Au ys.length cu) 23)
          have hHs := HI.out.hs
          have hlh := HI.out.lh
          clear hb ho
          have HYM := Lib.hid hym2
          clear hym2
          obtain ⟨i0, hi0, hz0, hz1, hz2⟩ := info_parts Try.info_row
          go_wp2_with (at_builtin; refine wpList_append_own_at _ rfl _ _ 24 rfl w.heap.size 23 i0 (.slice none 0 0) 1 24 Try.underlying24 hi0 hz0 hz1 hz2 rfl (by decide) _ xss.length vs rfl HB4.out ⟨wr.heap.size, 0, none⟩ 1 1 [.slice Au ys.length cu] rfl rfl ?d1 ?d2 ?d3 ?d4 ?d5 ?_)
          case d2 => rfl
          case d3 => unfold maxLen; omega
          case d4 => omega
          case d5 => omega
          intro v' w5 hown' hgrow _ hat
          have HT5 := Lib.hid (HI.out.done HO.out hown' hgrow (by simpa using hat))
          clear HB4 HN hown' hgrow hat HI HO
          obtain ⟨Av2, cv2, rfl⟩ := HT5.out.bo.form
          go_wp2
          go_roundw
          case rel => exact ⟨xss ++ [ys], _, q, by simp; omega, by have := HYM.out; simp; omega, Lib.hid (fun r hr => by
            rcases List.mem_append.1 hr with hr | hr
            · exact HA.out r hr
            · simp at hr; subst hr; exact ⟨HYM.out, HR.out⟩), HT5⟩
          case measure => simp; omega
    · have hnx : xss.length = n := by omega
      have HNX := Lib.hid hnx
      clear hnx
      go_wp2
      go_ret
      exact ⟨Av, cv, vs, xss, p', by rw [← HNX.out]; rfl, HNX.out, HA.out, by rw [← HNX.out]; exact HT.out, by have := HNX.out; omega⟩
end Go.Proofs.Ytcjanlbhgfadpaa

/- A table spoiled now and then: what becomes of its memory. -/
namespace Go.Proofs.Ytcjanlbhgfadpaa
open Go.RowKit

theorem Bld.head {lo hi w v vs xss} (h : Bld lo hi w v vs xss) (h0 : 0 < xss.length) : ∃ b c R cc, v = .slice (some ⟨b, 0, none⟩) xss.length c ∧ lo ≤ b ∧ vs[0]? = some (.slice R (gr xss 0).length cc) ∧ w.cell? ⟨b, 0, none⟩ = some (.slice R (gr xss 0).length cc) := by
  obtain ⟨h1, h4, G, R, C, h2, h3⟩ := h
  have hv := (h2 0 h0).1
  rcases h1.2 with ⟨_, h5⟩ | ⟨g, cap, cur, rfl, hb, _⟩
  · omega
  · have hc := h1.cells (g := g) rfl 0 _ hv
    exact ⟨g, cap, R 0, C 0, rfl, hb, hv, by simpa [Addr.add] using hc⟩

theorem Bld.set0 {lo hi w v vs xss} (h : Bld lo hi w v vs xss) (h0 : 0 < xss.length) (h1 : 0 < (gr xss 0).length) {x : Int} (hx : -9223372036854775808 ≤ x ∧ x ≤ 9223372036854775807) :
    ∃ b o cc, vs[0]? = some (.slice (some ⟨b, o, none⟩) (gr xss 0).length cc) ∧ lo ≤ b ∧ (∃ y, w.cell? ⟨b, o, none⟩ = some (.int .i64 y)) ∧ w.frozen? ⟨b, o, none⟩ = false ∧
      Bld lo hi (w.setCell ⟨b, o, none⟩ (.int .i64 x)) v vs (xss.set 0 ((gr xss 0).set 0 x)) := by
  obtain ⟨ho, h4, G, R, C, h2, h3⟩ := h
  obtain ⟨q0, q1, q2⟩ := h2 0 h0
  obtain ⟨o, e, l1, l2, hf⟩ := q1.own h1
  have q1' := q1
  rw [e] at q1' q0
  have hset := q1'.set h1 hx
  rw [Nat.add_zero] at hset
  obtain ⟨b', o', e', hc⟩ := q1.ints.at_ h1
  rw [e] at e'
  injection e' with e'
  injection e' with e1 e2 _
  have hc0 := hc 0 h1
  rw [Nat.add_zero, ← e1, ← e2] at hc0
  have hf0 := hf 0 h1
  rw [Nat.add_zero] at hf0
  have hlen : ∀ k, (gr (xss.set 0 ((gr xss 0).set 0 x)) k).length = (gr xss k).length := fun k => by
    by_cases e : k = 0
    · subst e; rw [gr_set_eq h0, List.length_set]
    · rw [gr_set_ne e]
  refine ⟨G 0, o, C 0, q0, l1, ⟨_, hc0⟩, hf0, ⟨?_, h4, G, R, C, fun k hk => ?_, fun j k hjk hk hj0 hk0 => ?_⟩⟩
  · rw [List.length_set]
    exact blk_kept ho fun g hg => Below.heap_setCell _ _ _ _ (fun e => q2 h1 (by rw [hg, e]))
  · rw [List.length_set] at hk
    rw [hlen]
    obtain ⟨a, b, c⟩ := h2 k hk
    refine ⟨a, ?_, c⟩
    by_cases ek : k = 0
    · subst ek
      rw [gr_set_eq h0, e]
      exact hset
    · rw [gr_set_ne ek]
      exact b.of_block fun hp => Below.heap_setCell _ _ _ _ (Ne.symm (h3 0 k (by omega) hk h1 hp))
  · rw [List.length_set] at hk
    rw [hlen] at hj0 hk0
    exact h3 j k hjk hk hj0 hk0

/-- The rows' lengths and numbers are small. -/
structure Small (xss : List (List Int)) : Prop where
  n : xss.length ≤ 8
  rows : ∀ r ∈ xss, r.length ≤ 8 ∧ ∀ x ∈ r, -1000 ≤ x ∧ x ≤ 1000
theorem Small.set0 {xss : List (List Int)} (h : Small xss) (h0 : 0 < xss.length) {x : Int} (hx : -1000 ≤ x ∧ x ≤ 1000) : Small (xss.set 0 ((gr xss 0).set 0 x)) := by
  have hm := h.rows _ (gr_mem h0)
  refine ⟨by rw [List.length_set]; exact h.n, fun r hr => ?_⟩
  rcases List.mem_or_eq_of_mem_set hr with hr | rfl
  · exact h.rows r hr
  · refine ⟨by rw [List.length_set]; exact hm.1, fun y hy => ?_⟩
    rcases List.mem_or_eq_of_mem_set hy with hy | rfl
    · exact hm.2 y hy
    · exact hx
theorem Small.snoc {xss : List (List Int)} (h : Small xss) (hn : xss.length ≤ 7) {x : Int} (hx : -1000 ≤ x ∧ x ≤ 1000) : Small (xss ++ [[x]]) :=
  ⟨by simp; omega, fun r hr => by
    rcases List.mem_append.1 hr with hr | hr
    · exact h.rows r hr
    · simp at hr; subst hr; exact ⟨by simp, fun y hy => by simp at hy; subst hy; exact hx⟩⟩
theorem Small.nil : Small [] := ⟨by simp, fun r hr => by simp at hr⟩

theorem TO.below {w0 wb g A l c p v vs xss w w'} (h : TO w0 wb g A l c p v vs xss w) (k : Below w.heap.size w w') : TO w0 wb g A l c p v vs xss w' :=
  ⟨h.rd.below_ k, (h.bo.below k).mono k.size, h.gl, grown_below h.up k⟩
theorem TO.one {w0 wb g A l c p p' v vs xss w w'} (h : TO w0 wb g A l c p v vs xss w) (hr : Rdr w0 w' g A l c p') (ho : One g w w') : TO w0 wb g A l c p' v vs xss w' := by
  have hgl := h.gl
  refine ⟨hr, ?_, h.gl, ?_⟩
  · rw [ho.size]; exact h.bo.of_blocks fun k h1 _ _ => ho.block k (by omega)
  · exact ⟨ho.os.trans h.up.os, ho.tape.trans h.up.tape, ho.output.trans h.up.output, by rw [ho.size]; exact h.up.size, fun k hk hne => (ho.block k (fun e => hne (by rw [e]))).trans (h.up.block k hk hne)⟩
theorem TO.fresh {w0 wb g A l c p v vs xss w} (h : TO w0 wb g A l c p v vs xss w) : TO w0 wb g A l c p (.slice (some ⟨w.heap.size, 0, none⟩) 0 0) [] [] (w.alloc (.cells #[] 23)) :=
  ⟨h.rd.below_ (below_alloc _ _), by rw [World.size_alloc]; exact Bld.make h.up.size, h.gl, grown_below h.up (below_alloc _ _)⟩
theorem TO.set0 {w0 wb g A l c p v vs xss w} (h : TO w0 wb g A l c p v vs xss w) (h0 : 0 < xss.length) (h1 : 0 < (gr xss 0).length) {x : Int} (hx : -1000 ≤ x ∧ x ≤ 1000) :
    ∃ b o cc, vs[0]? = some (.slice (some ⟨b, o, none⟩) (gr xss 0).length cc) ∧ (∃ y, w.cell? ⟨b, o, none⟩ = some (.int .i64 y)) ∧ w.frozen? ⟨b, o, none⟩ = false ∧
      TO w0 wb g A l c p v vs (xss.set 0 ((gr xss 0).set 0 x)) (w.setCell ⟨b, o, none⟩ (.int .i64 x)) := by
  obtain ⟨b, o, cc, e, hl, hc, hf, hb⟩ := h.bo.set0 h0 h1 (x := x) (by omega)
  have hgl := h.gl
  have hs : (w.setCell ⟨b, o, none⟩ (.int .i64 x)).heap.size = w.heap.size := by simp [World.setCell]
  refine ⟨b, o, cc, e, hc, hf, ⟨⟨blk_other h.rd.box (by show g ≠ b; omega) _, h.rd.bytes, h.rd.below.setCell (by show w0.heap.size ≤ b; have := h.rd.lt; omega) _, h.rd.lt, h.rd.small⟩, by rw [hs]; exact hb, h.gl, ?_⟩⟩
  exact ⟨h.up.os, h.up.tape, h.up.output, by rw [hs]; exact h.up.size, fun k hk hne => (Below.heap_setCell _ _ _ _ (by show k ≠ b; omega)).trans (h.up.block k hk hne)⟩
end Go.Proofs.Ytcjanlbhgfadpaa

/- A list of ints that is written out. -/
namespace Go.Proofs.Ytcjanlbhgfadpaa
open Go.RowKit

theorem Ints.lit (w : World) (xs : List Int) (hl : xs.length ≤ 1000) (hw : ∀ x ∈ xs, -9223372036854775808 ≤ x ∧ x ≤ 9223372036854775807) :
    Ints (w.alloc (.cells (xs.map iv).toArray 3)) (some ⟨w.heap.size, 0, none⟩) xs.length xs.length xs :=
  ⟨rfl, Nat.le_refl _, by omega, hw, fun _ => ⟨_, _, rfl, fun k hk => by
    simp only [World.cell?, Nat.zero_add, heap_alloc_new]
    rw [← getElem_iv hk]
    simp⟩⟩
theorem Ints.two (w : World) (x y : Int) (hx : -9223372036854775808 ≤ x ∧ x ≤ 9223372036854775807 := by omega) (hy : -9223372036854775808 ≤ y ∧ y ≤ 9223372036854775807 := by omega) : Ints (w.alloc (.cells #[iv x, iv y] 3)) (some ⟨w.heap.size, 0, none⟩) 2 2 [x, y] :=
  ⟨rfl, Nat.le_refl _, by omega, fun z hz => by simp at hz; omega, fun _ => ⟨_, _, rfl, fun k hk => by
    have h : k = 0 ∨ k = 1 := by omega
    rcases h with rfl | rfl <;> simp only [World.cell?, Nat.zero_add, heap_alloc_new] <;> rfl⟩⟩

end Go.Proofs.Ytcjanlbhgfadpaa

/- A table spoiled now and then: the walk. -/
namespace Go.Proofs.Ytcjanlbhgfadpaa
open Go.RowKit

/-- A row written out, of one number. -/
theorem TO.lit {w0 wb g A l c p v vs xss w} (h : TO w0 wb g A l c p v vs xss w) (x : Int) :
    TI w0 wb g A l c p w.heap.size v vs xss (.slice (some ⟨w.heap.size, 0, none⟩) 1 1) [x] (w.alloc (.cells #[iv x] 3)) :=
  ⟨h.rd.below_ (below_alloc _ _), h.bo.below (below_alloc _ _), by rw [World.size_alloc]; exact ⟨⟨by simp, .inr ⟨w.heap.size, 1, #[iv x], rfl, Nat.le_refl _, heap_alloc_new w _, Nat.le_refl _, by decide, rfl, by simp⟩⟩, fun k hk => by simp [Value.ownBlock] at hk; omega⟩, h.gl, h.up.size, by simp, grown_below h.up (below_alloc _ _)⟩

theorem Ints.drew {w A n c xs} (h : Ints w A n c xs) : Ints w.drew A n c xs := ⟨h.1, h.2, h.3, h.4, h.5⟩

theorem Bld.head_at {lo hi w b c n vs xss} (h : Bld lo hi w (.slice (some ⟨b, 0, none⟩) n c) vs xss) (h0 : 0 < xss.length) : w.cell? ⟨b, 0, none⟩ = vs[0]? := by
  obtain ⟨b', c', R, cc, e, _, h1, h2⟩ := h.head h0
  injection e with e
  injection e with e
  injection e with e _ _
  subst e
  rw [h1, h2]

theorem TO.set0_at {w0 wb g A l c p v vs xss w b o k cc} (h : TO w0 wb g A l c p v vs xss w) (h0 : 0 < xss.length) (h1 : 0 < (gr xss 0).length) (hv : vs[0]? = some (.slice (some ⟨b, o, none⟩) k cc)) {x : Int} (hx : -1000 ≤ x ∧ x ≤ 1000) :
    (∃ y, w.cell? ⟨b, o, none⟩ = some (.int .i64 y)) ∧ w.frozen? ⟨b, o, none⟩ = false ∧ TO w0 wb g A l c p v vs (xss.set 0 ((gr xss 0).set 0 x)) (w.setCell ⟨b, o, none⟩ (.int .i64 x)) := by
  obtain ⟨b', o', cc', e, h2⟩ := h.set0 h0 h1 hx
  rw [hv] at e
  injection e with e
  injection e with e _ _
  injection e with e
  injection e with e1 e2 _
  subst e1
  subst e2
  exact h2

def SpoilOut (w0 wb : World) (g : Nat) (A : Option Addr) (l c p : Nat) (e : Ending) (w' : World) : Prop :=
  ∃ v' vs' xss' p', e = .returned v' ∧ Small xss' ∧ TO w0 wb g A l c p' v' vs' xss' w' ∧ p' ≤ p + 2

end Go.Proofs.Ytcjanlbhgfadpaa

/- Some table. -/
namespace Go.Proofs.Ytcjanlbhgfadpaa
open Go.RowKit

theorem grown_trans {g : Nat} {a b w : World} (h : a.grownBy b (some g)) (k : b.grownBy w (some g)) : a.grownBy w (some g) :=
  ⟨k.os.trans h.os, k.tape.trans h.tape, k.output.trans h.output, Nat.le_trans h.size k.size, fun i hi hne => (k.block i (Nat.lt_of_lt_of_le hi h.size) hne).trans (h.block i hi hne)⟩
theorem grown_of_below {g : Nat} {w w' : World} (k : Below w.heap.size w w') : w.grownBy w' (some g) := ⟨k.os, k.tape, k.output, k.size, fun i hi _ => k.block i hi⟩

/-- A number of a list that is written out. -/
def OneLit (w0 : World) (g : Nat) (A : Option Addr) (l c p : Nat) (xs : List Int) (w : World) (e : Ending) (w' : World) : Prop :=
  ∃ x, e = .returned (.int .i64 x) ∧ x ∈ xs ∧ Rdr w0 w' g A l c (p + 1) ∧ w.grownBy w' (some g)
theorem one_lit (w0 w W : World) (g : Nat) (A : Option Addr) (l c p b n : Nat) (xs : List Int) (h : Rdr w0 w g A l c p) (hp : p < 1000000000) (k : Below w.heap.size w W)
    (hb : w.heap.size ≤ b) (hi : Ints W (some ⟨b, 0, none⟩) n n xs) (h0 : 0 < n) :
    Calls Try.prog 48 #[.pointer (some ⟨g, 0, none⟩), .slice (some ⟨b, 0, none⟩) n n] W (OneLit w0 g A l c p xs w) := by
  have hg := blk_lt h.box
  refine (one_any w0 W g A l c p _ n n xs (h.below_ k) hp hi h0 (fun b' o' e' => by injection e' with e'; injection e' with e' _ _; omega)).mono ?_
  rintro e w4 ⟨x, rfl, hx, hr, ho⟩
  exact ⟨x, rfl, hx, hr, grown_trans (grown_of_below k) ho.grown⟩

/-- A table that the reader drew: its memory is from w on. -/
def SomeT (w0 : World) (g : Nat) (A : Option Addr) (l c p : Nat) (w : World) (e : Ending) (w' : World) : Prop :=
  ∃ wb v' vs' xss' p', e = .returned v' ∧ Small xss' ∧ TO w0 wb g A l c p' v' vs' xss' w' ∧ p' ≤ p + 30 ∧ w.grownBy wb (some g)

end Go.Proofs.Ytcjanlbhgfadpaa

/- Tables drawn from bytes. -/
namespace Go.Proofs.Ytcjanlbhgfadpaa
open Go.RowKit

/-- A table of small numbers, in memory of its own. -/
def DrawnT (w : World) (e : Ending) (w' : World) : Prop :=
  ∃ Av n c gg xss, e = .returned (.slice Av n c) ∧ Small xss ∧ OwnR w.heap.size w'.heap.size w' gg Av n c xss ∧ Below w.heap.size w w'

end Go.Proofs.Ytcjanlbhgfadpaa

/- Tables made of tables. -/
namespace Go.Proofs.Ytcjanlbhgfadpaa
open Go.RowKit

/-- A table under way. -/
structure TM (wb : World) (v : Value) (vs : List Value) (xss : List (List Int)) (w : World) : Prop where
  bo : Bld wb.heap.size w.heap.size w v vs xss
  up : Below wb.heap.size wb w
/-- .. and the row that is begun. -/
structure TN (wb : World) (H : Nat) (v : Value) (vs : List Value) (xss : List (List Int)) (u : Value) (ys : List Int) (w : World) : Prop where
  bo : Bld wb.heap.size H w v vs xss
  bi : BldI H w.heap.size w u ys
  lh : wb.heap.size ≤ H
  hs : H ≤ w.heap.size
  up : Below wb.heap.size wb w
theorem TM.start (wb : World) : TM wb (.slice (some ⟨wb.heap.size, 0, none⟩) 0 0) [] [] (wb.alloc (.cells #[] 23)) :=
  ⟨by rw [World.size_alloc]; exact Bld.make (Nat.le_refl _), below_alloc _ _⟩
theorem TM.row {wb v vs xss w} (h : TM wb v vs xss w) : TN wb w.heap.size v vs xss (.slice (some ⟨w.heap.size, 0, none⟩) 0 0) [] (w.alloc (.cells #[] 3)) :=
  ⟨h.bo.below (below_alloc _ _), by rw [World.size_alloc]; exact BldI.make (Nat.le_refl _), h.up.size, by simp, below_up h.up (below_alloc _ _)⟩
theorem TN.push {wb H v vs xss u u' ys w w' x} (h : TN wb H v vs xss u ys w)
    (hown : w'.ownsRow H 3 1 u' (ys.length + 1) (ys.map iv ++ [iv x])) (hgrow : (w.alloc (.cells #[iv x] 3)).grownBy w' u.ownBlock)
    (hat : u'.ownBlock = u.ownBlock ∨ u'.ownBlock = some (w.heap.size + 1)) : TN wb H v vs xss u' (ys ++ [x]) w' := by
  have hlh := h.lh
  have hhs := h.hs
  have hsz := hgrow.size
  simp only [World.size_alloc] at hsz
  have hu : ∀ k, u.ownBlock = some k → H ≤ k := fun k hk => (h.bi.own.lt k hk).1
  have hbelow : ∀ k, k < H → w'.heap[k]? = w.heap[k]? := fun k hk =>
    (hgrow.block k (by simp; omega) (fun e => by have := hu k e.symm; omega)).trans (Below.heap_alloc _ _ _ (by omega))
  refine ⟨h.bo.of_blocks fun k _ hk _ => hbelow k hk, ⟨by rw [List.length_append, List.length_singleton, List.map_append]; exact hown, fun k hk => ?_⟩, h.lh, by omega, ?_⟩
  · rcases hat with hat | hat
    · have := h.bi.hi_ k (by rw [← hat]; exact hk); omega
    · have := (hown.lt k hk).2; omega
  · exact ⟨hgrow.os.trans h.up.os, hgrow.tape.trans h.up.tape, hgrow.output.trans h.up.output, by have := h.up.size; omega, fun k hk => (hbelow k (by omega)).trans (h.up.block k hk)⟩
theorem TN.done {wb H v v' vs xss ys w w' Ar cr gr_} (h : TN wb H v vs xss (.slice Ar ys.length cr) ys w) (ho : OwnI H w.heap.size w gr_ Ar ys.length cr ys)
    (hown : w'.ownsRow wb.heap.size 23 1 v' (xss.length + 1) (vs ++ [.slice Ar ys.length cr])) (hgrow : (w.alloc (.cells #[.slice Ar ys.length cr] 23)).grownBy w' v.ownBlock)
    (hat : v'.ownBlock = v.ownBlock ∨ v'.ownBlock = some (w.heap.size + 1)) : TM wb v' (vs ++ [.slice Ar ys.length cr]) (xss ++ [ys]) w' := by
  have hlh := h.lh
  have hhs := h.hs
  have hsz := hgrow.size
  simp only [World.size_alloc] at hsz
  have hv : ∀ k, v.ownBlock = some k → wb.heap.size ≤ k := fun k hk => (h.bo.own.lt k hk).1
  have hbelow : ∀ k, k < wb.heap.size → w'.heap[k]? = w.heap[k]? := fun k hk =>
    (hgrow.block k (by simp; omega) (fun e => by have := hv k e.symm; omega)).trans (Below.heap_alloc _ _ _ (by omega))
  have hb := below_alloc w (.cells #[.slice Ar ys.length cr] 23)
  refine ⟨?_, ?_⟩
  · have hbo : Bld wb.heap.size H w v vs xss := h.bo
    exact Bld.push (hi := H) (w := w) hbo hb ((ho.below hb).mono (Nat.le_refl _) (by simp)) hown hgrow (by simpa using hat) hlh hhs
  · exact ⟨hgrow.os.trans h.up.os, hgrow.tape.trans h.up.tape, hgrow.output.trans h.up.output, by have := h.up.size; omega, fun k hk => (hbelow k hk).trans (h.up.block k hk)⟩

/-- A new table. -/
def NewT (w : World) (yss : List (List Int)) (e : Ending) (w' : World) : Prop :=
  ∃ Av n c gg, e = .returned (.slice Av n c) ∧ n = yss.length ∧ OwnR w.heap.size w'.heap.size w' gg Av n c yss ∧ Below w.heap.size w w'

def mrow (r : List Int) (j : Nat) : List Int := (List.range j).map fun k => - gi r k
def mtab (xss : List (List Int)) (i : Nat) : List (List Int) := (List.range i).map fun k => mrow (gr xss k) (gr xss k).length
theorem mrow_succ (r : List Int) (j : Nat) : mrow r (j + 1) = mrow r j ++ [- gi r j] := by simp [mrow, List.range_succ]
theorem mtab_succ (xss : List (List Int)) (i : Nat) : mtab xss (i + 1) = mtab xss i ++ [mrow (gr xss i) (gr xss i).length] := by simp [mtab, List.range_succ]
theorem mrow_len (r : List Int) (j : Nat) : (mrow r j).length = j := by simp [mrow]
theorem mtab_len (xss : List (List Int)) (j : Nat) : (mtab xss j).length = j := by simp [mtab]
theorem Small.gi {xss : List (List Int)} (h : Small xss) {k j : Nat} (hk : k < xss.length) (hj : j < (gr xss k).length) : -1000 ≤ gi (gr xss k) j ∧ gi (gr xss k) j ≤ 1000 :=
  (h.rows _ (gr_mem hk)).2 _ (gi_mem hj)
theorem Small.mrow_bd {xss : List (List Int)} (h : Small xss) {k j : Nat} (hk : k < xss.length) (hj : j ≤ (gr xss k).length) : ∀ x ∈ mrow (gr xss k) j, -1000 ≤ x ∧ x ≤ 1000 := fun x hx => by
  obtain ⟨i, hi, rfl⟩ := List.mem_map.1 hx
  have := h.gi hk (show i < _ by have := List.mem_range.1 hi; omega)
  omega
theorem Small.mtab {xss : List (List Int)} (h : Small xss) : Small (mtab xss xss.length) :=
  ⟨by rw [mtab_len]; exact h.n, fun r hr => by
    obtain ⟨i, hi, rfl⟩ := List.mem_map.1 hr
    have hi := List.mem_range.1 hi
    exact ⟨by rw [mrow_len]; exact (h.rows _ (gr_mem hi)).1, h.mrow_bd hi (Nat.le_refl _)⟩⟩

end Go.Proofs.Ytcjanlbhgfadpaa

/- Tables turned, by the laws. -/
namespace Go.Proofs.Ytcjanlbhgfadpaa
open Go.RowKit

def fcol (xss : List (List Int)) (j i : Nat) : List Int := (List.range i).map fun k => g2 xss k j
theorem fcol_succ (xss : List (List Int)) (j i : Nat) : fcol xss j (i + 1) = fcol xss j i ++ [g2 xss i j] := by simp [fcol, List.range_succ]
theorem flip_succ (xss : List (List Int)) (n j : Nat) : flip xss n (j + 1) = flip xss n j ++ [fcol xss j n] := by simp [flip, fcol, List.range_succ]
theorem fcol_len (xss : List (List Int)) (j i : Nat) : (fcol xss j i).length = i := by simp [fcol]
theorem flip_len (xss : List (List Int)) (n j : Nat) : (flip xss n j).length = j := by simp [flip]
/-- Rows of m numbers. -/
def Even (xss : List (List Int)) (m : Nat) : Prop := ∀ k, k < xss.length → (gr xss k).length = m
theorem Small.fcol_bd {xss : List (List Int)} (h : Small xss) {m : Nat} (he : Even xss m) {i j : Nat} (hi : i ≤ xss.length) (hj : j < m) : ∀ x ∈ fcol xss j i, -1000 ≤ x ∧ x ≤ 1000 := fun x hx => by
  obtain ⟨k, hk, rfl⟩ := List.mem_map.1 hx
  have hk := List.mem_range.1 hk
  exact h.gi (show k < _ by omega) (by rw [he k (by omega)]; exact hj)
theorem Small.m {xss : List (List Int)} (h : Small xss) {m : Nat} (he : Even xss m) (h0 : 0 < xss.length) : m ≤ 8 := by
  rw [← he 0 h0]; exact (h.rows _ (gr_mem h0)).1
theorem Small.flip {xss : List (List Int)} (h : Small xss) {m : Nat} (he : Even xss m) (h0 : 0 < xss.length) : Small (flip xss xss.length m) :=
  ⟨by rw [flip_len]; exact h.m he h0, fun r hr => by
    obtain ⟨j, hj, rfl⟩ := List.mem_map.1 hr
    have hj := List.mem_range.1 hj
    exact ⟨by simp; exact h.n, h.fcol_bd he (Nat.le_refl _) hj⟩⟩

theorem VT.even {a : List (List Int)} (v : VT a) : Even a (gr a 0).length := fun k hk => (v.rows k hk).1
theorem VT.flip {a : List (List Int)} (v : VT a) : VT (flip a a.length (gr a 0).length) := by
  have h0 := v.m1
  refine VT_of (by rw [flip_len]; exact v.m1) (by rw [flip_len]; exact v.m3) fun i hi => ?_
  rw [flip_len] at hi
  rw [gr_flip hi, gr_flip h0]
  refine ⟨by simp, by simp; exact v.n1, by simp; exact v.n3, fun j hj => ?_⟩
  simp at hj
  rw [gi_col hj]
  exact v.bd hj hi
theorem VT.minus {a : List (List Int)} (v : VT a) : VT (mtab a a.length) := by
  have hg : ∀ i, i < a.length → gr (mtab a a.length) i = mrow (gr a i) (gr a i).length := fun i hi => by
    rw [gr_get (by rw [mtab_len]; exact hi)]; simp [mtab]
  have h0 : 0 < a.length := v.n1
  refine VT_of (by rw [mtab_len]; exact v.n1) (by rw [mtab_len]; exact v.n3) fun i hi => ?_
  rw [mtab_len] at hi
  have hr := v.rows i hi
  rw [hg i hi, hg 0 h0, RowV, mrow_len, mrow_len]
  refine ⟨hr.1, by rw [hr.1]; exact v.m1, by rw [hr.1]; exact v.m3, fun j hj => ?_⟩
  have := hr.2 j hj
  rw [gi_get (by rw [mrow_len]; exact hj)]
  simp only [mrow, List.getElem_map, List.getElem_range]
  unfold InR at *
  omega

end Go.Proofs.Ytcjanlbhgfadpaa

/- A table turned, by the model. -/
namespace Go.Proofs.Ytcjanlbhgfadpaa
open Go.RowKit

end Go.Proofs.Ytcjanlbhgfadpaa

/- Fractions in lowest terms; the least mean, as the fraction of a least sum. -/
namespace Go.Proofs.Ytcjanlbhgfadpaa

theorem fr_unique {a b c f : Int} (hb : 0 < b) (hf : 0 < f) (h : a * f = c * b) (g1 : Int.gcd a b = 1) (g2 : Int.gcd c f = 1) : a = c ∧ b = f := by
  have hN : a.natAbs * f.natAbs = c.natAbs * b.natAbs := by rw [← Int.natAbs_mul, ← Int.natAbs_mul, h]
  have c1 : Nat.Coprime b.natAbs a.natAbs := by unfold Nat.Coprime; rw [Nat.gcd_comm]; exact g1
  have c2 : Nat.Coprime f.natAbs c.natAbs := by unfold Nat.Coprime; rw [Nat.gcd_comm]; exact g2
  have d1 : b.natAbs ∣ f.natAbs := c1.dvd_of_dvd_mul_left (by rw [hN]; exact Nat.dvd_mul_left _ _)
  have d2 : f.natAbs ∣ b.natAbs := c2.dvd_of_dvd_mul_left (by rw [← hN]; exact Nat.dvd_mul_left _ _)
  have e := Nat.dvd_antisymm d1 d2
  have hbf : b = f := by omega
  subst hbf
  exact ⟨Int.eq_of_mul_eq_mul_right (by omega) h, rfl⟩
theorem fr_coprime (u d : Int) (hd : 0 < d) : Int.gcd (frU u d) (frD u d) = 1 := by
  have hg := gcdI_pos (a := u) (b := d) (by omega)
  have h := Int.gcd_mul_right (frU u d) (gcdI u d) (frD u d)
  rw [frU_mul, frD_mul] at h
  have e : (gcdI u d).natAbs = Int.gcd u d := by unfold gcdI; simp
  rw [e] at h
  have hp : 0 < Int.gcd u d := by unfold gcdI at hg; omega
  exact Nat.eq_of_mul_eq_mul_right hp (by omega)
theorem frD_pos {u d : Int} (hd : 0 < d) : 0 < frD u d := by
  have hg := gcdI_pos (a := u) (b := d) (by omega)
  have h := frD_mul u d
  apply Classical.byContradiction
  intro hn
  have h1 : 0 ≤ (- frD u d) * gcdI u d := Int.mul_nonneg (by omega) (by omega)
  rw [Int.neg_mul, h] at h1
  omega
/-- Fractions that are the same number are the same. -/
theorem fr_eq {u d v e : Int} (hd : 0 < d) (he : 0 < e) (h : u * e = v * d) : frU u d = frU v e ∧ frD u d = frD v e := by
  refine fr_unique (frD_pos hd) (frD_pos he) ?_ (fr_coprime u d hd) (fr_coprime v e he)
  have g1 := gcdI_pos (a := u) (b := d) (by omega)
  have g2 := gcdI_pos (a := v) (b := e) (by omega)
  have k1 := frU_mul u d
  have k2 := frD_mul u d
  have k3 := frU_mul v e
  have k4 := frD_mul v e
  generalize frU u d = a at *
  generalize frD u d = b at *
  generalize frU v e = c at *
  generalize frD v e = f at *
  generalize gcdI u d = g at *
  generalize gcdI v e = k at *
  have : (a * f) * (g * k) = (c * b) * (g * k) := by grind
  exact Int.eq_of_mul_eq_mul_right (by have := Int.mul_pos (a := g) (b := k) (by omega) (by omega); omega) this
/-- .. and the other way round. -/
theorem fr_ratio (u d : Int) : frU u d * d = u * frD u d := by
  have k1 := frU_mul u d
  have k2 := frD_mul u d
  generalize frU u d = a at *
  generalize frD u d = b at *
  generalize gcdI u d = g at *
  grind
theorem fr_lt {u d v e : Int} (hd : 0 < d) (he : 0 < e) : frU u d * frD v e < frU v e * frD u d ↔ u * e < v * d := by
  have g1 := gcdI_pos (a := u) (b := d) (by omega)
  have g2 := gcdI_pos (a := v) (b := e) (by omega)
  have k1 := frU_mul u d
  have k2 := frD_mul u d
  have k3 := frU_mul v e
  have k4 := frD_mul v e
  generalize frU u d = a at *
  generalize frD u d = b at *
  generalize frU v e = c at *
  generalize frD v e = f at *
  generalize gcdI u d = g at *
  generalize gcdI v e = k at *
  have hp : 0 < g * k := Int.mul_pos (by omega) (by omega)
  have e1 : u * e = (a * f) * (g * k) := by grind
  have e2 : v * d = (c * b) * (g * k) := by grind
  rw [e1, e2]
  exact ⟨fun h => Int.mul_lt_mul_of_pos_right h hp, fun h => Int.lt_of_mul_lt_mul_right h (by omega)⟩

/-- The sum of a column with the shares of the rows. -/
def dotc (a : List (List Int)) (x : List Int) (j : Nat) : Nat → Int
  | 0 => 0
  | i + 1 => dotc a x j i + gi x i * g2 a i j
theorem payR_onl (a : List (List Int)) (x : List Int) (m j i : Nat) : ∀ {k : Nat}, k ≤ m → payR a x (onl m j) i k = if j < k then gi x i * g2 a i j else 0
  | 0, _ => by simp [payR]
  | k + 1, h => by
    rw [payR, payR_onl a x m j i (by omega), gi_onl (by omega)]
    by_cases e : k = j
    · subst e; rw [if_neg (by omega), if_pos rfl, if_pos (by omega)]; simp
    · rw [if_neg e]
      by_cases h2 : j < k
      · rw [if_pos h2, if_pos (by omega)]; simp
      · rw [if_neg h2, if_neg (by omega)]; simp
theorem colU_dotc (a : List (List Int)) (x : List Int) (n m j : Nat) (h : j < m) : colU a x n m j = dotc a x j n := by
  unfold colU
  have : ∀ i, payU a x (onl m j) m i = dotc a x j i := fun i => by
    induction i with
    | zero => rfl
    | succ i ih => rw [payU, dotc, ih, payR_onl a x m j i (Nat.le_refl m), if_pos h]
  exact this n
/-- The least mean is the fraction of the least sum. -/
theorem wst_least (a : List (List Int)) (x : List Int) (n m : Nat) (tx : 0 < tot x) : ∀ k, ∃ j, j ≤ k ∧ wst a x n m k = (frU (colU a x n m j) (tot x), frD (colU a x n m j) (tot x)) ∧ ∀ i, i ≤ k → colU a x n m j ≤ colU a x n m i
  | 0 => ⟨0, Nat.le_refl _, rfl, fun i hi => by obtain rfl : i = 0 := by omega
                                                exact Int.le_refl _⟩
  | k + 1 => by
    obtain ⟨j, hj, e, hm⟩ := wst_least a x n m tx k
    simp only [wst]
    rw [e]
    by_cases h : frU (colU a x n m (k + 1)) (tot x) * frD (colU a x n m j) (tot x) < frU (colU a x n m j) (tot x) * frD (colU a x n m (k + 1)) (tot x)
    · rw [if_pos h]
      have h2 := (fr_lt tx tx).1 h
      have h3 : colU a x n m (k + 1) < colU a x n m j := Int.lt_of_mul_lt_mul_right h2 (by omega)
      refine ⟨k + 1, Nat.le_refl _, rfl, fun i hi => ?_⟩
      by_cases e : i = k + 1
      · subst e; exact Int.le_refl _
      · have := hm i (by omega); omega
    · rw [if_neg h]
      have h3 : ¬ colU a x n m (k + 1) < colU a x n m j := fun hlt => h ((fr_lt tx tx).2 (Int.mul_lt_mul_of_pos_right hlt tx))
      refine ⟨j, by omega, rfl, fun i hi => ?_⟩
      by_cases e : i = k + 1
      · subst e; omega
      · exact hm i (by omega)
end Go.Proofs.Ytcjanlbhgfadpaa

/- Shares that make the same sure from both sides. -/
namespace Go.Proofs.Ytcjanlbhgfadpaa

theorem gcdI_neg (u d : Int) : gcdI (-u) d = gcdI u d := by unfold gcdI; rw [Int.neg_gcd]
theorem frU_neg (u d : Int) : frU (-u) d = - frU u d := by unfold frU; rw [gcdI_neg, Int.neg_tdiv]
theorem frD_neg (u d : Int) : frD (-u) d = frD u d := by unfold frD; rw [gcdI_neg]

/-- The least sum of columns, where it is known with a factor. -/
theorem wst_is (a : List (List Int)) (x : List Int) (n m : Nat) (hm : 1 ≤ m) (tx : 0 < tot x) (G V : Int) (hG : 0 < G) (ha : ∀ j, j < m → V ≤ dotc a x j n * G) (h0 : ∃ j, j < m ∧ dotc a x j n * G = V) :
    ∃ L, L * G = V ∧ wst a x n m (m - 1) = (frU L (tot x), frD L (tot x)) := by
  obtain ⟨j, hj, e, hl⟩ := wst_least a x n m tx (m - 1)
  refine ⟨colU a x n m j, ?_, e⟩
  have h1 := ha j (by omega)
  rw [colU_dotc a x n m j (by omega)]
  obtain ⟨i, hi, h2⟩ := h0
  have h3 := hl i (by omega)
  rw [colU_dotc a x n m j (by omega), colU_dotc a x n m i hi] at h3
  have h4 := Int.mul_le_mul_of_nonneg_right h3 (Int.le_of_lt hG)
  omega

theorem best_of (a b : List (List Int)) (x y : List Int) (n m : Nat) (hn : 1 ≤ n) (hm : 1 ≤ m) (tx : 0 < tot x) (ty : 0 < tot y) (S V G H : Int) (hG : 0 < G) (hH : 0 < H) (hx : tot x * G = S) (hy : tot y * H = S)
    (ha : ∀ j, j < m → V ≤ dotc a x j n * G) (ha0 : ∃ j, j < m ∧ dotc a x j n * G = V) (hb : ∀ i, i < n → -V ≤ dotc b y i m * H) (hb0 : ∃ i, i < n ∧ dotc b y i m * H = -V) :
    wst a x n m (m - 1) = (- (wst b y m n (n - 1)).1, (wst b y m n (n - 1)).2) := by
  obtain ⟨L, h1, e1⟩ := wst_is a x n m hm tx G V hG ha ha0
  obtain ⟨L', h2, e2⟩ := wst_is b y m n hn ty H (-V) hH hb hb0
  rw [e1, e2]
  have h : L * tot y = (-L') * tot x := by
    have : (L * tot y) * (G * H) = ((-L') * tot x) * (G * H) := by grind
    exact Int.eq_of_mul_eq_mul_right (by have := Int.mul_pos hG hH; omega) this
  have := fr_eq tx ty h
  rw [frU_neg, frD_neg] at this
  exact Prod.ext this.1 this.2
/-- No shares make more sure than others let through: the value is one. -/
theorem dotc_mix (a : List (List Int)) (x : List Int) (n : Nat) (hx : ∀ i, i < n → 0 ≤ gi x i) (j : Nat) (B : Int) (h : ∀ i, i < n → g2 a i j ≤ B) : ∀ {k : Nat}, k ≤ n → dotc a x j k ≤ B * sm x k
  | 0, _ => by simp [dotc, sm]
  | k + 1, hk => by
    have h1 := dotc_mix a x n hx j B h (k := k) (by omega)
    have h2 := Int.mul_le_mul_of_nonneg_left (h k (by omega)) (hx k (by omega))
    simp only [dotc, sm]
    rw [Int.mul_add, Int.mul_comm B (gi x k)]
    omega
end Go.Proofs.Ytcjanlbhgfadpaa

/- Some part of every table tells best shares: the best dictionary of a programme, by simplex steps in the order of words, and what its basis says. Plain. -/
namespace Go.Proofs.Ytcjanlbhgfadpaa.V
def lp (a b c d : Rat) : Prop := 0 < a ∨ (a = 0 ∧ (0 < b ∨ (b = 0 ∧ (0 < c ∨ (c = 0 ∧ 0 < d)))))
/-- A row with its sum is greater than 0, in the order of words. -/
def LP (r : Nat → Rat) : Prop := lp (r 0 + r 1 + r 2) (r 0) (r 1) (r 2)
theorem LP.add {r s : Nat → Rat} (h : LP r) (k : LP s) : LP (fun i => r i + s i) := by
  unfold LP lp at *; grind
theorem LP.congr {r s : Nat → Rat} (h : LP r) (e : ∀ i, i < 3 → s i = r i) : LP s := by
  unfold LP at *; rw [e 0 (by omega), e 1 (by omega), e 2 (by omega)]; exact h
theorem mulpos {t x : Rat} (ht : 0 < t) (hx : 0 < x) : 0 < t * x := Rat.mul_pos ht hx
theorem LP.smul {r : Nat → Rat} {t : Rat} (h : LP r) (ht : 0 < t) : LP (fun i => t * r i) := by
  unfold LP lp at *
  have p := fun {x : Rat} (hx : 0 < x) => mulpos ht hx
  grind
theorem LP.irr {r : Nat → Rat} (h : LP r) (e : ∀ i, i < 3 → r i = 0) : False := by
  unfold LP lp at h
  rw [e 0 (by omega), e 1 (by omega), e 2 (by omega)] at h
  grind
theorem LP.tri (r : Nat → Rat) : LP r ∨ (∀ i, i < 3 → r i = 0) ∨ LP (fun i => - r i) := by
  by_cases e : r 0 = 0 ∧ r 1 = 0 ∧ r 2 = 0
  · refine .inr (.inl fun i hi => ?_)
    have : i = 0 ∨ i = 1 ∨ i = 2 := by omega
    rcases this with rfl | rfl | rfl
    · exact e.1
    · exact e.2.1
    · exact e.2.2
  · unfold LP lp; grind
theorem exists_min {α : Type} (lt : α → α → Prop) (irr : ∀ a, ¬ lt a a) (tr : ∀ a b c, lt a b → lt b c → lt a c) : ∀ l : List α, l ≠ [] → ∃ a, a ∈ l ∧ ∀ b, b ∈ l → ¬ lt b a
  | [], h => absurd rfl h
  | [a], _ => ⟨a, by simp, fun b hb => by simp at hb; subst hb; exact irr _⟩
  | a :: b :: l, _ => by
    obtain ⟨m, hm, h⟩ := exists_min lt irr tr (b :: l) (by simp)
    by_cases e : lt a m
    · refine ⟨a, by simp, fun x hx hxa => ?_⟩
      rcases List.mem_cons.1 hx with rfl | hx
      · exact irr _ hxa
      · exact h x hx (tr _ _ _ hxa e)
    · refine ⟨m, by simp at hm ⊢; exact .inr hm, fun x hx => ?_⟩
      rcases List.mem_cons.1 hx with rfl | hx
      · exact e
      · exact h x hx

def dot (f g : Nat → Rat) : Rat := f 0 * g 0 + f 1 * g 1 + f 2 * g 2
def col (M : Nat → Nat → Rat) (v i : Nat) : Rat := if v < 3 then M i v else if v = i + 3 then 1 else 0
def cst (c : Nat → Rat) (v : Nat) : Rat := if v < 3 then c v else 0
structure Dict (M : Nat → Nat → Rat) (b : Nat → Nat) (P : Nat → Nat → Rat) : Prop where
  pb : ∀ k l, k < 3 → l < 3 → dot (P k) (col M (b l)) = if k = l then 1 else 0
  bp : ∀ i j, i < 3 → j < 3 → col M (b 0) i * P 0 j + col M (b 1) i * P 1 j + col M (b 2) i * P 2 j = if i = j then 1 else 0
  lex : ∀ k, k < 3 → LP (P k)
  bv : ∀ k, k < 3 → b k < 6
/-- The prices. -/
def prc (c : Nat → Rat) (b : Nat → Nat) (P : Nat → Nat → Rat) (i : Nat) : Rat := cst c (b 0) * P 0 i + cst c (b 1) * P 1 i + cst c (b 2) * P 2 i
structure Prob (M : Nat → Nat → Rat) (c : Nat → Rat) : Prop where
  nn : ∀ i j, i < 3 → j < 3 → 0 ≤ M i j
  pos : ∀ j, j < 3 → (∃ i, i < 3 ∧ 0 < M i j) ∨ (c j = 0 ∧ ∀ i, i < 3 → M i j = 0)
theorem lt3 {i : Nat} (h : i < 3) : i = 0 ∨ i = 1 ∨ i = 2 := by omega

theorem Prob.col_nn {M c} (h : Prob M c) {v i : Nat} (hi : i < 3) : 0 ≤ col M v i := by
  unfold col
  split
  · exact h.nn i v hi (by omega)
  · split <;> grind
theorem mulnn {x y : Rat} (hx : 0 ≤ x) (hy : 0 ≤ y) : 0 ≤ x * y := Rat.mul_nonneg hx hy

theorem some_up {M c b P} (h : Prob M c) (D : Dict M b P) {q : Nat} (hq : q < 6) (hr : dot (prc c b P) (col M q) < cst c q) : ∃ k, k < 3 ∧ 0 < dot (P k) (col M q) := by
  apply Classical.byContradiction
  intro hno
  have hd : ∀ k, k < 3 → dot (P k) (col M q) ≤ 0 := fun k hk => by
    apply Classical.byContradiction
    intro hlt
    exact hno ⟨k, hk, by grind⟩
  have hpos : ∃ i, i < 3 ∧ 0 < col M q i := by
    by_cases h3 : q < 3
    · rcases h.pos q h3 with ⟨i, hi, hp⟩ | ⟨hc, hz⟩
      · exact ⟨i, hi, by unfold col; rw [if_pos h3]; exact hp⟩
      · exfalso
        have z0 : col M q 0 = 0 := by unfold col; rw [if_pos h3]; exact hz 0 (by omega)
        have z1 : col M q 1 = 0 := by unfold col; rw [if_pos h3]; exact hz 1 (by omega)
        have z2 : col M q 2 = 0 := by unfold col; rw [if_pos h3]; exact hz 2 (by omega)
        unfold dot at hr
        rw [z0, z1, z2] at hr
        unfold cst at hr
        rw [if_pos h3, hc] at hr
        grind
    · refine ⟨q - 3, by omega, ?_⟩
      unfold col
      rw [if_neg h3, if_pos (by omega)]
      grind
  obtain ⟨i, hi, hp⟩ := hpos
  have e0 := D.bp i 0 hi (by omega)
  have e1 := D.bp i 1 hi (by omega)
  have e2 := D.bp i 2 hi (by omega)
  have hsum : col M (b 0) i * dot (P 0) (col M q) + col M (b 1) i * dot (P 1) (col M q) + col M (b 2) i * dot (P 2) (col M q) = col M q i := by
    unfold dot
    rcases lt3 hi with rfl | rfl | rfl <;> simp at e0 e1 e2 <;> grind
  have n0 := mulnn (h.col_nn (v := b 0) hi) (show 0 ≤ - dot (P 0) (col M q) by have := hd 0 (by omega); grind)
  have n1 := mulnn (h.col_nn (v := b 1) hi) (show 0 ≤ - dot (P 1) (col M q) by have := hd 1 (by omega); grind)
  have n2 := mulnn (h.col_nn (v := b 2) hi) (show 0 ≤ - dot (P 2) (col M q) by have := hd 2 (by omega); grind)
  grind

/-- The row that leaves. -/
theorem some_row {M b P} (D : Dict M b P) {q : Nat} (hk : ∃ k, k < 3 ∧ 0 < dot (P k) (col M q)) :
    ∃ r, r < 3 ∧ 0 < dot (P r) (col M q) ∧ ∀ k, k < 3 → k ≠ r → 0 < dot (P k) (col M q) → LP (fun i => P k i * dot (P r) (col M q) - P r i * dot (P k) (col M q)) := by
  let d := fun k => dot (P k) (col M q)
  let lt := fun (k l : Nat) => 0 < d k ∧ 0 < d l ∧ LP (fun i => P l i * d k - P k i * d l)
  have irr : ∀ k, ¬ lt k k := fun k ⟨_, _, h⟩ => h.irr fun i _ => by grind
  have tr : ∀ k l m, lt k l → lt l m → lt k m := fun k l m ⟨h1, h2, h3⟩ ⟨_, h5, h6⟩ => by
    refine ⟨h1, h5, ?_⟩
    have := ((h6.smul h1).add (h3.smul h5))
    have hx : LP (fun i => d l * (P m i * d k - P k i * d m)) := this.congr fun i _ => by grind
    refine (hx.smul (t := (d l)⁻¹) (by rw [Rat.inv_pos]; exact h2)).congr fun i _ => ?_
    grind
  obtain ⟨r, hr, hmin⟩ := exists_min lt irr tr ([0, 1, 2].filter fun k => decide (0 < d k)) (by
    obtain ⟨k, hk3, hk⟩ := hk
    intro e
    have := List.filter_eq_nil_iff.1 e k (by simp; omega)
    simp at this
    exact absurd hk (by grind))
  simp only [List.mem_filter, decide_eq_true_eq] at hr hmin
  refine ⟨r, by have := hr.1; simp at this; omega, hr.2, fun k hk3 hkr hkp => ?_⟩
  have hr3 : r < 3 := by have := hr.1; simp at this; omega
  rcases LP.tri (fun i => P k i * d r - P r i * d k) with h | h | h
  · exact h
  · exfalso
    have a := D.pb k k hk3 hk3
    have b' := D.pb r k hr3 hk3
    have h0 := h 0 (by omega)
    have h1 := h 1 (by omega)
    have h2 := h 2 (by omega)
    rw [if_pos rfl] at a
    rw [if_neg (Ne.symm hkr)] at b'
    unfold dot at a b'
    have : d r = 0 := by grind
    have hr2 : 0 < d r := hr.2
    rw [this] at hr2
    exact absurd hr2 (by grind)
  · exfalso
    refine hmin k ⟨by simp; omega, hkp⟩ ⟨hkp, hr.2, h.congr fun i _ => by grind⟩
def upd (b : Nat → Nat) (r q : Nat) : Nat → Nat := fun k => if k = r then q else b k
def piv (P : Nat → Nat → Rat) (d : Nat → Rat) (r : Nat) : Nat → Nat → Rat := fun k i => if k = r then P r i * (d r)⁻¹ else P k i - d k * (d r)⁻¹ * P r i

theorem pivot {M c b P} (D : Dict M b P) {q r : Nat} (hq : q < 6) (hr : r < 3) (hd : 0 < dot (P r) (col M q))
    (hmin : ∀ k, k < 3 → k ≠ r → 0 < dot (P k) (col M q) → LP (fun i => P k i * dot (P r) (col M q) - P r i * dot (P k) (col M q)))
    (hred : dot (prc c b P) (col M q) < cst c q) :
    ∃ P', Dict M (upd b r q) P' ∧ LP (fun i => prc c (upd b r q) P' i - prc c b P i) := by
  have he : (dot (P r) (col M q))⁻¹ * dot (P r) (col M q) = 1 := by grind
  have hep : 0 < (dot (P r) (col M q))⁻¹ := by rw [Rat.inv_pos]; exact hd
  refine ⟨piv P (fun k => dot (P k) (col M q)) r, ⟨?_, ?_, ?_, ?_⟩, ?_⟩
  · intro k l hk hl
    have h1 := D.pb k l hk hl
    have h2 := D.pb r l hr hl
    by_cases el : l = r
    · have hb : upd b r q l = q := by simp [upd, el]
      rw [hb]
      by_cases ek : k = r
      · rw [if_pos (by rw [ek, el])]
        subst ek
        simp only [piv, if_true, dot] at *
        grind
      · rw [if_neg (by rw [el]; exact ek)]
        simp only [piv, if_neg ek, dot] at *
        grind
    · have hb : upd b r q l = b l := by simp [upd, el]
      rw [hb]
      rw [if_neg (Ne.symm el)] at h2
      by_cases ek : k = r
      · rw [if_neg (by rw [ek]; exact Ne.symm el)]
        subst ek
        simp only [piv, if_true, dot] at *
        grind
      · rw [← h1]
        simp only [dot, piv, if_neg ek] at *
        grind
  · intro i j hi hj
    have h1 := D.bp i j hi hj
    rw [← h1]
    have e0 := D.bp i 0 hi (by omega)
    have e1 := D.bp i 1 hi (by omega)
    have e2 := D.bp i 2 hi (by omega)
    have hsum : col M (b 0) i * dot (P 0) (col M q) + col M (b 1) i * dot (P 1) (col M q) + col M (b 2) i * dot (P 2) (col M q) = col M q i := by
      unfold dot
      rcases lt3 hi with rfl | rfl | rfl <;> simp at e0 e1 e2 <;> grind
    clear h1 e0 e1 e2 hmin hred hep
    generalize hdd : (fun k => dot (P k) (col M q)) = d at *
    have hd0 : dot (P 0) (col M q) = d 0 := by rw [← hdd]
    have hd1 : dot (P 1) (col M q) = d 1 := by rw [← hdd]
    have hd2 : dot (P 2) (col M q) = d 2 := by rw [← hdd]
    have hdr : dot (P r) (col M q) = d r := by rw [← hdd]
    rw [hd0, hd1, hd2] at hsum
    rw [hdr] at he
    rcases lt3 hr with rfl | rfl | rfl <;> simp [piv, upd] <;> grind
  · intro k hk
    by_cases ek : k = r
    · refine ((D.lex r hr).smul hep).congr fun i _ => ?_
      simp only [piv, if_pos ek]
      grind
    · by_cases hp : 0 < dot (P k) (col M q)
      · refine ((hmin k hk ek hp).smul hep).congr fun i _ => ?_
        simp only [piv, if_neg ek]
        grind
      · by_cases hz : dot (P k) (col M q) = 0
        · refine (D.lex k hk).congr fun i _ => ?_
          simp only [piv, if_neg ek, hz]
          grind
        · have hneg : 0 < - dot (P k) (col M q) * (dot (P r) (col M q))⁻¹ := mulpos (by grind) hep
          refine ((D.lex k hk).add ((D.lex r hr).smul hneg)).congr fun i _ => ?_
          simp only [piv, if_neg ek]
          grind
  · intro k hk
    unfold upd
    split
    · exact hq
    · exact D.bv k hk
  · have hpos : 0 < (cst c q - dot (prc c b P) (col M q)) * (dot (P r) (col M q))⁻¹ := mulpos (by grind) hep
    refine ((D.lex r hr).smul hpos).congr fun i _ => ?_
    have hx : dot (prc c b P) (col M q) = cst c (b 0) * dot (P 0) (col M q) + cst c (b 1) * dot (P 1) (col M q) + cst c (b 2) * dot (P 2) (col M q) := by
      simp only [dot, prc]; grind
    rw [hx]
    clear hx hpos hmin hred hep
    generalize hdd : (fun k => dot (P k) (col M q)) = d at *
    have hd0 : dot (P 0) (col M q) = d 0 := by rw [← hdd]
    have hd1 : dot (P 1) (col M q) = d 1 := by rw [← hdd]
    have hd2 : dot (P 2) (col M q) = d 2 := by rw [← hdd]
    have hdr : dot (P r) (col M q) = d r := by rw [← hdd]
    rw [hd0, hd1, hd2, hdr]
    rw [hdr] at he
    rcases lt3 hr with rfl | rfl | rfl <;> simp [piv, upd, prc] <;> grind

theorem dict_start (M : Nat → Nat → Rat) : Dict M (fun k => k + 3) (fun k i => if k = i then 1 else 0) := by
  refine ⟨fun k l hk hl => ?_, fun i j hi hj => ?_, fun k hk => ?_, fun k hk => ?_⟩
  · rcases lt3 hk with rfl | rfl | rfl <;> rcases lt3 hl with rfl | rfl | rfl <;> simp [dot, col] <;> grind
  · rcases lt3 hi with rfl | rfl | rfl <;> rcases lt3 hj with rfl | rfl | rfl <;> simp [col] <;> grind
  · rcases lt3 hk with rfl | rfl | rfl <;> simp [LP, lp] <;> grind
  · show k + 3 < 6; omega

/-- The best dictionary. -/
theorem best {M c} (h : Prob M c) : ∃ b P, Dict M b P ∧ ∀ q, q < 6 → cst c q ≤ dot (prc c b P) (col M q) := by
  let all : List (Nat × Nat × Nat) := (List.range 6).flatMap fun x => (List.range 6).flatMap fun y => (List.range 6).map fun z => (x, y, z)
  let bo : Nat × Nat × Nat → Nat → Nat := fun t k => if k = 0 then t.1 else if k = 1 then t.2.1 else t.2.2
  have uniq : ∀ {b P P'}, Dict M b P → Dict M b P' → ∀ k i, k < 3 → i < 3 → P k i = P' k i := by
    intro b P P' D D' k i hk hi
    have a0 := D.pb k 0 hk (by omega)
    have a1 := D.pb k 1 hk (by omega)
    have a2 := D.pb k 2 hk (by omega)
    have c0 := D'.bp 0 i (by omega) hi
    have c1 := D'.bp 1 i (by omega) hi
    have c2 := D'.bp 2 i (by omega) hi
    unfold dot at a0 a1 a2
    have key : P k 0 * (if 0 = i then 1 else 0) + P k 1 * (if 1 = i then 1 else 0) + P k 2 * (if 2 = i then 1 else 0) = (if k = 0 then 1 else 0) * P' 0 i + (if k = 1 then 1 else 0) * P' 1 i + (if k = 2 then 1 else 0) * P' 2 i := by
      rw [← c0, ← c1, ← c2, ← a0, ← a1, ← a2]; grind
    rcases lt3 hk with rfl | rfl | rfl <;> rcases lt3 hi with rfl | rfl | rfl <;> simp at key <;> grind
  have prc_eq : ∀ {b P P'}, Dict M b P → Dict M b P' → ∀ i, i < 3 → prc c b P i = prc c b P' i := by
    intro b P P' D D' i hi
    unfold prc
    rw [uniq D D' 0 i (by omega) hi, uniq D D' 1 i (by omega) hi, uniq D D' 2 i (by omega) hi]
  have ext : ∀ {b b' P}, (∀ k, k < 3 → b k = b' k) → Dict M b P → Dict M b' P := by
    intro b b' P e D
    refine ⟨fun k l hk hl => by rw [← e l hl]; exact D.pb k l hk hl, fun i j hi hj => by rw [← e 0 (by omega), ← e 1 (by omega), ← e 2 (by omega)]; exact D.bp i j hi hj, D.lex, fun k hk => by rw [← e k hk]; exact D.bv k hk⟩
  have prc_ext : ∀ {b b' P}, (∀ k, k < 3 → b k = b' k) → ∀ i, prc c b P i = prc c b' P i := by
    intro b b' P e i
    unfold prc
    rw [e 0 (by omega), e 1 (by omega), e 2 (by omega)]
  let lt : Nat × Nat × Nat → Nat × Nat × Nat → Prop := fun s t => ∃ P Q, Dict M (bo s) P ∧ Dict M (bo t) Q ∧ LP (fun i => prc c (bo s) P i - prc c (bo t) Q i)
  have irr : ∀ s, ¬ lt s s := fun s ⟨P, Q, D, E, hl⟩ => hl.irr fun i hi => by rw [prc_eq D E i hi]; grind
  have tr : ∀ s t u, lt s t → lt t u → lt s u := fun s t u ⟨P, Q, D, E, hl⟩ ⟨P', Q', D', E', hl'⟩ =>
    ⟨P, Q', D, E', (hl.add hl').congr fun i hi => by rw [prc_eq E D' i hi]; grind⟩
  have mem : ∀ b : Nat → Nat, (∀ k, k < 3 → b k < 6) → (b 0, b 1, b 2) ∈ all := by
    intro b hb
    have h0 := hb 0 (by omega)
    have h1 := hb 1 (by omega)
    have h2 := hb 2 (by omega)
    simp only [all, List.mem_flatMap, List.mem_map, List.mem_range]
    exact ⟨b 0, h0, b 1, h1, b 2, h2, rfl⟩
  have bo_eq : ∀ b : Nat → Nat, ∀ k, k < 3 → bo (b 0, b 1, b 2) k = b k := by
    intro b k hk
    rcases lt3 hk with rfl | rfl | rfl <;> simp [bo]
  have step : ∃ t P, Dict M (bo t) P ∧ ∀ s, s ∈ all → ¬ lt s t := by
    have ⟨t, ht, hm⟩ := exists_min lt irr tr (all.filter fun t => @decide (∃ P, Dict M (bo t) P) (Classical.propDecidable _)) (by
      intro e
      have hs := mem (fun k => k + 3) (fun k hk => by show k + 3 < 6; omega)
      have := List.filter_eq_nil_iff.1 e _ hs
      refine this (@decide_eq_true _ (Classical.propDecidable _) ⟨_, ext (fun k hk => (bo_eq (fun k => k + 3) k hk).symm) (dict_start M)⟩))
    have ht2 := List.mem_filter.1 ht
    obtain ⟨P, D⟩ := @of_decide_eq_true _ (Classical.propDecidable _) ht2.2
    refine ⟨t, P, D, fun s hs hl => ?_⟩
    obtain ⟨P', Q', D', E', hl'⟩ := hl
    exact hm s (List.mem_filter.2 ⟨hs, @decide_eq_true _ (Classical.propDecidable _) ⟨P', D'⟩⟩) ⟨P', Q', D', E', hl'⟩
  obtain ⟨t, P, D, hmax⟩ := step
  refine ⟨bo t, P, D, fun q hq => ?_⟩
  apply Classical.byContradiction
  intro hno
  have hred : dot (prc c (bo t) P) (col M q) < cst c q := by grind
  obtain ⟨r, hr, hd, hmin⟩ := some_row D (some_up h D hq hred)
  obtain ⟨P', D', hl⟩ := pivot D hq hr hd hmin hred
  let b' := upd (bo t) r q
  have hb' := fun k hk => (bo_eq b' k hk).symm
  exact hmax _ (mem b' D'.bv) ⟨P', P, ext hb' D', D, hl.congr fun i _ => by rw [← prc_ext hb' i]⟩
/-- Sums, determinants and cofactors of squares that are functions. -/
def sumN (f : Nat → Int) : Nat → Int
  | 0 => 0
  | k + 1 => sumN f k + f k
def skip (i p : Nat) : Nat := if p < i then p else p + 1
def minorN (f : Nat → Nat → Int) (i j : Nat) : Nat → Nat → Int := fun p q => f (skip i p) (skip j q)
def sgn (i : Nat) : Int := if i % 2 = 1 then -1 else 1
def detN : Nat → (Nat → Nat → Int) → Int
  | 0, _ => 1
  | k + 1, f => sumN (fun j => sgn j * (f 0 j * detN k (minorN f 0 j))) (k + 1)
def cofN (k : Nat) (f : Nat → Nat → Int) (i j : Nat) : Int := sgn (i + j) * detN (k - 1) (minorN f i j)
def rowC (k : Nat) (f : Nat → Nat → Int) (i : Nat) : Int := sumN (fun j => cofN k f i j) k
def colC (k : Nat) (f : Nat → Nat → Int) (j : Nat) : Int := sumN (fun i => cofN k f i j) k

/-- The part with rows R and columns C tells best shares (of numbers M): its sums of cofactors have one sign, make the value sure and let no more through. -/
structure Kern (M : Nat → Nat → Int) (n m k : Nat) (r c : Nat → Nat) : Prop where
  det : detN k (fun p q => M (r p) (c q)) ≠ 0
  tot : sumN (rowC k fun p q => M (r p) (c q)) k ≠ 0
  eq : sumN (colC k fun p q => M (r p) (c q)) k = sumN (rowC k fun p q => M (r p) (c q)) k
  x : ∀ p, p < k → 0 ≤ sumN (rowC k fun p q => M (r p) (c q)) k * rowC k (fun p q => M (r p) (c q)) p
  y : ∀ q, q < k → 0 ≤ sumN (rowC k fun p q => M (r p) (c q)) k * colC k (fun p q => M (r p) (c q)) q
  xj : ∀ j, j < m → sumN (rowC k fun p q => M (r p) (c q)) k * detN k (fun p q => M (r p) (c q)) ≤ sumN (rowC k fun p q => M (r p) (c q)) k * sumN (fun p => rowC k (fun p q => M (r p) (c q)) p * M (r p) j) k
  yi : ∀ i, i < n → sumN (rowC k fun p q => M (r p) (c q)) k * sumN (fun q => M i (c q) * colC k (fun p q => M (r p) (c q)) q) k ≤ sumN (rowC k fun p q => M (r p) (c q)) k * detN k (fun p q => M (r p) (c q))
  xc : ∀ q, q < k → sumN (fun p => rowC k (fun p q => M (r p) (c q)) p * M (r p) (c q)) k = detN k (fun p q => M (r p) (c q))
  yr : ∀ p, p < k → sumN (fun q => M (r p) (c q) * colC k (fun p q => M (r p) (c q)) q) k = detN k (fun p q => M (r p) (c q))

/-- Best prices and amounts, with bases of as many rows as columns. -/
structure Opt (M : Nat → Nat → Int) (n m : Nat) (u w : Nat → Rat) : Prop where
  u0 : ∀ i, i < n → 0 ≤ u i
  w0 : ∀ j, j < m → 0 ≤ w j
  us : 0 < u 0 + u 1 + u 2
  uj : ∀ j, j < m → 1 ≤ u 0 * M 0 j + u 1 * M 1 j + u 2 * M 2 j
  wi : ∀ i, i < n → M i 0 * w 0 + M i 1 * w 1 + M i 2 * w 2 ≤ 1


def sumQ (f : Nat → Rat) : Nat → Rat
  | 0 => 0
  | k + 1 => sumQ f k + f k
theorem cast_sumN (f : Nat → Int) : ∀ k, ((sumN f k : Int) : Rat) = sumQ (fun p => (f p : Rat)) k
  | 0 => by simp [sumN, sumQ]
  | k + 1 => by rw [sumN, sumQ, Rat.intCast_add, cast_sumN f k]
theorem sumQ_mul (D : Rat) (g : Nat → Rat) : ∀ k, sumQ (fun p => D * g p) k = D * sumQ g k
  | 0 => by simp [sumQ]
  | k + 1 => by rw [sumQ, sumQ, sumQ_mul D g k]; grind
theorem sumQ_congr {f g : Nat → Rat} : ∀ {k}, (∀ p, p < k → f p = g p) → sumQ f k = sumQ g k
  | 0, _ => rfl
  | k + 1, h => by rw [sumQ, sumQ, sumQ_congr (k := k) fun p hp => h p (by omega), h k (by omega)]
theorem mulnn' {x y : Rat} (hx : 0 ≤ x) (hy : 0 ≤ y) : 0 ≤ x * y := Rat.mul_nonneg hx hy
theorem sq_pos' {x : Rat} (h : x ≠ 0) : 0 < x * x := by
  rcases Rat.le_total (a := 0) (b := x) with h0 | h0
  · exact Rat.mul_pos (by grind) (by grind)
  · have := Rat.mul_pos (a := -x) (b := -x) (by grind) (by grind); grind
theorem toInt_le {a b : Int} (h : (a : Rat) ≤ (b : Rat)) : a ≤ b := Rat.intCast_le_intCast.1 h
theorem toInt_eq {a b : Int} (h : (a : Rat) = (b : Rat)) : a = b := Rat.intCast_inj.1 h

theorem kern_of (M : Nat → Nat → Int) (n m k : Nat) (r c : Nat → Nat) (x y : Nat → Rat) (U : Rat) (hD : detN k (fun p q => M (r p) (c q)) ≠ 0)
    (hX : ∀ p, p < k → ((rowC k (fun p q => M (r p) (c q)) p : Int) : Rat) = (detN k (fun p q => M (r p) (c q)) : Int) * x p)
    (hY : ∀ q, q < k → ((colC k (fun p q => M (r p) (c q)) q : Int) : Rat) = (detN k (fun p q => M (r p) (c q)) : Int) * y q)
    (hU : 0 < U) (ux : sumQ x k = U) (uy : sumQ y k = U) (x0 : ∀ p, p < k → 0 ≤ x p) (y0 : ∀ q, q < k → 0 ≤ y q)
    (hx : ∀ j, j < m → 1 ≤ sumQ (fun p => x p * (M (r p) j : Int)) k) (hxc : ∀ q, q < k → sumQ (fun p => x p * (M (r p) (c q) : Int)) k = 1)
    (hy : ∀ i, i < n → sumQ (fun q => (M i (c q) : Int) * y q) k ≤ 1) (hyr : ∀ p, p < k → sumQ (fun q => (M (r p) (c q) : Int) * y q) k = 1) : Kern M n m k r c := by
  generalize hf : (fun p q => M (r p) (c q)) = f at *
  generalize hdd : detN k f = D at *
  have hs : ((sumN (rowC k f) k : Int) : Rat) = (D : Rat) * U := by
    rw [cast_sumN, sumQ_congr hX, sumQ_mul, ux]
  have ht : ((sumN (colC k f) k : Int) : Rat) = (D : Rat) * U := by
    rw [cast_sumN, sumQ_congr hY, sumQ_mul, uy]
  have hDR : (D : Rat) ≠ 0 := by
    intro e
    have : ((D : Int) : Rat) = ((0 : Int) : Rat) := by rw [e]; rfl
    exact hD (toInt_eq this)
  have hDD := sq_pos' hDR
  have hDU : 0 < (D : Rat) * D * U := Rat.mul_pos hDD hU
  have hXs : ∀ j, ((sumN (fun p => rowC k f p * M (r p) j) k : Int) : Rat) = (D : Rat) * sumQ (fun p => x p * (M (r p) j : Int)) k := fun j => by
    rw [cast_sumN, ← sumQ_mul]
    exact sumQ_congr fun p hp => by rw [Rat.intCast_mul, hX p hp]; grind
  have hYs : ∀ i, ((sumN (fun q => M i (c q) * colC k f q) k : Int) : Rat) = (D : Rat) * sumQ (fun q => (M i (c q) : Int) * y q) k := fun i => by
    rw [cast_sumN, ← sumQ_mul]
    exact sumQ_congr fun q hq => by rw [Rat.intCast_mul, hY q hq]; grind
  refine ⟨by rw [hf, hdd]; exact hD, ?_, ?_, fun p hp => ?_, fun q hq => ?_, fun j hj => ?_, fun i hi => ?_, fun q hq => ?_, fun p hp => ?_⟩ <;> rw [hf]
  · intro e
    rw [e] at hs
    have h0 : (D : Rat) * U = 0 := by rw [← hs]; rfl
    rcases Rat.mul_eq_zero.1 h0 with h0 | h0
    · exact hDR h0
    · rw [h0] at hU; exact absurd hU (by grind)
  · exact toInt_eq (by rw [hs, ht])
  · apply toInt_le
    rw [Rat.intCast_mul, hs, hX p hp]
    have := mulnn' (show 0 ≤ (D : Rat) * D * U by grind) (x0 p hp)
    have e : ((0 : Int) : Rat) = 0 := rfl
    rw [e]; grind
  · apply toInt_le
    rw [Rat.intCast_mul, hs, hY q hq]
    have := mulnn' (show 0 ≤ (D : Rat) * D * U by grind) (y0 q hq)
    have e : ((0 : Int) : Rat) = 0 := rfl
    rw [e]; grind
  · apply toInt_le
    rw [hdd, Rat.intCast_mul, Rat.intCast_mul, hs, hXs]
    have := mulnn' (show 0 ≤ (D : Rat) * D * U by grind) (show 0 ≤ sumQ (fun p => x p * (M (r p) j : Int)) k - 1 by have := hx j hj; grind)
    grind
  · apply toInt_le
    rw [hdd, Rat.intCast_mul, Rat.intCast_mul, hs, hYs]
    have := mulnn' (show 0 ≤ (D : Rat) * D * U by grind) (show 0 ≤ 1 - sumQ (fun q => (M i (c q) : Int) * y q) k by have := hy i hi; grind)
    grind
  · apply toInt_eq
    rw [hdd, hXs, hxc q hq]; grind
  · apply toInt_eq
    rw [hdd, hYs, hyr p hp]; grind
/-- What the best dictionary says, without its order. -/
structure Fin3 (M : Nat → Nat → Int) (n m : Nat) (u w : Nat → Rat) (B : Nat → Prop) : Prop where
  n3 : n ≤ 3
  m3 : m ≤ 3
  pos : ∀ i j, i < n → j < m → 0 < M i j
  u0 : ∀ i, i < 3 → 0 ≤ u i
  w0 : ∀ j, j < 3 → 0 ≤ w j
  uj : ∀ j, j < m → 1 ≤ u 0 * M 0 j + u 1 * M 1 j + u 2 * M 2 j
  ub : ∀ j, j < m → B j → u 0 * M 0 j + u 1 * M 1 j + u 2 * M 2 j = 1
  uz : ∀ i, i < 3 → B (i + 3) → u i = 0
  wi : ∀ i, i < n → M i 0 * w 0 + M i 1 * w 1 + M i 2 * w 2 ≤ 1
  wb : ∀ i, i < n → ¬ B (i + 3) → M i 0 * w 0 + M i 1 * w 1 + M i 2 * w 2 = 1
  wz : ∀ j, j < 3 → ¬ B j → w j = 0
  bn : ∀ i, i < 3 → ¬ B (i + 3) → i < n
  bm : ∀ j, j < 3 → B j → j < m
  non : ∀ z : Nat → Rat, (∀ j, j < 3 → ¬ B j → z j = 0) → (∀ i, i < n → ¬ B (i + 3) → M i 0 * z 0 + M i 1 * z 1 + M i 2 * z 2 = 0) → ∀ j, j < 3 → z j = 0

/-- Three numbers in some order. -/
def Prm (i j k : Nat) : Prop := ∀ f : Nat → Rat, f 0 + f 1 + f 2 = f i + f j + f k
theorem rat_pos {a : Int} (h : 0 < a) : (0 : Rat) < (a : Rat) := by
  have : ((0 : Int) : Rat) < (a : Rat) := Rat.intCast_lt_intCast.2 h
  exact this

theorem one_ok {M n m u w B} (h : Fin3 M n m u w B) (i i' i'' j j' j'' : Nat) (pi : Prm i i' i'') (pj : Prm j j' j'') (hi : i < 3) (hj : j < 3) (hi' : i' < 3) (hi'' : i'' < 3) (hj' : j' < 3) (hj'' : j'' < 3)
    (bi : ¬ B (i + 3)) (bi' : B (i' + 3)) (bi'' : B (i'' + 3)) (bj : B j) (bj' : ¬ B j') (bj'' : ¬ B j'') : Kern M n m 1 (fun _ => i) (fun _ => j) := by
  have hin := h.bn i hi bi
  have hjm := h.bm j hj bj
  have hp := h.pos i j hin hjm
  have hpr := rat_pos hp
  have zi' := h.uz i' hi' bi'
  have zi'' := h.uz i'' hi'' bi''
  have zj' := h.wz j' hj' bj'
  have zj'' := h.wz j'' hj'' bj''
  have eu := h.ub j hjm bj
  have ew := h.wb i hin bi
  rw [pi (fun v => u v * M v j), zi', zi''] at eu
  rw [pj (fun v => M i v * w v), zj', zj''] at ew
  have ue : u i * M i j = 1 := by grind
  have we : M i j * w j = 1 := by grind
  have uw : u i = w j := by
    have : u i * M i j * w j = w j := by rw [ue]; grind
    grind
  have up : 0 < u i := by
    have := h.u0 i hi
    by_cases e : u i = 0
    · rw [e] at ue; grind
    · grind
  refine kern_of M n m 1 _ _ (fun _ => u i) (fun _ => w j) (u i) ?_ ?_ ?_ up ?_ ?_ ?_ ?_ ?_ ?_ ?_ ?_
  · simp [detN, sumN, sgn]; omega
  · intro p hp; obtain rfl : p = 0 := by omega
    simp [detN, sumN, sgn, rowC, cofN]; grind
  · intro p hp; obtain rfl : p = 0 := by omega
    simp [detN, sumN, sgn, colC, cofN]; grind
  · simp [sumQ]; grind
  · simp [sumQ]; grind
  · intro p _; exact h.u0 i hi
  · intro p _; exact h.w0 j hj
  · intro k hk
    have := h.uj k hk
    rw [pi (fun v => u v * M v k), zi', zi''] at this
    simp [sumQ]; grind
  · intro q _; simp [sumQ]; grind
  · intro k hk
    have := h.wi k hk
    rw [pj (fun v => M k v * w v), zj', zj''] at this
    simp [sumQ]; grind
  · intro q _; simp [sumQ]; grind

def two (i j : Nat) (p : Nat) : Nat := if p = 0 then i else j
theorem two_ok {M n m u w B} (h : Fin3 M n m u w B) (i i' i'' j j' j'' : Nat) (pi : Prm i i' i'') (pj : Prm j j' j'') (hi : i < 3) (hj : j < 3) (hi' : i' < 3) (hi'' : i'' < 3) (hj' : j' < 3) (hj'' : j'' < 3)
    (nj : j ≠ j') (nj2 : j'' ≠ j) (nj3 : j'' ≠ j') (ni : ∀ k, k < 3 → k = i ∨ k = i' ∨ k = i'') (bi : ¬ B (i + 3)) (bi' : ¬ B (i' + 3)) (bi'' : B (i'' + 3)) (bj : B j) (bj' : B j') (bj'' : ¬ B j'') : Kern M n m 2 (two i i') (two j j') := by
  have hin := h.bn i hi bi
  have hin' := h.bn i' hi' bi'
  have hjm := h.bm j hj bj
  have hjm' := h.bm j' hj' bj'
  have hp := rat_pos (h.pos i' j' hin' hjm')
  have zi'' := h.uz i'' hi'' bi''
  have zj'' := h.wz j'' hj'' bj''
  have eu := h.ub j hjm bj
  have eu' := h.ub j' hjm' bj'
  have ew := h.wb i hin bi
  have ew' := h.wb i' hin' bi'
  rw [pi (fun v => u v * M v j), zi''] at eu
  rw [pi (fun v => u v * M v j'), zi''] at eu'
  rw [pj (fun v => M i v * w v), zj''] at ew
  rw [pj (fun v => M i' v * w v), zj''] at ew'
  have hD : (M i j : Rat) * M i' j' - M i j' * M i' j ≠ 0 := by
    intro e
    have hz := h.non (fun v => if v = j then (M i' j' : Rat) else if v = j' then - (M i' j : Rat) else 0) (fun v hv hb => by
        have h1 : v ≠ j := fun e => hb (e ▸ bj)
        have h2 : v ≠ j' := fun e => hb (e ▸ bj')
        show (if v = j then (M i' j' : Rat) else if v = j' then - (M i' j : Rat) else 0) = 0
        rw [if_neg h1, if_neg h2]) (fun k hk hb => by
        have hp := pj (fun v => (M k v : Rat) * (if v = j then (M i' j' : Rat) else if v = j' then - (M i' j : Rat) else 0))
        rw [hp, if_pos rfl, if_neg (Ne.symm nj), if_pos rfl, if_neg nj2, if_neg nj3]
        rcases ni k (by have := h.n3; omega) with rfl | rfl | rfl
        · grind
        · grind
        · exact absurd bi'' hb) j hj
    simp at hz
    rw [hz] at hp
    exact absurd hp (by grind)
  have hU : u i + u i' = w j + w j' := by grind
  have u0 := h.u0 i hi
  have u0' := h.u0 i' hi'
  have w0 := h.w0 j hj
  have w0' := h.w0 j' hj'
  have hUp : 0 < u i + u i' := by
    by_cases e : u i + u i' = 0
    · have e1 : u i = 0 := by grind
      have e2 : u i' = 0 := by grind
      rw [e1, e2] at eu; grind
    · grind
  have hDI : M i j * M i' j' - M i j' * M i' j ≠ 0 := by
    intro e
    apply hD
    have : (((M i j * M i' j' - M i j' * M i' j : Int)) : Rat) = ((0 : Int) : Rat) := by rw [e]
    rw [Rat.intCast_sub, Rat.intCast_mul, Rat.intCast_mul] at this
    exact this
  have dd : detN 2 (fun p q => M (two i i' p) (two j j' q)) = M i j * M i' j' - M i j' * M i' j := by
    simp [detN, sumN, sgn, minorN, skip, two]; grind
  refine kern_of M n m 2 _ _ (fun p => u (two i i' p)) (fun q => w (two j j' q)) (u i + u i') (by rw [dd]; exact hDI) ?_ ?_ hUp ?_ ?_ ?_ ?_ ?_ ?_ ?_ ?_
  · intro p hp
    rw [dd, Rat.intCast_sub, Rat.intCast_mul, Rat.intCast_mul]
    have : p = 0 ∨ p = 1 := by omega
    rcases this with rfl | rfl <;> simp [detN, sumN, sgn, rowC, cofN, minorN, skip, two] <;> (try simp [Rat.intCast_add, Rat.intCast_neg, Rat.intCast_mul]) <;> grind
  · intro p hp
    rw [dd, Rat.intCast_sub, Rat.intCast_mul, Rat.intCast_mul]
    have : p = 0 ∨ p = 1 := by omega
    rcases this with rfl | rfl <;> simp [detN, sumN, sgn, colC, cofN, minorN, skip, two] <;> (try simp [Rat.intCast_add, Rat.intCast_neg, Rat.intCast_mul]) <;> grind
  · simp [sumQ, two]; grind
  · simp [sumQ, two]; grind
  · intro p _; unfold two; split
    · exact u0
    · exact u0'
  · intro p _; unfold two; split
    · exact w0
    · exact w0'
  · intro k hk
    have := h.uj k hk
    rw [pi (fun v => u v * M v k), zi''] at this
    simp [sumQ, two]; grind
  · intro q hq
    have : q = 0 ∨ q = 1 := by omega
    rcases this with rfl | rfl <;> simp [sumQ, two] <;> grind
  · intro k hk
    have := h.wi k hk
    rw [pj (fun v => M k v * w v), zj''] at this
    simp [sumQ, two]; grind
  · intro q hq
    have : q = 0 ∨ q = 1 := by omega
    rcases this with rfl | rfl <;> simp [sumQ, two] <;> grind
theorem det3 (f : Nat → Nat → Int) : detN 3 f = f 0 0 * (f 1 1 * f 2 2 - f 1 2 * f 2 1) - f 0 1 * (f 1 0 * f 2 2 - f 1 2 * f 2 0) + f 0 2 * (f 1 0 * f 2 1 - f 1 1 * f 2 0) := by
  simp [detN, sumN, sgn, minorN, skip]; grind
theorem rowC3 (f : Nat → Nat → Int) : rowC 3 f 0 = (f 1 1 * f 2 2 - f 1 2 * f 2 1) - (f 1 0 * f 2 2 - f 1 2 * f 2 0) + (f 1 0 * f 2 1 - f 1 1 * f 2 0) ∧
    rowC 3 f 1 = - (f 0 1 * f 2 2 - f 0 2 * f 2 1) + (f 0 0 * f 2 2 - f 0 2 * f 2 0) - (f 0 0 * f 2 1 - f 0 1 * f 2 0) ∧
    rowC 3 f 2 = (f 0 1 * f 1 2 - f 0 2 * f 1 1) - (f 0 0 * f 1 2 - f 0 2 * f 1 0) + (f 0 0 * f 1 1 - f 0 1 * f 1 0) := by
  refine ⟨?_, ?_, ?_⟩ <;> simp [detN, sumN, sgn, minorN, skip, rowC, cofN] <;> grind
theorem colC3 (f : Nat → Nat → Int) : colC 3 f 0 = (f 1 1 * f 2 2 - f 1 2 * f 2 1) - (f 0 1 * f 2 2 - f 0 2 * f 2 1) + (f 0 1 * f 1 2 - f 0 2 * f 1 1) ∧
    colC 3 f 1 = - (f 1 0 * f 2 2 - f 1 2 * f 2 0) + (f 0 0 * f 2 2 - f 0 2 * f 2 0) - (f 0 0 * f 1 2 - f 0 2 * f 1 0) ∧
    colC 3 f 2 = (f 1 0 * f 2 1 - f 1 1 * f 2 0) - (f 0 0 * f 2 1 - f 0 1 * f 2 0) + (f 0 0 * f 1 1 - f 0 1 * f 1 0) := by
  refine ⟨?_, ?_, ?_⟩ <;> simp [detN, sumN, sgn, minorN, skip, colC, cofN] <;> grind

theorem three_ok {M n m u w B} (h : Fin3 M n m u w B) (bi : ∀ i, i < 3 → ¬ B (i + 3)) (bj : ∀ j, j < 3 → B j) : Kern M n m 3 (fun p => p) (fun q => q) := by
  have hn := fun i hi => h.bn i hi (bi i hi)
  have hm := fun j hj => h.bm j hj (bj j hj)
  have hp := rat_pos (h.pos 0 0 (hn 0 (by omega)) (hm 0 (by omega)))
  have u0 := h.ub 0 (hm 0 (by omega)) (bj 0 (by omega))
  have u1 := h.ub 1 (hm 1 (by omega)) (bj 1 (by omega))
  have u2 := h.ub 2 (hm 2 (by omega)) (bj 2 (by omega))
  have w0 := h.wb 0 (hn 0 (by omega)) (bi 0 (by omega))
  have w1 := h.wb 1 (hn 1 (by omega)) (bi 1 (by omega))
  have w2 := h.wb 2 (hn 2 (by omega)) (bi 2 (by omega))
  have p0 := h.u0 0 (by omega)
  have p1 := h.u0 1 (by omega)
  have p2 := h.u0 2 (by omega)
  have q0 := h.w0 0 (by omega)
  have q1 := h.w0 1 (by omega)
  have q2 := h.w0 2 (by omega)
  have hnon : ∀ z : Nat → Rat, (M 0 0 * z 0 + M 0 1 * z 1 + M 0 2 * z 2 = 0) → (M 1 0 * z 0 + M 1 1 * z 1 + M 1 2 * z 2 = 0) → (M 2 0 * z 0 + M 2 1 * z 1 + M 2 2 * z 2 = 0) → ∀ j, j < 3 → z j = 0 := by
    intro z h0 h1 h2
    refine h.non z (fun j hj hb => absurd (bj j hj) hb) fun i hi _ => ?_
    rcases lt3 (show i < 3 by have := h.n3; omega) with rfl | rfl | rfl
    · exact h0
    · exact h1
    · exact h2
  let f : Nat → Nat → Rat := fun i j => (M i j : Rat)
  let v3 : Rat → Rat → Rat → Nat → Rat := fun a b c k => if k = 0 then a else if k = 1 then b else c
  have e0 : ∀ a b c, v3 a b c 0 = a := fun _ _ _ => rfl
  have e1 : ∀ a b c, v3 a b c 1 = b := fun _ _ _ => rfl
  have e2 : ∀ a b c, v3 a b c 2 = c := fun _ _ _ => rfl
  have cast : ((detN 3 M : Int) : Rat) = f 0 0 * (f 1 1 * f 2 2 - f 1 2 * f 2 1) - f 0 1 * (f 1 0 * f 2 2 - f 1 2 * f 2 0) + f 0 2 * (f 1 0 * f 2 1 - f 1 1 * f 2 0) := by
    rw [det3]; simp only [Rat.intCast_add, Rat.intCast_sub, Rat.intCast_mul]; rfl
  have hD : ((detN 3 M : Int) : Rat) ≠ 0 := by
    intro e
    rw [cast] at e
    have a2 := hnon (v3 (f 0 1 * f 1 2 - f 0 2 * f 1 1) (- (f 0 0 * f 1 2 - f 0 2 * f 1 0)) (f 0 0 * f 1 1 - f 0 1 * f 1 0)) (by rw [e0, e1, e2]; grind) (by rw [e0, e1, e2]; grind) (by rw [e0, e1, e2]; grind) 2 (by omega)
    have a1 := hnon (v3 (- (f 0 1 * f 2 2 - f 0 2 * f 2 1)) (f 0 0 * f 2 2 - f 0 2 * f 2 0) (- (f 0 0 * f 2 1 - f 0 1 * f 2 0))) (by rw [e0, e1, e2]; grind) (by rw [e0, e1, e2]; grind) (by rw [e0, e1, e2]; grind) 2 (by omega)
    rw [e2] at a1 a2
    have a0 := hnon (v3 (f 0 1) (- f 0 0) 0) (by rw [e0, e1, e2]; grind) (by rw [e0, e1, e2]; grind) (by rw [e0, e1, e2]; grind) 1 (by omega)
    rw [e1] at a0
    have : f 0 0 = 0 := by grind
    rw [show (M 0 0 : Rat) = f 0 0 from rfl, this] at hp
    exact absurd hp (by grind)
  have hDI : detN 3 M ≠ 0 := fun e => hD (by rw [e]; rfl)
  have hU : u 0 + u 1 + u 2 = w 0 + w 1 + w 2 := by
    have : u 0 * (M 0 0 * w 0 + M 0 1 * w 1 + M 0 2 * w 2) + u 1 * (M 1 0 * w 0 + M 1 1 * w 1 + M 1 2 * w 2) + u 2 * (M 2 0 * w 0 + M 2 1 * w 1 + M 2 2 * w 2) =
      w 0 * (u 0 * M 0 0 + u 1 * M 1 0 + u 2 * M 2 0) + w 1 * (u 0 * M 0 1 + u 1 * M 1 1 + u 2 * M 2 1) + w 2 * (u 0 * M 0 2 + u 1 * M 1 2 + u 2 * M 2 2) := by grind
    rw [u0, u1, u2, w0, w1, w2] at this
    grind
  have hUp : 0 < u 0 + u 1 + u 2 := by
    by_cases e : u 0 + u 1 + u 2 = 0
    · have z0 : u 0 = 0 := by grind
      have z1 : u 1 = 0 := by grind
      have z2 : u 2 = 0 := by grind
      rw [z0, z1, z2] at u0; grind
    · grind
  have X0 : ((rowC 3 M 0 : Int) : Rat) = (detN 3 M : Int) * u 0 := by
    rw [cast, (rowC3 M).1]; simp only [Rat.intCast_add, Rat.intCast_sub, Rat.intCast_mul]
    have : (f 1 1 * f 2 2 - f 1 2 * f 2 1) * (u 0 * f 0 0 + u 1 * f 1 0 + u 2 * f 2 0) - (f 1 0 * f 2 2 - f 1 2 * f 2 0) * (u 0 * f 0 1 + u 1 * f 1 1 + u 2 * f 2 1) + (f 1 0 * f 2 1 - f 1 1 * f 2 0) * (u 0 * f 0 2 + u 1 * f 1 2 + u 2 * f 2 2) =
      (f 0 0 * (f 1 1 * f 2 2 - f 1 2 * f 2 1) - f 0 1 * (f 1 0 * f 2 2 - f 1 2 * f 2 0) + f 0 2 * (f 1 0 * f 2 1 - f 1 1 * f 2 0)) * u 0 := by grind
    rw [← this, u0, u1, u2]; grind
  have X1 : ((rowC 3 M 1 : Int) : Rat) = (detN 3 M : Int) * u 1 := by
    rw [cast, (rowC3 M).2.1]; simp only [Rat.intCast_add, Rat.intCast_sub, Rat.intCast_mul, Rat.intCast_neg]
    have : - (f 0 1 * f 2 2 - f 0 2 * f 2 1) * (u 0 * f 0 0 + u 1 * f 1 0 + u 2 * f 2 0) + (f 0 0 * f 2 2 - f 0 2 * f 2 0) * (u 0 * f 0 1 + u 1 * f 1 1 + u 2 * f 2 1) - (f 0 0 * f 2 1 - f 0 1 * f 2 0) * (u 0 * f 0 2 + u 1 * f 1 2 + u 2 * f 2 2) =
      (f 0 0 * (f 1 1 * f 2 2 - f 1 2 * f 2 1) - f 0 1 * (f 1 0 * f 2 2 - f 1 2 * f 2 0) + f 0 2 * (f 1 0 * f 2 1 - f 1 1 * f 2 0)) * u 1 := by grind
    rw [← this, u0, u1, u2]; grind
  have X2 : ((rowC 3 M 2 : Int) : Rat) = (detN 3 M : Int) * u 2 := by
    rw [cast, (rowC3 M).2.2]; simp only [Rat.intCast_add, Rat.intCast_sub, Rat.intCast_mul]
    have : (f 0 1 * f 1 2 - f 0 2 * f 1 1) * (u 0 * f 0 0 + u 1 * f 1 0 + u 2 * f 2 0) - (f 0 0 * f 1 2 - f 0 2 * f 1 0) * (u 0 * f 0 1 + u 1 * f 1 1 + u 2 * f 2 1) + (f 0 0 * f 1 1 - f 0 1 * f 1 0) * (u 0 * f 0 2 + u 1 * f 1 2 + u 2 * f 2 2) =
      (f 0 0 * (f 1 1 * f 2 2 - f 1 2 * f 2 1) - f 0 1 * (f 1 0 * f 2 2 - f 1 2 * f 2 0) + f 0 2 * (f 1 0 * f 2 1 - f 1 1 * f 2 0)) * u 2 := by grind
    rw [← this, u0, u1, u2]; grind
  have Y0 : ((colC 3 M 0 : Int) : Rat) = (detN 3 M : Int) * w 0 := by
    rw [cast, (colC3 M).1]; simp only [Rat.intCast_add, Rat.intCast_sub, Rat.intCast_mul]
    have : (f 1 1 * f 2 2 - f 1 2 * f 2 1) * (f 0 0 * w 0 + f 0 1 * w 1 + f 0 2 * w 2) - (f 0 1 * f 2 2 - f 0 2 * f 2 1) * (f 1 0 * w 0 + f 1 1 * w 1 + f 1 2 * w 2) + (f 0 1 * f 1 2 - f 0 2 * f 1 1) * (f 2 0 * w 0 + f 2 1 * w 1 + f 2 2 * w 2) =
      (f 0 0 * (f 1 1 * f 2 2 - f 1 2 * f 2 1) - f 0 1 * (f 1 0 * f 2 2 - f 1 2 * f 2 0) + f 0 2 * (f 1 0 * f 2 1 - f 1 1 * f 2 0)) * w 0 := by grind
    rw [← this, w0, w1, w2]; grind
  have Y1 : ((colC 3 M 1 : Int) : Rat) = (detN 3 M : Int) * w 1 := by
    rw [cast, (colC3 M).2.1]; simp only [Rat.intCast_add, Rat.intCast_sub, Rat.intCast_mul, Rat.intCast_neg]
    have : - (f 1 0 * f 2 2 - f 1 2 * f 2 0) * (f 0 0 * w 0 + f 0 1 * w 1 + f 0 2 * w 2) + (f 0 0 * f 2 2 - f 0 2 * f 2 0) * (f 1 0 * w 0 + f 1 1 * w 1 + f 1 2 * w 2) - (f 0 0 * f 1 2 - f 0 2 * f 1 0) * (f 2 0 * w 0 + f 2 1 * w 1 + f 2 2 * w 2) =
      (f 0 0 * (f 1 1 * f 2 2 - f 1 2 * f 2 1) - f 0 1 * (f 1 0 * f 2 2 - f 1 2 * f 2 0) + f 0 2 * (f 1 0 * f 2 1 - f 1 1 * f 2 0)) * w 1 := by grind
    rw [← this, w0, w1, w2]; grind
  have Y2 : ((colC 3 M 2 : Int) : Rat) = (detN 3 M : Int) * w 2 := by
    rw [cast, (colC3 M).2.2]; simp only [Rat.intCast_add, Rat.intCast_sub, Rat.intCast_mul]
    have : (f 1 0 * f 2 1 - f 1 1 * f 2 0) * (f 0 0 * w 0 + f 0 1 * w 1 + f 0 2 * w 2) - (f 0 0 * f 2 1 - f 0 1 * f 2 0) * (f 1 0 * w 0 + f 1 1 * w 1 + f 1 2 * w 2) + (f 0 0 * f 1 1 - f 0 1 * f 1 0) * (f 2 0 * w 0 + f 2 1 * w 1 + f 2 2 * w 2) =
      (f 0 0 * (f 1 1 * f 2 2 - f 1 2 * f 2 1) - f 0 1 * (f 1 0 * f 2 2 - f 1 2 * f 2 0) + f 0 2 * (f 1 0 * f 2 1 - f 1 1 * f 2 0)) * w 2 := by grind
    rw [← this, w0, w1, w2]; grind
  refine kern_of M n m 3 _ _ u w (u 0 + u 1 + u 2) hDI ?_ ?_ hUp ?_ ?_ (fun p hp => h.u0 p hp) (fun p hp => h.w0 p hp) ?_ ?_ ?_ ?_
  · intro p hp; rcases lt3 hp with rfl | rfl | rfl
    · exact X0
    · exact X1
    · exact X2
  · intro p hp; rcases lt3 hp with rfl | rfl | rfl
    · exact Y0
    · exact Y1
    · exact Y2
  · simp [sumQ]; grind
  · simp [sumQ]; grind
  · intro j hj
    have := h.uj j hj
    simp [sumQ]; grind
  · intro q hq
    rcases lt3 hq with rfl | rfl | rfl <;> simp [sumQ] <;> grind
  · intro i hi
    have := h.wi i hi
    simp [sumQ]; grind
  · intro q hq
    rcases lt3 hq with rfl | rfl | rfl <;> simp [sumQ] <;> grind
theorem col_split (M : Nat → Nat → Rat) (v : Nat) (hv : v < 6) (i : Nat) (hi : i < 3) (t : Rat) :
    col M v i * t = M i 0 * (if v = 0 then t else 0) + M i 1 * (if v = 1 then t else 0) + M i 2 * (if v = 2 then t else 0) + (if v = i + 3 then t else 0) := by
  have : v = 0 ∨ v = 1 ∨ v = 2 ∨ v = 3 ∨ v = 4 ∨ v = 5 := by omega
  rcases this with rfl | rfl | rfl | rfl | rfl | rfl <;> rcases lt3 hi with rfl | rfl | rfl <;> simp [col] <;> grind

theorem fin3_of (M : Nat → Nat → Int) (n m : Nat) (hn : n ≤ 3) (hm : m ≤ 3) (hp : ∀ i j, i < n → j < m → 0 < M i j) (hz : ∀ i j, ¬ (i < n ∧ j < m) → M i j = 0) (h0 : 1 ≤ n) :
    ∃ (b : Nat → Nat) (u w : Nat → Rat), (∀ k, k < 3 → b k < 6) ∧ (∀ k l, k < 3 → l < 3 → k ≠ l → b k ≠ b l) ∧ Fin3 M n m u w (fun v => b 0 = v ∨ b 1 = v ∨ b 2 = v) := by
  let Q : Nat → Nat → Rat := fun i j => (M i j : Rat)
  let c : Nat → Rat := fun j => if j < m then 1 else 0
  have hQ : Prob Q c := by
    refine ⟨fun i j hi hj => ?_, fun j hj => ?_⟩
    · by_cases h : i < n ∧ j < m
      · have := rat_pos (hp i j h.1 h.2); show 0 ≤ (M i j : Rat); grind
      · show 0 ≤ (M i j : Rat); rw [hz i j h]; decide
    · by_cases h : j < m
      · exact .inl ⟨0, by omega, rat_pos (hp 0 j (by omega) h)⟩
      · refine .inr ⟨by simp only [c]; rw [if_neg h], fun i _ => ?_⟩
        show (M i j : Rat) = 0
        rw [hz i j (fun x => h x.2)]; rfl
  obtain ⟨b, P, D, hopt⟩ := best hQ
  let t : Nat → Rat := fun k => P k 0 + P k 1 + P k 2
  let w : Nat → Rat := fun v => (if b 0 = v then t 0 else 0) + (if b 1 = v then t 1 else 0) + (if b 2 = v then t 2 else 0)
  have ht : ∀ k, k < 3 → 0 ≤ t k := fun k hk => by
    have := D.lex k hk
    unfold LP lp at this
    show 0 ≤ P k 0 + P k 1 + P k 2
    grind
  have ht0 := ht 0 (by omega)
  have ht1 := ht 1 (by omega)
  have ht2 := ht 2 (by omega)
  have hdist : ∀ k l, k < 3 → l < 3 → k ≠ l → b k ≠ b l := fun k l hk hl hkl e => by
    have h1 := D.pb k l hk hl
    have h2 := D.pb k k hk hk
    rw [if_neg hkl, ← e] at h1
    rw [if_pos rfl, h1] at h2
    exact absurd h2 (by decide)
  have row : ∀ i, i < 3 → Q i 0 * w 0 + Q i 1 * w 1 + Q i 2 * w 2 + w (i + 3) = 1 := fun i hi => by
    have e0 := D.bp i 0 hi (by omega)
    have e1 := D.bp i 1 hi (by omega)
    have e2 := D.bp i 2 hi (by omega)
    have s0 := col_split Q (b 0) (D.bv 0 (by omega)) i hi (t 0)
    have s1 := col_split Q (b 1) (D.bv 1 (by omega)) i hi (t 1)
    have s2 := col_split Q (b 2) (D.bv 2 (by omega)) i hi (t 2)
    have hs : col Q (b 0) i * t 0 + col Q (b 1) i * t 1 + col Q (b 2) i * t 2 = 1 := by
      simp only [t]
      rcases lt3 hi with rfl | rfl | rfl <;> simp at e0 e1 e2 <;> grind
    rw [s0, s1, s2] at hs
    simp only [w]
    grind
  have red : ∀ k, k < 3 → dot (prc c b P) (col Q (b k)) = cst c (b k) := fun k hk => by
    have h0 := D.pb 0 k (by omega) hk
    have h1 := D.pb 1 k (by omega) hk
    have h2 := D.pb 2 k (by omega) hk
    have : dot (prc c b P) (col Q (b k)) = cst c (b 0) * dot (P 0) (col Q (b k)) + cst c (b 1) * dot (P 1) (col Q (b k)) + cst c (b 2) * dot (P 2) (col Q (b k)) := by
      simp only [dot, prc]; grind
    rw [this, h0, h1, h2]
    rcases lt3 hk with rfl | rfl | rfl <;> simp <;> grind
  have dotS : ∀ i, i < 3 → dot (prc c b P) (col Q (i + 3)) = prc c b P i := fun i hi => by
    rcases lt3 hi with rfl | rfl | rfl <;> simp [dot, col] <;> grind
  have dotC : ∀ j, j < 3 → dot (prc c b P) (col Q j) = prc c b P 0 * M 0 j + prc c b P 1 * M 1 j + prc c b P 2 * M 2 j := fun j hj => by
    simp only [dot, col, if_pos hj]; rfl
  have csS : ∀ i, cst c (i + 3) = 0 := fun i => by unfold cst; rw [if_neg (by omega)]
  have csC : ∀ j, j < 3 → cst c j = c j := fun j hj => by unfold cst; rw [if_pos hj]
  have inb : ∀ v, (b 0 = v ∨ b 1 = v ∨ b 2 = v) → ∃ k, k < 3 ∧ b k = v := fun v h => by
    rcases h with h | h | h
    · exact ⟨0, by omega, h⟩
    · exact ⟨1, by omega, h⟩
    · exact ⟨2, by omega, h⟩
  have w0 : ∀ v, 0 ≤ w v := fun v => by simp only [w]; grind
  have wz : ∀ v, ¬ (b 0 = v ∨ b 1 = v ∨ b 2 = v) → w v = 0 := fun v h => by
    simp only [w]
    rw [if_neg (fun e => h (.inl e)), if_neg (fun e => h (.inr (.inl e))), if_neg (fun e => h (.inr (.inr e)))]
    grind
  refine ⟨b, prc c b P, w, D.bv, hdist, ⟨hn, hm, hp, fun i hi => ?_, fun j _ => w0 j, fun j hj => ?_, fun j hj hb => ?_, fun i hi hb => ?_, fun i hi => ?_, fun i hi hb => ?_, fun j _ hb => wz j hb, fun i hi hb => ?_, fun j hj hb => ?_, fun z hz1 hz2 j hj => ?_⟩⟩
  · have := hopt (i + 3) (by omega)
    rw [csS, dotS i hi] at this
    exact this
  · have := hopt j (by omega)
    rw [csC j (by omega), dotC j (by omega)] at this
    simp only [c, if_pos hj] at this
    exact this
  · obtain ⟨k, hk, e⟩ := inb j hb
    have := red k hk
    rw [e, csC j (by omega), dotC j (by omega)] at this
    simp only [c, if_pos hj] at this
    exact this
  · obtain ⟨k, hk, e⟩ := inb _ hb
    have := red k hk
    rw [e, csS, dotS i hi] at this
    exact this
  · have := row i (by omega)
    have h1 := w0 (i + 3)
    show Q i 0 * w 0 + Q i 1 * w 1 + Q i 2 * w 2 ≤ 1
    grind
  · have := row i (by omega)
    have h1 := wz (i + 3) hb
    show Q i 0 * w 0 + Q i 1 * w 1 + Q i 2 * w 2 = 1
    grind
  · apply Classical.byContradiction
    intro hni
    have := row i hi
    have z0 : Q i 0 = 0 := by show (M i 0 : Rat) = 0; rw [hz i 0 (by omega)]; rfl
    have z1 : Q i 1 = 0 := by show (M i 1 : Rat) = 0; rw [hz i 1 (by omega)]; rfl
    have z2 : Q i 2 = 0 := by show (M i 2 : Rat) = 0; rw [hz i 2 (by omega)]; rfl
    rw [z0, z1, z2, wz (i + 3) hb] at this
    exact absurd this (by grind)
  · apply Classical.byContradiction
    intro hnj
    obtain ⟨k, hk, e⟩ := inb j hb
    have h1 := D.pb k k hk hk
    rw [if_pos rfl, e] at h1
    have z : ∀ i, i < 3 → col Q j i = 0 := fun i _ => by
      unfold col; rw [if_pos hj]; show (M i j : Rat) = 0; rw [hz i j (by omega)]; rfl
    unfold dot at h1
    rw [z 0 (by omega), z 1 (by omega), z 2 (by omega)] at h1
    exact absurd h1 (by grind)
  · -- z on the columns of the basis, the rest of it by the rows
    let y : Nat → Rat := fun v => if v < 3 then z v else - (Q (v - 3) 0 * z 0 + Q (v - 3) 1 * z 1 + Q (v - 3) 2 * z 2)
    have yz : ∀ v, v < 6 → ¬ (b 0 = v ∨ b 1 = v ∨ b 2 = v) → y v = 0 := fun v hv hb => by
      by_cases h3 : v < 3
      · simp only [y, if_pos h3]; exact hz1 v h3 hb
      · simp only [y, if_neg h3]
        have e : v - 3 + 3 = v := by omega
        by_cases hvn : v - 3 < n
        · have := hz2 (v - 3) hvn (by rw [e]; exact hb)
          show - ((M (v - 3) 0 : Rat) * z 0 + (M (v - 3) 1 : Rat) * z 1 + (M (v - 3) 2 : Rat) * z 2) = 0
          rw [this]; grind
        · have z0 : Q (v - 3) 0 = 0 := by show (M (v - 3) 0 : Rat) = 0; rw [hz _ 0 (by omega)]; rfl
          have z1 : Q (v - 3) 1 = 0 := by show (M (v - 3) 1 : Rat) = 0; rw [hz _ 1 (by omega)]; rfl
          have z2 : Q (v - 3) 2 = 0 := by show (M (v - 3) 2 : Rat) = 0; rw [hz _ 2 (by omega)]; rfl
          rw [z0, z1, z2]; grind
    have hb01 := hdist 0 1 (by omega) (by omega) (by omega)
    have hb02 := hdist 0 2 (by omega) (by omega) (by omega)
    have hb12 := hdist 1 2 (by omega) (by omega) (by omega)
    have hsum : ∀ i, i < 3 → col Q (b 0) i * y (b 0) + col Q (b 1) i * y (b 1) + col Q (b 2) i * y (b 2) = 0 := fun i hi => by
      have s0 := col_split Q (b 0) (D.bv 0 (by omega)) i hi (y (b 0))
      have s1 := col_split Q (b 1) (D.bv 1 (by omega)) i hi (y (b 1))
      have s2 := col_split Q (b 2) (D.bv 2 (by omega)) i hi (y (b 2))
      have yv : ∀ v, v < 6 → (if b 0 = v then y (b 0) else 0) + (if b 1 = v then y (b 1) else 0) + (if b 2 = v then y (b 2) else 0) = y v := fun v hv => by
        by_cases h : b 0 = v ∨ b 1 = v ∨ b 2 = v
        · rcases h with h | h | h
          · rw [if_pos h, if_neg (by omega), if_neg (by omega), h]; grind
          · rw [if_neg (by omega), if_pos h, if_neg (by omega), h]; grind
          · rw [if_neg (by omega), if_neg (by omega), if_pos h, h]; grind
        · rw [yz v hv h, if_neg (fun e => h (.inl e)), if_neg (fun e => h (.inr (.inl e))), if_neg (fun e => h (.inr (.inr e)))]; grind
      have y0 := yv 0 (by omega)
      have y1 := yv 1 (by omega)
      have y2 := yv 2 (by omega)
      have y3 := yv (i + 3) (by omega)
      have q0 : y 0 = z 0 := rfl
      have q1 : y 1 = z 1 := rfl
      have q2 : y 2 = z 2 := rfl
      have q3 : y (i + 3) = - (Q i 0 * z 0 + Q i 1 * z 1 + Q i 2 * z 2) := by simp only [y]; rw [if_neg (by omega)]; simp
      rw [q0] at y0
      rw [q1] at y1
      rw [q2] at y2
      rw [q3] at y3
      rw [s0, s1, s2]
      grind
    have yb : ∀ k, k < 3 → y (b k) = 0 := fun k hk => by
      have a0 := hsum 0 (by omega)
      have a1 := hsum 1 (by omega)
      have a2 := hsum 2 (by omega)
      have c0 := D.pb k 0 hk (by omega)
      have c1 := D.pb k 1 hk (by omega)
      have c2 := D.pb k 2 hk (by omega)
      have key : dot (P k) (col Q (b 0)) * y (b 0) + dot (P k) (col Q (b 1)) * y (b 1) + dot (P k) (col Q (b 2)) * y (b 2) =
        P k 0 * (col Q (b 0) 0 * y (b 0) + col Q (b 1) 0 * y (b 1) + col Q (b 2) 0 * y (b 2)) + P k 1 * (col Q (b 0) 1 * y (b 0) + col Q (b 1) 1 * y (b 1) + col Q (b 2) 1 * y (b 2)) + P k 2 * (col Q (b 0) 2 * y (b 0) + col Q (b 1) 2 * y (b 1) + col Q (b 2) 2 * y (b 2)) := by
        unfold dot; grind
      rw [a0, a1, a2, c0, c1, c2] at key
      rcases lt3 hk with rfl | rfl | rfl <;> simp at key <;> grind
    have : y j = z j := by simp only [y, if_pos hj]
    rw [← this]
    by_cases h : b 0 = j ∨ b 1 = j ∨ b 2 = j
    · obtain ⟨k, hk, e⟩ := inb j h
      rw [← e]; exact yb k hk
    · exact yz j (by omega) h

/-- Ascending numbers below n. -/
def Asc (n k : Nat) (r : Nat → Nat) : Prop := (∀ p, p < k → r p < n) ∧ ∀ p, p + 1 < k → r p < r (p + 1)
theorem prm (i j k : Nat) (h : (i = 0 ∧ j = 1 ∧ k = 2) ∨ (i = 1 ∧ j = 0 ∧ k = 2) ∨ (i = 2 ∧ j = 0 ∧ k = 1) ∨ (i = 0 ∧ j = 2 ∧ k = 1) ∨ (i = 1 ∧ j = 2 ∧ k = 0) ∨ (i = 2 ∧ j = 1 ∧ k = 0)) : Prm i j k := by
  intro f
  rcases h with ⟨rfl, rfl, rfl⟩ | ⟨rfl, rfl, rfl⟩ | ⟨rfl, rfl, rfl⟩ | ⟨rfl, rfl, rfl⟩ | ⟨rfl, rfl, rfl⟩ | ⟨rfl, rfl, rfl⟩ <;> grind

/-- Some part of the table tells best shares. -/
theorem kern_exists (M : Nat → Nat → Int) (n m : Nat) (h0 : 1 ≤ n) (m0 : 1 ≤ m) (hn : n ≤ 3) (hm : m ≤ 3) (hp : ∀ i j, i < n → j < m → 0 < M i j) (hz : ∀ i j, ¬ (i < n ∧ j < m) → M i j = 0) :
    ∃ k r c, 1 ≤ k ∧ k ≤ 3 ∧ Asc n k r ∧ Asc m k c ∧ Kern M n m k r c := by
  obtain ⟨b, u, w, hb, hd, F⟩ := fin3_of M n m hn hm hp hz h0
  have b0 := hb 0 (by omega)
  have b1 := hb 1 (by omega)
  have b2 := hb 2 (by omega)
  have d01 := hd 0 1 (by omega) (by omega) (by omega)
  have d02 := hd 0 2 (by omega) (by omega) (by omega)
  have d12 := hd 1 2 (by omega) (by omega) (by omega)
  have one : ∀ i i' i'' j j' j'', Prm i i' i'' → Prm j j' j'' → i < 3 → j < 3 → i' < 3 → i'' < 3 → j' < 3 → j'' < 3 → ¬ (b 0 = i + 3 ∨ b 1 = i + 3 ∨ b 2 = i + 3) → (b 0 = i' + 3 ∨ b 1 = i' + 3 ∨ b 2 = i' + 3) → (b 0 = i'' + 3 ∨ b 1 = i'' + 3 ∨ b 2 = i'' + 3) →
      (b 0 = j ∨ b 1 = j ∨ b 2 = j) → ¬ (b 0 = j' ∨ b 1 = j' ∨ b 2 = j') → ¬ (b 0 = j'' ∨ b 1 = j'' ∨ b 2 = j'') → ∃ k r c, 1 ≤ k ∧ k ≤ 3 ∧ Asc n k r ∧ Asc m k c ∧ Kern M n m k r c := by
    intro i i' i'' j j' j'' pi pj hi hj hi' hi'' hj' hj'' q1 q2 q3 q4 q5 q6
    exact ⟨1, _, _, by omega, by omega, ⟨fun p _ => F.bn i hi q1, fun p h => by omega⟩, ⟨fun p _ => F.bm j hj q4, fun p h => by omega⟩, one_ok F i i' i'' j j' j'' pi pj hi hj hi' hi'' hj' hj'' q1 q2 q3 q4 q5 q6⟩
  have twoK : ∀ i i' i'' j j' j'', Prm i i' i'' → Prm j j' j'' → i < i' → j < j' → i' < 3 → i'' < 3 → j' < 3 → j'' < 3 → j'' ≠ j → j'' ≠ j' → (∀ k, k < 3 → k = i ∨ k = i' ∨ k = i'') → ¬ (b 0 = i + 3 ∨ b 1 = i + 3 ∨ b 2 = i + 3) → ¬ (b 0 = i' + 3 ∨ b 1 = i' + 3 ∨ b 2 = i' + 3) → (b 0 = i'' + 3 ∨ b 1 = i'' + 3 ∨ b 2 = i'' + 3) →
      (b 0 = j ∨ b 1 = j ∨ b 2 = j) → (b 0 = j' ∨ b 1 = j' ∨ b 2 = j') → ¬ (b 0 = j'' ∨ b 1 = j'' ∨ b 2 = j'') → ∃ k r c, 1 ≤ k ∧ k ≤ 3 ∧ Asc n k r ∧ Asc m k c ∧ Kern M n m k r c := by
    intro i i' i'' j j' j'' pi pj hi hj hi' hi'' hj' hj'' n1 n2 ni q1 q2 q3 q4 q5 q6
    have two_asc : ∀ {n i i'}, i < n → i' < n → i < i' → Asc n 2 (two i i') := fun {n i i'} h1 h2 h3 => ⟨fun p hp => by unfold two; split <;> assumption, fun p hp => by
      obtain rfl : p = 0 := by omega
      simpa [two] using h3⟩
    exact ⟨2, _, _, by omega, by omega, two_asc (F.bn i (by omega) q1) (F.bn i' hi' q2) hi, two_asc (F.bm j (by omega) q4) (F.bm j' hj' q5) hj, two_ok F i i' i'' j j' j'' pi pj (by omega) (by omega) hi' hi'' hj' hj'' (by omega) n1 n2 ni q1 q2 q3 q4 q5 q6⟩
  by_cases c0 : b 0 = 0 ∨ b 1 = 0 ∨ b 2 = 0 <;> by_cases c1 : b 0 = 1 ∨ b 1 = 1 ∨ b 2 = 1 <;> by_cases c2 : b 0 = 2 ∨ b 1 = 2 ∨ b 2 = 2 <;>
    by_cases c3 : b 0 = 0 + 3 ∨ b 1 = 0 + 3 ∨ b 2 = 0 + 3 <;> by_cases c4 : b 0 = 1 + 3 ∨ b 1 = 1 + 3 ∨ b 2 = 1 + 3 <;> by_cases c5 : b 0 = 2 + 3 ∨ b 1 = 2 + 3 ∨ b 2 = 2 + 3
  all_goals first
    | (exfalso; omega)
    | skip
  all_goals first
    | exact one 0 1 2 0 1 2 (prm _ _ _ (by omega)) (prm _ _ _ (by omega)) (by omega) (by omega) (by omega) (by omega) (by omega) (by omega) c3 c4 c5 c0 c1 c2
    | exact one 0 1 2 1 0 2 (prm _ _ _ (by omega)) (prm _ _ _ (by omega)) (by omega) (by omega) (by omega) (by omega) (by omega) (by omega) c3 c4 c5 c1 c0 c2
    | exact one 0 1 2 2 0 1 (prm _ _ _ (by omega)) (prm _ _ _ (by omega)) (by omega) (by omega) (by omega) (by omega) (by omega) (by omega) c3 c4 c5 c2 c0 c1
    | exact one 1 0 2 0 1 2 (prm _ _ _ (by omega)) (prm _ _ _ (by omega)) (by omega) (by omega) (by omega) (by omega) (by omega) (by omega) c4 c3 c5 c0 c1 c2
    | exact one 1 0 2 1 0 2 (prm _ _ _ (by omega)) (prm _ _ _ (by omega)) (by omega) (by omega) (by omega) (by omega) (by omega) (by omega) c4 c3 c5 c1 c0 c2
    | exact one 1 0 2 2 0 1 (prm _ _ _ (by omega)) (prm _ _ _ (by omega)) (by omega) (by omega) (by omega) (by omega) (by omega) (by omega) c4 c3 c5 c2 c0 c1
    | exact one 2 0 1 0 1 2 (prm _ _ _ (by omega)) (prm _ _ _ (by omega)) (by omega) (by omega) (by omega) (by omega) (by omega) (by omega) c5 c3 c4 c0 c1 c2
    | exact one 2 0 1 1 0 2 (prm _ _ _ (by omega)) (prm _ _ _ (by omega)) (by omega) (by omega) (by omega) (by omega) (by omega) (by omega) c5 c3 c4 c1 c0 c2
    | exact one 2 0 1 2 0 1 (prm _ _ _ (by omega)) (prm _ _ _ (by omega)) (by omega) (by omega) (by omega) (by omega) (by omega) (by omega) c5 c3 c4 c2 c0 c1
    | exact twoK 0 1 2 0 1 2 (prm _ _ _ (by omega)) (prm _ _ _ (by omega)) (by omega) (by omega) (by omega) (by omega) (by omega) (by omega) (by omega) (by omega) (fun k hk => by omega) c3 c4 c5 c0 c1 c2
    | exact twoK 0 1 2 0 2 1 (prm _ _ _ (by omega)) (prm _ _ _ (by omega)) (by omega) (by omega) (by omega) (by omega) (by omega) (by omega) (by omega) (by omega) (fun k hk => by omega) c3 c4 c5 c0 c2 c1
    | exact twoK 0 1 2 1 2 0 (prm _ _ _ (by omega)) (prm _ _ _ (by omega)) (by omega) (by omega) (by omega) (by omega) (by omega) (by omega) (by omega) (by omega) (fun k hk => by omega) c3 c4 c5 c1 c2 c0
    | exact twoK 0 2 1 0 1 2 (prm _ _ _ (by omega)) (prm _ _ _ (by omega)) (by omega) (by omega) (by omega) (by omega) (by omega) (by omega) (by omega) (by omega) (fun k hk => by omega) c3 c5 c4 c0 c1 c2
    | exact twoK 0 2 1 0 2 1 (prm _ _ _ (by omega)) (prm _ _ _ (by omega)) (by omega) (by omega) (by omega) (by omega) (by omega) (by omega) (by omega) (by omega) (fun k hk => by omega) c3 c5 c4 c0 c2 c1
    | exact twoK 0 2 1 1 2 0 (prm _ _ _ (by omega)) (prm _ _ _ (by omega)) (by omega) (by omega) (by omega) (by omega) (by omega) (by omega) (by omega) (by omega) (fun k hk => by omega) c3 c5 c4 c1 c2 c0
    | exact twoK 1 2 0 0 1 2 (prm _ _ _ (by omega)) (prm _ _ _ (by omega)) (by omega) (by omega) (by omega) (by omega) (by omega) (by omega) (by omega) (by omega) (fun k hk => by omega) c4 c5 c3 c0 c1 c2
    | exact twoK 1 2 0 0 2 1 (prm _ _ _ (by omega)) (prm _ _ _ (by omega)) (by omega) (by omega) (by omega) (by omega) (by omega) (by omega) (by omega) (by omega) (fun k hk => by omega) c4 c5 c3 c0 c2 c1
    | exact twoK 1 2 0 1 2 0 (prm _ _ _ (by omega)) (prm _ _ _ (by omega)) (by omega) (by omega) (by omega) (by omega) (by omega) (by omega) (by omega) (by omega) (fun k hk => by omega) c4 c5 c3 c1 c2 c0
    | (exfalso; have e := F.uj 0 (by omega); rw [F.uz 0 (by omega) c3, F.uz 1 (by omega) c4, F.uz 2 (by omega) c5] at e; exact absurd e (by grind))
    | (have q : ∀ i, i < 3 → ¬ (b 0 = i + 3 ∨ b 1 = i + 3 ∨ b 2 = i + 3) := (fun i hi => by rcases lt3 hi with rfl | rfl | rfl <;> first | exact c3 | exact c4 | exact c5); have q' : ∀ i, i < 3 → (b 0 = i ∨ b 1 = i ∨ b 2 = i) := (fun i hi => by rcases lt3 hi with rfl | rfl | rfl <;> first | exact c0 | exact c1 | exact c2); exact ⟨3, _, _, by omega, by omega, ⟨fun p hp => F.bn p hp (q p hp), fun p hp => by show p < p + 1; omega⟩, ⟨fun p hp => F.bm p hp (q' p hp), fun p hp => by show p < p + 1; omega⟩, three_ok F q q'⟩)
end Go.Proofs.Ytcjanlbhgfadpaa.V

/- From a part of the table that tells best shares to shares that make the same sure from both sides. -/
namespace Go.Proofs.Ytcjanlbhgfadpaa
open V (sumN detN rowC colC Kern)

theorem dotc_sum (a : List (List Int)) (x : List Int) (j : Nat) : ∀ n, dotc a x j n = sumN (fun i => gi x i * g2 a i j) n
  | 0 => rfl
  | n + 1 => by rw [dotc, sumN, dotc_sum a x j n]
theorem sm_sum (x : List Int) : ∀ n, sm x n = sumN (gi x) n
  | 0 => rfl
  | n + 1 => by rw [sm, sumN, sm_sum x n]
theorem sumN_congr {f g : Nat → Int} : ∀ {n}, (∀ i, i < n → f i = g i) → sumN f n = sumN g n
  | 0, _ => rfl
  | n + 1, h => by rw [sumN, sumN, sumN_congr (n := n) fun i hi => h i (by omega), h n (by omega)]
theorem sumN_add (f g : Nat → Int) : ∀ n, sumN (fun i => f i + g i) n = sumN f n + sumN g n
  | 0 => rfl
  | n + 1 => by rw [sumN, sumN, sumN, sumN_add f g n]; omega
theorem sumN_mul (f : Nat → Int) (z : Int) : ∀ n, sumN (fun i => z * f i) n = z * sumN f n
  | 0 => by simp [sumN]
  | n + 1 => by rw [sumN, sumN, sumN_mul f z n, Int.mul_add]
theorem sumN_zero : ∀ n, sumN (fun _ => 0) n = 0
  | 0 => rfl
  | n + 1 => by rw [sumN, sumN_zero n]; rfl
theorem sumN_at (v : Int) (w : Nat → Int) (r : Nat) : ∀ {n}, sumN (fun i => (if r = i then v else 0) * w i) n = if r < n then v * w r else 0
  | 0 => by simp [sumN]
  | n + 1 => by
    rw [sumN, sumN_at v w r (n := n)]
    by_cases e : r = n
    · subst e; rw [if_neg (by omega), if_pos rfl, if_pos (by omega)]; omega
    · rw [if_neg e]
      by_cases h : r < n
      · rw [if_pos h, if_pos (by omega)]; simp
      · rw [if_neg h, if_neg (by omega)]; simp
/-- Numbers put to their places, weighed. -/
theorem sumN_put (X : Nat → Int) (r : Nat → Nat) (w : Nat → Int) (n : Nat) : ∀ {k}, (∀ p, p < k → r p < n) → sumN (fun i => sumN (fun p => if r p = i then X p else 0) k * w i) n = sumN (fun p => X p * w (r p)) k
  | 0, _ => by simp [sumN, sumN_zero]
  | k + 1, h => by
    have e : ∀ i, sumN (fun p => if r p = i then X p else 0) (k + 1) * w i = sumN (fun p => if r p = i then X p else 0) k * w i + (if r k = i then X k else 0) * w i := fun i => by rw [sumN, Int.add_mul]
    rw [sumN_congr fun i _ => e i, sumN_add, sumN_put X r w n (k := k) fun p hp => h p (by omega), sumN_at, if_pos (h k (by omega)), sumN]

/-- The table raised above 0, and 0 outside. -/
def up18 (a : List (List Int)) (n m i j : Nat) : Int := if i < n ∧ j < m then g2 a i j + 18 else 0
theorem up18_in {a : List (List Int)} {n m i j : Nat} (hi : i < n) (hj : j < m) : up18 a n m i j = g2 a i j + 18 := if_pos ⟨hi, hj⟩

/-- Shares that are the part's sums of cofactors but for a factor: their sum with a column. -/
theorem spread_dot (a : List (List Int)) (x : List Int) (n m k : Nat) (r : Nat → Nat) (X : Nat → Int) (G z : Int) (hr : ∀ p, p < k → r p < n) (hl : x.length = n)
    (hx : ∀ i, i < n → gi x i * G = z * sumN (fun p => if r p = i then X p else 0) k) :
    tot x * G = z * sumN X k ∧ ∀ j, j < m → dotc a x j n * G = z * sumN (fun p => X p * up18 a n m (r p) j) k - 18 * (z * sumN X k) := by
  have key : ∀ w : Nat → Int, sumN (fun i => gi x i * w i) n * G = z * sumN (fun p => X p * w (r p)) k := fun w => by
    have e : ∀ i, i < n → G * (gi x i * w i) = z * (sumN (fun p => if r p = i then X p else 0) k * w i) := fun i hi => by
      have := hx i hi
      generalize sumN (fun p => if r p = i then X p else 0) k = s at *
      grind
    rw [Int.mul_comm, ← sumN_mul, sumN_congr e, sumN_mul, sumN_put X r w n hr]
  have h1 := key fun _ => 1
  simp only [Int.mul_one] at h1
  have ht : tot x * G = z * sumN X k := by
    unfold tot
    rw [hl, sm_sum]
    exact h1
  refine ⟨ht, fun j hj => ?_⟩
  have h2 := key fun i => g2 a i j
  have h3 : sumN (fun p => X p * up18 a n m (r p) j) k = sumN (fun p => X p * g2 a (r p) j) k + 18 * sumN X k := by
    rw [← sumN_mul, ← sumN_add]
    exact sumN_congr fun p hp => by rw [up18_in (hr p hp) hj, Int.mul_add, Int.mul_comm (X p) 18]
  rw [dotc_sum, h2, h3, Int.mul_add]
  grind
theorem spread_key (x : List Int) (n k : Nat) (r : Nat → Nat) (X w : Nat → Int) (G z : Int) (hr : ∀ p, p < k → r p < n)
    (hx : ∀ i, i < n → gi x i * G = z * sumN (fun p => if r p = i then X p else 0) k) : sumN (fun i => gi x i * w i) n * G = z * sumN (fun p => X p * w (r p)) k := by
  have e : ∀ i, i < n → G * (gi x i * w i) = z * (sumN (fun p => if r p = i then X p else 0) k * w i) := fun i hi => by
    have := hx i hi
    generalize sumN (fun p => if r p = i then X p else 0) k = s at *
    grind
  rw [Int.mul_comm, ← sumN_mul, sumN_congr e, sumN_mul, sumN_put X r w n hr]
theorem spread_dot_neg (a b : List (List Int)) (y : List Int) (n m k : Nat) (c : Nat → Nat) (Y : Nat → Int) (H z : Int) (hc : ∀ q, q < k → c q < m) (hb : ∀ i j, i < n → j < m → g2 b j i = - g2 a i j)
    (hy : ∀ j, j < m → gi y j * H = z * sumN (fun q => if c q = j then Y q else 0) k) :
    ∀ i, i < n → dotc b y i m * H = - (z * sumN (fun q => up18 a n m i (c q) * Y q) k - 18 * (z * sumN Y k)) := by
  intro i hi
  have h2 := spread_key y m k c Y (fun j => g2 b j i) H z hc hy
  have h3 : sumN (fun q => up18 a n m i (c q) * Y q) k = sumN (fun q => (-1) * (Y q * g2 b (c q) i)) k + 18 * sumN Y k := by
    rw [← sumN_mul, ← sumN_add]
    exact sumN_congr fun q hq => by
      rw [up18_in hi (hc q hq), hb i (c q) hi (hc q hq)]
      grind
  rw [sumN_mul] at h3
  rw [dotc_sum, h2, h3]
  grind
theorem le_of_sign {z s D X : Int} (hz : z = 1 ∨ z = -1) (hs : 0 < z * s) (h : s * D ≤ s * X) : z * D ≤ z * X := by
  rcases hz with rfl | rfl
  · have := Int.le_of_mul_le_mul_left h (by omega)
    omega
  · have : (-s) * X ≤ (-s) * D := by rw [Int.neg_mul, Int.neg_mul]; omega
    have := Int.le_of_mul_le_mul_left this (by omega)
    omega

/-- Shares that are the sums of cofactors of a part that tells best ones, without their sign and a factor, are best. -/
theorem kern_best (a b : List (List Int)) (x y : List Int) (n m k : Nat) (r c : Nat → Nat) (hn : 1 ≤ n) (hm : 1 ≤ m) (hk : 1 ≤ k) (K : Kern (up18 a n m) n m k r c) (hr : ∀ p, p < k → r p < n) (hc : ∀ q, q < k → c q < m)
    (hb : ∀ i j, i < n → j < m → g2 b j i = - g2 a i j) (hlx : x.length = n) (hly : y.length = m) (G H z : Int) (hG : 0 < G) (hH : 0 < H) (hz : z = 1 ∨ z = -1)
    (hs : 0 < z * sumN (rowC k fun p q => up18 a n m (r p) (c q)) k)
    (hx : ∀ i, i < n → gi x i * G = z * sumN (fun p => if r p = i then rowC k (fun p q => up18 a n m (r p) (c q)) p else 0) k)
    (hy : ∀ j, j < m → gi y j * H = z * sumN (fun q => if c q = j then colC k (fun p q => up18 a n m (r p) (c q)) q else 0) k) :
    wst a x n m (m - 1) = (- (wst b y m n (n - 1)).1, (wst b y m n (n - 1)).2) := by
  obtain ⟨ht, hd⟩ := spread_dot a x n m k r _ G z hr hlx hx
  have hdn := spread_dot_neg a b y n m k c _ H z hc hb hy
  have hty : tot y * H = z * sumN (rowC k fun p q => up18 a n m (r p) (c q)) k := by
    have := spread_key y m k c _ (fun _ => 1) H z hc hy
    simp only [Int.mul_one] at this
    rw [K.eq] at this
    unfold tot
    rw [hly, sm_sum]
    exact this
  have tx : 0 < tot x := by
    apply Classical.byContradiction; intro h
    have : tot x * G ≤ 0 * G := Int.mul_le_mul_of_nonneg_right (by omega) (by omega)
    omega
  have ty : 0 < tot y := by
    apply Classical.byContradiction; intro h
    have : tot y * H ≤ 0 * H := Int.mul_le_mul_of_nonneg_right (by omega) (by omega)
    omega
  refine best_of a b x y n m hn hm tx ty _ (z * detN k (fun p q => up18 a n m (r p) (c q)) - 18 * (z * sumN (rowC k fun p q => up18 a n m (r p) (c q)) k)) G H hG hH ht hty (fun j hj => ?_) ⟨c 0, hc 0 (by omega), ?_⟩ (fun i hi => ?_) ⟨r 0, hr 0 (by omega), ?_⟩
  · rw [hd j hj]
    have := le_of_sign hz hs (K.xj j hj)
    omega
  · rw [hd _ (hc 0 (by omega)), K.xc 0 (by omega)]
  · rw [hdn i hi, K.eq]
    have := le_of_sign hz hs (K.yi i hi)
    omega
  · rw [hdn _ (hr 0 (by omega)), K.eq, K.yr 0 (by omega)]
end Go.Proofs.Ytcjanlbhgfadpaa

/- What one side makes sure is no more than what the other lets through; so the value is one. -/
namespace Go.Proofs.Ytcjanlbhgfadpaa
open V (sumN)

theorem sumN_swap (f : Nat → Nat → Int) (n m : Nat) : sumN (fun i => sumN (fun j => f i j) m) n = sumN (fun j => sumN (fun i => f i j) n) m := by
  induction n with
  | zero => simp [sumN, sumN_zero]
  | succ n ih => rw [sumN, ih, ← sumN_add]; exact sumN_congr fun j _ => rfl
theorem sumN_le {f g : Nat → Int} : ∀ {n}, (∀ i, i < n → f i ≤ g i) → sumN f n ≤ sumN g n
  | 0, _ => Int.le_refl _
  | n + 1, h => by
    have h1 := sumN_le (f := f) (g := g) (n := n) fun i hi => h i (by omega)
    have h2 := h n (by omega)
    rw [sumN, sumN]; omega

/-- Of a table and of it as the other side has it. -/
structure Duo (a b : List (List Int)) (x y : List Int) (n m : Nat) : Prop where
  n1 : 1 ≤ n
  m1 : 1 ≤ m
  neg : ∀ i j, i < n → j < m → g2 b j i = - g2 a i j
  lx : x.length = n
  ly : y.length = m
  x0 : ∀ i, i < n → 0 ≤ gi x i
  y0 : ∀ j, j < m → 0 ≤ gi y j
  tx : 0 < tot x
  ty : 0 < tot y
theorem Duo.weak {a b x y n m} (d : Duo a b x y n m) : (wst a x n m (m - 1)).1 * (wst b y m n (n - 1)).2 ≤ - (wst b y m n (n - 1)).1 * (wst a x n m (m - 1)).2 := by
  have hn1 := d.n1
  have hm1 := d.m1
  obtain ⟨j, hj, e1, hl⟩ := wst_least a x n m d.tx (m - 1)
  obtain ⟨i, hi, e2, hk⟩ := wst_least b y m n d.ty (n - 1)
  have h1 : colU a x n m j * tot y ≤ sumN (fun l => gi y l * dotc a x l n) m := by
    unfold tot
    rw [d.ly, sm_sum, ← sumN_mul]
    refine sumN_le fun l hl' => ?_
    have := hl l (by omega)
    rw [colU_dotc a x n m l hl'] at this
    rw [Int.mul_comm (gi y l)]
    exact Int.mul_le_mul_of_nonneg_right this (d.y0 l hl')
  have h2 : colU b y m n i * tot x ≤ sumN (fun l => gi x l * dotc b y l m) n := by
    unfold tot
    rw [d.lx, sm_sum, ← sumN_mul]
    refine sumN_le fun l hl' => ?_
    have := hk l (by omega)
    rw [colU_dotc b y m n l hl'] at this
    rw [Int.mul_comm (gi x l)]
    exact Int.mul_le_mul_of_nonneg_right this (d.x0 l hl')
  have h3 : sumN (fun l => gi x l * dotc b y l m) n = - sumN (fun l => gi y l * dotc a x l n) m := by
    have e : ∀ l, l < n → gi x l * dotc b y l m = sumN (fun q => (-1) * (gi y q * (gi x l * g2 a l q))) m := fun l hl' => by
      rw [dotc_sum, ← sumN_mul]
      exact sumN_congr fun q hq => by rw [d.neg l q hl' hq]; grind
    rw [sumN_congr e, sumN_swap]
    have e' : ∀ q, q < m → sumN (fun l => (-1) * (gi y q * (gi x l * g2 a l q))) n = (-1) * (gi y q * dotc a x q n) := fun q _ => by
      rw [sumN_mul, sumN_mul, ← dotc_sum]
    rw [sumN_congr e', sumN_mul]
    omega
  have h4 : ¬ (- colU b y m n i) * tot x < colU a x n m j * tot y := by rw [Int.neg_mul]; omega
  have h5 := mt (fr_lt (u := - colU b y m n i) (v := colU a x n m j) d.ty d.tx).1 h4
  rw [frU_neg, frD_neg] at h5
  rw [e1, e2]
  exact Int.not_lt.1 h5
theorem wst_frac (a : List (List Int)) (x : List Int) (n m : Nat) (tx : 0 < tot x) (k : Nat) : Int.gcd (wst a x n m k).1 (wst a x n m k).2 = 1 ∧ 0 < (wst a x n m k).2 := by
  obtain ⟨j, _, e, _⟩ := wst_least a x n m tx k
  rw [e]
  exact ⟨fr_coprime _ _ tx, frD_pos tx⟩
/-- What is sure from both sides is the most that any shares make sure. -/
theorem Duo.most {a b x y n m} (h : wst a x n m (m - 1) = (- (wst b y m n (n - 1)).1, (wst b y m n (n - 1)).2)) {x2 : List Int} (d2 : Duo a b x2 y n m) :
    (wst a x2 n m (m - 1)).1 * (wst a x n m (m - 1)).2 ≤ (wst a x n m (m - 1)).1 * (wst a x2 n m (m - 1)).2 := by
  have := d2.weak
  rw [h]
  exact this
/-- So it is the same, whatever shares are best. -/
theorem Duo.same {a b x y n m} (d : Duo a b x y n m) (h : wst a x n m (m - 1) = (- (wst b y m n (n - 1)).1, (wst b y m n (n - 1)).2)) {x2 y2 : List Int} (d2 : Duo a b x2 y2 n m)
    (h2 : wst a x2 n m (m - 1) = (- (wst b y2 m n (n - 1)).1, (wst b y2 m n (n - 1)).2)) : wst a x n m (m - 1) = wst a x2 n m (m - 1) := by
  have d12 : Duo a b x2 y n m := ⟨d.n1, d.m1, d.neg, d2.lx, d.ly, d2.x0, d.y0, d2.tx, d.ty⟩
  have d21 : Duo a b x y2 n m := ⟨d.n1, d.m1, d.neg, d.lx, d2.ly, d.x0, d2.y0, d.tx, d2.ty⟩
  have k1 := Duo.most h d12
  have k2 := Duo.most h2 d21
  have f1 := wst_frac a x n m d.tx (m - 1)
  have f2 := wst_frac a x2 n m d2.tx (m - 1)
  have := fr_unique f1.2 f2.2 (by omega) f1.1 f2.1
  exact Prod.ext this.1 this.2
end Go.Proofs.Ytcjanlbhgfadpaa

/- Squares in lists: a row without a column, a square without a row and a column; determinants and cofactors of squares with small numbers; transposed squares. Plain. -/
namespace Go.Proofs.Ytcjanlbhgfadpaa
open V (sumN detN rowC colC cofN minorN skip sgn)

theorem gi_snoc_lt {xs : List Int} {x : Int} {k : Nat} (h : k < xs.length) : gi (xs ++ [x]) k = gi xs k := by
  rw [gi_get h, gi_get (by simp; omega), List.getElem_append_left h]
theorem gi_snoc_eq {xs : List Int} {x : Int} : gi (xs ++ [x]) xs.length = x := by
  rw [gi_get (by simp), List.getElem_append_right (Nat.le_refl _)]; simp

/-- The first j numbers of a row, without that of column c. -/
def rowW (xs : List Int) (c : Nat) : Nat → List Int
  | 0 => []
  | j + 1 => if j = c then rowW xs c j else rowW xs c j ++ [gi xs j]
theorem rowW_at {xs : List Int} {c : Nat} : rowW xs c (c + 1) = rowW xs c c := by rw [rowW, if_pos rfl]
theorem rowW_ne {xs : List Int} {c j : Nat} (h : j ≠ c) : rowW xs c (j + 1) = rowW xs c j ++ [gi xs j] := by rw [rowW, if_neg h]
theorem rowW_len (xs : List Int) (c : Nat) : ∀ j, (rowW xs c j).length = if c < j then j - 1 else j
  | 0 => by simp [rowW]
  | j + 1 => by
    have := rowW_len xs c j
    by_cases e : j = c
    · subst e; rw [rowW_at, this, if_neg (by omega), if_pos (by omega)]; omega
    · rw [rowW_ne e, List.length_append, List.length_singleton, this]
      split <;> split <;> omega
theorem gi_rowW (xs : List Int) (c : Nat) : ∀ j p, p < (rowW xs c j).length → gi (rowW xs c j) p = gi xs (skip c p)
  | 0, p, h => by simp [rowW] at h
  | j + 1, p, h => by
    by_cases e : j = c
    · subst e; rw [rowW_at] at h ⊢; exact gi_rowW xs j j p h
    · rw [rowW_ne e] at h ⊢
      have hl := rowW_len xs c j
      by_cases hp : p < (rowW xs c j).length
      · rw [gi_snoc_lt hp]; exact gi_rowW xs c j p hp
      · rw [List.length_append, List.length_singleton] at h
        obtain rfl : p = (rowW xs c j).length := by omega
        rw [gi_snoc_eq]
        congr 1
        unfold skip
        split at hl <;> split <;> omega
theorem rowW_mem (xs : List Int) (c : Nat) {j : Nat} (hj : j ≤ xs.length) {x : Int} (h : x ∈ rowW xs c j) : x ∈ xs := by
  induction j with
  | zero => simp [rowW] at h
  | succ j ih =>
    rw [rowW] at h
    split at h
    · exact ih (by omega) h
    · rcases List.mem_append.1 h with h | h
      · exact ih (by omega) h
      · simp at h; subst h; exact gi_mem (by omega)

/-- The first i rows of a square of n, without row r, each without column c. -/
def minW (a : List (List Int)) (r c n : Nat) : Nat → List (List Int)
  | 0 => []
  | i + 1 => if i = r then minW a r c n i else minW a r c n i ++ [rowW (gr a i) c n]
theorem minW_at {a : List (List Int)} {r c n : Nat} : minW a r c n (r + 1) = minW a r c n r := by rw [minW, if_pos rfl]
theorem minW_ne {a : List (List Int)} {r c n i : Nat} (h : i ≠ r) : minW a r c n (i + 1) = minW a r c n i ++ [rowW (gr a i) c n] := by rw [minW, if_neg h]
theorem minW_len (a : List (List Int)) (r c n : Nat) : ∀ i, (minW a r c n i).length = if r < i then i - 1 else i
  | 0 => by simp [minW]
  | i + 1 => by
    have := minW_len a r c n i
    by_cases e : i = r
    · subst e; rw [minW_at, this, if_neg (by omega), if_pos (by omega)]; omega
    · rw [minW_ne e, List.length_append, List.length_singleton, this]
      split <;> split <;> omega
theorem minW_le (a : List (List Int)) (r c n : Nat) (i : Nat) : (minW a r c n i).length ≤ i := by rw [minW_len]; split <;> omega
theorem rowW_le (xs : List Int) (c : Nat) (j : Nat) : (rowW xs c j).length ≤ j := by rw [rowW_len]; split <;> omega
theorem gr_minW (a : List (List Int)) (r c n : Nat) : ∀ i p, p < (minW a r c n i).length → gr (minW a r c n i) p = rowW (gr a (skip r p)) c n
  | 0, p, h => by simp [minW] at h
  | i + 1, p, h => by
    by_cases e : i = r
    · subst e; rw [minW_at] at h ⊢; exact gr_minW a i c n i p h
    · rw [minW_ne e] at h ⊢
      have hl := minW_len a r c n i
      by_cases hp : p < (minW a r c n i).length
      · rw [gr_snoc_lt hp]; exact gr_minW a r c n i p hp
      · rw [List.length_append, List.length_singleton] at h
        obtain rfl : p = (minW a r c n i).length := by omega
        rw [gr_snoc_eq]
        congr 2
        unfold skip
        split at hl <;> split <;> omega

/-- A square of k rows in a list, whose numbers are f's. -/
structure Sq (k : Nat) (xss : List (List Int)) (f : Nat → Nat → Int) : Prop where
  len : xss.length = k
  row : ∀ p, p < k → (gr xss p).length = k
  eq : ∀ p q, p < k → q < k → g2 xss p q = f p q
theorem skip_lt {k i p : Nat} (h : p < k) : skip i p < k + 1 := by unfold skip; split <;> omega
theorem Sq.minor {k : Nat} {xss : List (List Int)} {f : Nat → Nat → Int} (h : Sq (k + 1) xss f) {r c : Nat} (hr : r ≤ k) (hc : c ≤ k) :
    Sq k (minW xss r c (k + 1) (k + 1)) (minorN f r c) := by
  have hl : (minW xss r c (k + 1) (k + 1)).length = k := by rw [minW_len, if_pos (by omega)]; rfl
  have hrl : ∀ p, p < k → (gr (minW xss r c (k + 1) (k + 1)) p).length = k := fun p hp => by
    rw [gr_minW _ _ _ _ _ _ (by omega), rowW_len, if_pos (by omega)]; rfl
  refine ⟨hl, hrl, fun p q hp hq => ?_⟩
  have h1 := hrl p hp
  unfold g2
  rw [gr_minW _ _ _ _ _ _ (by omega)] at h1 ⊢
  rw [gi_rowW _ _ _ _ (by omega)]
  exact h.eq _ _ (skip_lt hp) (skip_lt hq)

theorem sumN_congr' {f g : Nat → Int} {n : Nat} (h : ∀ i, i < n → f i = g i) : sumN f n = sumN g n := sumN_congr h
theorem detN_congr : ∀ (k : Nat) {f g : Nat → Nat → Int}, (∀ p q, p < k → q < k → f p q = g p q) → detN k f = detN k g
  | 0, _, _, _ => rfl
  | k + 1, f, g, h => by
    rw [detN, detN]
    refine sumN_congr fun j hj => ?_
    rw [h 0 j (by omega) hj, detN_congr k (f := minorN f 0 j) (g := minorN g 0 j) fun p q hp hq => h _ _ (skip_lt hp) (skip_lt hq)]
theorem cofN_congr {k : Nat} {f g : Nat → Nat → Int} (h : ∀ p q, p < k → q < k → f p q = g p q) {i j : Nat} (_ : i < k) : cofN k f i j = cofN k g i j := by
  unfold cofN
  rw [detN_congr (k - 1) (f := minorN f i j) (g := minorN g i j) fun p q hp hq => h _ _ (by have := skip_lt (i := i) hp; omega) (by have := skip_lt (i := j) hq; omega)]
theorem rowC_congr {k : Nat} {f g : Nat → Nat → Int} (h : ∀ p q, p < k → q < k → f p q = g p q) {i : Nat} (hi : i < k) : rowC k f i = rowC k g i :=
  sumN_congr fun _ _ => cofN_congr h hi
theorem colC_congr {k : Nat} {f g : Nat → Nat → Int} (h : ∀ p q, p < k → q < k → f p q = g p q) {j : Nat} : colC k f j = colC k g j :=
  sumN_congr fun _ hi => cofN_congr h hi

/-- Small numbers. -/
def Ab (k : Nat) (f : Nat → Nat → Int) : Prop := ∀ p q, p < k → q < k → -27 ≤ f p q ∧ f p q ≤ 27
theorem Ab.minor {k : Nat} {f : Nat → Nat → Int} (h : Ab (k + 1) f) (r c : Nat) : Ab k (minorN f r c) := fun _ _ hp hq => h _ _ (skip_lt hp) (skip_lt hq)
theorem mulbd {x y A B : Int} (hx : -A ≤ x ∧ x ≤ A) (hy : -B ≤ y ∧ y ≤ B) : -(A * B) ≤ x * y ∧ x * y ≤ A * B := by
  have h : (x * y).natAbs ≤ A.natAbs * B.natAbs := by
    rw [Int.natAbs_mul]; exact Nat.mul_le_mul (by omega) (by omega)
  have e : ((A.natAbs * B.natAbs : Nat) : Int) = A * B := by
    rw [Int.natCast_mul]; rw [show ((A.natAbs : Nat) : Int) = A by omega, show ((B.natAbs : Nat) : Int) = B by omega]
  omega
theorem sgn_bd (i : Nat) : -1 ≤ sgn i ∧ sgn i ≤ 1 := by unfold sgn; split <;> omega
theorem sumN_bd {f : Nat → Int} {B : Int} : ∀ {n : Nat}, (∀ i, i < n → -B ≤ f i ∧ f i ≤ B) → -(B * (n : Int)) ≤ sumN f n ∧ sumN f n ≤ B * (n : Int)
  | 0, _ => by simp [sumN]
  | n + 1, h => by
    have h1 := sumN_bd (f := f) (B := B) (n := n) fun i hi => h i (by omega)
    have h2 := h n (by omega)
    rw [sumN, show ((n + 1 : Nat) : Int) = (n : Int) + 1 by omega, Int.mul_add, Int.mul_one]
    omega
/-- The greatest determinant of a square of k with small numbers. -/
def dB : Nat → Int
  | 0 => 1
  | k + 1 => 27 * dB k * ((k + 1 : Nat) : Int)
theorem term_bd {k : Nat} {f : Nat → Nat → Int} (h : Ab (k + 1) f) {j : Nat} (hj : j < k + 1) {d D : Int} (hd : -D ≤ d ∧ d ≤ D) : -(27 * D) ≤ sgn j * (f 0 j * d) ∧ sgn j * (f 0 j * d) ≤ 27 * D := by
  have h1 := mulbd (h 0 j (by omega) hj) hd
  have h2 := mulbd (sgn_bd j) h1
  omega
theorem det_bd : ∀ (k : Nat) {f : Nat → Nat → Int}, Ab k f → -(dB k) ≤ detN k f ∧ detN k f ≤ dB k
  | 0, _, _ => by simp [detN, dB]
  | k + 1, f, h => by
    rw [detN, dB]
    exact sumN_bd fun j hj => term_bd h hj (det_bd k (h.minor 0 j))
theorem dB_le {k : Nat} (h : k ≤ 3) : dB k ≤ 118098 := by
  have : k = 0 ∨ k = 1 ∨ k = 2 ∨ k = 3 := by omega
  rcases this with rfl | rfl | rfl | rfl <;> simp [dB]
theorem det_small {k : Nat} {f : Nat → Nat → Int} (hk : k ≤ 3) (h : Ab k f) : -118098 ≤ detN k f ∧ detN k f ≤ 118098 := by
  have := det_bd k h; have := dB_le hk; omega
/-- The sum of the first j terms of a determinant. -/
def detS (k : Nat) (f : Nat → Nat → Int) (j : Nat) : Int := sumN (fun j => sgn j * (f 0 j * detN k (minorN f 0 j))) j
theorem detS_all (k : Nat) (f : Nat → Nat → Int) : detS k f (k + 1) = detN (k + 1) f := by rw [detS, detN]
theorem detS_succ (k : Nat) (f : Nat → Nat → Int) (j : Nat) : detS k f (j + 1) = detS k f j + sgn j * (f 0 j * detN k (minorN f 0 j)) := rfl
theorem detS_bd {k : Nat} {f : Nat → Nat → Int} (hk : k + 1 ≤ 3) (h : Ab (k + 1) f) {j : Nat} (hj : j ≤ k + 1) : -10000000 ≤ detS k f j ∧ detS k f j ≤ 10000000 := by
  have h1 := sumN_bd (f := fun j => sgn j * (f 0 j * detN k (minorN f 0 j))) (B := 27 * 118098) (n := j) fun i hi => term_bd h (by omega) (det_small (by omega) (h.minor 0 i))
  unfold detS
  have : (27 * 118098 : Int) * (j : Int) ≤ 27 * 118098 * 3 := by omega
  omega
/-- The sum of the first j cofactors of row i. -/
def cofS (k : Nat) (f : Nat → Nat → Int) (i j : Nat) : Int := sumN (fun j => cofN k f i j) j
theorem cofS_all (k : Nat) (f : Nat → Nat → Int) (i : Nat) : cofS k f i k = rowC k f i := rfl
theorem cofS_succ (k : Nat) (f : Nat → Nat → Int) (i j : Nat) : cofS k f i (j + 1) = cofS k f i j + cofN k f i j := rfl
theorem cof_bd {k : Nat} {f : Nat → Nat → Int} (hk : k ≤ 3) (h : Ab k f) {i j : Nat} (hi : i < k) (_ : j < k) : -118098 ≤ cofN k f i j ∧ cofN k f i j ≤ 118098 := by
  obtain ⟨k, rfl⟩ : ∃ l, k = l + 1 := ⟨k - 1, by omega⟩
  have h1 := det_small (k := k) (by omega) (h.minor i j)
  unfold cofN
  rw [Nat.add_sub_cancel]
  have h2 := mulbd (sgn_bd (i + j)) h1
  omega
theorem cofS_bd {k : Nat} {f : Nat → Nat → Int} (hk : k ≤ 3) (h : Ab k f) {i : Nat} (hi : i < k) {j : Nat} (hj : j ≤ k) : -1000000 ≤ cofS k f i j ∧ cofS k f i j ≤ 1000000 := by
  have h1 := sumN_bd (f := fun j => cofN k f i j) (B := 118098) (n := j) fun l hl => cof_bd hk h hi (by omega)
  unfold cofS
  omega

/-- The square turned. -/
def trN (f : Nat → Nat → Int) : Nat → Nat → Int := fun p q => f q p
theorem det_tr2 (k : Nat) (hk : k ≤ 2) (f : Nat → Nat → Int) : detN k (trN f) = detN k f := by
  have : k = 0 ∨ k = 1 ∨ k = 2 := by omega
  rcases this with rfl | rfl | rfl
  · rfl
  · simp [detN, sumN, trN, sgn]
  · simp [detN, sumN, trN, sgn, minorN, skip]; grind
theorem cof_tr {k : Nat} (hk : k ≤ 3) (f : Nat → Nat → Int) (i j : Nat) : cofN k (trN f) i j = cofN k f j i := by
  unfold cofN
  rw [show minorN (trN f) i j = trN (minorN f j i) from rfl, det_tr2 (k - 1) (by omega), Nat.add_comm]
theorem rowC_tr {k : Nat} (hk : k ≤ 3) (f : Nat → Nat → Int) (i : Nat) : rowC k (trN f) i = colC k f i := sumN_congr fun j _ => cof_tr hk f i j
theorem Ab.tr {k : Nat} {f : Nat → Nat → Int} (h : Ab k f) : Ab k (trN f) := fun p q hp hq => h q p hq hp
end Go.Proofs.Ytcjanlbhgfadpaa

/- A square without a row and a column, by the model. -/
namespace Go.Proofs.Ytcjanlbhgfadpaa
open Go.RowKit

theorem Small.rowW_bd {xss : List (List Int)} (h : Small xss) {k c j : Nat} (hk : k < xss.length) (hj : j ≤ (gr xss k).length) : ∀ x ∈ rowW (gr xss k) c j, -1000 ≤ x ∧ x ≤ 1000 :=
  fun x hx => (h.rows _ (gr_mem hk)).2 x (rowW_mem _ _ hj hx)
theorem eqi_true {a b : Nat} (h : a = b) : ((a : Int) == (b : Int)) = true := by subst h; simp
theorem eqi_false {a b : Nat} (h : a ≠ b) : ((a : Int) == (b : Int)) = false := by simp; omega
theorem nei_true {a b : Nat} (h : a ≠ b) : ((a : Int) != (b : Int)) = true := by simp; omega
theorem nei_false {a b : Nat} (h : a = b) : ((a : Int) != (b : Int)) = false := by subst h; simp

end Go.Proofs.Ytcjanlbhgfadpaa

/- Greatest common divisors and fractions, by both programs. -/
namespace Go.Proofs.Ytcjanlbhgfadpaa
open Go.RowKit

def Mid (x : Int) : Prop := -1000000000000000 ≤ x ∧ x ≤ 1000000000000000
theorem Mid.tmod {x y : Int} (hx : Mid x) : Mid (x.tmod y) := by
  have h : (x.tmod y).natAbs ≤ x.natAbs := by rw [Int.natAbs_tmod]; exact Nat.mod_le _ _
  unfold Mid at *
  omega

/-- The greatest common divisor of the first k numbers. -/
def gcdL (xs : List Int) : Nat → Int
  | 0 => 0
  | k + 1 => gcdI (gcdL xs k) (gi xs k)
theorem gcdL_nn (xs : List Int) : ∀ k, 0 ≤ gcdL xs k
  | 0 => Int.le_refl _
  | _ + 1 => gcdI_nonneg _ _
theorem gcdL_mid {xs : List Int} (h : ∀ j, j < xs.length → Mid (gi xs j)) : ∀ {k : Nat}, k ≤ xs.length → Mid (gcdL xs k)
  | 0, _ => by simp [gcdL, Mid]
  | k + 1, hk => by
    have h1 := gcdL_mid h (k := k) (by omega)
    have h2 := h k (by omega)
    have h3 := gcdI_nonneg (gcdL xs k) (gi xs k)
    simp only [gcdL]
    by_cases e : gi xs k = 0
    · rw [e, gcdI_zero]; unfold Mid at *; omega
    · have h4 : gcdI (gcdL xs k) (gi xs k) ≤ max (gi xs k) (- gi xs k) := by
        rw [← gcdI_zero]
        have h5 : gcdI (gi xs k) 0 = (gi xs k).natAbs := by unfold gcdI; simp
        rw [h5]
        have : gcdI (gcdL xs k) (gi xs k) ∣ ((gi xs k).natAbs : Int) := Int.dvd_natAbs.2 (gcdI_dvd_right _ _)
        exact Int.le_of_dvd (by omega) this
      unfold Mid at *
      omega

/-- A fraction as both programs have it. -/
def frV (u d : Int) : Value := .agg #[.int .i64 (frU u d), .int .i64 (frD u d)]

end Go.Proofs.Ytcjanlbhgfadpaa

/- Means of tables, by both programs. -/
namespace Go.Proofs.Ytcjanlbhgfadpaa
open Go.RowKit

end Go.Proofs.Ytcjanlbhgfadpaa

/- Means of tables, by the program: terms in a slice made by append. -/
namespace Go.Proofs.Ytcjanlbhgfadpaa
open Go.RowKit

theorem wrap_in64 {x : Int} (h : -9223372036854775808 ≤ x ∧ x ≤ 9223372036854775807) : IntKind.i64.wrap x = x := by rw [IntKind.wrap_i64]; omega
theorem Try.infoI : (Try.prog.info? 3).map (fun i => (i.zero, i.size, i.bytes)) = some (some (.int .i64 0), 1, 8) := by kernel_rfl
theorem tot_bd {x : List Int} {n : Nat} (hn : n ≤ 3) (hl : x.length = n) (h : ∀ i, i < n → 0 ≤ gi x i ∧ gi x i ≤ 1000) : 0 ≤ tot x ∧ tot x ≤ 3000 := by
  have := sm_bd (xs := x) (k := x.length) (lo := 0) (hi := 1000) fun j hj => h j (by omega)
  unfold tot
  omega

end Go.Proofs.Ytcjanlbhgfadpaa

/- The determinant of a square, by the model. -/
namespace Go.Proofs.Ytcjanlbhgfadpaa
open Go.RowKit
open V (sumN detN rowC colC cofN minorN skip sgn)

theorem sgn_succ (j : Nat) : sgn (j + 1) = - sgn j := by unfold sgn; split <;> split <;> omega
theorem Sq.small {k : Nat} {xss : List (List Int)} {f : Nat → Nat → Int} (h : Sq k xss f) (hk : k ≤ 3) (ha : Ab k f) : Small xss := by
  refine ⟨by have := h.len; omega, fun r hr => ?_⟩
  obtain ⟨p, hp, rfl⟩ := List.mem_iff_getElem.1 hr
  rw [← gr_get hp]
  have hpk : p < k := by have := h.len; omega
  have hl := h.row p hpk
  refine ⟨by omega, fun x hx => ?_⟩
  obtain ⟨q, hq, rfl⟩ := List.mem_iff_getElem.1 hx
  rw [← gi_get hq]
  have := h.eq p q hpk (by omega)
  unfold g2 at this
  have := ha p q hpk (by omega)
  omega
theorem Sq.even {k : Nat} {xss : List (List Int)} {f : Nat → Nat → Int} (h : Sq k xss f) : Even xss k := fun p hp => h.row p (by rw [← h.len]; exact hp)
theorem wrapIn {x : Int} (h : -1000000000000000 ≤ x ∧ x ≤ 1000000000000000) : IntKind.i64.wrap x = x := wrap_in64 ⟨by omega, by omega⟩

end Go.Proofs.Ytcjanlbhgfadpaa

/- Slices of ints under way; the sums of cofactors of each row of a square, by the model. -/
namespace Go.Proofs.Ytcjanlbhgfadpaa
open Go.RowKit
open V (sumN detN rowC colC cofN minorN skip sgn)

/-- Ints under way: a slice made by append, alone. -/
structure IU (wb : World) (v : Value) (ys : List Int) (w : World) : Prop where
  bi : BldI wb.heap.size w.heap.size w v ys
  up : Below wb.heap.size wb w
theorem IU.start (wb : World) : IU wb (.slice (some ⟨wb.heap.size, 0, none⟩) 0 0) [] (wb.alloc (.cells #[] 3)) :=
  ⟨by rw [World.size_alloc]; exact BldI.make (Nat.le_refl _), below_alloc _ _⟩
theorem IU.nil (wb : World) : IU wb (.slice none 0 0) [] wb := ⟨BldI.nil _ _ _, Below.refl _ _⟩
theorem IU.next {wb v ys w w'} (h : IU wb v ys w) (k : Below w.heap.size w w') : IU wb v ys w' := ⟨(h.bi.below k).mono k.size, below_up h.up k⟩
theorem IU.push {wb v v' ys w w' x} (h : IU wb v ys w) (hown : w'.ownsRow wb.heap.size 3 1 v' (ys.length + 1) (ys.map iv ++ [iv x]))
    (hgrow : (w.alloc (.cells #[iv x] 3)).grownBy w' v.ownBlock) (hat : v'.ownBlock = v.ownBlock ∨ v'.ownBlock = some (w.heap.size + 1)) : IU wb v' (ys ++ [x]) w' := by
  have hsz := hgrow.size
  simp only [World.size_alloc] at hsz
  have hu : ∀ k, v.ownBlock = some k → wb.heap.size ≤ k := fun k hk => (h.bi.own.lt k hk).1
  have hbelow : ∀ k, k < wb.heap.size → w'.heap[k]? = w.heap[k]? := fun k hk => by
    have := h.up.size
    exact (hgrow.block k (by simp; omega) (fun e => by have := hu k e.symm; omega)).trans (Below.heap_alloc _ _ _ (by omega))
  refine ⟨⟨by rw [List.length_append, List.length_singleton, List.map_append]; exact hown, fun k hk => ?_⟩, ?_⟩
  · rcases hat with hat | hat
    · have := h.bi.hi_ k (by rw [← hat]; exact hk); omega
    · have := (hown.lt k hk).2; omega
  · exact ⟨hgrow.os.trans h.up.os, hgrow.tape.trans h.up.tape, hgrow.output.trans h.up.output, by have := h.up.size; omega, fun k hk => (hbelow k hk).trans (h.up.block k hk)⟩
/-- A new slice of ints. -/
def NewI (w : World) (ys : List Int) (e : Ending) (w' : World) : Prop :=
  ∃ Av n c gg, e = .returned (.slice Av n c) ∧ n = ys.length ∧ OwnI w.heap.size w'.heap.size w' gg Av n c ys ∧ Below w.heap.size w w'
theorem IU.new {wb ys w} {A : Option Addr} {c : Nat} (h : IU wb (.slice A ys.length c) ys w) (hm : ys.length ≤ 100) (hb : ∀ y ∈ ys, -1000000000000000 ≤ y ∧ y ≤ 1000000000000000) :
    NewI wb ys (.returned (.slice A ys.length c)) w := by
  obtain ⟨A', n', c', g, e, hn, ho, _⟩ := h.bi.owns (by omega) (fun t ht => by have := hb t ht; omega)
  injection e with e1 e2 e3
  subst e1
  subst e2
  subst e3
  exact ⟨_, _, _, g, rfl, rfl, ho, h.up⟩

theorem Sq.minor' {n : Nat} {xss : List (List Int)} {f : Nat → Nat → Int} (h : Sq n xss f) {r c : Nat} (hr : r < n) (hc : c < n) : Sq (n - 1) (minW xss r c n n) (minorN f r c) := by
  obtain ⟨l, rfl⟩ : ∃ l, n = l + 1 := ⟨n - 1, by omega⟩
  exact h.minor (by omega) (by omega)
theorem Ab.minor' {n : Nat} {f : Nat → Nat → Int} (h : Ab n f) (hn : 0 < n) (r c : Nat) : Ab (n - 1) (minorN f r c) := by
  obtain ⟨l, rfl⟩ : ∃ l, n = l + 1 := ⟨n - 1, by omega⟩
  exact h.minor r c
/-- The sums of cofactors of the first i rows. -/
def cofL (k : Nat) (f : Nat → Nat → Int) (i : Nat) : List Int := (List.range i).map (rowC k f)
theorem cofL_succ (k : Nat) (f : Nat → Nat → Int) (i : Nat) : cofL k f (i + 1) = cofL k f i ++ [rowC k f i] := by simp [cofL, List.range_succ]
theorem cofL_len (k : Nat) (f : Nat → Nat → Int) (i : Nat) : (cofL k f i).length = i := by simp [cofL]
theorem cofL_bd {k : Nat} {f : Nat → Nat → Int} (hk : k ≤ 3) (h : Ab k f) {i : Nat} (hi : i ≤ k) : ∀ x ∈ cofL k f i, -1000000 ≤ x ∧ x ≤ 1000000 := fun x hx => by
  obtain ⟨j, hj, rfl⟩ := List.mem_map.1 hx
  have := List.mem_range.1 hj
  exact cofS_bd hk h (by omega) (Nat.le_refl k)

theorem cofS_odd {k : Nat} {f : Nat → Nat → Int} {i j : Nat} (h : (i + j) % 2 = 1) : cofS k f i (j + 1) = cofS k f i j + -(detN (k - 1) (minorN f i j)) := by
  rw [cofS_succ, cofN, sgn, if_pos h]; omega
theorem cofS_even {k : Nat} {f : Nat → Nat → Int} {i j : Nat} (h : ¬ (i + j) % 2 = 1) : cofS k f i (j + 1) = cofS k f i j + detN (k - 1) (minorN f i j) := by
  rw [cofS_succ, cofN, sgn, if_neg h]; omega

end Go.Proofs.Ytcjanlbhgfadpaa

/- What talks pay, plain; a valid talk in memory. -/
namespace Go.Proofs.Ytcjanlbhgfadpaa
open Go.RowKit

/-- The signal of type k; the act behind it; what type k has; what who hears has. -/
def sg (s k : Nat) : Nat := s / 2 ^ k % 2
theorem sg_lt (s k : Nat) : sg s k < 2 := Nat.mod_lt _ (by omega)
def spk (ss ks : List (List Int)) (s r k : Nat) : Int := g2 ss k (sg r (sg s k)) - g2 ks k (sg s k)
def hea1 (xs : List Int) (hs : List (List Int)) (s r k : Nat) : Int := gi xs k * g2 hs k (sg r (sg s k))
def hea (xs : List Int) (hs : List (List Int)) (s r : Nat) : Int := hea1 xs hs s r 0 + hea1 xs hs s r 1
theorem V2.bd {a : List (List Int)} {lo : Int} (v : V2 a lo) {i j : Nat} (hi : i < 2) (hj : j < 2) : lo ≤ g2 a i j ∧ g2 a i j ≤ 9 := by
  have h1 := v.2.1.2
  have h2 := v.2.2.2
  unfold InR at h1 h2
  have a1 : i = 0 ∨ i = 1 := by omega
  have a2 : j = 0 ∨ j = 1 := by omega
  rcases a1 with rfl | rfl <;> rcases a2 with rfl | rfl <;> simp only [g2] <;> omega
theorem V2.vt {a : List (List Int)} {lo : Int} (v : V2 a lo) (h : -9 ≤ lo) : VT a := by
  have h0 := v.2.1
  have h1 := v.2.2
  refine ⟨fun i hi => ⟨?_, fun j hj => ?_⟩, by rw [v.1]; omega, by rw [v.1]; omega, by rw [h0.1]; omega, by rw [h0.1]; omega⟩
  · rw [v.1] at hi
    have : i = 0 ∨ i = 1 := by omega
    rcases this with rfl | rfl
    · rfl
    · rw [h1.1, h0.1]
  · rw [v.1] at hi
    have hj2 : j < 2 := by
      have : i = 0 ∨ i = 1 := by omega
      rcases this with rfl | rfl
      · rw [h0.1] at hj; exact hj
      · rw [h1.1] at hj; exact hj
    have := v.bd hi hj2
    exact ⟨by show -9 ≤ g2 a i j; omega, by show g2 a i j ≤ 9; omega⟩
theorem mul9 {a b : Int} (ha : 1 ≤ a ∧ a ≤ 9) (hb : -9 ≤ b ∧ b ≤ 9) : -81 ≤ a * b ∧ a * b ≤ 81 := by
  obtain ⟨a1, a2⟩ := ha
  obtain ⟨b1, b2⟩ := hb
  have h1 : 0 ≤ (9 - b) * a := Int.mul_nonneg (by omega) (by omega)
  have h2 : 0 ≤ (b + 9) * a := Int.mul_nonneg (by omega) (by omega)
  rw [Int.sub_mul] at h1
  rw [Int.add_mul] at h2
  rw [Int.mul_comm a b]
  omega
theorem VTk.x {xs ss hs ks} (v : VTk xs ss hs ks) {k : Nat} (hk : k < 2) : 1 ≤ gi xs k ∧ gi xs k ≤ 9 := by
  have h1 := v.1.2
  unfold InR at h1
  have a1 : k = 0 ∨ k = 1 := by omega
  rcases a1 with rfl | rfl <;> omega
theorem VTk.hea1 {xs ss hs ks} (v : VTk xs ss hs ks) (s r : Nat) {k : Nat} (hk : k < 2) : -81 ≤ hea1 xs hs s r k ∧ hea1 xs hs s r k ≤ 81 := mul9 (v.x hk) (v.2.2.1.bd hk (sg_lt _ _))
theorem VTk.spk {xs ss hs ks} (v : VTk xs ss hs ks) (s r : Nat) {k : Nat} (hk : k < 2) : -18 ≤ spk ss ks s r k ∧ spk ss ks s r k ≤ 9 := by
  have h1 := v.2.1.bd hk (sg_lt r (sg s k))
  have h2 := v.2.2.2.bd hk (sg_lt s k)
  unfold Go.Proofs.Ytcjanlbhgfadpaa.spk
  omega

/-- Where a valid talk lies. -/
structure TP where
  b1 : Nat
  o1 : Nat
  c1 : Nat
  b2 : Nat
  o2 : Nat
  c2 : Nat
  r2 : Nat → Nat
  q2 : Nat → Nat
  d2 : Nat → Nat
  b3 : Nat
  o3 : Nat
  c3 : Nat
  r3 : Nat → Nat
  q3 : Nat → Nat
  d3 : Nat → Nat
  b4 : Nat
  o4 : Nat
  c4 : Nat
  r4 : Nat → Nat
  q4 : Nat → Nat
  d4 : Nat → Nat
structure TV (p : TP) (w : World) (xs : List Int) (ss hs ks : List (List Int)) : Prop where
  v : VTk xs ss hs ks
  r : TkR w (some ⟨p.b1, p.o1, none⟩) (some ⟨p.b2, p.o2, none⟩) (some ⟨p.b3, p.o3, none⟩) (some ⟨p.b4, p.o4, none⟩) 2 p.c1 2 p.c2 2 p.c3 2 p.c4 xs ss hs ks
  x : ∀ k, k < 2 → w.cell? ⟨p.b1, p.o1 + k, none⟩ = some (.int .i64 (gi xs k))
  t2 : Tab w p.b2 p.o2 p.r2 p.q2 p.d2 2 2 ss
  t3 : Tab w p.b3 p.o3 p.r3 p.q3 p.d3 2 2 hs
  t4 : Tab w p.b4 p.o4 p.r4 p.q4 p.d4 2 2 ks
theorem TV.keep {p w w' xs ss hs ks} (h : TV p w xs ss hs ks) (k : Keep w w') : TV p w' xs ss hs ks :=
  ⟨h.v, h.r.keep k, fun i hi => k _ _ (h.x i hi), h.t2.keep k, h.t3.keep k, h.t4.keep k⟩
theorem TkR.tv {w A1 A2 A3 A4 n1 c1 n2 c2 n3 c3 n4 c4 xs ss hs ks} (h : TkR w A1 A2 A3 A4 n1 c1 n2 c2 n3 c3 n4 c4 xs ss hs ks) (v : VTk xs ss hs ks) :
    ∃ p : TP, (A1 = some ⟨p.b1, p.o1, none⟩ ∧ A2 = some ⟨p.b2, p.o2, none⟩ ∧ A3 = some ⟨p.b3, p.o3, none⟩ ∧ A4 = some ⟨p.b4, p.o4, none⟩) ∧ (n1 = 2 ∧ n2 = 2 ∧ n3 = 2 ∧ n4 = 2) ∧ (c1 = p.c1 ∧ c2 = p.c2 ∧ c3 = p.c3 ∧ c4 = p.c4) ∧ TV p w xs ss hs ks := by
  obtain rfl : n1 = 2 := h.r1.len.symm.trans v.1.1
  obtain rfl : n2 = 2 := h.r2.len.symm.trans v.2.1.1
  obtain rfl : n3 = 2 := h.r3.len.symm.trans v.2.2.1.1
  obtain rfl : n4 = 2 := h.r4.len.symm.trans v.2.2.2.1
  obtain ⟨b1, o1, rfl, hc⟩ := h.r1.at_ (by omega)
  obtain ⟨b2, o2, r2, q2, d2, rfl, t2⟩ := h.r2.tab (v.2.1.vt (by omega))
  obtain ⟨b3, o3, r3, q3, d3, rfl, t3⟩ := h.r3.tab (v.2.2.1.vt (by omega))
  obtain ⟨b4, o4, r4, q4, d4, rfl, t4⟩ := h.r4.tab (v.2.2.2.vt (by omega))
  rw [v.2.1.2.1.1] at t2
  rw [v.2.2.1.2.1.1] at t3
  rw [v.2.2.2.2.1.1] at t4
  exact ⟨⟨b1, o1, c1, b2, o2, c2, r2, q2, d2, b3, o3, c3, r3, q3, d3, b4, o4, c4, r4, q4, d4⟩, ⟨rfl, rfl, rfl, rfl⟩, ⟨rfl, rfl, rfl, rfl⟩, ⟨rfl, rfl, rfl, rfl⟩, v, h, hc, t2, t3, t4⟩
/-- .. in a box g. -/
structure TB (p : TP) (w : World) (g : Nat) (xs : List Int) (ss hs ks : List (List Int)) : Prop where
  box : Blk w g 26 #[.slice (some ⟨p.b1, p.o1, none⟩) 2 p.c1, .slice (some ⟨p.b2, p.o2, none⟩) 2 p.c2, .slice (some ⟨p.b3, p.o3, none⟩) 2 p.c3, .slice (some ⟨p.b4, p.o4, none⟩) 2 p.c4]
  t : TV p w xs ss hs ks
theorem TB.up {p w w' g xs ss hs ks} (h : TB p w g xs ss hs ks) (k : Below w.heap.size w w') : TB p w' g xs ss hs ks := ⟨blk_below h.box k, h.t.keep (Keep.below k)⟩
theorem TB.keep {p w w' g xs ss hs ks} (h : TB p w g xs ss hs ks) (k : Below w.heap.size w w') : TB p w' g xs ss hs ks := h.up k
theorem TB.c0 {p w g xs ss hs ks} (h : TB p w g xs ss hs ks) : w.cell? ⟨g, 0, none⟩ = some (.slice (some ⟨p.b1, p.o1, none⟩) 2 p.c1) := blk_cell h.box rfl
theorem TB.c1 {p w g xs ss hs ks} (h : TB p w g xs ss hs ks) : w.cell? ⟨g, 1, none⟩ = some (.slice (some ⟨p.b2, p.o2, none⟩) 2 p.c2) := blk_cell h.box rfl
theorem TB.c2 {p w g xs ss hs ks} (h : TB p w g xs ss hs ks) : w.cell? ⟨g, 2, none⟩ = some (.slice (some ⟨p.b3, p.o3, none⟩) 2 p.c3) := blk_cell h.box rfl
theorem TB.c3 {p w g xs ss hs ks} (h : TB p w g xs ss hs ks) : w.cell? ⟨g, 3, none⟩ = some (.slice (some ⟨p.b4, p.o4, none⟩) 2 p.c4) := blk_cell h.box rfl
theorem TB.start {p : TP} {w : World} {xs ss hs ks} (h : TV p w xs ss hs ks) : TB p (w.alloc (.cells #[.slice (some ⟨p.b1, p.o1, none⟩) 2 p.c1, .slice (some ⟨p.b2, p.o2, none⟩) 2 p.c2, .slice (some ⟨p.b3, p.o3, none⟩) 2 p.c3, .slice (some ⟨p.b4, p.o4, none⟩) 2 p.c4] 26)) w.heap.size xs ss hs ks := ⟨blk_new _ _ _, h.keep (Keep.below (below_alloc _ _))⟩

end Go.Proofs.Ytcjanlbhgfadpaa

