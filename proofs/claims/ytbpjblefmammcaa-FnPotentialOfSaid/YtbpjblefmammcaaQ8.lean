/- Texts merged: LiftB LiftC Enter Z1 K7 Cmp S6 Y1 Y3 G1 R12 G2 G3 G4 G5 G6 Math84 G7 G7b H1 S5 S7 S8 S9 T3. -/
import Derived.Test.YtbpjblefmammcaaQ7
import Derived.ChangeSlices
/- An argument of bytes, opened. -/
namespace Go.Proofs.Ytbpjblefmammcaa
open Go.ChangeShapes Go.WideShapes Go.ChangeAt Go.RowKit Go.Deep

theorem Try.cells_u8 : Try.prog.cellsOf 5 = 1 := by kernel_rfl
theorem Try.bytes_u8 : Try.prog.bytesOf 5 = 1 := by kernel_rfl
set_option maxRecDepth 100000 in
theorem open_bytes {H : Type} {enc : TypeId × Value → H} {W : World} {v : Value} {d : DataW H} {p : List MemPlace} {b0 : Nat} (hval : Value.okWide Try.prog W .any b0 36 v)
    (h : DataW.Trod enc Try.prog W 0 (fun _ => true) true 36 v d p) (hw : ∀ n ∈ d.weights Try.prog 36, n ≤ reachBytes) :
    ∃ A n c, v = .slice A n c ∧ Bytes W A n c := by
  obtain ⟨a1, len, cap, rfl⟩ := okWide_slice Try.underlying36 hval
  obtain ⟨fuel, hf⟩ := h
  rcases open_ints Try.underlying36 Try.underlying5 Try.cells_u8 hf with ⟨hcs, hx⟩ | ⟨a, len', cap', zs, hcs, _, hl, hm, hz, hx, hcell, hwz⟩
  · simp [Value.cells] at hcs
    obtain ⟨rfl, rfl, rfl⟩ := hcs
    exact ⟨none, 0, 0, rfl, Nat.le_refl _, by omega, fun h => absurd h (by omega)⟩
  · simp [Value.cells] at hcs
    obtain ⟨rfl, rfl, rfl⟩ := hcs
    simp only [Prod.mk.injEq] at hx
    obtain ⟨rfl, rfl⟩ := hx
    simp only [if_true] at hz
    have h1 := hw _ (weights_slice Try.underlying36 (.inl rfl))
    simp only [lits, List.length_map, List.length_take, List.length_drop, Try.bytes_u8, reachBytes] at h1
    refine ⟨some a, len, cap, rfl, hl, by omega, fun hn => ?_⟩
    have hspot : a.spot = none := by simpa [Addr.add] using World.cell?_spot (hcell 0 (by omega))
    obtain ⟨b, o, sp⟩ := a
    simp only at hspot
    subst hspot
    refine ⟨b, o, rfl, fun k hk => ⟨zs.getD k 0, ?_, ?_, by rw [← add_plain]; exact hcell k (by omega)⟩⟩
    · rw [List.getD_eq_getElem?_getD]; have := hwz (zs.getD k 0) (by rw [List.getD_eq_getElem?_getD, List.getElem?_eq_getElem (show k < zs.length by omega)]; simp)
      simp [Lit.wf, IntKind.min, IntKind.max, IntKind.signed, IntKind.bits] at this
      omega
    · rw [List.getD_eq_getElem?_getD]; have := hwz (zs.getD k 0) (by rw [List.getD_eq_getElem?_getD, List.getElem?_eq_getElem (show k < zs.length by omega)]; simp)
      simp [Lit.wf, IntKind.min, IntKind.max, IntKind.signed, IntKind.bits] at this
      omega
end Go.Proofs.Ytbpjblefmammcaa

/- Arguments that are a slice of ints, or an int, opened. -/
namespace Go.Proofs.Ytbpjblefmammcaa
open Go.ChangeShapes Go.WideShapes Go.ChangeAt Go.RowKit Go.Deep

set_option maxRecDepth 100000 in
theorem open_intS {H : Type} {enc : TypeId × Value → H} {W : World} {v : Value} {d : DataW H} {p : List MemPlace} {b0 : Nat} (hval : Value.okWide Try.prog W .any b0 26 v)
    (h : DataW.Trod enc Try.prog W 0 (fun _ => true) true 26 v d p) (hw : ∀ n ∈ d.weights Try.prog 26, n ≤ reachBytes) :
    ∃ A n c xs, v = .slice A n c ∧ Ints W A n c xs := by
  obtain ⟨a1, len, cap, rfl⟩ := okWide_slice Try.underlying26 hval
  obtain ⟨fuel, hf⟩ := h
  rcases open_ints Try.underlying26 Try.underlying3 Try.cells3 hf with ⟨hcs, hx⟩ | ⟨a, len', cap', zs, hcs, _, hl, hm, hz, hx, hcell, hwz⟩
  · simp [Value.cells] at hcs
    obtain ⟨rfl, rfl, rfl⟩ := hcs
    exact ⟨none, 0, 0, [], rfl, rfl, Nat.le_refl _, by omega, fun _ h => by simp at h, fun h => absurd h (by omega)⟩
  · simp [Value.cells] at hcs
    obtain ⟨rfl, rfl, rfl⟩ := hcs
    simp only [Prod.mk.injEq] at hx
    obtain ⟨rfl, rfl⟩ := hx
    simp only [if_true] at hz
    have h1 := hw _ (weights_slice Try.underlying26 (.inl rfl))
    simp only [lits, List.length_map, List.length_take, List.length_drop, Try.bytes3, reachBytes] at h1
    have hlen : (zs.take len).length = len := by rw [List.length_take]; omega
    refine ⟨some a, len, cap, zs.take len, rfl, hlen, hl, by omega, fun x hx => ?_, fun hn => ?_⟩
    · have := hwz x (List.mem_of_mem_take hx)
      simp [Lit.wf, IntKind.min, IntKind.max, IntKind.signed, IntKind.bits] at this
      omega
    have hspot : a.spot = none := by simpa [Addr.add] using World.cell?_spot (hcell 0 (by omega))
    obtain ⟨b, o, sp⟩ := a
    simp only at hspot
    subst hspot
    refine ⟨b, o, rfl, fun k hk => ?_⟩
    rw [← add_plain, hcell k (by omega)]
    congr 2
    rw [gi_get (by rw [hlen]; exact hk), List.getElem_take]
    simp [List.getD, show k < zs.length by omega]

set_option maxRecDepth 100000 in
theorem open_num {H : Type} {enc : TypeId × Value → H} {W : World} {v : Value} {d : DataW H} {p : List MemPlace} {b0 : Nat} (hval : Value.okWide Try.prog W .any b0 3 v)
    (h : DataW.Trod enc Try.prog W 0 (fun _ => true) true 3 v d p) : ∃ x, v = .int .i64 x ∧ Fit x := by
  obtain ⟨x, rfl, _, _, hw⟩ := open_int Try.underlying3 hval h
  refine ⟨x, rfl, ?_⟩
  simp [Lit.wf, IntKind.min, IntKind.max, IntKind.signed, IntKind.bits] at hw
  unfold Fit
  omega
end Go.Proofs.Ytbpjblefmammcaa

/- The program may be entered: facts of its head, once for all laws. -/
namespace Go.Proofs.Ytbpjblefmammcaa

theorem prog_enters : Try.pinned.checked.prog.mayEnter = true := by kernel_rfl
theorem prog_lifts0 : (false == Try.pinned.checked.prog.liftsFinal) = true := by kernel_rfl
theorem prog_make0 : (Try.pinned.checked.prog.make == some .cut) = true := by kernel_rfl
theorem prog_lifts {b : Bool} (h : b = false) : (b == Try.pinned.checked.prog.liftsFinal) = true := by subst h; exact prog_lifts0
theorem prog_make {m : Make} (h : m = .cut) : (Try.pinned.checked.prog.make == some m) = true := by subst h; exact prog_make0
end Go.Proofs.Ytbpjblefmammcaa

/- Squares, by both programs. -/
namespace Go.Proofs.Ytbpjblefmammcaa
open Go.RowKit

/-- A valid table with as many rows as columns. -/
def VQ (a : List (List Int)) : Prop := VT a ∧ a.length = (gr a 0).length

set_option maxHeartbeats 400000 in
theorem validSquare_any (A : Option Addr) (n c : Nat) (a : List (List Int)) (w : World) (hx : IntRows w A n c a) :
    Calls Try.prog 71 #[.slice A n c] w fun e w' => e = .returned (.bool (pb (VQ a))) ∧ Quiet w w' := by
  have hl := hx.len
  by_cases hv : VT a
  · have h1 := hv.n1
    obtain ⟨b, o, rfl, hc⟩ := hx.at_ (by omega)
    obtain ⟨R, cc, h0, -⟩ := hc 0 (by omega)
    simp only [Nat.add_zero] at h0
    have H0 := Lib.hid h0
    have HC := Lib.hid (pb_true hv ▸ validTable_any _ n c a w hx)
    have hn : 0 < n := by omega
    by_cases hs : a.length = (gr a 0).length
    · rw [pb_true (p := VQ a) ⟨hv, hs⟩]
      have hm : (gr a 0).length = n := by omega
      rw [hm] at H0
      clear hm hs hc h0 hv hx h1 hl
      go_enter Try.func71, Try.ntmps71
      go_wp2_with fail
      refine HC.out.mono ?_
      rintro e w1 ⟨rfl, hq⟩
      have h0 := Keep.quiet hq _ _ H0.out
      go_wp2
      go_ret
      exact ⟨rfl, hq⟩
    · rw [pb_false (p := VQ a) (fun h => hs h.2)]
      have hm : ¬ n = (gr a 0).length := by omega
      clear hs hc h0 hv hx h1 hl
      generalize (gr a 0).length = m at *
      have hz : ((n : Int) == (m : Int)) = false := by rw [beq_eq_false_iff_ne]; omega
      go_enter Try.func71, Try.ntmps71
      go_wp2_with fail
      refine HC.out.mono ?_
      rintro e w1 ⟨rfl, hq⟩
      have h0 := Keep.quiet hq _ _ H0.out
      go_wp2
      go_ret
      exact ⟨rfl, hq⟩
  · rw [pb_false (p := VQ a) (fun h => hv h.1)]
    have HC := Lib.hid (pb_false hv ▸ validTable_any A n c a w hx)
    clear hv hx hl
    go_enter Try.func71, Try.ntmps71
    go_wp2_with fail
    refine HC.out.mono ?_
    rintro e w1 ⟨rfl, hq⟩
    go_wp2
    go_ret
    exact ⟨rfl, hq⟩

set_option maxHeartbeats 400000 in
theorem ValidSquare_impl (A : Option Addr) (n c : Nat) (a : List (List Int)) (w : World) (hx : IntRows w A n c a) :
    Calls Try.prog 69 #[.slice A n c] w fun e w' => e = .returned (.bool (pb (VQ a))) ∧ Quiet w w' := by
  have hl := hx.len
  by_cases hv : VT a
  · have h1 := hv.n1
    obtain ⟨b, o, rfl, hc⟩ := hx.at_ (by omega)
    obtain ⟨R, cc, h0, -⟩ := hc 0 (by omega)
    simp only [Nat.add_zero] at h0
    have H0 := Lib.hid h0
    have HC := Lib.hid (pb_true hv ▸ ValidTable_impl _ n c a w hx)
    have hn : 0 < n := by omega
    by_cases hs : a.length = (gr a 0).length
    · rw [pb_true (p := VQ a) ⟨hv, hs⟩]
      have hm : (gr a 0).length = n := by omega
      rw [hm] at H0
      clear hm hs hc h0 hv hx h1 hl
      go_enter Try.func69, Try.ntmps69
      go_wp2_with fail
      refine HC.out.mono ?_
      rintro e w1 ⟨rfl, hq⟩
      have h0 := Keep.quiet hq _ _ H0.out
      go_wp2
      go_ret
      exact ⟨rfl, hq⟩
    · rw [pb_false (p := VQ a) (fun h => hs h.2)]
      have hm : ¬ n = (gr a 0).length := by omega
      clear hs hc h0 hv hx h1 hl
      generalize (gr a 0).length = m at *
      have hz : ((n : Int) == (m : Int)) = false := by rw [beq_eq_false_iff_ne]; omega
      go_enter Try.func69, Try.ntmps69
      go_wp2_with fail
      refine HC.out.mono ?_
      rintro e w1 ⟨rfl, hq⟩
      have h0 := Keep.quiet hq _ _ H0.out
      go_wp2
      go_ret
      exact ⟨rfl, hq⟩
  · rw [pb_false (p := VQ a) (fun h => hv h.1)]
    have HC := Lib.hid (pb_false hv ▸ ValidTable_impl A n c a w hx)
    clear hv hx hl
    go_enter Try.func69, Try.ntmps69
    go_wp2_with fail
    refine HC.out.mono ?_
    rintro e w1 ⟨rfl, hq⟩
    go_wp2
    go_ret
    exact ⟨rfl, hq⟩
end Go.Proofs.Ytbpjblefmammcaa

/- Even tables, by both programs. -/
namespace Go.Proofs.Ytbpjblefmammcaa
open Go.RowKit

theorem VQ.len2 {a : List (List Int)} {n : Nat} (v : VQ a) (hl : a.length = n) : (gr a 0).length = n := by have := v.2; omega
/-- A square that is the same with rows as columns. -/
structure EvP (a : List (List Int)) : Prop where
  q : VQ a
  e : ∀ i j, i < a.length → j < a.length → g2 a i j = g2 a j i

set_option maxRecDepth 100000 in
set_option maxHeartbeats 1600000 in
theorem IsEven_spec (A : Option Addr) (n c : Nat) (a : List (List Int)) (w : World) (hx : IntRows w A n c a) :
    Calls Try.prog 40 #[.slice A n c] w (Ret (.bool (pb (EvP a))) w) := by
  have HX := Lib.hid hx
  have hl := hx.len
  clear hx
  by_cases hv : VQ a
  · have HC := Lib.hid (pb_true hv ▸ validSquare_any A n c a w HX.out)
    have hm : (gr a 0).length = n := by have := hv.2; omega
    have hn3 := hv.1.n3
    rw [hl] at hn3
    obtain ⟨b, o, rb, ro, cc, rfl, tab⟩ := HX.out.tab hv.1
    rw [hm] at tab
    have HT := Lib.hid tab
    have HV := Lib.hid hv
    have HL := Lib.hid hl
    clear tab hm hv hl
    go_enter Try.func40, Try.ntmps40
    go_wp2_with fail
    refine HC.out.mono ?_
    rintro e w1 ⟨rfl, hq⟩
    have HQ1 := Lib.hid hq
    clear hq HC
    go_wp2
    go_loopw [3] (fun i_ wr => ∃ i : Nat, i ≤ n ∧ i_ = .int .i64 i ∧ Hid (∀ k j, k < i → j < k → g2 a k j = g2 a j k) ∧ Hid (Quiet w wr)) (fun i_ _ => n - (intOf i_).toNat)
    case atStart => exact ⟨0, Nat.zero_le _, rfl, Lib.hid (fun _ _ h => absurd h (by omega)), HQ1⟩
    case round =>
      clear HQ1
      obtain ⟨i, hi, rfl, HALL, HQ⟩ := hrel
      by_cases hlt : i < n
      · go_wp2
        go_loopw [4] (fun j_ wi => ∃ j : Nat, j ≤ i ∧ j_ = .int .i64 j ∧ Hid (∀ l, l < j → g2 a i l = g2 a l i) ∧ Hid (Quiet w wi)) (fun j_ _ => i - (intOf j_).toNat)
        case atStart => exact ⟨0, Nat.zero_le _, rfl, Lib.hid (fun _ h => absurd h (by omega)), HQ⟩
        case round =>
          clear HQ
          obtain ⟨j, hj, rfl, HROW, HQ⟩ := hrel
          by_cases hjl : j < i
          · have hjn : j < n := by omega
            have c1 := Keep.quiet HQ.out _ _ (HT.out.row i hlt)
            have c2 := Keep.quiet HQ.out _ _ (HT.out.cell i j hlt hjn)
            have c3 := Keep.quiet HQ.out _ _ (HT.out.row j hjn)
            have c4 := Keep.quiet HQ.out _ _ (HT.out.cell j i hjn hlt)
            by_cases hp : g2 a i j = g2 a j i
            · have HN := Lib.hid (show ∀ l, l < j + 1 → g2 a i l = g2 a l i from fun l hl => by
                by_cases e : l = j
                · subst e; exact hp
                · exact HROW.out l (by omega))
              have hne : (g2 a i j != g2 a j i) = false := by simpa using hp
              clear hp
              generalize g2 a i j = x at *
              generalize g2 a j i = y at *
              go_wp2_with fail
              go_quiet (fail)
              go_wp2
              go_roundw
              case rel => exact ⟨j + 1, by omega, by go_num, HN, Lib.hid (HQ.out.trans ⟨_, rfl⟩)⟩
              case measure => simp [intOf]; omega
            · have HN := Lib.hid (pb_false (p := EvP a) (fun h => hp (h.e i j (by rw [HL.out]; exact hlt) (by rw [HL.out]; exact hjn))))
              have hne : (g2 a i j != g2 a j i) = true := by simpa using hp
              clear hp
              generalize g2 a i j = x at *
              generalize g2 a j i = y at *
              go_wp2_with fail
              go_quiet (fail)
              go_wp2
              go_ret
              exact ⟨ret_bool HN.out.symm, (HQ.out.trans ⟨_, rfl⟩).below⟩
          · obtain rfl : j = i := by omega
            have HN := Lib.hid (show ∀ k l, k < j + 1 → l < k → g2 a k l = g2 a l k from fun k l hk hl => by
                by_cases e : k = j
                · subst e; exact HROW.out l hl
                · exact HALL.out k l (by omega) hl)
            go_wp2
            go_roundw
            case rel => exact ⟨j + 1, by omega, by go_num, HN, HQ⟩
            case measure => simp [intOf]; omega
      · obtain rfl : i = n := by omega
        have HN := Lib.hid (pb_true (p := EvP a) ⟨HV.out, fun k j hk hj => by
          rw [HL.out] at hk hj
          rcases Nat.lt_trichotomy j k with h | h | h
          · exact HALL.out k j hk h
          · rw [h]
          · exact (HALL.out j k hj h).symm⟩)
        go_wp2
        go_ret
        exact ⟨ret_bool HN.out.symm, HQ.out.below⟩
  · have HC := Lib.hid (pb_false hv ▸ validSquare_any A n c a w HX.out)
    have HN := Lib.hid (pb_false (p := EvP a) (fun h => hv h.q))
    clear hv hl
    go_enter Try.func40, Try.ntmps40
    go_wp2_with fail
    refine HC.out.mono ?_
    rintro e w1 ⟨rfl, hq⟩
    go_wp2
    go_ret
    exact ⟨ret_bool HN.out.symm, hq.below⟩

theorem g2_flipT {a : List (List Int)} {n m i j : Nat} (hi : i < m) (hj : j < n) : g2 (flip a n m) i j = g2 a j i := by
  unfold g2
  rw [gr_flip hi, gi_col hj]
  rfl

/-- The table is even just if the arrays of it and it turned are the same. -/
theorem even_cells {a : List (List Int)} (v : VQ a) : EvP a ↔ cs9 (full9 a a.length a.length) = cs9 (full9 (flip a a.length a.length) a.length a.length) := by
  constructor
  · intro h
    refine cs9_congr fun r c _ _ => ?_
    unfold full9
    by_cases e : r < a.length ∧ c < a.length
    · rw [if_pos e, if_pos e, g2_flipT e.1 e.2]; exact h.e r c e.1 e.2
    · rw [if_neg e, if_neg e]
  · intro h
    refine ⟨v, fun i j hi hj => ?_⟩
    have h3 := v.1.n3
    have e1 := cs9_get (full9 a a.length a.length) (i := i) (j := j) (by omega) (by omega)
    have e2 := cs9_get (full9 (flip a a.length a.length) a.length a.length) (i := i) (j := j) (by omega) (by omega)
    rw [h, e2] at e1
    injection e1 with e1
    injection e1 with _ e1
    unfold full9 at e1
    rw [if_pos ⟨hi, hj⟩, if_pos ⟨hi, hj⟩, g2_flipT hi hj] at e1
    exact e1.symm

set_option maxRecDepth 100000 in
set_option maxHeartbeats 1600000 in
theorem IsEven_impl (A : Option Addr) (n c : Nat) (a : List (List Int)) (w : World) (hx : IntRows w A n c a) :
    Calls Try.prog 39 #[.slice A n c] w (Ret (.bool (pb (EvP a))) w) := by
  have HX := Lib.hid hx
  have hl := hx.len
  clear hx
  by_cases hv : VQ a
  · have HC := Lib.hid (pb_true hv ▸ ValidSquare_impl A n c a w HX.out)
    have hm : (gr a 0).length = n := by have := hv.2; omega
    obtain ⟨b, o, rb, ro, cc, rfl, tab⟩ := HX.out.tab hv.1
    rw [hm] at tab
    have HT := Lib.hid tab
    have HEC := Lib.hid (by have := even_cells hv; rw [hl] at this; exact this)
    have HVF := Lib.hid hv
    clear tab hm
    go_enter Try.func39, Try.ntmps39
    go_wp2_with fail
    refine HC.out.mono ?_
    rintro e w1 ⟨rfl, hq⟩
    have HB1 := Lib.hid (show Below w.heap.size w w1 from hq.below)
    clear hq HC
    have HC := Lib.hid (cellsOf_any b o rb ro cc n n c a w1 (HT.out.keep (Keep.below HB1.out)))
    go_wp2_with fail
    refine HC.out.mono ?_
    rintro e w2 ⟨rfl, hb⟩
    have HB2 := Lib.hid (below_up HB1.out hb)
    clear hb HC HB1
    have HC := Lib.hid (turned_any b o rb ro cc n n c a w2 (HT.out.keep (Keep.below HB2.out)))
    go_wp2_with fail
    refine HC.out.mono ?_
    rintro e w3 ⟨rfl, ho, hb, -⟩
    have HB3 := Lib.hid (below_up HB2.out hb)
    have hvf := HVF.out.1.flip
    rw [hl, HVF.out.len2 hl] at hvf
    obtain ⟨b2, o2, rb2, ro2, cc2, e2, t2⟩ := ho.rows.tab hvf
    injection e2 with e2
    injection e2 with e3 e4
    subst e3
    subst e4
    have hm2 : (gr (flip a n n) 0).length = n := by have := HT.out.n1; rw [gr_flip (by omega)]; simp
    rw [hm2] at t2
    have HT2 := Lib.hid t2
    clear ho hb HC HB2 hvf t2 hm2
    have HC := Lib.hid (cellsOf_any _ _ rb2 ro2 cc2 n n n (flip a n n) w3 HT2.out)
    have heq := fun W => eq9_op (full9 a n n) (full9 (flip a n n) n n) W
    have hg : Try.prog.eqGuardType Try.prog.depth 75 = false := by kernel_rfl
    by_cases he : EvP a
    · have HN := Lib.hid (pb_true he)
      rw [pb_true (HEC.out.1 he)] at heq
      clear he hv hl
      generalize full9 a n n = F at *
      generalize full9 (flip a n n) n n = G at *
      go_wp2_with fail
      refine HC.out.mono ?_
      rintro e w4 ⟨rfl, hb⟩
      have HB4 := Lib.hid (below_up HB3.out hb)
      clear hb HC HB3
      go_wp2
      go_ret
      exact ⟨ret_bool HN.out.symm, HB4.out⟩
    · have HN := Lib.hid (pb_false he)
      rw [pb_false (fun h => he (HEC.out.2 h))] at heq
      clear he hv hl
      generalize full9 a n n = F at *
      generalize full9 (flip a n n) n n = G at *
      go_wp2_with fail
      refine HC.out.mono ?_
      rintro e w4 ⟨rfl, hb⟩
      have HB4 := Lib.hid (below_up HB3.out hb)
      clear hb HC HB3
      go_wp2
      go_ret
      exact ⟨ret_bool HN.out.symm, HB4.out⟩
  · have HC := Lib.hid (pb_false hv ▸ ValidSquare_impl A n c a w HX.out)
    have HN := Lib.hid (pb_false (p := EvP a) (fun h => hv h.q))
    clear hv hl
    go_enter Try.func39, Try.ntmps39
    go_wp2_with fail
    refine HC.out.mono ?_
    rintro e w1 ⟨rfl, hq⟩
    go_wp2
    go_ret
    exact ⟨ret_bool HN.out.symm, hq.below⟩
end Go.Proofs.Ytbpjblefmammcaa

/- Ints compared by the library's cmp.Compare. -/
namespace Go.Proofs.Ytbpjblefmammcaa
open Go.RowKit

theorem isNaN_any (x : Int) (w : World) : Calls Try.prog 111 #[.int .i64 x] w fun e w' => e = .returned (.bool false) ∧ w' = w := by
  go_enter Try.func111, Try.ntmps111
  go_wp2
  go_ret
  exact ⟨by first | rfl | simp, rfl⟩
set_option maxHeartbeats 1600000 in
theorem compare_any (x y : Int) (w : World) : Calls Try.prog 106 #[.int .i64 x, .int .i64 y] w fun e w' => e = .returned (.int .i64 (if y < x then 1 else if x < y then -1 else 0)) ∧ w' = w := by
  have HN := Lib.hid (fun z W => isNaN_any z W)
  by_cases h1 : x < y
  · have h2 : ¬ y < x := by omega
    have HE := Lib.hid (show (if y < x then (1 : Int) else if x < y then -1 else 0) = -1 by rw [if_neg h2, if_pos h1])
    rw [HE.out]
    go_enter Try.func106, Try.ntmps106
    go_wp2_with (go_at_call 111; refine (HN.out _ _).mono ?_; rintro e w' ⟨rfl, rfl⟩)
    go_ret
    exact ⟨rfl, rfl⟩
  · by_cases h2 : y < x
    · have HE := Lib.hid (show (if y < x then (1 : Int) else if x < y then -1 else 0) = 1 by rw [if_pos h2])
      rw [HE.out]
      go_enter Try.func106, Try.ntmps106
      go_wp2_with (go_at_call 111; refine (HN.out _ _).mono ?_; rintro e w' ⟨rfl, rfl⟩)
      go_ret
      exact ⟨rfl, rfl⟩
    · have HE := Lib.hid (show (if y < x then (1 : Int) else if x < y then -1 else 0) = 0 by rw [if_neg h2, if_neg h1])
      rw [HE.out]
      go_enter Try.func106, Try.ntmps106
      go_wp2_with (go_at_call 111; refine (HN.out _ _).mono ?_; rintro e w' ⟨rfl, rfl⟩)
      go_ret
      exact ⟨rfl, rfl⟩
end Go.Proofs.Ytbpjblefmammcaa

/- Fractions compared by the harness; less, by both programs. -/
namespace Go.Proofs.Ytbpjblefmammcaa
open Go.RowKit


def lessB (u d v e : Int) : Bool := decide (u * e < v * d)
theorem less_bd {u v : Int} (hu : -1000000000 ≤ u ∧ u ≤ 1000000000) (hv : 0 ≤ v ∧ v ≤ 1000000000) : -1000000000000000000 ≤ u * v ∧ u * v ≤ 1000000000000000000 := by
  have h1 : u * v ≤ 1000000000 * v := Int.mul_le_mul_of_nonneg_right hu.2 hv.1
  have h2 : -1000000000 * v ≤ u * v := Int.mul_le_mul_of_nonneg_right hu.1 hv.1
  omega


set_option maxHeartbeats 400000 in
theorem compareFracs_any (u d v e : Int) (w : World) (hu : -1000000000 ≤ u ∧ u ≤ 1000000000) (hv : -1000000000 ≤ v ∧ v ≤ 1000000000) (hd : 0 ≤ d ∧ d ≤ 1000000000) (he : 0 ≤ e ∧ e ≤ 1000000000) :
    Calls Try.prog 89 #[.agg #[.int .i64 u, .int .i64 d], .agg #[.int .i64 v, .int .i64 e]] w (Ret (.int .i64 (if v * d < u * e then 1 else if u * e < v * d then -1 else 0)) w) := by
  obtain ⟨p1, p2⟩ := less_bd hu he
  obtain ⟨p3, p4⟩ := less_bd hv hd
  have b0 := blk_old (blk_new w 44 #[.int .i64 u, .int .i64 d]) (.cells #[.int .i64 v, .int .i64 e] 44)
  have b1 := blk_new (w.alloc (.cells #[.int .i64 u, .int .i64 d] 44)) 44 #[.int .i64 v, .int .i64 e]
  have HB := Lib.hid (below_up (below_alloc w (.cells #[.int .i64 u, .int .i64 d] 44)) (below_alloc _ (.cells #[.int .i64 v, .int .i64 e] 44)))
  rw [World.size_alloc] at b1
  have c0 := blk_cell b0 (i := 0) rfl
  have c1 := blk_cell b0 (i := 1) rfl
  have c2 := blk_cell b1 (i := 0) rfl
  have c3 := blk_cell b1 (i := 1) rfl
  have HC := Lib.hid (fun W => compare_any (u * e) (v * d) W)
  generalize hX : (if v * d < u * e then (1 : Int) else if u * e < v * d then -1 else 0) = X at *
  clear hX
  go_enter Try.func89, Try.ntmps89
  go_wp2_with fail
  refine (HC.out _).mono ?_
  rintro e w2 ⟨rfl, rfl⟩
  go_wp2
  go_ret
  exact ⟨rfl, HB.out⟩
set_option maxHeartbeats 400000 in
theorem less_impl (u d v e : Int) (w : World) (hu : -1000000000 ≤ u ∧ u ≤ 1000000000) (hv : -1000000000 ≤ v ∧ v ≤ 1000000000) (hd : 0 ≤ d ∧ d ≤ 1000000000) (he : 0 ≤ e ∧ e ≤ 1000000000) :
    Calls Try.prog 58 #[.agg #[.int .i64 u, .int .i64 d], .agg #[.int .i64 v, .int .i64 e]] w (Ret (.bool (lessB u d v e)) w) := by
  have HC := Lib.hid (fun W => compareFracs_any u d v e W hu hv hd he)
  have b0 := blk_old (blk_new w 44 #[.int .i64 u, .int .i64 d]) (.cells #[.int .i64 v, .int .i64 e] 44)
  have b1 := blk_new (w.alloc (.cells #[.int .i64 u, .int .i64 d] 44)) 44 #[.int .i64 v, .int .i64 e]
  have HB := Lib.hid (below_up (below_alloc w (.cells #[.int .i64 u, .int .i64 d] 44)) (below_alloc _ (.cells #[.int .i64 v, .int .i64 e] 44)))
  rw [World.size_alloc] at b1
  have c0 := blk_cell b0 (i := 0) rfl
  have c1 := blk_cell b0 (i := 1) rfl
  have c2 := blk_cell b1 (i := 0) rfl
  have c3 := blk_cell b1 (i := 1) rfl
  have HL : Hid (lessB u d v e = decide ((if v * d < u * e then (1 : Int) else if u * e < v * d then -1 else 0) < 0)) := Lib.hid (by
    unfold lessB
    by_cases h1 : v * d < u * e
    · rw [if_pos h1, decide_eq_false (by omega)]; rfl
    · rw [if_neg h1]
      by_cases h2 : u * e < v * d
      · rw [if_pos h2, decide_eq_true h2]; rfl
      · rw [if_neg h2, decide_eq_false h2]; rfl)
  rw [HL.out]
  generalize (if v * d < u * e then (1 : Int) else if u * e < v * d then -1 else 0) = X at *
  go_enter Try.func58, Try.ntmps58
  go_wp2_with fail
  generalize (w.alloc (.cells #[.int .i64 u, .int .i64 d] 44)).alloc (.cells #[.int .i64 v, .int .i64 e] 44) = w1 at *
  refine (HC.out _).mono ?_
  rintro e w2 ⟨rfl, hb⟩
  go_wp2
  go_ret
  exact ⟨rfl, below_up HB.out hb⟩
end Go.Proofs.Ytbpjblefmammcaa

/- Small functions of the laws. -/
namespace Go.Proofs.Ytbpjblefmammcaa
open Go.RowKit

set_option maxHeartbeats 400000 in
theorem lessOf_any (u d v e : Int) (w : World) (hu : -1000000000 ≤ u ∧ u ≤ 1000000000) (hv : -1000000000 ≤ v ∧ v ≤ 1000000000) (hd : 0 ≤ d ∧ d ≤ 1000000000) (he : 0 ≤ e ∧ e ≤ 1000000000) :
    Calls Try.prog 27 #[.agg #[.int .i64 u, .int .i64 d], .agg #[.int .i64 v, .int .i64 e]] w (Ret (.bool (lessB u d v e)) w) := by
  obtain ⟨p1, p2⟩ := less_bd hu he
  obtain ⟨p3, p4⟩ := less_bd hv hd
  have b0 := blk_old (blk_new w 44 #[.int .i64 u, .int .i64 d]) (.cells #[.int .i64 v, .int .i64 e] 44)
  have b1 := blk_new (w.alloc (.cells #[.int .i64 u, .int .i64 d] 44)) 44 #[.int .i64 v, .int .i64 e]
  have HB := Lib.hid (below_up (below_alloc w (.cells #[.int .i64 u, .int .i64 d] 44)) (below_alloc _ (.cells #[.int .i64 v, .int .i64 e] 44)))
  rw [World.size_alloc] at b1
  have c0 := blk_cell b0 (i := 0) rfl
  have c1 := blk_cell b0 (i := 1) rfl
  have c2 := blk_cell b1 (i := 0) rfl
  have c3 := blk_cell b1 (i := 1) rfl
  go_enter Try.func27, Try.ntmps27
  go_wp2
  go_ret
  exact ⟨rfl, HB.out⟩
set_option maxHeartbeats 400000 in
theorem total_any (A : Option Addr) (n c : Nat) (xs : List Int) (w : World) (hx : Ints w A n c xs) (hs : SumOk xs) :
    Calls Try.prog 21 #[.slice A n c] w fun e w' => e = .returned (.int .i64 (tot xs)) ∧ Quiet w w' := by
  have hl : n ≤ 1000 := by rw [← hx.len]; exact hs.n
  have HX := Lib.hid hx
  have HS := Lib.hid hs
  have HL := Lib.hid hx.len
  clear hx hs
  go_enter Try.func21, Try.ntmps21
  go_wp2
  go_loopw [3, 4] (fun s i wr => ∃ k : Nat, k ≤ n ∧ i = .int .i64 k ∧ s = .int .i64 (sm xs k) ∧ Quiet w wr) (fun _ i _ => n - (intOf i).toNat)
  case atStart => exact ⟨0, Nat.zero_le _, rfl, rfl, Quiet.refl _⟩
  case round =>
    obtain ⟨k, hk, rfl, rfl, q, rfl⟩ := hrel
    by_cases hlt : k < n
    · obtain ⟨b, o, rfl, hc⟩ := HX.out.at_ (by omega)
      have c1 := hc k hlt
      obtain ⟨b1, b2⟩ := HS.out.sm (k := k) (by rw [HL.out]; exact hk)
      obtain ⟨b3, b4⟩ := HS.out.bd k (by rw [HL.out]; exact hlt)
      clear hc
      go_wp2
      go_roundw
      case rel => exact ⟨k + 1, by omega, by go_num, rfl, ⟨_, rfl⟩⟩
      case measure => simp [intOf]; omega
    · obtain rfl : k = n := by omega
      go_wp2
      go_ret
      exact ⟨ret_int (by rw [tot, HL.out]), ⟨_, rfl⟩⟩

set_option maxHeartbeats 400000 in
theorem equalInts_any (A B : Option Addr) (n c m d : Nat) (xs ys : List Int) (w : World) (hx : Ints w A n c xs) (hy : Ints w B m d ys) :
    Calls Try.prog 20 #[.slice A n c, .slice B m d] w fun e w' => e = .returned (.bool (eqI xs ys)) ∧ Quiet w w' := by
  obtain ⟨lx, cx, mx, _, hx⟩ := hx
  obtain ⟨ly, cy, my, _, hy⟩ := hy
  have Lx := Lib.hid lx
  have Ly := Lib.hid ly
  clear lx ly
  by_cases hnm : n = m
  · subst hnm
    go_enter Try.func20, Try.ntmps20
    go_wp2
    go_loopw [5] (fun i wr => ∃ k : Nat, k ≤ n ∧ i = .int .i64 k ∧ (∀ j, j < k → gi xs j = gi ys j) ∧ Quiet w wr) (fun i _ => n - (intOf i).toNat)
    case atStart => exact ⟨0, Nat.zero_le _, rfl, fun _ h => absurd h (by omega), Quiet.refl _⟩
    case round =>
      obtain ⟨k, hk, rfl, hall, q, rfl⟩ := hrel
      have HALL := Lib.hid hall
      clear hall
      by_cases hlt : k < n
      · obtain ⟨b, o, rfl, hcx⟩ := hx (by omega)
        obtain ⟨b2, o2, rfl, hcy⟩ := hy (by omega)
        have c1 := hcx k hlt
        have c2 := hcy k hlt
        clear hx hy hcx hcy
        by_cases he : gi xs k = gi ys k
        · have he' : (gi xs k != gi ys k) = false := by simp [he]
          have HE := Lib.hid he
          clear he
          go_wp2
          go_quiet (fail)
          go_wp2
          go_roundw
          case rel => exact ⟨k + 1, by omega, by go_num, fun j hj => by
            by_cases hjk : j < k
            · exact HALL.out j hjk
            · obtain rfl : j = k := by omega
              exact HE.out, ⟨_, rfl⟩⟩
          case measure => simp [intOf]; omega
        · have he' : (gi xs k != gi ys k) = true := by simpa using he
          go_wp2
          go_quiet (fail)
          go_wp2
          go_ret
          exact ⟨ret_bool (eqI_no he).symm, Quiet.two _ _ _⟩
      · obtain rfl : k = n := by omega
        go_wp2
        go_ret
        exact ⟨ret_bool (eqI_yes (by rw [Lx.out, Ly.out]) fun j hj => HALL.out j (by rw [Lx.out] at hj; exact hj)).symm, ⟨_, rfl⟩⟩
  · go_enter Try.func20, Try.ntmps20
    go_wp2
    go_ret
    exact ⟨ret_bool (eqI_len (by rw [Lx.out, Ly.out]; exact hnm)).symm, Quiet.refl _⟩

end Go.Proofs.Ytbpjblefmammcaa

/- Rows compared, by the laws; squares turned. -/
namespace Go.Proofs.Ytbpjblefmammcaa
open Go.RowKit

set_option maxHeartbeats 400000 in
theorem equalRows_any (A B : Option Addr) (n c m d : Nat) (xs ys : List (List Int)) (w : World) (hx : IntRows w A n c xs) (hy : IntRows w B m d ys) :
    Calls Try.prog 34 #[.slice A n c, .slice B m d] w fun e w' => e = .returned (.bool (eqRR xs ys)) ∧ Quiet w w' := by
  obtain ⟨lx, cx, mx, hx⟩ := hx
  obtain ⟨ly, cy, my, hy⟩ := hy
  have Lx := Lib.hid lx
  have Ly := Lib.hid ly
  clear lx ly
  by_cases hnm : n = m
  · subst hnm
    go_enter Try.func34, Try.ntmps34
    go_wp2
    go_loopw [5] (fun i wr => ∃ k : Nat, k ≤ n ∧ i = .int .i64 k ∧ Hid (∀ j, j < k → eqI (gr xs j) (gr ys j) = true) ∧ Quiet w wr) (fun i _ => n - (intOf i).toNat)
    case atStart => exact ⟨0, Nat.zero_le _, rfl, Lib.hid (fun _ h => absurd h (by omega)), Quiet.refl _⟩
    case round =>
      obtain ⟨k, hk, rfl, HALL, q, rfl⟩ := hrel
      by_cases hlt : k < n
      · obtain ⟨b, o, rfl, hcx⟩ := hx (by omega)
        obtain ⟨b2, o2, rfl, hcy⟩ := hy (by omega)
        obtain ⟨R, cc, c1, hR⟩ := hcx k hlt
        obtain ⟨R2, cc2, c2, hR2⟩ := hcy k hlt
        clear hx hy hcx hcy
        cases he : eqI (gr xs k) (gr ys k) with
        | true =>
          have HE := Lib.hid he
          have hq := fun W (hW : Quiet w W) => (he ▸ equalInts_any _ _ _ _ _ _ _ _ W (hR.keep (Keep.quiet hW)) (hR2.keep (Keep.quiet hW)))
          clear he
          go_wp2
          go_quiet ((go_at_call 20; exact quiet_fit (hq _ (by first | exact ⟨_, rfl⟩ | exact Quiet.two _ _ _)) (fun m => by first | exact drewN_to1 _ _ _ | exact drewN_to2 _ _ _ _)))
          go_wp2
          go_roundw
          case rel => exact ⟨k + 1, by omega, by go_num, Lib.hid (fun j hj => by
            by_cases hjk : j < k
            · exact HALL.out j hjk
            · obtain rfl : j = k := by omega
              exact HE.out), ⟨_, rfl⟩⟩
          case measure => simp [intOf]; omega
        | false =>
          have HE := Lib.hid he
          have hq := fun W (hW : Quiet w W) => (he ▸ equalInts_any _ _ _ _ _ _ _ _ W (hR.keep (Keep.quiet hW)) (hR2.keep (Keep.quiet hW)))
          clear he
          go_wp2
          go_quiet ((go_at_call 20; exact quiet_fit (hq _ (by first | exact ⟨_, rfl⟩ | exact Quiet.two _ _ _)) (fun m => by first | exact drewN_to1 _ _ _ | exact drewN_to2 _ _ _ _)))
          go_wp2
          go_ret
          exact ⟨ret_bool (eqRR_no HE.out).symm, Quiet.two _ _ _⟩
      · obtain rfl : k = n := by omega
        go_wp2
        go_ret
        exact ⟨ret_bool (eqRR_yes (by rw [Lx.out, Ly.out]) fun j hj => HALL.out j (by rw [Lx.out] at hj; exact hj)).symm, ⟨_, rfl⟩⟩
  · go_enter Try.func34, Try.ntmps34
    go_wp2
    go_ret
    exact ⟨ret_bool (eqRR_len (by rw [Lx.out, Ly.out]; exact hnm)).symm, Quiet.refl _⟩
theorem VQ.m {a : List (List Int)} {k : Nat} (v : VQ a) (h : a.length = k) : (gr a 0).length = k := by have := v.2; omega
theorem VQ.flip {a : List (List Int)} {k : Nat} (v : VQ a) (h : a.length = k) : VQ (flip a k k) := by
  have h1 := v.1.flip
  rw [h, v.m h] at h1
  refine ⟨h1, ?_⟩
  have := v.1.n1
  rw [flip_len, gr_flip (by omega)]
  simp
theorem VQ.even {a : List (List Int)} {k : Nat} (v : VQ a) (h : a.length = k) : Even a k := by have h1 := v.1.even; rw [v.m h] at h1; exact h1
theorem VQ.evenP {a : List (List Int)} {k : Nat} (v : VQ a) (h : a.length = k) : EvP a ↔ Go.Proofs.Ytbpjblefmammcaa.flip a k k = a := by
  constructor
  · intro e
    refine gr_ext (by rw [flip_len, h]) fun i hi => ?_
    rw [flip_len] at hi
    refine gi_ext (by rw [gr_flip hi, (v.1.rows i (by omega)).1, v.m h]; simp) fun j hj => ?_
    rw [gr_flip hi] at hj
    have hj' : j < k := by simpa using hj
    have := g2_flipT (a := a) (n := k) (m := k) hi hj'
    unfold g2 at this
    rw [this]
    exact e.e j i (by omega) (by omega)
  · intro e
    refine ⟨v, fun i j hi hj => ?_⟩
    have := g2_flipT (a := a) (n := k) (m := k) (i := i) (j := j) (by omega) (by omega)
    rw [e] at this
    exact this

end Go.Proofs.Ytbpjblefmammcaa

/- A table spoiled now and then, beside the box of a game. -/
namespace Go.Proofs.Ytbpjblefmammcaa
open Go.RowKit

theorem box_ne_box {w : World} {h g : Nat} {t u : TypeId} {cs ds : Array Value} (a : Blk w h t cs) (b : Blk w g u ds) (ne : t ≠ u) : h ≠ g := by
  rintro rfl
  unfold Blk at a b
  rw [a] at b
  injection b with b
  injection b with _ b _
  exact ne b
theorem box_ne_int {w : World} {h b o : Nat} {t : TypeId} {cs : Array Value} {k : IntKind} (a : Blk w h t cs) (hcs : ∀ (k : Nat) (v : Value), cs[k]? = some v → ∀ (kk : IntKind) (x : Int), v ≠ Value.int kk x) (hc : ∃ y, w.cell? ⟨b, o, none⟩ = some (.int k y)) : h ≠ b := by
  rintro rfl
  obtain ⟨y, hc⟩ := hc
  unfold Blk at a
  simp only [World.cell?, a] at hc
  exact hcs o _ hc k y rfl
theorem box_ne_own {w : World} {h base n : Nat} {t e : TypeId} {cs : Array Value} {v : Value} {xs : List Value} (a : Blk w h t cs) (own : w.ownsRow base e 1 v n xs) (ne : t ≠ e) : v.ownBlock ≠ some h := by
  rcases own.2 with ⟨rfl, _⟩ | ⟨g, cap, cur, rfl, _, hg, _⟩
  · simp [Value.ownBlock]
  · intro e1
    have : g = h := by simpa [Value.ownBlock] using e1
    subst this
    unfold Blk at a
    rw [a] at hg
    injection hg with hg
    injection hg with _ hg _
    exact ne hg
def SpoilH (w0 wb : World) (g : Nat) (A : Option Addr) (l c p h : Nat) (cs : Array Value) (e : Ending) (w' : World) : Prop :=
  ∃ v' vs' xss' p', e = .returned v' ∧ Small xss' ∧ TO w0 wb g A l c p' v' vs' xss' w' ∧ p' ≤ p + 2 ∧ Blk w' h 29 cs

set_option maxHeartbeats 1000000 in
theorem spoilH_any (w0 wb w : World) (h : Nat) (cs : Array Value) (g : Nat) (A : Option Addr) (l c p : Nat) (Av : Option Addr) (cv : Nat) (vs : List Value) (xss : List (List Int)) (ht : TO w0 wb g A l c p (.slice Av xss.length cv) vs xss w) (hp : p < 900000000) (hs : Small xss) (h7 : xss.length ≤ 7) (hbx : Blk w h 29 cs) (hcs : ∀ (k : Nat) (v : Value), cs[k]? = some v → ∀ (kk : IntKind) (x : Int), v ≠ Value.int kk x) :
    Calls Try.prog 82 #[.pointer (some ⟨g, 0, none⟩), .slice Av xss.length cv] w (SpoilH w0 wb g A l c p h cs) := by
  have HT := Lib.hid ht
  have HBX := Lib.hid hbx
  have HCS := Lib.hid hcs
  have HNE := Lib.hid (box_ne_box (h := h) (g := g) hbx ht.rd.box (by decide))
  have HC := Lib.hid (pick_any w0 w g A l c p 40 ht.rd (by omega))
  have HS := Lib.hid hs
  clear ht hs hbx hcs
  go_enter Try.func82, Try.ntmps82
  go_wp2_with fail
  refine HC.out.mono ?_
  rintro e w2 ⟨k, rfl, hk1, _, hr, z, hw⟩
  have hone := Rdr.one (g := g) w (.int .i64 (p + 1 : Nat)) z
  rw [← hw] at hone
  obtain ⟨k0, k1⟩ := hk1 (by omega)
  have HT2 := Lib.hid (HT.out.one hr hone)
  have HB2 := Lib.hid (show Blk w2 h 29 cs from (hone.block h HNE.out).trans HBX.out)
  clear hr hone hw hk1 HC HT HBX
  by_cases e0 : k = 0
  · subst e0
    by_cases hx0 : 0 < xss.length
    · obtain ⟨b0, c0, R0, cc0, ev, hb0, hv0, hcell0⟩ := HT2.out.bo.head hx0
      injection ev with ev1 _ ev3
      subst ev1
      subst ev3
      by_cases hx1 : 0 < (gr xss 0).length
      · obtain ⟨b, o, cc, ev, _⟩ := HT2.out.set0 hx0 hx1 (x := 10) (by omega)
        rw [hv0] at ev
        injection ev with ev
        injection ev with ev1 _ ev3
        subst ev1
        subst ev3
        have HTA := Lib.hid ((HT2.out.below (below_alloc w2 (.cells #[iv 10, iv (-10)] 3))).below ((Below.refl _ _).drew))
        have HBA := Lib.hid (show Blk (w2.alloc (.cells #[iv 10, iv (-10)] 3)).drew h 29 cs from blk_below HB2.out (below_alloc w2 (.cells #[iv 10, iv (-10)] 3)).drew)
        have HCA := Lib.hid ((HTA.out.bo.head_at hx0).trans hv0)
        have HIA := Lib.hid (Ints.two w2 10 (-10)).drew
        have hgl := HT2.out.gl
        have hgw := HT2.out.up.size
        go_wp2_with fail
        go_region_held3 (fun W => W.cell? ⟨b0, 0, none⟩ = some (.slice (some ⟨b, o, none⟩) (gr xss 0).length cc0)) (first | exact hcell0 | exact HCA.out | exact HCB.out | exact HCC.out)
          (first
          | (go_at_call 52; refine (one_any w0 _ g A l c (p + 1) _ 2 2 [10, -10] ?_ (by omega) ?_ (by omega) ?_).mono ?_; exact HTA.out.rd; exact HIA.out; (intro b' o' e'; injection e' with e'; injection e' with e1 _ _; omega); rintro e w4 ⟨x, rfl, hx, hr, ho⟩; have HT4 := Lib.hid (HTA.out.one hr ho); have HCB := Lib.hid ((HT4.out.bo.head_at hx0).trans hv0); have hx3 : -1000 ≤ x ∧ x ≤ 1000 := (by simp at hx; omega); obtain ⟨⟨y, hc5⟩, hf5, hT5⟩ := HT4.out.set0_at hx0 hx1 hv0 hx3; have HT5 := Lib.hid hT5; have HBD := Lib.hid (show Blk w4 h 29 cs from (ho.block h HNE.out).trans HBA.out); have HBE := Lib.hid (blk_other HBD.out (p := ⟨b, o, none⟩) (box_ne_int (k := .i64) HBD.out HCS.out ⟨_, hc5⟩) (.int .i64 x)); have HCC := Lib.hid ((HT5.out.bo.head_at (by rw [List.length_set]; exact hx0)).trans hv0); clear hr ho hT5 hx HTA HIA))
        go_wp2
        go_ret
        exact ⟨_, _, _, _, rfl, HS.out.set0 hx0 hx3, HT5.out, by omega, HBE.out⟩
      · go_wp2
        go_ret
        exact ⟨_, _, _, _, rfl, HS.out, HT2.out, by omega, HB2.out⟩
    · go_wp2
      go_ret
      exact ⟨_, _, _, _, rfl, HS.out, HT2.out, by omega, HB2.out⟩
  · by_cases e1 : k = 1
    · subst e1
      have HI := Lib.hid (HT2.out.lit 1)
      have HNO := Lib.hid (box_ne_own HB2.out HT2.out.bo.own (by decide))
      have HBF := Lib.hid (blk_below (blk_below HB2.out (below_alloc w2 (.cells #[iv 1] 3))) (below_alloc _ (.cells #[.slice (some ⟨w2.heap.size, 0, none⟩) 1 1] 26)))
      clear HT2
      have hWs : (w2.alloc (.cells #[iv 1] 3)).heap.size = w2.heap.size + 1 := by simp
      obtain ⟨Ar, nr, cr, gg, e, hn, ho, _⟩ := HI.out.bi.owns (by simp) (fun x hx => by simp at hx; omega)
      injection e with e1 e2 e3
      subst e1
      subst e2
      subst e3
      have HO := Lib.hid ho
      have hb := below_alloc (w2.alloc (.cells #[iv 1] 3)) (.cells #[.slice (some ⟨w2.heap.size, 0, none⟩) 1 1] 26)
      have HB4 := Lib.hid (HI.out.bo.below hb).own
      have HN := Lib.hid (cell_one_new (w2.alloc (.cells #[iv 1] 3)) (.slice (some ⟨w2.heap.size, 0, none⟩) 1 1) 26)
      have hHs := HI.out.hs
      have hlh := HI.out.lh
      clear hb ho hn
      obtain ⟨i0, hi0, hz0, hz1, hz2⟩ := info_parts Try.info_row
      go_wp2_with (at_builtin; refine wpList_append_own_at _ rfl _ _ 22 rfl wb.heap.size 26 i0 (.slice none 0 0) 1 24 Try.underlying22 hi0 hz0 hz1 hz2 rfl (by decide) _ xss.length vs rfl HB4.out ⟨w2.heap.size + 1, 0, none⟩ 1 1 [.slice (some ⟨w2.heap.size, 0, none⟩) 1 1] rfl rfl ?d1 ?d2 ?d3 ?d4 ?d5 ?_)
      case d1 => have := HN.out; rw [hWs] at this; exact this
      case d2 => intro u hu; simp at hu; subst hu; rfl
      case d3 => unfold maxLen; omega
      case d4 => omega
      case d5 => simp; omega
      intro v' w5 hown' hgrow _ hat
      have HT5 := Lib.hid (TI.done (w := w2.alloc (.cells #[iv 1] 3)) (ys := [1]) (xss := xss) (v := .slice Av xss.length cv) (v' := v') (vs := vs) (Ar := some ⟨w2.heap.size, 0, none⟩) (cr := 1) HI.out HO.out hown' hgrow (by simpa using hat))
      have HBG := Lib.hid (show Blk w5 h 29 cs from (hgrow.block h (blk_lt HBF.out) (fun e => HNO.out e.symm)).trans HBF.out)
      clear HB4 HN hown' hgrow hat HI HO
      go_wp2
      go_ret
      exact ⟨_, _, _, _, rfl, HS.out.snoc h7 (by omega), HT5.out, by omega, HBG.out⟩
    · by_cases e2 : k = 2
      · subst e2
        have HF := Lib.hid HT2.out.fresh
        have HBF := Lib.hid (blk_below HB2.out (below_alloc w2 (.cells #[] 26)))
        go_wp2
        go_ret
        exact ⟨_, _, _, _, rfl, Small.nil, HF.out, by omega, HBF.out⟩
      · go_wp2
        go_ret
        exact ⟨_, _, _, _, rfl, HS.out, HT2.out, by omega, HB2.out⟩
end Go.Proofs.Ytbpjblefmammcaa

/- Tables with the other signs, by the model. -/
namespace Go.Proofs.Ytbpjblefmammcaa
open Go.RowKit

/-- A new table, as append has made it. -/
def NewB (w : World) (yss : List (List Int)) (e : Ending) (w' : World) : Prop :=
  ∃ Av c vs, e = .returned (.slice Av yss.length c) ∧ Bld w.heap.size w'.heap.size w' (.slice Av yss.length c) vs yss ∧ Below w.heap.size w w'
set_option maxHeartbeats 1000000 in
theorem negatedB_any (A : Option Addr) (n c : Nat) (xss : List (List Int)) (w : World) (hx : IntRows w A n c xss) (hs : Small xss) :
    Calls Try.prog 81 #[.slice A n c] w (NewB w (mtab xss xss.length)) := by
  have HS := Lib.hid hs
  have HS0 := Lib.hid (TM.start w)
  have hn8 := hs.n
  have HX := Lib.hid hx
  have LX := Lib.hid hx.len
  have hnx : n ≤ 8 := by rw [← hx.len]; exact hn8
  clear hx hs
  go_enter Try.func81, Try.ntmps81
  go_wp2
  go_loopw [3, 4] (fun v i wr => ∃ (k : Nat) (vs : List Value), k ≤ n ∧ i = .int .i64 k ∧ Hid (TM w v vs (mtab xss k) wr)) (fun _ i _ => n - (intOf i).toNat)
  case atStart => exact ⟨0, [], Nat.zero_le _, rfl, HS0⟩
  case round =>
    clear HS0
    obtain ⟨k, vs, hk, rfl, HT⟩ := hrel
    obtain ⟨Av, cv, rfl⟩ := HT.out.bo.form
    by_cases hlt : k < n
    · have HI := Lib.hid HT.out.row
      have hkx : k < xss.length := by rw [LX.out]; exact hlt
      clear HT
      obtain ⟨b, o, rfl, hc⟩ := HX.out.at_ (by omega)
      have HC := Lib.hid (hc k hlt)
      clear hc
      go_wp2
      generalize wr.heap.size = N at *
      go_loopw [5, 6] (fun u i wi => ∃ (j : Nat), j ≤ (gr xss k).length ∧ i = .int .i64 j ∧ Hid (TN w N (.slice Av (mtab xss k).length cv) vs (mtab xss k) u (mrow (gr xss k) j) wi)) (fun _ i _ => (gr xss k).length - (intOf i).toNat)
      case atStart => exact ⟨0, Nat.zero_le _, rfl, HI⟩
      case round =>
        clear HI
        obtain ⟨j, hj, rfl, HI⟩ := hrel
        obtain ⟨Au, cu, rfl⟩ := HI.out.bi.form
        obtain ⟨R, cc, c1, hR⟩ := HC.out
        have c2 := HI.out.up.cell (p := ⟨b, o + k, none⟩) (World.block_lt_of_cell? _ _ c1)
        rw [c1] at c2
        have hR2 := hR.keep (Keep.below HI.out.up)
        by_cases hlm : j < (gr xss k).length
        · obtain ⟨b', o', rfl, hc'⟩ := hR2.at_ (by omega)
          have c3 := hc' j hlm
          have hbd := HS.out.gi hkx hlm
          clear hc' hR hR2
          generalize hval : gi (gr xss k) j = x at *
          have HV := Lib.hid hval
          clear hval
          have hb := below_alloc wr (.cells #[iv (-x)] 3)
          have HB4 := Lib.hid (HI.out.bi.below hb).own
          have HN := Lib.hid (cell_one_new wr (iv (-x)) 3)
          have hHs := HI.out.hs
          have hlh := HI.out.lh
          have HML := Lib.hid (mrow_len (gr xss k) j)
          generalize hys : mrow (gr xss k) j = ys at *
          have HYS := Lib.hid hys
          clear hb hys
          have hrl := (HS.out.rows _ (gr_mem hkx)).1
          obtain ⟨i0, hi0, hz0, hz1, hz2⟩ := info_parts Try.info_int
          go_wp2_with (at_builtin; refine wpList_append_own_at _ rfl _ _ 26 rfl N 3 i0 (.int .i64 0) 1 8 Try.underlying26 hi0 hz0 hz1 hz2 rfl (by decide) _ ys.length (ys.map iv) rfl HB4.out ⟨wr.heap.size, 0, none⟩ 1 1 [iv (-x)] rfl rfl ?c1 ?c2 ?c3 ?c4 ?c5 ?_)
          case c1 => exact HN.out
          case c2 => intro u hu; simp at hu; subst hu; rfl
          case c3 => have := HML.out; unfold maxLen; omega
          case c4 => have := HML.out; omega
          case c5 => simp; omega
          intro v' w5 hown' hgrow _ hat
          have HI5 := Lib.hid (HI.out.push hown' hgrow (by simpa using hat))
          clear HB4 HN hown' hgrow hat HI
          go_wp2
          go_roundw
          case rel => exact ⟨j + 1, by omega, by go_num, Lib.hid (by rw [mrow_succ, HYS.out, HV.out]; exact HI5.out)⟩
          case measure => simp [intOf]; omega
        · obtain rfl : j = (gr xss k).length := by omega
          have HBD := Lib.hid (HS.out.mrow_bd hkx (Nat.le_refl _))
          obtain ⟨Ar, nr, cr, gg, e, rfl, ho, _⟩ := HI.out.bi.owns (by rw [mrow_len]; have := (HS.out.rows _ (gr_mem hkx)).1; omega) (fun x hx => by have := HBD.out x hx; omega)
          injection e with e1 _ e3
          subst e1
          subst e3
          have HO := Lib.hid ho
          have HML := Lib.hid (mrow_len (gr xss k) (gr xss k).length)
          have HTL := Lib.hid (mtab_len xss k)
          have hb := below_alloc wr (.cells #[.slice Au (mrow (gr xss k) (gr xss k).length).length cu] 26)
          have HB4 := Lib.hid (HI.out.bo.below hb).own
          have HN := Lib.hid (cell_one_new wr (.slice Au (mrow (gr xss k) (gr xss k).length).length cu) 26)
          have hHs := HI.out.hs
          have hlh := HI.out.lh
          have HMS := Lib.hid (mtab_succ xss k)
          clear hb ho hR hR2
          generalize mrow (gr xss k) (gr xss k).length = ys at *
          generalize mtab xss k = ms at *
          obtain ⟨i0, hi0, hz0, hz1, hz2⟩ := info_parts Try.info_row
          go_wp2_with (at_builtin; refine wpList_append_own_at _ rfl _ _ 22 rfl w.heap.size 26 i0 (.slice none 0 0) 1 24 Try.underlying22 hi0 hz0 hz1 hz2 rfl (by decide) _ ms.length vs rfl HB4.out ⟨wr.heap.size, 0, none⟩ 1 1 [.slice Au ys.length cu] rfl rfl ?d1 ?d2 ?d3 ?d4 ?d5 ?_)
          case d2 => rfl
          case d3 => have := HTL.out; unfold maxLen; omega
          case d4 => have := HTL.out; omega
          case d5 => omega
          intro v' w5 hown' hgrow _ hat
          have HT5 := Lib.hid (HI.out.done HO.out hown' hgrow (by simpa using hat))
          clear HB4 HN hown' hgrow hat HI HO
          go_wp2
          go_roundw
          case rel => exact ⟨k + 1, _, by omega, by go_num, Lib.hid (by rw [HMS.out]; exact HT5.out)⟩
          case measure => simp [intOf]; omega
    · obtain rfl : k = n := by omega
      have HO := Lib.hid HT.out.bo
      have HB := Lib.hid HT.out.up
      clear HT
      go_wp2
      go_ret
      exact ⟨_, _, _, by rw [← LX.out]; rfl, by have h := HO.out; rw [← LX.out] at h; exact h, HB.out⟩
theorem negated_any (A : Option Addr) (n c : Nat) (xss : List (List Int)) (w : World) (hx : IntRows w A n c xss) (hs : Small xss) :
    Calls Try.prog 81 #[.slice A n c] w (NewT w (mtab xss xss.length)) :=
  (negatedB_any A n c xss w hx hs).mono fun e w' ⟨Av, cv, vs, he, hb, hk⟩ => by
    obtain ⟨A', n', c', gg, e1, hn', hown⟩ := hb.owns (by rw [mtab_len]; have := hs.n; omega)
    exact ⟨A', n', c', gg, by rw [he, e1], hn', hown, hk⟩
end Go.Proofs.Ytbpjblefmammcaa

/- A game under way: both tables and the box. -/
namespace Go.Proofs.Ytbpjblefmammcaa
open Go.RowKit

theorem add_at (b o i : Nat) : (⟨b, o, none⟩ : Addr).add i = ⟨b, o + i, none⟩ := by unfold Addr.add; split <;> simp_all
theorem OwnI.mono_lo {lo hi lo' w b A n c xs} (h : OwnI lo hi w b A n c xs) (k : lo' ≤ lo) : OwnI lo' hi w b A n c xs := h.mono k (Nat.le_refl _)
theorem ownsRow_lo {w : World} {base base' : Nat} {e : TypeId} {size n : Nat} {v : Value} {xs : List Value} (h : w.ownsRow base e size v n xs) (k : base' ≤ base) : w.ownsRow base' e size v n xs := by
  obtain ⟨h1, h2⟩ := h
  refine ⟨h1, ?_⟩
  rcases h2 with h2 | ⟨g, cap, cur, rfl, hb, r⟩
  · exact .inl h2
  · exact .inr ⟨g, cap, cur, rfl, Nat.le_trans k hb, r⟩
theorem Bld.mono_lo {lo hi lo' w v vs xss} (h : Bld lo hi w v vs xss) (k : lo' ≤ lo) : Bld lo' hi w v vs xss := by
  obtain ⟨h1, h4, G, R, C, h2, h3⟩ := h
  exact ⟨ownsRow_lo h1 k, h4, G, R, C, fun j hj => ⟨(h2 j hj).1, (h2 j hj).2.1.mono_lo k, (h2 j hj).2.2⟩, h3⟩

/-- A number of a table that append has made is set. -/
theorem Bld.set_at {lo hi w v vs xss} (h : Bld lo hi w v vs xss) {i j : Nat} (h0 : i < xss.length) (h1 : j < (gr xss i).length) {x : Int} (hx : -9223372036854775808 ≤ x ∧ x ≤ 9223372036854775807) :
    ∃ bo c b o cc, v = .slice (some ⟨bo, 0, none⟩) xss.length c ∧ w.cell? ⟨bo, i, none⟩ = some (.slice (some ⟨b, o, none⟩) (gr xss i).length cc) ∧ lo ≤ b ∧ b < hi ∧ (∃ y, w.cell? ⟨b, o + j, none⟩ = some (.int .i64 y)) ∧ w.frozen? ⟨b, o + j, none⟩ = false ∧
      Bld lo hi (w.setCell ⟨b, o + j, none⟩ (.int .i64 x)) v vs (xss.set i ((gr xss i).set j x)) := by
  obtain ⟨ho, h4, G, R, C, h2, h3⟩ := h
  obtain ⟨q0, q1, q2⟩ := h2 i h0
  obtain ⟨o, e, l1, l2, hf⟩ := q1.own (by omega)
  have q1' := q1
  rw [e] at q1' q0
  have hset := q1'.set h1 hx
  obtain ⟨b', o', e', hc⟩ := q1.ints.at_ (by omega)
  rw [e] at e'
  injection e' with e'
  injection e' with e1 e2 _
  have hc0 := hc j h1
  rw [← e1, ← e2] at hc0
  have hlen : ∀ k, (gr (xss.set i ((gr xss i).set j x)) k).length = (gr xss k).length := fun k => by
    by_cases e : k = i
    · subst e; rw [gr_set_eq h0, List.length_set]
    · rw [gr_set_ne e]
  have hv : ∃ bo c, v = .slice (some ⟨bo, 0, none⟩) xss.length c ∧ w.cell? ⟨bo, i, none⟩ = vs[i]? := by
    rcases ho.2 with ⟨_, h5⟩ | ⟨g, cap, cur, rfl, hb, _⟩
    · omega
    · have hcx := ho.cells (g := g) rfl i _ q0
      rw [add_at, Nat.zero_add] at hcx
      exact ⟨g, cap, rfl, by rw [q0]; exact hcx⟩
  obtain ⟨bo, c, ev, hcv⟩ := hv
  refine ⟨bo, c, G i, o, C i, ev, by rw [hcv, q0], l1, l2, ⟨_, hc0⟩, hf j h1, ⟨?_, h4, G, R, C, fun k hk => ?_, fun k l hkl hl hk0 hl0 => ?_⟩⟩
  · rw [List.length_set]
    exact blk_kept ho fun g hg => Below.heap_setCell _ _ _ _ (fun e => q2 (by omega) (by rw [hg, e]))
  · rw [List.length_set] at hk
    rw [hlen]
    obtain ⟨a, b, c⟩ := h2 k hk
    refine ⟨a, ?_, c⟩
    by_cases ek : k = i
    · subst ek
      rw [gr_set_eq h0, e]
      exact hset
    · rw [gr_set_ne ek]
      exact b.of_block fun hp => Below.heap_setCell _ _ _ _ (by
        show G k ≠ G i
        rcases Nat.lt_or_gt_of_ne ek with hl | hl
        · exact h3 k i hl h0 hp (by omega)
        · exact Ne.symm (h3 i k hl hk (by omega) hp))
  · rw [List.length_set] at hl
    rw [hlen] at hk0 hl0
    exact h3 k l hkl hl hk0 hl0
/-- .. and of a table of one's own. -/
theorem OwnR.set_at {lo hi w b A n c xss} (h : OwnR lo hi w b A n c xss) {i j : Nat} (h0 : i < n) (h1 : j < (gr xss i).length) {x : Int} (hx : -9223372036854775808 ≤ x ∧ x ≤ 9223372036854775807) :
    ∃ o g r cc, A = some ⟨b, o, none⟩ ∧ w.cell? ⟨b, o + i, none⟩ = some (.slice (some ⟨g, r, none⟩) (gr xss i).length cc) ∧ lo ≤ g ∧ g < hi ∧ (∃ y, w.cell? ⟨g, r + j, none⟩ = some (.int .i64 y)) ∧ w.frozen? ⟨g, r + j, none⟩ = false ∧
      OwnR lo hi (w.setCell ⟨g, r + j, none⟩ (.int .i64 x)) b A n c (xss.set i ((gr xss i).set j x)) := by
  obtain ⟨o, g, R, cc, e, c1, hI, hset⟩ := h.at_row h0
  obtain ⟨r, e2, l1, l2, hf⟩ := hI.own (by omega)
  subst e2
  obtain ⟨b', o', e', hc⟩ := hI.ints.at_ (by omega)
  injection e' with e'
  injection e' with e3 e4 _
  subst e3
  subst e4
  exact ⟨o, g, r, cc, e, c1, l1, l2, ⟨_, hc j h1⟩, hf j h1, (hset _ _ (by rw [List.length_set]) (hI.set h1 hx) (fun hz => absurd hz (by omega)) ((One.refl g w).set _ _)).1⟩

/-- Rows of as many numbers. -/
structure Shp (n m : Nat) (xss : List (List Int)) : Prop where
  len : xss.length = n
  row : ∀ k, k < n → (gr xss k).length = m
  sm : Small xss
theorem Shp.set {n m xss} (h : Shp n m xss) {i j : Nat} (hi : i < n) {x : Int} (hx : -1000 ≤ x ∧ x ≤ 1000) : Shp n m (xss.set i ((gr xss i).set j x)) := by
  have hl := h.len
  have hm := h.sm.rows _ (gr_mem (xs := xss) (k := i) (by omega))
  refine ⟨by rw [List.length_set]; exact hl, fun k hk => ?_, ⟨by rw [List.length_set]; exact h.sm.n, fun r hr => ?_⟩⟩
  · by_cases e : k = i
    · subst e; rw [gr_set_eq (by omega), List.length_set]; exact h.row k hk
    · rw [gr_set_ne e]; exact h.row k hk
  · rcases List.mem_or_eq_of_mem_set hr with hr | rfl
    · exact h.sm.rows r hr
    · refine ⟨by rw [List.length_set]; exact hm.1, fun y hy => ?_⟩
      rcases List.mem_or_eq_of_mem_set hy with hy | rfl
      · exact hm.2 y hy
      · exact hx

structure GO (w0 w3 : World) (mid g : Nat) (A : Option Addr) (l c p : Nat) (Aa : Option Addr) (na ca ga : Nat) (xa : List (List Int)) (v : Value) (vs : List Value) (xb : List (List Int)) (h : Nat) (w : World) : Prop where
  rd : Rdr w0 w g A l c p
  a : OwnR w3.heap.size mid w ga Aa na ca xa
  b : Bld mid w.heap.size w v vs xb
  gl : g < w3.heap.size
  lm : w3.heap.size ≤ mid
  mw : mid ≤ w.heap.size
  up : w3.grownBy w (some g)
  box : Blk w h 29 #[.slice Aa na ca, v]
theorem box_slices (Aa Bb : Option Addr) (na ca nb cb : Nat) : ∀ (k : Nat) (v : Value), (#[.slice Aa na ca, .slice Bb nb cb] : Array Value)[k]? = some v → ∀ (kk : IntKind) (x : Int), v ≠ Value.int kk x := by
  intro k v h kk x e
  subst e
  match k, h with
  | 0, h => simp at h
  | 1, h => simp at h
  | k + 2, h => simp at h
theorem GO.below {w0 w3 mid g A l c p Aa na ca ga xa v vs xb h w w'} (o : GO w0 w3 mid g A l c p Aa na ca ga xa v vs xb h w) (k : Below w.heap.size w w') : GO w0 w3 mid g A l c p Aa na ca ga xa v vs xb h w' :=
  ⟨o.rd.below_ k, o.a.below k, (o.b.below k).mono k.size, o.gl, o.lm, Nat.le_trans o.mw k.size, grown_below o.up k, blk_below o.box k⟩
theorem GO.one {w0 w3 mid g A l c p p' Aa na ca ga xa v vs xb h w w'} (o : GO w0 w3 mid g A l c p Aa na ca ga xa v vs xb h w) (hr : Rdr w0 w' g A l c p') (ho : One g w w') : GO w0 w3 mid g A l c p' Aa na ca ga xa v vs xb h w' := by
  have hgl := o.gl
  have hlm := o.lm
  have hne : h ≠ g := box_ne_box o.box o.rd.box (by decide)
  exact ⟨hr, o.a.of_blocks fun k h1 _ _ => ho.block k (by omega), by rw [ho.size]; exact o.b.of_blocks fun k h1 _ _ => ho.block k (by omega), o.gl, o.lm, by rw [ho.size]; exact o.mw,
    ⟨ho.os.trans o.up.os, ho.tape.trans o.up.tape, ho.output.trans o.up.output, by rw [ho.size]; exact o.up.size, fun k hk hne' => (ho.block k (fun e => hne' (by rw [e]))).trans (o.up.block k hk hne')⟩, (ho.block h hne).trans o.box⟩
/-- A cell from the third world on is set: what has its memory elsewhere stays. -/
theorem GO.setA {w0 w3 mid g A l c p Aa na ca ga xa Bb nb cb vs xb h w} (o : GO w0 w3 mid g A l c p Aa na ca ga xa (.slice Bb nb cb) vs xb h w) {i j : Nat} (h0 : i < na) (h1 : j < (gr xa i).length) {x : Int} (hx : -1000 ≤ x ∧ x ≤ 1000) :
    ∃ oo gg r cc, Aa = some ⟨ga, oo, none⟩ ∧ w.cell? ⟨ga, oo + i, none⟩ = some (.slice (some ⟨gg, r, none⟩) (gr xa i).length cc) ∧ (∃ y, w.cell? ⟨gg, r + j, none⟩ = some (.int .i64 y)) ∧ w.frozen? ⟨gg, r + j, none⟩ = false ∧
      GO w0 w3 mid g A l c p Aa na ca ga (xa.set i ((gr xa i).set j x)) (.slice Bb nb cb) vs xb h (w.setCell ⟨gg, r + j, none⟩ (.int .i64 x)) := by
  obtain ⟨oo, gg, r, cc, e, c1, l1, l2, hy, hf, hown⟩ := o.a.set_at h0 h1 (x := x) (by omega)
  have hgl := o.gl
  have hlm := o.lm
  have hs : (w.setCell ⟨gg, r + j, none⟩ (.int .i64 x)).heap.size = w.heap.size := by simp [World.setCell]
  have hne : h ≠ gg := box_ne_int (k := .i64) o.box (box_slices _ _ _ _ _ _) hy
  refine ⟨oo, gg, r, cc, e, c1, hy, hf, ⟨⟨blk_other o.rd.box (by show g ≠ gg; omega) _, o.rd.bytes, o.rd.below.setCell (by show w0.heap.size ≤ gg; have := o.rd.lt; omega) _, o.rd.lt, o.rd.small⟩, hown, by rw [hs]; exact o.b.of_blocks fun k h1 _ _ => Below.heap_setCell _ _ _ _ (by show k ≠ gg; omega), o.gl, o.lm, by rw [hs]; exact o.mw, ?_, blk_other o.box hne _⟩⟩
  exact ⟨o.up.os, o.up.tape, o.up.output, by rw [hs]; exact o.up.size, fun k hk hne => (Below.heap_setCell _ _ _ _ (by show k ≠ gg; omega)).trans (o.up.block k hk hne)⟩
theorem GO.setB {w0 w3 mid g A l c p Aa na ca ga xa Bb nb cb vs xb h w} (o : GO w0 w3 mid g A l c p Aa na ca ga xa (.slice Bb nb cb) vs xb h w) {i j : Nat} (h0 : i < xb.length) (h1 : j < (gr xb i).length) {x : Int} (hx : -1000 ≤ x ∧ x ≤ 1000) :
    ∃ bo gg r cc, Bb = some ⟨bo, 0, none⟩ ∧ w.cell? ⟨bo, i, none⟩ = some (.slice (some ⟨gg, r, none⟩) (gr xb i).length cc) ∧ (∃ y, w.cell? ⟨gg, r + j, none⟩ = some (.int .i64 y)) ∧ w.frozen? ⟨gg, r + j, none⟩ = false ∧
      GO w0 w3 mid g A l c p Aa na ca ga xa (.slice Bb nb cb) vs (xb.set i ((gr xb i).set j x)) h (w.setCell ⟨gg, r + j, none⟩ (.int .i64 x)) := by
  obtain ⟨bo, c', gg, r, cc, e, c1, l1, l2, hy, hf, hown⟩ := o.b.set_at h0 h1 (x := x) (by omega)
  have hgl := o.gl
  have hlm := o.lm
  have hs : (w.setCell ⟨gg, r + j, none⟩ (.int .i64 x)).heap.size = w.heap.size := by simp [World.setCell]
  have hne : h ≠ gg := box_ne_int (k := .i64) o.box (box_slices _ _ _ _ _ _) hy
  injection e with e1 _ _
  refine ⟨bo, gg, r, cc, e1, c1, hy, hf, ⟨⟨blk_other o.rd.box (by show g ≠ gg; omega) _, o.rd.bytes, o.rd.below.setCell (by show w0.heap.size ≤ gg; have := o.rd.lt; omega) _, o.rd.lt, o.rd.small⟩, o.a.of_blocks fun k _ h2 _ => Below.heap_setCell _ _ _ _ (by show k ≠ gg; omega), by rw [hs]; exact hown, o.gl, o.lm, by rw [hs]; exact o.mw, ?_, blk_other o.box hne _⟩⟩
  exact ⟨o.up.os, o.up.tape, o.up.output, by rw [hs]; exact o.up.size, fun k hk hne => (Below.heap_setCell _ _ _ _ (by show k ≠ gg; omega)).trans (o.up.block k hk hne)⟩
end Go.Proofs.Ytbpjblefmammcaa

/- A game under way: the box is written; the second table is appended to. -/
namespace Go.Proofs.Ytbpjblefmammcaa
open Go.RowKit

theorem Bld.set_box {lo hi w v vs xss} {h : Nat} {cs : Array Value} (b : Bld lo hi w v vs xss) (hb : Blk w h 29 cs) (hcs : ∀ (k : Nat) (v : Value), cs[k]? = some v → ∀ (kk : IntKind) (x : Int), v ≠ Value.int kk x) (i : Nat) (u : Value) :
    Bld lo hi (w.setCell ⟨h, i, none⟩ u) v vs xss := by
  have hno := box_ne_own hb b.own (by decide)
  obtain ⟨ho, h4, G, R, C, h2, h3⟩ := b
  refine ⟨blk_kept ho fun g hg => Below.heap_setCell _ _ _ _ (fun e => hno (by rw [hg, e])), h4, G, R, C, fun k hk => ⟨(h2 k hk).1, (h2 k hk).2.1.of_block fun hp => Below.heap_setCell _ _ _ _ ?_, (h2 k hk).2.2⟩, h3⟩
  show G k ≠ h
  obtain ⟨o, e, _, _, _⟩ := (h2 k hk).2.1.own hp
  obtain ⟨b', o', e', hc⟩ := (h2 k hk).2.1.ints.at_ hp
  rw [e] at e'
  injection e' with e'
  injection e' with e1 _ _
  rw [e1]
  exact Ne.symm (box_ne_int (k := .i64) hb hcs ⟨_, hc 0 hp⟩)

/-- The box's second cell is written. -/
theorem GO.rebox {w0 w3 mid g A l c p Aa na ca ga xa Bb nb cb vs xb h w Nb nn cn vs' xb'} (o : GO w0 w3 mid g A l c p Aa na ca ga xa (.slice Bb nb cb) vs xb h w) (hmh : mid ≤ h) (hb : Bld mid w.heap.size w (.slice Nb nn cn) vs' xb') :
    GO w0 w3 mid g A l c p Aa na ca ga xa (.slice Nb nn cn) vs' xb' h (w.setCell ⟨h, 1, none⟩ (.slice Nb nn cn)) := by
  have hgl := o.gl
  have hlm := o.lm
  have hs : (w.setCell ⟨h, 1, none⟩ (.slice Nb nn cn)).heap.size = w.heap.size := by simp [World.setCell]
  refine ⟨⟨blk_other o.rd.box (by show g ≠ h; omega) _, o.rd.bytes, o.rd.below.setCell (by show w0.heap.size ≤ h; have := o.rd.lt; omega) _, o.rd.lt, o.rd.small⟩, o.a.of_blocks fun k _ h2 _ => Below.heap_setCell _ _ _ _ (by show k ≠ h; omega), by rw [hs]; exact hb.set_box o.box (box_slices _ _ _ _ _ _) 1 _, o.gl, o.lm, by rw [hs]; exact o.mw, ?_, blk_set o.box 1 _⟩
  exact ⟨o.up.os, o.up.tape, o.up.output, by rw [hs]; exact o.up.size, fun k hk hne => (Below.heap_setCell _ _ _ _ (by show k ≠ h; omega)).trans (o.up.block k hk hne)⟩

def cutW (w : World) (m : Nat) : World := { w with heap := w.heap.extract 0 m }
theorem cutW_size {w : World} {m : Nat} (h : m ≤ w.heap.size) : (cutW w m).heap.size = m := by simp [cutW]; omega
theorem cutW_block {w : World} {m k : Nat} (hm : m ≤ w.heap.size) (h : k < m) : (cutW w m).heap[k]? = w.heap[k]? := by
  simp only [cutW]
  rw [Array.getElem?_extract]
  simp
  omega
theorem GO.to {w0 w3 mid g A l c p Aa na ca ga xa v vs xb h w} (o : GO w0 w3 mid g A l c p Aa na ca ga xa v vs xb h w) : TO w0 (cutW w mid) g A l c p v vs xb w := by
  have hgl := o.gl
  have hlm := o.lm
  have hs := cutW_size o.mw
  refine ⟨o.rd, by rw [hs]; exact o.b, by rw [hs]; omega, ⟨rfl, rfl, rfl, by rw [hs]; exact o.mw, fun k hk _ => ?_⟩⟩
  rw [hs] at hk
  exact (cutW_block o.mw hk).symm
/-- What lies below mid is as it was. -/
theorem grown_cut {w w' : World} {mid g k : Nat} (u : (cutW w mid).grownBy w' (some g)) (hm : mid ≤ w.heap.size) (hk : k < mid) (hne : k ≠ g) : w'.heap[k]? = w.heap[k]? := by
  have := u.block k (by rw [cutW_size hm]; exact hk) (fun e => hne (by injection e))
  rw [this, cutW_block hm hk]
theorem Bld.small_rows {lo hi w v vs xss} (b : Bld lo hi w v vs xss) (s : Small xss) : ∃ A n c, v = .slice A n c ∧ IntRows w A n c xss := by
  obtain ⟨A, n, c, g, e, _, ho⟩ := b.owns (by have := s.n; omega)
  exact ⟨A, n, c, e, ho.rows⟩

/-- A game drawn: its tables are of small numbers, in memory of their own behind st. -/
def GameOut (w0 : World) (st g : Nat) (A : Option Addr) (l c p : Nat) (e : Ending) (w' : World) : Prop :=
  ∃ Aa na ca ga ha xa Ab nb cb gb hb xb lo p', e = .returned (.agg #[.slice Aa na ca, .slice Ab nb cb]) ∧ Small xa ∧ Small xb ∧ st < lo ∧ OwnR lo ha w' ga Aa na ca xa ∧ OwnR lo hb w' gb Ab nb cb xb ∧ Rdr w0 w' g A l c p' ∧ p' ≤ p + 100
/-- At the end: the box's cells go to the result's. -/
theorem game_done {w0 w3 mid g A l c p p0 Aa na ca ga xa w r} {v : Value} {vs : List Value} {xb : List (List Int)} {Ab : Option Addr} {nb cb : Nat} (rd : Rdr w0 w g A l c p) (a : OwnR w3 mid w ga Aa na ca xa) (b : Bld mid w.heap.size w (.slice Ab nb cb) vs xb)
    (sa : Small xa) (sb : Small xb) (hr : r < w3) (hlm : w3 ≤ mid) (hg : g ≠ r) (hw : w0.heap.size ≤ r) (hp : p ≤ p0 + 100) (x y : Value) (hv : v = .agg #[.slice Aa na ca, .slice Ab nb cb]) :
    GameOut w0 r g A l c p0 (.returned v) ((w.setCell ⟨r, 0, none⟩ x).setCell ⟨r, 1, none⟩ y) := by
  have hs : ((w.setCell ⟨r, 0, none⟩ x).setCell ⟨r, 1, none⟩ y).heap.size = w.heap.size := by simp [World.setCell]
  have hk : ∀ k, k ≠ r → ((w.setCell ⟨r, 0, none⟩ x).setCell ⟨r, 1, none⟩ y).heap[k]? = w.heap[k]? := fun k hne => (Below.heap_setCell _ _ _ _ hne).trans (Below.heap_setCell _ _ _ _ hne)
  have hbb := b.of_blocks (w' := (w.setCell ⟨r, 0, none⟩ x).setCell ⟨r, 1, none⟩ y) fun k h1 _ _ => hk k (by omega)
  obtain ⟨A', n', c', gb, e, _, hown⟩ := hbb.owns (by have := sb.n; omega)
  injection e with e1 e2 e3
  subst e1
  subst e2
  subst e3
  exact ⟨Aa, na, ca, ga, mid, xa, Ab, nb, cb, gb, w.heap.size, xb, w3, p, by rw [hv], sa, sb, hr, a.of_blocks fun k h1 _ _ => hk k (by omega), hown.mono hlm (Nat.le_refl _), ⟨blk_other (blk_other rd.box (p := ⟨r, 0, none⟩) hg _) (p := ⟨r, 1, none⟩) hg _, rd.bytes, (rd.below.setCell (p := ⟨r, 0, none⟩) hw _).setCell (p := ⟨r, 1, none⟩) hw _, rd.lt, rd.small⟩, hp⟩
end Go.Proofs.Ytbpjblefmammcaa

/- A game drawn. -/
namespace Go.Proofs.Ytbpjblefmammcaa
open Go.RowKit

set_option maxRecDepth 100000 in
set_option maxHeartbeats 3200000 in
theorem someGame_any (w0 w : World) (g : Nat) (A : Option Addr) (l c p : Nat) (hrd : Rdr w0 w g A l c p) (hp : p < 700000000) :
    Calls Try.prog 51 #[.pointer (some ⟨g, 0, none⟩)] w (GameOut w0 w.heap.size g A l c p) := by
  obtain ⟨i0, hi0, hz0, hz1, hz2⟩ := info_parts Try.info_row
  have HR := Lib.hid (hrd.below_ (below_alloc w (.cells #[.slice none 0 0, .slice none 0 0] 29)))
  have HB0 := Lib.hid (blk_new w 29 #[.slice none 0 0, .slice none 0 0])
  have HNE := Lib.hid (show g ≠ w.heap.size from by have := blk_lt hrd.box; omega)
  have HW0 := Lib.hid hrd.below.size
  have HI1 : Hid (Ints ((w.alloc (.cells #[.slice none 0 0, .slice none 0 0] 29)).alloc (.cells #[iv 2, iv 3, iv 2, iv 1] 3)) (some ⟨w.heap.size + 1, 0, none⟩) 4 4 [2, 3, 2, 1]) := Lib.hid (by
    have h := Ints.lit (w.alloc (.cells #[.slice none 0 0, .slice none 0 0] 29)) [2, 3, 2, 1] (by decide) (by decide)
    rw [World.size_alloc] at h
    exact h)
  clear hrd
  go_enter Try.func51, Try.ntmps51
  go_wp2_with fail
  have HZ0 : Hid (w.heap.size < (w.alloc (.cells #[.slice none 0 0, .slice none 0 0] 29)).heap.size) := Lib.hid (by simp)
  have HZ1 : Hid ((w.alloc (.cells #[.slice none 0 0, .slice none 0 0] 29)).heap.size ≤ w.heap.size + 1) := Lib.hid (by simp)
  generalize hr0 : w.heap.size = r0 at *
  have HR0 := Lib.hid hr0
  clear hr0
  generalize w.alloc (.cells #[.slice none 0 0, .slice none 0 0] 29) = W0 at *
  have H1 := Lib.hid (one_lit w0 W0 _ g A l c p (r0 + 1) 4 [2, 3, 2, 1] HR.out (by omega) (below_alloc W0 (.cells #[iv 2, iv 3, iv 2, iv 1] 3)) HZ1.out HI1.out (by omega))
  refine H1.out.mono ?_
  rintro e w1 ⟨n, rfl, hx, hr, hgr⟩
  have hn1 : 1 ≤ n ∧ n ≤ 3 := by simp at hx; omega
  have HG1 := Lib.hid hgr
  have H2 := Lib.hid (one_lit w0 w1 _ g A l c (p + 1) w1.heap.size 4 [2, 3, 2, 1] hr (by omega) (below_alloc w1 (.cells #[iv 2, iv 3, iv 2, iv 1] 3)) (Nat.le_refl _) (Ints.lit w1 [2, 3, 2, 1] (by decide) (by decide)) (by omega))
  clear hx hr hgr H1 HR HI1
  go_wp2_with fail
  refine H2.out.mono ?_
  rintro e w2 ⟨m, rfl, hx, hr, hgr⟩
  have hm1 : 1 ≤ m ∧ m ≤ 3 := by simp at hx; omega
  have HG2 := Lib.hid (grown_trans HG1.out hgr)
  have H3 := Lib.hid (one_lit w0 w2 _ g A l c (p + 2) w2.heap.size 3 [3, 1, 9] hr (by omega) (below_alloc w2 (.cells #[iv 3, iv 1, iv 9] 3)) (Nat.le_refl _) (Ints.lit w2 [3, 1, 9] (by decide) (by decide)) (by omega))
  clear hx hr hgr H2 HG1
  go_wp2_with fail
  refine H3.out.mono ?_
  rintro e w3 ⟨x, rfl, hx, hr, hgr⟩
  have hx1 : 1 ≤ x ∧ x ≤ 9 := by simp at hx; omega
  have HG3 := Lib.hid (grown_trans HG2.out hgr)
  obtain ⟨n, rfl⟩ := Int.eq_ofNat_of_zero_le (show 0 ≤ n by omega)
  obtain ⟨m, rfl⟩ := Int.eq_ofNat_of_zero_le (show 0 ≤ m by omega)
  obtain ⟨hn1, hn3⟩ := hn1
  obtain ⟨hm1, hm3⟩ := hm1
  have HRS := Lib.hid (show r0 < w3.heap.size by have := HG3.out.size; have := HZ0.out; omega)
  have HRB := Lib.hid (show Blk w3 r0 29 #[.slice none 0 0, .slice none 0 0] from (HG3.out.block r0 HZ0.out (fun e => HNE.out (by injection e with e; exact e.symm))).trans HB0.out)
  have H4 := Lib.hid (tableOf_any w0 w3 g A l c (p + 3) n m (-x) x hr (by omega) (by omega) (by omega) (by omega) (by omega) (by omega))
  clear hx hr hgr H3 HG2 HG3 HB0 HZ0 HZ1
  go_wp2_with fail
  refine H4.out.mono ?_
  rintro e w4 ⟨Av, cv, vsa, xa, p4, rfl, hla, hxa, hto, hp4⟩
  have HSA := Lib.hid (show Shp n m xa from ⟨hla, fun k hk => (hxa _ (gr_mem (by omega))).1, ⟨by omega, fun r hr => ⟨by have := (hxa r hr).1; omega, fun y hy => by have := (hxa r hr).2 y hy; omega⟩⟩⟩)
  obtain ⟨A', n', c', ga, e, -, hown⟩ := hto.bo.owns (by omega)
  injection e with e1 e2 e3
  subst e1
  subst e2
  subst e3
  have HOA := Lib.hid hown
  have HTA := Lib.hid hto
  have H5 := Lib.hid (tableOf_any w0 w4 g A l c p4 n m (-x) x hto.rd (by omega) (by omega) (by omega) (by omega) (by omega) (by omega))
  clear hxa hto hown H4 hla
  go_wp2_with fail
  refine H5.out.mono ?_
  rintro e w5 ⟨Bv, bv, vsb, xb, p5, rfl, hlb, hxb, hto, hp5⟩
  have HSB := Lib.hid (show Shp n m xb from ⟨hlb, fun k hk => (hxb _ (gr_mem (by omega))).1, ⟨by omega, fun r hr => ⟨by have := (hxb r hr).1; omega, fun y hy => by have := (hxb r hr).2 y hy; omega⟩⟩⟩)
  have HMH := Lib.hid hto.up.size
  have HGO : Hid (GO w0 w3 w4.heap.size g A l c p5 Av n cv ga xa (.slice Bv n bv) vsb xb w5.heap.size (w5.alloc (.cells #[.slice Av n cv, .slice Bv n bv] 29))) := Lib.hid (by
    have hgl := HTA.out.gl
    have hlm := HTA.out.up.size
    have hb := below_alloc w5 (.cells #[.slice Av n cv, .slice Bv n bv] 29)
    exact ⟨hto.rd.below_ hb, (HOA.out.of_blocks fun k h1 _ h3 => hto.up.block k h3 (fun e => by injection e with e; omega)).below hb, (hto.bo.below hb).mono hb.size, hgl, hlm, Nat.le_trans hto.up.size hb.size, grown_below (grown_trans HTA.out.up hto.up) hb, blk_new _ _ _⟩)
  clear hxb hto H5 HTA HOA hlb
  go_wp2_with fail
  generalize w5.alloc (.cells #[.slice Av n cv, .slice Bv n bv] 29) = W6 at *
  generalize w5.heap.size = h at *
  generalize hmid : w4.heap.size = mid at *
  clear hmid
  have hmh : mid ≤ h := HMH.out
  have HC := Lib.hid (pick_any w0 W6 g A l c p5 6 HGO.out.rd (by omega))
  refine HC.out.mono ?_
  rintro e w7 ⟨k, rfl, hk1, _, hr, z, hw⟩
  have hone := Rdr.one (g := g) W6 (.int .i64 (p5 + 1 : Nat)) z
  rw [← hw] at hone
  obtain ⟨k0, k1⟩ := hk1 (by omega)
  have HG7 := Lib.hid (HGO.out.one hr hone)
  clear hr hone hw hk1 HC HGO HMH
  by_cases ek0 : k = 0
  · subst ek0
    have c0 := blk_cell HG7.out.box (i := 0) (v := .slice Av n cv) rfl
    have HC := Lib.hid (negatedB_any Av n cv xa w7 HG7.out.a.rows HSA.out.sm)
    go_wp2_with fail
    refine HC.out.mono ?_
    rintro e w8 ⟨Nv, cn, vsn, rfl, hbld, hb⟩
    have HG8 := Lib.hid ((HG7.out.below hb).rebox hmh (hbld.mono_lo HG7.out.mw))
    have HSN := Lib.hid HSA.out.sm.mtab
    have HNL : Hid ((mtab xa xa.length).length ≤ 3) := Lib.hid (by rw [mtab_len, HSA.out.len]; omega)
    have HOX := Lib.hid (HG7.out.below hb).box
    have c1 := blk_cell HOX.out (i := 1) (v := .slice Bv n bv) rfl
    have f1 := blk_frozen HOX.out 1
    clear hbld hb HC HG7 c0 HSB HOX
    generalize mtab xa xa.length = ys at *
    generalize hN : ys.length = N at *
    have HBL := Lib.hid hN
    clear hN
    go_wp2_with fail
    clear c1 f1
    generalize hW : w8.setCell ⟨h, 1, none⟩ (.slice Nv N cn) = WT at *
    clear hW
    have HT := HG8
    have HSMA := Lib.hid HSA.out.sm
    have HSMB := HSN
    have hl7 : N ≤ 3 := HNL.out
    clear HG8 HSA HSN HNL
    have HC := Lib.hid (pick_any w0 WT g A l c (p5 + 1) 40 HT.out.rd (by omega))
    go_wp2_with fail
    refine HC.out.mono ?_
    rintro e x1 ⟨kk, rfl, hk1, _, hr, z, hw⟩
    have hone := Rdr.one (g := g) WT (.int .i64 (p5 + 1 + 1 : Nat)) z
    rw [← hw] at hone
    obtain ⟨kk0, kk1⟩ := hk1 (by omega)
    have HT2 := Lib.hid (HT.out.one hr hone)
    have HRX := Lib.hid (show Blk x1 r0 29 #[.slice none 0 0, .slice none 0 0] from (HT2.out.up.block r0 HRS.out (fun e => HNE.out (by injection e with e; exact e.symm))).trans HRB.out)
    clear hr hone hw hk1 HC HT HRB
    by_cases e0 : kk = 0
    · subst e0
      have HTO := Lib.hid HT2.out.to
      have HI := Lib.hid (HTO.out.lit 0)
      have hWs : (x1.alloc (.cells #[iv 0] 3)).heap.size = x1.heap.size + 1 := by simp
      obtain ⟨Ar, nr, cr, gg, e, hn, ho, _⟩ := HI.out.bi.owns (by simp) (fun x hx => by simp at hx; omega)
      injection e with e1 e2 e3
      subst e1
      subst e2
      subst e3
      have HO := Lib.hid ho
      have hb := below_alloc (x1.alloc (.cells #[iv 0] 3)) (.cells #[.slice (some ⟨x1.heap.size, 0, none⟩) 1 1] 26)
      have HB4 := Lib.hid (HI.out.bo.below hb).own
      have HN := Lib.hid (cell_one_new (x1.alloc (.cells #[iv 0] 3)) (.slice (some ⟨x1.heap.size, 0, none⟩) 1 1) 26)
      have HNO := Lib.hid (box_ne_own HT2.out.box HTO.out.bo.own (by decide))
      have HBF := Lib.hid (blk_below (blk_below HT2.out.box (below_alloc x1 (.cells #[iv 0] 3))) (below_alloc _ (.cells #[.slice (some ⟨x1.heap.size, 0, none⟩) 1 1] 26)))
      have hHs := HI.out.hs
      have hlh := HI.out.lh
      have c1 := blk_cell HT2.out.box (i := 1) (v := .slice Nv N cn) rfl
      have HLB : Hid (ys.length = N) := Lib.hid HBL.out
      rw [HLB.out] at HB4
      clear hb ho hn
      go_wp2_with (at_builtin; refine wpList_append_own_at _ rfl _ _ 22 rfl (cutW x1 mid).heap.size 26 i0 (.slice none 0 0) 1 24 Try.underlying22 hi0 hz0 hz1 hz2 rfl (by decide) _ (N) vsn rfl HB4.out ⟨x1.heap.size + 1, 0, none⟩ 1 1 [.slice (some ⟨x1.heap.size, 0, none⟩) 1 1] rfl rfl ?d1 ?d2 ?d3 ?d4 ?d5 ?_)
      case d1 => have := HN.out; rw [hWs] at this; exact this
      case d2 => intro u hu; simp at hu; subst hu; rfl
      case d3 => unfold maxLen; omega
      case d4 => omega
      case d5 => simp; omega
      intro v' x2 hown' hgrow _ hat
      rw [← HLB.out] at hown'
      have HT5 := Lib.hid (TI.done (w := x1.alloc (.cells #[iv 0] 3)) (ys := [0]) (xss := ys) (v' := v') (vs := vsn) (Ar := some ⟨x1.heap.size, 0, none⟩) (cr := 1) HI.out HO.out hown' hgrow (by simpa using hat))
      have HBG := Lib.hid (show Blk x2 h 29 #[.slice Av n cv, .slice Nv (N) cn] from (hgrow.block h (blk_lt HBF.out) (fun e => HNO.out e.symm)).trans HBF.out)
      clear HB4 HN hown' hgrow hat HI HO HBF HNO HTO c1
      obtain ⟨Av2, cv2, rfl⟩ := HT5.out.bo.form
      have HS4 := Lib.hid (HSMB.out.snoc (x := 0) (by rw [HLB.out]; omega) (by omega))
      have hl8 : (ys ++ [[0]]).length ≤ 7 := by rw [List.length_append, HLB.out]; simp; omega
      generalize ys ++ [[0]] = zs at *
      have HSP := Lib.hid (spoilH_any w0 (cutW x1 mid) x2 h _ g A l c (p5 + 1 + 1) Av2 cv2 _ zs HT5.out (by omega) HS4.out hl8 HBG.out (box_slices _ _ _ _ _ _))
      clear HT5 HBG HS4
      go_wp2_with fail
      refine HSP.out.mono ?_
      rintro e x3 ⟨vv, vs3, xs3, p3, rfl, hsm3, hto3, hp3, hbx3⟩
      obtain ⟨Ab, nb, cb, gb, ev, -, hob⟩ := hto3.bo.owns (by have := hsm3.n; omega)
      subst ev
      have HSM3 := Lib.hid hsm3
      have HTO3 := Lib.hid hto3
      have HBX3 := Lib.hid hbx3
      have HMW := Lib.hid HT2.out.mw
      have HKE := Lib.hid (fun k (hk : k < mid) (hne : k ≠ g) => grown_cut hto3.up HT2.out.mw hk hne)
      have HA3 := Lib.hid (HT2.out.a.of_blocks (w' := x3) fun k h1 h2 _ => HKE.out k h2 (by have := HT2.out.gl; omega))
      have HR3 := Lib.hid (show Blk x3 r0 29 #[.slice none 0 0, .slice none 0 0] from (HKE.out r0 (by have := HRS.out; have := HT2.out.lm; omega) (Ne.symm HNE.out)).trans HRX.out)
      have HLM := Lib.hid HT2.out.lm
      clear hsm3 hto3 hbx3 hob HSP HT2 HRX
      have hneh : r0 ≠ h := by have := HRS.out; have := HLM.out; omega
      have c1 := blk_cell HBX3.out (i := 1) (v := .slice Nv (N) cn) rfl
      have f1 := blk_frozen HBX3.out 1
      have c0 := blk_cell HBX3.out (i := 0) (v := .slice Av n cv) rfl
      have d0 := blk_cell HR3.out (i := 0) (v := .slice none 0 0) rfl
      have d1 := blk_cell HR3.out (i := 1) (v := .slice none 0 0) rfl
      have g0 := blk_frozen HR3.out 0
      have g1 := blk_frozen HR3.out 1
      go_wp2
      clear c1 f1 c0 d0 d1 g0 g1
      have HBB := Lib.hid ((HTO3.out.bo.mono_lo (lo' := mid) (by rw [cutW_size HMW.out]; exact Nat.le_refl _)).set_box HBX3.out (box_slices _ _ _ _ _ _) 1 (.slice Ab nb cb))
      have hs1 : (x3.setCell ⟨h, 1, none⟩ (.slice Ab nb cb)).heap.size = x3.heap.size := by simp [World.setCell]
      have HAA := Lib.hid (HA3.out.of_blocks (w' := x3.setCell ⟨h, 1, none⟩ (.slice Ab nb cb)) fun k _ h2 _ => Below.heap_setCell _ _ _ _ (by show k ≠ h; omega))
      have HNH := Lib.hid (box_ne_box HBX3.out HTO3.out.rd.box (by decide))
      have HRR := Lib.hid (show Rdr w0 (x3.setCell ⟨h, 1, none⟩ (.slice Ab nb cb)) g A l c p3 from ⟨blk_other HTO3.out.rd.box (Ne.symm HNH.out) _, HTO3.out.rd.bytes, HTO3.out.rd.below.setCell (by show w0.heap.size ≤ h; have := HTO3.out.rd.lt; have := HTO3.out.gl; rw [cutW_size HMW.out] at this; omega) _, HTO3.out.rd.lt, HTO3.out.rd.small⟩)
      have HRZ := Lib.hid (blk_other HR3.out (p := ⟨h, 1, none⟩) hneh (.slice Ab nb cb))
      rw [← hs1] at HBB
      clear hs1 HA3 HTO3 HBX3 HR3
      have B1 := blk_set (blk_set HRZ.out 0 (.slice Av n cv)) 1 (.slice Ab nb cb)
      have q0 := blk_cell B1 (i := 0) (v := .slice Av n cv) rfl
      have q1 := blk_cell B1 (i := 1) (v := .slice Ab nb cb) rfl
      clear B1 HRZ
      generalize x3.setCell ⟨h, 1, none⟩ (.slice Ab nb cb) = X3 at *
      have HFIN := Lib.hid (game_done (w3 := w3.heap.size) (p0 := p) (x := .slice Av n cv) (y := .slice Ab nb cb) HRR.out HAA.out HBB.out HSMA.out HSM3.out HRS.out HLM.out HNE.out HW0.out (by omega) rfl)
      refine bodyPost_ret (v := .agg #[.slice Av n cv, .slice Ab nb cb]) (by simp [results, Try.results51, go_sem, q0, q1]) rfl ?_
      exact HFIN.out
    · have c0 := blk_cell HT2.out.box (i := 0) (v := .slice Av n cv) rfl
      have c1 := blk_cell HT2.out.box (i := 1) (v := .slice Nv (N) cn) rfl
      have d0 := blk_cell HRX.out (i := 0) (v := .slice none 0 0) rfl
      have d1 := blk_cell HRX.out (i := 1) (v := .slice none 0 0) rfl
      have g0 := blk_frozen HRX.out 0
      have g1 := blk_frozen HRX.out 1
      go_wp2
      clear c0 c1 d0 d1 g0 g1
      have B1 := blk_set (blk_set HRX.out 0 (.slice Av n cv)) 1 (.slice Nv (N) cn)
      have q0 := blk_cell B1 (i := 0) (v := .slice Av n cv) rfl
      have q1 := blk_cell B1 (i := 1) (v := .slice Nv (N) cn) rfl
      clear B1
      have HFIN := Lib.hid (game_done (w3 := w3.heap.size) (p0 := p) (x := .slice Av n cv) (y := .slice Nv (N) cn) HT2.out.rd HT2.out.a HT2.out.b HSMA.out HSMB.out HRS.out HT2.out.lm HNE.out HW0.out (by omega) rfl)
      refine bodyPost_ret (v := .agg #[.slice Av n cv, .slice Nv (N) cn]) (by simp [results, Try.results51, go_sem, q0, q1]) rfl ?_
      exact HFIN.out
  · by_cases ek1 : k = 1
    · subst ek1
      go_wp2
      go_loopw [7] (fun i wr => ∃ (ii q : Nat) (ya yb : List (List Int)), ii ≤ n ∧ i = .int .i64 ii ∧ q ≤ p5 + 1 + 3 * ii ∧ Hid (Shp n m ya) ∧ Hid (Shp n m yb) ∧ Hid (GO w0 w3 mid g A l c q Av n cv ga ya (.slice Bv n bv) vsb yb h wr)) (fun i _ => n - (intOf i).toNat)
      case atStart => exact ⟨0, p5 + 1, xa, xb, Nat.zero_le _, rfl, by omega, HSA, HSB, HG7⟩
      case round =>
        clear HG7 HSA HSB
        obtain ⟨ii, q, ya, yb, hii, rfl, hq, HSA, HSB, HG7⟩ := hrel
        by_cases hlt : ii < n
        · go_wp2
          go_loopw [8] (fun j wi => ∃ (jj q' : Nat) (za zb : List (List Int)), jj ≤ m ∧ j = .int .i64 jj ∧ q' ≤ p5 + 1 + 3 * ii + jj ∧ Hid (Shp n m za) ∧ Hid (Shp n m zb) ∧ Hid (GO w0 w3 mid g A l c q' Av n cv ga za (.slice Bv n bv) vsb zb h wi)) (fun j _ => m - (intOf j).toNat)
          case atStart => exact ⟨0, q, ya, yb, Nat.zero_le _, rfl, by omega, HSA, HSB, HG7⟩
          case round =>
            clear HG7 HSA HSB
            obtain ⟨jj, q', za, zb, hjj, rfl, hq', HSA, HSB, HG7⟩ := hrel
            by_cases hlj : jj < m
            · have HC := Lib.hid (pick_any w0 wr g A l c q' 5 HG7.out.rd (by omega))
              go_wp2_with fail
              refine HC.out.mono ?_
              rintro e w8 ⟨kk, rfl, hk1, _, hr, z, hw⟩
              have hone := Rdr.one (g := g) wr (.int .i64 (q' + 1 : Nat)) z
              rw [← hw] at hone
              obtain ⟨kk0, kk1⟩ := hk1 (by omega)
              have HG8 := Lib.hid (HG7.out.one hr hone)
              clear hr hone hw hk1 HC HG7
              have HRA := Lib.hid (HSA.out.row ii hlt)
              have HRBm := Lib.hid (HSB.out.row ii hlt)
              obtain ⟨oo, gg, r, cc, e, c1, ⟨y, hy⟩, hf, hset⟩ := HG8.out.setA (i := ii) (j := jj) (x := kk - 2 + (jj : Int)) hlt (by rw [HRA.out]; exact hlj) (by omega)
              subst e
              rw [HRA.out] at c1
              have c0 := blk_cell HG8.out.box (i := 0) (v := .slice (some ⟨ga, oo, none⟩) n cv) rfl
              have HG9 := Lib.hid hset
              have HSA2 := Lib.hid (HSA.out.set (i := ii) (j := jj) (x := kk - 2 + (jj : Int)) hlt (by omega))
              clear hset HG8
              have d0 := blk_cell HG9.out.box (i := 1) (v := .slice Bv n bv) rfl
              obtain ⟨bo, gg2, r2, cc2, e, c2, ⟨y2, hy2⟩, hf2, hset2⟩ := HG9.out.setB (i := ii) (j := jj) (x := kk - 2 - (ii : Int)) (by rw [HSB.out.len]; exact hlt) (by rw [HRBm.out]; exact hlj) (by omega)
              subst e
              rw [HRBm.out] at c2
              have HG10 := Lib.hid hset2
              have HSB2 := Lib.hid (HSB.out.set (i := ii) (j := jj) (x := kk - 2 - (ii : Int)) hlt (by omega))
              clear hset2 HG9
              go_wp2
              go_roundw
              case rel => exact ⟨jj + 1, q' + 1, _, _, by omega, by go_num, by omega, HSA2, HSB2, HG10⟩
              case measure => simp [intOf]; omega
            · go_wp2
              go_roundw
              case rel => exact ⟨ii + 1, q', za, zb, by omega, by go_num, by omega, HSA, HSB, HG7⟩
              case measure => simp [intOf]; omega
        · have HT := HG7
          have HSMA := Lib.hid HSA.out.sm
          have HSMB := Lib.hid HSB.out.sm
          have hl7 : n ≤ 3 := by omega
          have HBL := Lib.hid HSB.out.len
          clear HG7 HSA HSB
          have HC := Lib.hid (pick_any w0 wr g A l c (q) 40 HT.out.rd (by omega))
          go_wp2_with fail
          refine HC.out.mono ?_
          rintro e x1 ⟨kk, rfl, hk1, _, hr, z, hw⟩
          have hone := Rdr.one (g := g) wr (.int .i64 (q + 1 : Nat)) z
          rw [← hw] at hone
          obtain ⟨kk0, kk1⟩ := hk1 (by omega)
          have HT2 := Lib.hid (HT.out.one hr hone)
          have HRX := Lib.hid (show Blk x1 r0 29 #[.slice none 0 0, .slice none 0 0] from (HT2.out.up.block r0 HRS.out (fun e => HNE.out (by injection e with e; exact e.symm))).trans HRB.out)
          clear hr hone hw hk1 HC HT HRB
          by_cases e0 : kk = 0
          · subst e0
            have HTO := Lib.hid HT2.out.to
            have HI := Lib.hid (HTO.out.lit 0)
            have hWs : (x1.alloc (.cells #[iv 0] 3)).heap.size = x1.heap.size + 1 := by simp
            obtain ⟨Ar, nr, cr, gg, e, hn, ho, _⟩ := HI.out.bi.owns (by simp) (fun x hx => by simp at hx; omega)
            injection e with e1 e2 e3
            subst e1
            subst e2
            subst e3
            have HO := Lib.hid ho
            have hb := below_alloc (x1.alloc (.cells #[iv 0] 3)) (.cells #[.slice (some ⟨x1.heap.size, 0, none⟩) 1 1] 26)
            have HB4 := Lib.hid (HI.out.bo.below hb).own
            have HN := Lib.hid (cell_one_new (x1.alloc (.cells #[iv 0] 3)) (.slice (some ⟨x1.heap.size, 0, none⟩) 1 1) 26)
            have HNO := Lib.hid (box_ne_own HT2.out.box HTO.out.bo.own (by decide))
            have HBF := Lib.hid (blk_below (blk_below HT2.out.box (below_alloc x1 (.cells #[iv 0] 3))) (below_alloc _ (.cells #[.slice (some ⟨x1.heap.size, 0, none⟩) 1 1] 26)))
            have hHs := HI.out.hs
            have hlh := HI.out.lh
            have c1 := blk_cell HT2.out.box (i := 1) (v := .slice Bv n bv) rfl
            have HLB : Hid (yb.length = n) := Lib.hid HBL.out
            rw [HLB.out] at HB4
            clear hb ho hn
            go_wp2_with (at_builtin; refine wpList_append_own_at _ rfl _ _ 22 rfl (cutW x1 mid).heap.size 26 i0 (.slice none 0 0) 1 24 Try.underlying22 hi0 hz0 hz1 hz2 rfl (by decide) _ (n) vsb rfl HB4.out ⟨x1.heap.size + 1, 0, none⟩ 1 1 [.slice (some ⟨x1.heap.size, 0, none⟩) 1 1] rfl rfl ?d1 ?d2 ?d3 ?d4 ?d5 ?_)
            case d1 => have := HN.out; rw [hWs] at this; exact this
            case d2 => intro u hu; simp at hu; subst hu; rfl
            case d3 => unfold maxLen; omega
            case d4 => omega
            case d5 => simp; omega
            intro v' x2 hown' hgrow _ hat
            rw [← HLB.out] at hown'
            have HT5 := Lib.hid (TI.done (w := x1.alloc (.cells #[iv 0] 3)) (ys := [0]) (xss := yb) (v' := v') (vs := vsb) (Ar := some ⟨x1.heap.size, 0, none⟩) (cr := 1) HI.out HO.out hown' hgrow (by simpa using hat))
            have HBG := Lib.hid (show Blk x2 h 29 #[.slice Av n cv, .slice Bv (n) bv] from (hgrow.block h (blk_lt HBF.out) (fun e => HNO.out e.symm)).trans HBF.out)
            clear HB4 HN hown' hgrow hat HI HO HBF HNO HTO c1
            obtain ⟨Av2, cv2, rfl⟩ := HT5.out.bo.form
            have HS4 := Lib.hid (HSMB.out.snoc (x := 0) (by rw [HLB.out]; omega) (by omega))
            have hl8 : (yb ++ [[0]]).length ≤ 7 := by rw [List.length_append, HLB.out]; simp; omega
            generalize yb ++ [[0]] = zs at *
            have HSP := Lib.hid (spoilH_any w0 (cutW x1 mid) x2 h _ g A l c (q + 1) Av2 cv2 _ zs HT5.out (by omega) HS4.out hl8 HBG.out (box_slices _ _ _ _ _ _))
            clear HT5 HBG HS4
            go_wp2_with fail
            refine HSP.out.mono ?_
            rintro e x3 ⟨vv, vs3, xs3, p3, rfl, hsm3, hto3, hp3, hbx3⟩
            obtain ⟨Ab, nb, cb, gb, ev, -, hob⟩ := hto3.bo.owns (by have := hsm3.n; omega)
            subst ev
            have HSM3 := Lib.hid hsm3
            have HTO3 := Lib.hid hto3
            have HBX3 := Lib.hid hbx3
            have HMW := Lib.hid HT2.out.mw
            have HKE := Lib.hid (fun k (hk : k < mid) (hne : k ≠ g) => grown_cut hto3.up HT2.out.mw hk hne)
            have HA3 := Lib.hid (HT2.out.a.of_blocks (w' := x3) fun k h1 h2 _ => HKE.out k h2 (by have := HT2.out.gl; omega))
            have HR3 := Lib.hid (show Blk x3 r0 29 #[.slice none 0 0, .slice none 0 0] from (HKE.out r0 (by have := HRS.out; have := HT2.out.lm; omega) (Ne.symm HNE.out)).trans HRX.out)
            have HLM := Lib.hid HT2.out.lm
            clear hsm3 hto3 hbx3 hob HSP HT2 HRX
            have hneh : r0 ≠ h := by have := HRS.out; have := HLM.out; omega
            have c1 := blk_cell HBX3.out (i := 1) (v := .slice Bv (n) bv) rfl
            have f1 := blk_frozen HBX3.out 1
            have c0 := blk_cell HBX3.out (i := 0) (v := .slice Av n cv) rfl
            have d0 := blk_cell HR3.out (i := 0) (v := .slice none 0 0) rfl
            have d1 := blk_cell HR3.out (i := 1) (v := .slice none 0 0) rfl
            have g0 := blk_frozen HR3.out 0
            have g1 := blk_frozen HR3.out 1
            go_wp2
            clear c1 f1 c0 d0 d1 g0 g1
            have HBB := Lib.hid ((HTO3.out.bo.mono_lo (lo' := mid) (by rw [cutW_size HMW.out]; exact Nat.le_refl _)).set_box HBX3.out (box_slices _ _ _ _ _ _) 1 (.slice Ab nb cb))
            have hs1 : (x3.setCell ⟨h, 1, none⟩ (.slice Ab nb cb)).heap.size = x3.heap.size := by simp [World.setCell]
            have HAA := Lib.hid (HA3.out.of_blocks (w' := x3.setCell ⟨h, 1, none⟩ (.slice Ab nb cb)) fun k _ h2 _ => Below.heap_setCell _ _ _ _ (by show k ≠ h; omega))
            have HNH := Lib.hid (box_ne_box HBX3.out HTO3.out.rd.box (by decide))
            have HRR := Lib.hid (show Rdr w0 (x3.setCell ⟨h, 1, none⟩ (.slice Ab nb cb)) g A l c p3 from ⟨blk_other HTO3.out.rd.box (Ne.symm HNH.out) _, HTO3.out.rd.bytes, HTO3.out.rd.below.setCell (by show w0.heap.size ≤ h; have := HTO3.out.rd.lt; have := HTO3.out.gl; rw [cutW_size HMW.out] at this; omega) _, HTO3.out.rd.lt, HTO3.out.rd.small⟩)
            have HRZ := Lib.hid (blk_other HR3.out (p := ⟨h, 1, none⟩) hneh (.slice Ab nb cb))
            rw [← hs1] at HBB
            clear hs1 HA3 HTO3 HBX3 HR3
            have B1 := blk_set (blk_set HRZ.out 0 (.slice Av n cv)) 1 (.slice Ab nb cb)
            have q0 := blk_cell B1 (i := 0) (v := .slice Av n cv) rfl
            have q1 := blk_cell B1 (i := 1) (v := .slice Ab nb cb) rfl
            clear B1 HRZ
            generalize x3.setCell ⟨h, 1, none⟩ (.slice Ab nb cb) = X3 at *
            have HFIN := Lib.hid (game_done (w3 := w3.heap.size) (p0 := p) (x := .slice Av n cv) (y := .slice Ab nb cb) HRR.out HAA.out HBB.out HSMA.out HSM3.out HRS.out HLM.out HNE.out HW0.out (by omega) rfl)
            refine bodyPost_ret (v := .agg #[.slice Av n cv, .slice Ab nb cb]) (by simp [results, Try.results51, go_sem, q0, q1]) rfl ?_
            exact HFIN.out
          · have c0 := blk_cell HT2.out.box (i := 0) (v := .slice Av n cv) rfl
            have c1 := blk_cell HT2.out.box (i := 1) (v := .slice Bv (n) bv) rfl
            have d0 := blk_cell HRX.out (i := 0) (v := .slice none 0 0) rfl
            have d1 := blk_cell HRX.out (i := 1) (v := .slice none 0 0) rfl
            have g0 := blk_frozen HRX.out 0
            have g1 := blk_frozen HRX.out 1
            go_wp2
            clear c0 c1 d0 d1 g0 g1
            have B1 := blk_set (blk_set HRX.out 0 (.slice Av n cv)) 1 (.slice Bv (n) bv)
            have q0 := blk_cell B1 (i := 0) (v := .slice Av n cv) rfl
            have q1 := blk_cell B1 (i := 1) (v := .slice Bv (n) bv) rfl
            clear B1
            have HFIN := Lib.hid (game_done (w3 := w3.heap.size) (p0 := p) (x := .slice Av n cv) (y := .slice Bv (n) bv) HT2.out.rd HT2.out.a HT2.out.b HSMA.out HSMB.out HRS.out HT2.out.lm HNE.out HW0.out (by omega) rfl)
            refine bodyPost_ret (v := .agg #[.slice Av n cv, .slice Bv (n) bv]) (by simp [results, Try.results51, go_sem, q0, q1]) rfl ?_
            exact HFIN.out
    · have HT := HG7
      have HSMA := Lib.hid HSA.out.sm
      have HSMB := Lib.hid HSB.out.sm
      have hl7 : n ≤ 3 := by omega
      have HBL := Lib.hid HSB.out.len
      clear HG7 HSA HSB
      have HC := Lib.hid (pick_any w0 w7 g A l c (p5 + 1) 40 HT.out.rd (by omega))
      go_wp2_with fail
      refine HC.out.mono ?_
      rintro e x1 ⟨kk, rfl, hk1, _, hr, z, hw⟩
      have hone := Rdr.one (g := g) w7 (.int .i64 (p5 + 1 + 1 : Nat)) z
      rw [← hw] at hone
      obtain ⟨kk0, kk1⟩ := hk1 (by omega)
      have HT2 := Lib.hid (HT.out.one hr hone)
      have HRX := Lib.hid (show Blk x1 r0 29 #[.slice none 0 0, .slice none 0 0] from (HT2.out.up.block r0 HRS.out (fun e => HNE.out (by injection e with e; exact e.symm))).trans HRB.out)
      clear hr hone hw hk1 HC HT HRB
      by_cases e0 : kk = 0
      · subst e0
        have HTO := Lib.hid HT2.out.to
        have HI := Lib.hid (HTO.out.lit 0)
        have hWs : (x1.alloc (.cells #[iv 0] 3)).heap.size = x1.heap.size + 1 := by simp
        obtain ⟨Ar, nr, cr, gg, e, hn, ho, _⟩ := HI.out.bi.owns (by simp) (fun x hx => by simp at hx; omega)
        injection e with e1 e2 e3
        subst e1
        subst e2
        subst e3
        have HO := Lib.hid ho
        have hb := below_alloc (x1.alloc (.cells #[iv 0] 3)) (.cells #[.slice (some ⟨x1.heap.size, 0, none⟩) 1 1] 26)
        have HB4 := Lib.hid (HI.out.bo.below hb).own
        have HN := Lib.hid (cell_one_new (x1.alloc (.cells #[iv 0] 3)) (.slice (some ⟨x1.heap.size, 0, none⟩) 1 1) 26)
        have HNO := Lib.hid (box_ne_own HT2.out.box HTO.out.bo.own (by decide))
        have HBF := Lib.hid (blk_below (blk_below HT2.out.box (below_alloc x1 (.cells #[iv 0] 3))) (below_alloc _ (.cells #[.slice (some ⟨x1.heap.size, 0, none⟩) 1 1] 26)))
        have hHs := HI.out.hs
        have hlh := HI.out.lh
        have c1 := blk_cell HT2.out.box (i := 1) (v := .slice Bv n bv) rfl
        have HLB : Hid (xb.length = n) := Lib.hid HBL.out
        rw [HLB.out] at HB4
        clear hb ho hn
        go_wp2_with (at_builtin; refine wpList_append_own_at _ rfl _ _ 22 rfl (cutW x1 mid).heap.size 26 i0 (.slice none 0 0) 1 24 Try.underlying22 hi0 hz0 hz1 hz2 rfl (by decide) _ (n) vsb rfl HB4.out ⟨x1.heap.size + 1, 0, none⟩ 1 1 [.slice (some ⟨x1.heap.size, 0, none⟩) 1 1] rfl rfl ?d1 ?d2 ?d3 ?d4 ?d5 ?_)
        case d1 => have := HN.out; rw [hWs] at this; exact this
        case d2 => intro u hu; simp at hu; subst hu; rfl
        case d3 => unfold maxLen; omega
        case d4 => omega
        case d5 => simp; omega
        intro v' x2 hown' hgrow _ hat
        rw [← HLB.out] at hown'
        have HT5 := Lib.hid (TI.done (w := x1.alloc (.cells #[iv 0] 3)) (ys := [0]) (xss := xb) (v' := v') (vs := vsb) (Ar := some ⟨x1.heap.size, 0, none⟩) (cr := 1) HI.out HO.out hown' hgrow (by simpa using hat))
        have HBG := Lib.hid (show Blk x2 h 29 #[.slice Av n cv, .slice Bv (n) bv] from (hgrow.block h (blk_lt HBF.out) (fun e => HNO.out e.symm)).trans HBF.out)
        clear HB4 HN hown' hgrow hat HI HO HBF HNO HTO c1
        obtain ⟨Av2, cv2, rfl⟩ := HT5.out.bo.form
        have HS4 := Lib.hid (HSMB.out.snoc (x := 0) (by rw [HLB.out]; omega) (by omega))
        have hl8 : (xb ++ [[0]]).length ≤ 7 := by rw [List.length_append, HLB.out]; simp; omega
        generalize xb ++ [[0]] = zs at *
        have HSP := Lib.hid (spoilH_any w0 (cutW x1 mid) x2 h _ g A l c (p5 + 1 + 1) Av2 cv2 _ zs HT5.out (by omega) HS4.out hl8 HBG.out (box_slices _ _ _ _ _ _))
        clear HT5 HBG HS4
        go_wp2_with fail
        refine HSP.out.mono ?_
        rintro e x3 ⟨vv, vs3, xs3, p3, rfl, hsm3, hto3, hp3, hbx3⟩
        obtain ⟨Ab, nb, cb, gb, ev, -, hob⟩ := hto3.bo.owns (by have := hsm3.n; omega)
        subst ev
        have HSM3 := Lib.hid hsm3
        have HTO3 := Lib.hid hto3
        have HBX3 := Lib.hid hbx3
        have HMW := Lib.hid HT2.out.mw
        have HKE := Lib.hid (fun k (hk : k < mid) (hne : k ≠ g) => grown_cut hto3.up HT2.out.mw hk hne)
        have HA3 := Lib.hid (HT2.out.a.of_blocks (w' := x3) fun k h1 h2 _ => HKE.out k h2 (by have := HT2.out.gl; omega))
        have HR3 := Lib.hid (show Blk x3 r0 29 #[.slice none 0 0, .slice none 0 0] from (HKE.out r0 (by have := HRS.out; have := HT2.out.lm; omega) (Ne.symm HNE.out)).trans HRX.out)
        have HLM := Lib.hid HT2.out.lm
        clear hsm3 hto3 hbx3 hob HSP HT2 HRX
        have hneh : r0 ≠ h := by have := HRS.out; have := HLM.out; omega
        have c1 := blk_cell HBX3.out (i := 1) (v := .slice Bv (n) bv) rfl
        have f1 := blk_frozen HBX3.out 1
        have c0 := blk_cell HBX3.out (i := 0) (v := .slice Av n cv) rfl
        have d0 := blk_cell HR3.out (i := 0) (v := .slice none 0 0) rfl
        have d1 := blk_cell HR3.out (i := 1) (v := .slice none 0 0) rfl
        have g0 := blk_frozen HR3.out 0
        have g1 := blk_frozen HR3.out 1
        go_wp2
        clear c1 f1 c0 d0 d1 g0 g1
        have HBB := Lib.hid ((HTO3.out.bo.mono_lo (lo' := mid) (by rw [cutW_size HMW.out]; exact Nat.le_refl _)).set_box HBX3.out (box_slices _ _ _ _ _ _) 1 (.slice Ab nb cb))
        have hs1 : (x3.setCell ⟨h, 1, none⟩ (.slice Ab nb cb)).heap.size = x3.heap.size := by simp [World.setCell]
        have HAA := Lib.hid (HA3.out.of_blocks (w' := x3.setCell ⟨h, 1, none⟩ (.slice Ab nb cb)) fun k _ h2 _ => Below.heap_setCell _ _ _ _ (by show k ≠ h; omega))
        have HNH := Lib.hid (box_ne_box HBX3.out HTO3.out.rd.box (by decide))
        have HRR := Lib.hid (show Rdr w0 (x3.setCell ⟨h, 1, none⟩ (.slice Ab nb cb)) g A l c p3 from ⟨blk_other HTO3.out.rd.box (Ne.symm HNH.out) _, HTO3.out.rd.bytes, HTO3.out.rd.below.setCell (by show w0.heap.size ≤ h; have := HTO3.out.rd.lt; have := HTO3.out.gl; rw [cutW_size HMW.out] at this; omega) _, HTO3.out.rd.lt, HTO3.out.rd.small⟩)
        have HRZ := Lib.hid (blk_other HR3.out (p := ⟨h, 1, none⟩) hneh (.slice Ab nb cb))
        rw [← hs1] at HBB
        clear hs1 HA3 HTO3 HBX3 HR3
        have B1 := blk_set (blk_set HRZ.out 0 (.slice Av n cv)) 1 (.slice Ab nb cb)
        have q0 := blk_cell B1 (i := 0) (v := .slice Av n cv) rfl
        have q1 := blk_cell B1 (i := 1) (v := .slice Ab nb cb) rfl
        clear B1 HRZ
        generalize x3.setCell ⟨h, 1, none⟩ (.slice Ab nb cb) = X3 at *
        have HFIN := Lib.hid (game_done (w3 := w3.heap.size) (p0 := p) (x := .slice Av n cv) (y := .slice Ab nb cb) HRR.out HAA.out HBB.out HSMA.out HSM3.out HRS.out HLM.out HNE.out HW0.out (by omega) rfl)
        refine bodyPost_ret (v := .agg #[.slice Av n cv, .slice Ab nb cb]) (by simp [results, Try.results51, go_sem, q0, q1]) rfl ?_
        exact HFIN.out
      · have c0 := blk_cell HT2.out.box (i := 0) (v := .slice Av n cv) rfl
        have c1 := blk_cell HT2.out.box (i := 1) (v := .slice Bv (n) bv) rfl
        have d0 := blk_cell HRX.out (i := 0) (v := .slice none 0 0) rfl
        have d1 := blk_cell HRX.out (i := 1) (v := .slice none 0 0) rfl
        have g0 := blk_frozen HRX.out 0
        have g1 := blk_frozen HRX.out 1
        go_wp2
        clear c0 c1 d0 d1 g0 g1
        have B1 := blk_set (blk_set HRX.out 0 (.slice Av n cv)) 1 (.slice Bv (n) bv)
        have q0 := blk_cell B1 (i := 0) (v := .slice Av n cv) rfl
        have q1 := blk_cell B1 (i := 1) (v := .slice Bv (n) bv) rfl
        clear B1
        have HFIN := Lib.hid (game_done (w3 := w3.heap.size) (p0 := p) (x := .slice Av n cv) (y := .slice Bv (n) bv) HT2.out.rd HT2.out.a HT2.out.b HSMA.out HSMB.out HRS.out HT2.out.lm HNE.out HW0.out (by omega) rfl)
        refine bodyPost_ret (v := .agg #[.slice Av n cv, .slice Bv (n) bv]) (by simp [results, Try.results51, go_sem, q0, q1]) rfl ?_
        exact HFIN.out

end Go.Proofs.Ytbpjblefmammcaa

/- Games drawn from bytes. -/
namespace Go.Proofs.Ytbpjblefmammcaa
open Go.RowKit

/-- A game of small numbers, in memory of its own. -/
def DrawnG (w : World) (e : Ending) (w' : World) : Prop :=
  ∃ Aa na ca xa Ab nb cb xb, e = .returned (.agg #[.slice Aa na ca, .slice Ab nb cb]) ∧ Small xa ∧ Small xb ∧ IntRows w' Aa na ca xa ∧ IntRows w' Ab nb cb xb ∧ Below w.heap.size w w'
/-- A law's game: its box at h, and both tables. -/
structure GW (w : World) (h : Nat) (A : Option Addr) (n c : Nat) (xs : List (List Int)) (B : Option Addr) (m d : Nat) (ys : List (List Int)) (W : World) : Prop where
  below : Below w.heap.size w W
  box : Blk W h 29 #[.slice A n c, .slice B m d]
  ra : IntRows W A n c xs
  rb : IntRows W B m d ys
theorem GW.up {w h A n c xs B m d ys W W'} (o : GW w h A n c xs B m d ys W) (k : Below W.heap.size W W') : GW w h A n c xs B m d ys W' :=
  ⟨below_up o.below k, blk_below o.box k, o.ra.keep (Keep.below k), o.rb.keep (Keep.below k)⟩
theorem GW.start {w A n c xs B m d ys W} (hb : Below w.heap.size w W) (ra : IntRows W A n c xs) (rb : IntRows W B m d ys) : GW w W.heap.size A n c xs B m d ys (W.alloc (.cells #[.slice A n c, .slice B m d] 29)) :=
  ⟨below_up hb (below_alloc _ _), blk_new _ _ _, ra.keep (Keep.below (below_alloc _ _)), rb.keep (Keep.below (below_alloc _ _))⟩
theorem GW.cells {w h A n c xs B m d ys W} (o : GW w h A n c xs B m d ys W) : W.cell? ⟨h, 0, none⟩ = some (.slice A n c) ∧ W.cell? ⟨h, 1, none⟩ = some (.slice B m d) := ⟨blk_cell o.box rfl, blk_cell o.box rfl⟩





set_option maxRecDepth 100000 in
set_option maxHeartbeats 1000000 in
theorem DrawPotentialOf_any (A : Option Addr) (n c : Nat) (w : World) (h : Bytes w A n c) :
    Calls Try.prog 33 #[.slice A n c] w (DrawnG w) := by
  have HB := Lib.hid (below_alloc w (.cells #[.slice none 0 0, .slice none 0 0] 29))
  have HK := Lib.hid (blk_new w 29 #[.slice none 0 0, .slice none 0 0])
  have H0 := Lib.hid (newReader_any A n c _ (h.keep (Keep.below (below_alloc w (.cells #[.slice none 0 0, .slice none 0 0] 29)))))
  clear h
  go_enter Try.func33, Try.ntmps33
  go_wp2_with fail
  have HZ : Hid (w.heap.size < (w.alloc (.cells #[.slice none 0 0, .slice none 0 0] 29)).heap.size) := Lib.hid (by simp)
  generalize w.alloc (.cells #[.slice none 0 0, .slice none 0 0] 29) = W0 at *
  refine H0.out.mono ?_
  rintro e w1 ⟨A1, l, c1, rfl, hl, hr, hs⟩
  have HS := Lib.hid (show W0.heap.size ≤ w1.heap.size by omega)
  have H1 := Lib.hid (someGame_any W0 w1 W0.heap.size A1 l c1 0 hr (by omega))
  clear hr hl hs H0
  go_wp2_with fail
  refine H1.out.mono ?_
  rintro e w2 ⟨Aa, na, ca, ga, ha, xa, Ab, nb, cb, gb, hb, xb, lo, p', rfl, sa, sb, hlo, oa, ob, rd, hp⟩
  have HK2 := Lib.hid (blk_below HK.out rd.below)
  have HB2 := Lib.hid (below_up HB.out rd.below)
  have HSA := Lib.hid sa
  have HSB := Lib.hid sb
  have HLO := Lib.hid (show w.heap.size < lo by have := HZ.out; have := HS.out; omega)
  have HOA := Lib.hid oa
  have HOB := Lib.hid ob
  clear sa sb oa ob rd H1 HB HK HZ HS
  have d0 := blk_cell HK2.out (i := 0) (v := .slice none 0 0) rfl
  have d1 := blk_cell HK2.out (i := 1) (v := .slice none 0 0) rfl
  have g0 := blk_frozen HK2.out 0
  have g1 := blk_frozen HK2.out 1
  go_wp2
  clear d0 d1 g0 g1
  have B1 := blk_set (blk_set HK2.out 0 (.slice Aa na ca)) 1 (.slice Ab nb cb)
  have q0 := blk_cell B1 (i := 0) (v := .slice Aa na ca) rfl
  have q1 := blk_cell B1 (i := 1) (v := .slice Ab nb cb) rfl
  have hk : ∀ k, k ≠ w.heap.size → ((w2.setCell ⟨w.heap.size, 0, none⟩ (.slice Aa na ca)).setCell ⟨w.heap.size, 1, none⟩ (.slice Ab nb cb)).heap[k]? = w2.heap[k]? := fun k hne => (Below.heap_setCell _ _ _ _ hne).trans (Below.heap_setCell _ _ _ _ hne)
  have HRA := Lib.hid (HOA.out.of_blocks (w' := (w2.setCell ⟨w.heap.size, 0, none⟩ (.slice Aa na ca)).setCell ⟨w.heap.size, 1, none⟩ (.slice Ab nb cb)) fun k h1 _ _ => hk k (by have := HLO.out; omega)).rows
  have HRB := Lib.hid (HOB.out.of_blocks (w' := (w2.setCell ⟨w.heap.size, 0, none⟩ (.slice Aa na ca)).setCell ⟨w.heap.size, 1, none⟩ (.slice Ab nb cb)) fun k h1 _ _ => hk k (by have := HLO.out; omega)).rows
  have HBX := Lib.hid ((HB2.out.setCell (p := ⟨w.heap.size, 0, none⟩) (Nat.le_refl _) (.slice Aa na ca)).setCell (p := ⟨w.heap.size, 1, none⟩) (Nat.le_refl _) (.slice Ab nb cb))
  clear B1 hk HK2 HB2 HOA HOB
  generalize (w2.setCell ⟨w.heap.size, 0, none⟩ (.slice Aa na ca)).setCell ⟨w.heap.size, 1, none⟩ (.slice Ab nb cb) = WE at *
  refine bodyPost_ret (v := .agg #[.slice Aa na ca, .slice Ab nb cb]) (by simp [results, Try.results33, go_sem, q0, q1]) rfl ?_
  exact ⟨_, _, _, _, _, _, _, _, rfl, HSA.out, HSB.out, HRA.out, HRB.out, HBX.out⟩

end Go.Proofs.Ytbpjblefmammcaa

/- Both players exchanged. -/
namespace Go.Proofs.Ytbpjblefmammcaa
open Go.RowKit

theorem VG.flip2 {a b : List (List Int)} (v : VG a b) : VG (flip b b.length (gr b 0).length) (flip a a.length (gr a 0).length) := by
  have h1 := v.tb.m1
  have h2 := v.ta.m1
  exact ⟨v.tb.flip, v.ta.flip, by rw [flip_len, flip_len]; exact v.m.symm, by rw [gr_flip h1, gr_flip h2]; simp; exact v.n.symm⟩

theorem g2_flip {a : List (List Int)} {n m i j : Nat} (hi : i < m) (hj : j < n) : g2 (flip a n m) i j = g2 a j i := by
  unfold g2
  rw [gr_flip hi, gi_col hj]
  rfl
theorem NR.flip {a b : List (List Int)} (v : VG a b) : NR (flip b b.length (gr b 0).length) (flip a a.length (gr a 0).length) ↔ NR a b := by
  have h1 := v.tb.m1
  have h2 := v.ta.m1
  have hn := v.n
  have hm := v.m
  have hl : (Go.Proofs.Ytbpjblefmammcaa.flip b b.length (gr b 0).length).length = (gr b 0).length := flip_len _ _ _
  have hl0 : (gr (Go.Proofs.Ytbpjblefmammcaa.flip b b.length (gr b 0).length) 0).length = b.length := by rw [gr_flip h1]; simp
  have hr : ∀ i k j l, i < (gr a 0).length → k < (gr a 0).length → j < a.length → l < a.length →
      rnd (Go.Proofs.Ytbpjblefmammcaa.flip b b.length (gr b 0).length) (Go.Proofs.Ytbpjblefmammcaa.flip a a.length (gr a 0).length) i k j l = rnd a b j l k i := fun i k j l hi hk hj hl => by
    unfold rnd
    rw [g2_flip (a := b) (by omega) (by omega), g2_flip (a := b) (by omega) (by omega), g2_flip (a := a) hk hl, g2_flip (a := a) hk hj, g2_flip (a := b) (by omega) (by omega), g2_flip (a := b) (by omega) (by omega), g2_flip (a := a) hi hj, g2_flip (a := a) hi hl]
    omega
  constructor
  · intro h
    refine ⟨v, fun i k j l hi hk hj hl' => ?_⟩
    have := h.no l j i k (by rw [hl]; omega) (by rw [hl]; omega) (by rw [hl0]; omega) (by rw [hl0]; omega)
    rw [hr l j i k hl' hj hi hk] at this
    exact this
  · intro h
    refine ⟨v.flip2, fun i k j l hi hk hj hl' => ?_⟩
    rw [hl] at hi hk
    rw [hl0] at hj hl'
    rw [hr i k j l (by omega) (by omega) (by omega) (by omega)]
    exact h.no j l k i (by omega) (by omega) (by omega) (by omega)
theorem NR.one {a b : List (List Int)} (v : VG a b) (h : a.length ≤ 1 ∨ (gr a 0).length ≤ 1) : NR a b := by
  refine ⟨v, fun i k j l hi hk hj hl => ?_⟩
  rcases h with h | h
  · obtain rfl : i = k := by omega
    unfold rnd; omega
  · obtain rfl : j = l := by omega
    unfold rnd; omega

/-- .. with the first row of the first table. -/
def GX (w : World) (h : Nat) (A : Option Addr) (n c : Nat) (xs : List (List Int)) (B : Option Addr) (m d : Nat) (ys : List (List Int)) (ba oa : Nat) (v : Value) (W : World) : Prop :=
  GW w h A n c xs B m d ys W ∧ W.cell? ⟨ba, oa, none⟩ = some v
theorem GX.up {w h A n c xs B m d ys ba oa v W W'} (o : GX w h A n c xs B m d ys ba oa v W) (k : Below W.heap.size W W') : GX w h A n c xs B m d ys ba oa v W' := ⟨o.1.up k, Keep.below k _ _ o.2⟩
theorem GX.cells {w h A n c xs B m d ys ba oa v W} (o : GX w h A n c xs B m d ys ba oa v W) : (W.cell? ⟨h, 0, none⟩ = some (.slice A n c) ∧ W.cell? ⟨h, 1, none⟩ = some (.slice B m d)) ∧ W.cell? ⟨ba, oa, none⟩ = some v := ⟨o.1.cells, o.2⟩
end Go.Proofs.Ytbpjblefmammcaa

/- Even tables are their own potentials. Plain. -/
namespace Go.Proofs.Ytbpjblefmammcaa
open Go.RowKit

theorem ev_vg {a : List (List Int)} (e : EvP a) : VG a (Go.Proofs.Ytbpjblefmammcaa.flip a a.length a.length) := by
  have v := e.q
  have hf := v.flip rfl
  have hn := v.1.n1
  have hm : (gr a 0).length = a.length := v.m rfl
  exact ⟨v.1, hf.1, by rw [flip_len], by rw [hm, gr_flip (by omega)]; simp⟩
theorem ev_pot {a : List (List Int)} (e : EvP a) : PotP a (Go.Proofs.Ytbpjblefmammcaa.flip a a.length a.length) := by
  have v := e.q
  have hn := v.1.n1
  have hm : (gr a 0).length = a.length := v.m rfl
  refine ⟨ev_vg e, fun i j hi hj => ?_⟩
  rw [hm] at hj
  have f1 := g2_flip (a := a) (n := a.length) (m := a.length) hi hj
  have f2 := g2_flip (a := a) (n := a.length) (m := a.length) hi hn
  have f3 := g2_flip (a := a) (n := a.length) (m := a.length) hn hj
  have f4 := g2_flip (a := a) (n := a.length) (m := a.length) hn hn
  have e1 := e.e j i hj hi
  have e2 := e.e 0 i hn hi
  have e3 := e.e j 0 hj hn
  unfold pC qC
  rw [f1, f2, f3, f4]
  omega
theorem ev_num {a : List (List Int)} (e : EvP a) {i j : Nat} (hi : i < a.length) (hj : j < a.length) : pC a (Go.Proofs.Ytbpjblefmammcaa.flip a a.length a.length) i j = g2 a i j - g2 a 0 0 := by
  have hn := e.q.1.n1
  have f1 := g2_flip (a := a) (n := a.length) (m := a.length) hi hj
  have f2 := g2_flip (a := a) (n := a.length) (m := a.length) hi hn
  have e1 := e.e j i hj hi
  have e2 := e.e 0 i hn hi
  unfold pC
  rw [f1, f2]
  omega
end Go.Proofs.Ytbpjblefmammcaa

/- Squares and fields drawn from bytes. -/
namespace Go.Proofs.Ytbpjblefmammcaa
open Go.RowKit

/-- A number of a drawn table is set. -/
theorem TO.set_at {w0 wb g A l c p v vs xss w} (h : TO w0 wb g A l c p v vs xss w) {i j : Nat} (h0 : i < xss.length) (h1 : j < (gr xss i).length) {x : Int} (hx : -1000 ≤ x ∧ x ≤ 1000) :
    ∃ bo c' b o cc, v = .slice (some ⟨bo, 0, none⟩) xss.length c' ∧ w.cell? ⟨bo, i, none⟩ = some (.slice (some ⟨b, o, none⟩) (gr xss i).length cc) ∧ (∃ y, w.cell? ⟨b, o + j, none⟩ = some (.int .i64 y)) ∧ w.frozen? ⟨b, o + j, none⟩ = false ∧
      TO w0 wb g A l c p v vs (xss.set i ((gr xss i).set j x)) (w.setCell ⟨b, o + j, none⟩ (.int .i64 x)) := by
  obtain ⟨bo, c', b, o, cc, ev, hc, l1, l2, hy, hf, hb⟩ := h.bo.set_at h0 h1 (x := x) (by omega)
  have hgl := h.gl
  have hs : (w.setCell ⟨b, o + j, none⟩ (.int .i64 x)).heap.size = w.heap.size := by simp [World.setCell]
  refine ⟨bo, c', b, o, cc, ev, hc, hy, hf, ⟨⟨blk_other h.rd.box (by show g ≠ b; omega) _, h.rd.bytes, h.rd.below.setCell (by show w0.heap.size ≤ b; have := h.rd.lt; omega) _, h.rd.lt, h.rd.small⟩, by rw [hs]; exact hb, h.gl, ?_⟩⟩
  exact ⟨h.up.os, h.up.tape, h.up.output, by rw [hs]; exact h.up.size, fun k hk hne => (Below.heap_setCell _ _ _ _ (by show k ≠ b; omega)).trans (h.up.block k hk hne)⟩
/-- .. and read. -/
theorem TO.get_at {w0 wb g A l c p bo c' vs xss w} (h : TO w0 wb g A l c p (.slice (some ⟨bo, 0, none⟩) xss.length c') vs xss w) {i j : Nat} (h0 : i < xss.length) (h1 : j < (gr xss i).length) :
    ∃ b o cc, w.cell? ⟨bo, i, none⟩ = some (.slice (some ⟨b, o, none⟩) (gr xss i).length cc) ∧ w.cell? ⟨b, o + j, none⟩ = some (.int .i64 (g2 xss i j)) := by
  obtain ⟨ho, h4, G, R, C, h2, h3⟩ := h.bo
  obtain ⟨q0, q1, q2⟩ := h2 i h0
  have hcx := ho.cells (g := bo) rfl i _ q0
  rw [add_at, Nat.zero_add] at hcx
  obtain ⟨b, o, e, hc⟩ := q1.ints.at_ (by omega)
  rw [e] at hcx
  exact ⟨b, o, C i, hcx, hc j h1⟩
theorem g2_small {xss : List (List Int)} (h : Small xss) {i j : Nat} (h0 : i < xss.length) (h1 : j < (gr xss i).length) : -1000 ≤ g2 xss i j ∧ g2 xss i j ≤ 1000 :=
  (h.rows _ (gr_mem h0)).2 _ (gi_mem h1)
theorem TO.qu {w0 wb g A l c p v vs xss w w'} (h : TO w0 wb g A l c p v vs xss w) (k : Quiet w w') : TO w0 wb g A l c p v vs xss w' := h.below k.below
theorem Shp.of {n m : Nat} {lo hi : Int} {xss : List (List Int)} (hl : xss.length = n) (h : ∀ r ∈ xss, RowIn m lo hi r) (hn : n ≤ 4) (hm : m ≤ 4) (h1 : -1000 ≤ lo) (h2 : hi ≤ 1000) : Shp n m xss :=
  ⟨hl, fun k hk => (h _ (gr_mem (by omega))).1, ⟨by omega, fun r hr => ⟨by have := (h r hr).1; omega, fun y hy => by have := (h r hr).2 y hy; omega⟩⟩⟩

set_option maxRecDepth 100000 in
set_option maxHeartbeats 3200000 in
theorem someSquare_any (w0 w : World) (g : Nat) (A : Option Addr) (l c p : Nat) (h : Rdr w0 w g A l c p) (hp : p < 800000000) :
    Calls Try.prog 68 #[.pointer (some ⟨g, 0, none⟩)] w (SomeT w0 g A l c p w) := by
  have HR := Lib.hid h
  have H1 := Lib.hid (one_lit w0 w _ g A l c (p) w.heap.size 5 [2, 3, 3, 2, 1] h (by omega) (below_alloc w (.cells #[iv 2, iv 3, iv 3, iv 2, iv 1] 3)) (Nat.le_refl _) (Ints.lit w [2, 3, 3, 2, 1] (by decide) (by decide)) (by omega))
  clear h
  go_enter Try.func68, Try.ntmps68
  go_wp2_with fail
  refine H1.out.mono ?_
  rintro e w1 ⟨n, rfl, hx, hr, hgr⟩
  have hn1 : 1 ≤ n ∧ n ≤ 3 := by simp at hx; omega
  have HG1 := Lib.hid hgr
  have H2 := Lib.hid (one_lit w0 w1 _ g A l c (p + 1) w1.heap.size 3 [3, 9, 1] hr (by omega) (below_alloc w1 (.cells #[iv 3, iv 9, iv 1] 3)) (Nat.le_refl _) (Ints.lit w1 [3, 9, 1] (by decide) (by decide)) (by omega))
  clear hx hr hgr H1 HR
  go_wp2_with fail
  refine H2.out.mono ?_
  rintro e w2 ⟨x, rfl, hx, hr, hgr⟩
  have hx1 : 1 ≤ x ∧ x ≤ 9 := by simp at hx; omega
  have HG2 := Lib.hid (grown_trans HG1.out hgr)
  obtain ⟨n, rfl⟩ := Int.eq_ofNat_of_zero_le (show 0 ≤ n by omega)
  have hn3 : n ≤ 3 := by omega
  have hn0 : 1 ≤ n := by omega
  have H4 := Lib.hid (tableOf_any w0 w2 g A l c (p + 2) n n (-x) x hr (by omega) (by omega) (by omega) (by omega) (by omega) (by omega))
  clear hx hr hgr H2 HG1 hn1
  go_wp2_with fail
  refine H4.out.mono ?_
  rintro e w4 ⟨Av, cv, vs, xss, p4, rfl, hl, hxs, hto, hp4⟩
  have HTO := Lib.hid hto
  have HSP := Lib.hid (Shp.of hl hxs (by omega) (by omega) (by omega) (by omega))
  have H5 := Lib.hid (pick_any w0 w4 g A l c p4 4 hto.rd (by omega))
  clear hxs hto H4 hl
  go_wp2_with fail
  refine H5.out.mono ?_
  rintro e w5 ⟨k, rfl, hk1, _, hr, z, hw⟩
  have hone := Rdr.one (g := g) w4 (.int .i64 (p4 + 1 : Nat)) z
  rw [← hw] at hone
  have HT5 := Lib.hid (HTO.out.one hr hone)
  clear hr hone hw hk1 H5 HTO
  by_cases e0 : k = 0
  · subst e0
    have HL0 := Lib.hid (show ∃ zs, Shp n n zs ∧ TO w0 w2 g A l c (p4 + 1) (.slice Av n cv) vs zs w5 from ⟨xss, HSP.out, HT5.out⟩)
    clear HSP HT5
    go_wp2
    go_loopw [6] (fun i_ wr => ∃ i : Nat, i ≤ n ∧ i_ = .int .i64 i ∧ Hid (∃ zs, Shp n n zs ∧ TO w0 w2 g A l c (p4 + 1) (.slice Av n cv) vs zs wr)) (fun i_ _ => n - (intOf i_).toNat)
    case atStart => exact ⟨0, Nat.zero_le _, rfl, HL0⟩
    case round =>
      clear HL0
      obtain ⟨i, hi, rfl, HL⟩ := hrel
      by_cases hlt : i < n
      · go_wp2
        go_loopw [7] (fun j_ wi => ∃ j : Nat, j ≤ i ∧ j_ = .int .i64 j ∧ Hid (∃ zs, Shp n n zs ∧ TO w0 w2 g A l c (p4 + 1) (.slice Av n cv) vs zs wi)) (fun j_ _ => i - (intOf j_).toNat)
        case atStart => exact ⟨0, Nat.zero_le _, rfl, HL⟩
        case round =>
          clear HL
          obtain ⟨j, hj, rfl, HL⟩ := hrel
          by_cases hjl : j < i
          · obtain ⟨xs, hsp, hto⟩ := HL.out
            have HSX := Lib.hid hsp
            have hlen := hsp.len
            have hri := hsp.row i hlt
            have hrj := hsp.row j (by omega)
            have hv := g2_small hsp.sm (i := j) (j := i) (by omega) (by omega)
            obtain ⟨bo, c', b, o, cc, ev, q1, ⟨y, q2⟩, q3, hts⟩ := hto.set_at (i := i) (j := j) (by omega) (by omega) hv
            injection ev with ev1 ev2 ev3
            subst ev1
            subst ev3
            clear ev2
            have hto' := hto
            rw [← hlen] at hto'
            obtain ⟨b2, o2, cc2, q4, q5⟩ := hto'.get_at (i := j) (j := i) (by omega) (by omega)
            rw [hri] at q1
            rw [hrj] at q4
            have HN := Lib.hid (show ∃ zs, Shp n n zs ∧ TO w0 w2 g A l c (p4 + 1) (.slice (some ⟨bo, 0, none⟩) n cv) vs zs (wr.setCell ⟨b, o + j, none⟩ (.int .i64 (g2 xs j i))) from ⟨_, hsp.set hlt hv, hts⟩)
            have hjn : j < n := by omega
            clear hsp hto hto' hlen hri hrj hv hts HL
            generalize g2 xs j i = x0 at *
            go_wp2
            go_region
            all_goals
              clear q1 q2 q3 q4 q5
              go_wp2
              go_roundw
              case rel => exact ⟨j + 1, by omega, by go_num, Lib.hid (by obtain ⟨xs', h1, h2⟩ := HN.out; exact ⟨xs', h1, by first | exact h2 | exact h2.qu ⟨1, rfl⟩ | exact h2.qu ⟨_, rfl⟩⟩)⟩
              case measure => simp [intOf]; omega
          · obtain rfl : j = i := by omega
            go_wp2
            go_roundw
            case rel => exact ⟨j + 1, by omega, by go_num, HL⟩
            case measure => simp [intOf]; omega
      · obtain rfl : i = n := by omega
        obtain ⟨xs, hsp, hto⟩ := HL.out
        have HSX := Lib.hid hsp
        have HTX := Lib.hid hto
        clear hsp hto HL
        generalize wr = w6 at *
        have H6 := Lib.hid (spoil_any w0 w2 w6 g A l c (p4 + 1) _ _ _ _ (by rw [HSX.out.len]; exact HTX.out) (by omega) HSX.out.sm (by have := HSX.out.len; omega))
        rw [HSX.out.len] at H6
        go_wp2_with fail
        refine H6.out.mono ?_
        rintro e w9 ⟨v', vs', xss', p', rfl, hs, hto, hp5⟩
        have HTO := Lib.hid hto
        have HSM2 := Lib.hid hs
        clear hs hto H6
        go_wp2
        go_ret
        exact ⟨_, _, _, _, _, rfl, HSM2.out, HTO.out, by omega, HG2.out⟩
  · have e0' : (k == 0) = false := by simpa using e0
    have H6 := Lib.hid (spoil_any w0 w2 w5 g A l c (p4 + 1) _ _ _ _ (by rw [HSP.out.len]; exact HT5.out) (by omega) HSP.out.sm (by have := HSP.out.len; omega))
    rw [HSP.out.len] at H6
    go_wp2_with fail
    refine H6.out.mono ?_
    rintro e w9 ⟨v', vs', xss', p', rfl, hs, hto, hp5⟩
    have HTO := Lib.hid hto
    have HSM2 := Lib.hid hs
    clear hs hto H6
    go_wp2
    go_ret
    exact ⟨_, _, _, _, _, rfl, HSM2.out, HTO.out, by omega, HG2.out⟩

end Go.Proofs.Ytbpjblefmammcaa

/- Fields drawn from bytes. -/
namespace Go.Proofs.Ytbpjblefmammcaa
open Go.RowKit


end Go.Proofs.Ytbpjblefmammcaa

/- A row under way: its numbers may be set; shares drawn. -/
namespace Go.Proofs.Ytbpjblefmammcaa
open Go.RowKit

theorem BldI.set {lo hi w v xs} (h : BldI lo hi w v xs) {j : Nat} (hj : j < xs.length) (x : Int) :
    ∃ b c, v = .slice (some ⟨b, 0, none⟩) xs.length c ∧ lo ≤ b ∧ b < hi ∧ w.cell? ⟨b, j, none⟩ = some (.int .i64 (gi xs j)) ∧ w.frozen? ⟨b, j, none⟩ = false ∧
      BldI lo hi (w.setCell ⟨b, j, none⟩ (.int .i64 x)) v (xs.set j x) := by
  have hh := h.hi_
  rcases h.own.2 with ⟨_, h0⟩ | ⟨g, cap, cur, rfl, hb, hg, hnc, hcm, hcs, htake⟩
  · omega
  · rw [Nat.mul_one] at htake hcs
    have hB : Blk w g 3 cur := hg
    have hc : cur[j]? = some (.int .i64 (gi xs j)) := by
      rw [← getElem_iv hj, ← htake, List.getElem?_take, if_pos hj]; simp
    refine ⟨g, cap, rfl, hb, hh g rfl, blk_cell hB hc, blk_frozen hB j, ⟨⟨by simp, .inr ⟨g, cap, cur.setIfInBounds j (.int .i64 x), by rw [List.length_set], hb, blk_set hB j _, by rw [List.length_set]; exact hnc, hcm, by simp [hcs], ?_⟩⟩, hh⟩⟩
    rw [List.length_set, Nat.mul_one, Array.toList_setIfInBounds, List.take_set, htake, List.map_set]
    rfl

/-- A row by itself, begun behind the world wb. -/
def SH (w0 wb : World) (g : Nat) (A : Option Addr) (l c p : Nat) (u : Value) (ys : List Int) (w : World) : Prop := TI w0 wb g A l c p wb.heap.size (.slice none 0 0) [] [] u ys w
theorem SH.start {w0 wb g A l c p} (h : Rdr w0 wb g A l c p) : SH w0 wb g A l c p (.slice (some ⟨wb.heap.size, 0, none⟩) 0 0) [] (wb.alloc (.cells #[] 3)) :=
  ⟨h.below_ (below_alloc _ _), Bld.nil _ _ _, by rw [World.size_alloc]; exact BldI.make (Nat.le_refl _), blk_lt h.box, Nat.le_refl _, by simp, grown_of_below (below_alloc _ _)⟩
theorem SH.below {w0 wb g A l c p u ys w w'} (h : SH w0 wb g A l c p u ys w) (k : Below w.heap.size w w') : SH w0 wb g A l c p u ys w' :=
  ⟨h.rd.below_ k, Bld.nil _ _ _, (h.bi.below k).mono k.size, h.gl, h.lh, Nat.le_trans h.hs k.size, grown_below h.up k⟩
theorem SH.one {w0 wb g A l c p p' u ys w w'} (h : SH w0 wb g A l c p u ys w) (hr : Rdr w0 w' g A l c p') (ho : One g w w') : SH w0 wb g A l c p' u ys w' := TI.one h hr ho
theorem SH.set {w0 wb g A l c p u ys w} (h : SH w0 wb g A l c p u ys w) {j : Nat} (hj : j < ys.length) (x : Int) :
    ∃ b cc, u = .slice (some ⟨b, 0, none⟩) ys.length cc ∧ w.cell? ⟨b, j, none⟩ = some (.int .i64 (gi ys j)) ∧ w.frozen? ⟨b, j, none⟩ = false ∧ SH w0 wb g A l c p u (ys.set j x) (w.setCell ⟨b, j, none⟩ (.int .i64 x)) := by
  obtain ⟨b, cc, e, h1, h2, h3, h4, h5⟩ := h.bi.set hj x
  have hgl := h.gl
  have hs : (w.setCell ⟨b, j, none⟩ (.int .i64 x)).heap.size = w.heap.size := by simp [World.setCell]
  refine ⟨b, cc, e, h3, h4, ⟨⟨blk_other h.rd.box (by show g ≠ b; omega) _, h.rd.bytes, h.rd.below.setCell (by show w0.heap.size ≤ b; have := h.rd.lt; omega) _, h.rd.lt, h.rd.small⟩, Bld.nil _ _ _, by rw [hs]; exact h5, h.gl, h.lh, by rw [hs]; exact h.hs, ?_⟩⟩
  exact ⟨h.up.os, h.up.tape, h.up.output, by rw [hs]; exact h.up.size, fun k hk hne => (Below.heap_setCell _ _ _ _ (by show k ≠ b; omega)).trans (h.up.block k hk hne)⟩
def SharesOut (w0 wb : World) (g : Nat) (A : Option Addr) (l c p n : Nat) (e : Ending) (w' : World) : Prop :=
  ∃ Av cv ys p', e = .returned (.slice Av ys.length cv) ∧ ys.length ≤ n + 1 ∧ (∀ x ∈ ys, -1 ≤ x ∧ x ≤ 1001) ∧ SH w0 wb g A l c p' (.slice Av ys.length cv) ys w' ∧ p' ≤ p + 3 * n + 3

end Go.Proofs.Ytbpjblefmammcaa

/- Means of a table with shares, by both programs. -/
namespace Go.Proofs.Ytbpjblefmammcaa
open Go.RowKit

/-- The box of a fraction that a function returns, at its start. -/
structure PF (w W : World) : Prop where
  box : Blk W w.heap.size 44 #[.int .i64 0, .int .i64 0]
  below : Below w.heap.size w W
theorem PF.start (w : World) : PF w (w.alloc (.cells #[.int .i64 0, .int .i64 0] 44)) := ⟨blk_new _ _ _, below_alloc _ _⟩
theorem PF.up {w W W' : World} (h : PF w W) (k : Below W.heap.size W W') : PF w W' := ⟨blk_below h.box k, below_up h.below k⟩
theorem PF.keep {w W : World} (h : PF w W) : Keep w W := Keep.below h.below

theorem VT.vsn {a : List (List Int)} (v : VT a) (x : List Int) : pb (VSn x a.length) = pb (VS x a.length) :=
  pb_congr ⟨fun h => h.2.2, fun h => ⟨by have := v.n1; omega, by have := v.n3; omega, h⟩⟩
theorem VT.vsm {a : List (List Int)} (v : VT a) (x : List Int) : pb (VSn x (gr a 0).length) = pb (VS x (gr a 0).length) :=
  pb_congr ⟨fun h => h.2.2, fun h => ⟨by have := v.m1; omega, by have := v.m3; omega, h⟩⟩
theorem VT.pb_ {a : List (List Int)} {x y : List Int} (v : VT a) (hx : VS x a.length) (hy : VS y (gr a 0).length) : PB a x y a.length (gr a 0).length :=
  ⟨fun i j hi hj => v.bd hi hj, fun i hi => hx.2.1 i (by have := hx.1; omega), fun j hj => hy.2.1 j (by have := hy.1; omega)⟩
structure POk (a : List (List Int)) (x y : List Int) : Prop where
  v : VT a
  x : VS x a.length
  y : VS y (gr a 0).length
noncomputable def payF (a : List (List Int)) (x y : List Int) : Value := if pb (POk a x y) = true then frV (payU a x y (gr a 0).length a.length) (tot x * tot y) else .agg #[.int .i64 0, .int .i64 0]
theorem payF_yes {a x y} (h : POk a x y) : payF a x y = frV (payU a x y (gr a 0).length a.length) (tot x * tot y) := by rw [payF, if_pos (pb_true h)]
theorem payF_no {a x y} (h : ¬ POk a x y) : payF a x y = .agg #[.int .i64 0, .int .i64 0] := by rw [payF, if_neg (by rw [pb_false h]; decide)]

theorem ValidShares_any' (A : Option Addr) (n c : Nat) (xs : List Int) (m : Int) (w : World) (hx : Ints w A n c xs) (_ : m ≤ 3) :
    Calls Try.prog 55 #[.slice A n c, .int .i64 m] w fun e w' => e = .returned (.bool (pb (VSn xs m))) ∧ Quiet w w' := ValidShares_impl A n c xs m w hx

theorem frV_form (u d : Int) : ∃ U D, frV u d = .agg #[.int .i64 U, .int .i64 D] := ⟨_, _, rfl⟩
theorem payF_form (a : List (List Int)) (x y : List Int) : ∃ U D, payF a x y = .agg #[.int .i64 U, .int .i64 D] := by
  unfold payF
  split
  · exact frV_form _ _
  · exact ⟨_, _, rfl⟩

end Go.Proofs.Ytbpjblefmammcaa

/- Shares of one alone; the worst mean: by both programs. -/
namespace Go.Proofs.Ytbpjblefmammcaa
open Go.RowKit

theorem alloc_set (w : World) (cs : Array Value) (t : TypeId) (i : Nat) (v : Value) : (w.alloc (.cells cs t)).setCell ⟨w.heap.size, i, none⟩ v = w.alloc (.cells (cs.setIfInBounds i v) t) := by
  unfold World.setCell World.alloc
  congr 1
  apply Array.ext
  · simp
  · intro j h1 h2
    simp only [Array.size_modify, Array.size_push] at h1
    rw [Array.getElem_modify]
    by_cases e : w.heap.size = j
    · subst e; simp
    · rw [if_neg e, Array.getElem_push_lt (by omega), Array.getElem_push_lt (by omega)]
def MadeO (w : World) (n i : Nat) (e : Ending) (w' : World) : Prop :=
  e = .returned (.slice (some ⟨w.heap.size, 0, none⟩) n n) ∧ OwnI w.heap.size w'.heap.size w' w.heap.size (some ⟨w.heap.size, 0, none⟩) n n (onl n i) ∧ Below w.heap.size w w'
theorem onl_own (w w1 : World) (n i : Nat) (hn : n ≤ 100) (hr : w1.rowIs w.heap.size 3 n (fun j => if j = i then .int .i64 1 else .int .i64 0)) :
    OwnI w.heap.size w1.heap.size w1 w.heap.size (some ⟨w.heap.size, 0, none⟩) n n (onl n i) :=
  OwnI.of_rowIs (onl_len n i) (by omega) (fun x hx => by
    obtain ⟨k, hk, rfl⟩ := List.mem_iff_getElem.1 hx
    rw [onl_len] at hk
    have := onl_bd (n := n) (i := i) hk
    rw [gi_get (by rw [onl_len]; exact hk)] at this
    omega) (Nat.le_refl _) hr.lt hr fun k hk => by
      show (if k = i then Value.int .i64 1 else Value.int .i64 0) = _
      rw [gi_onl hk]; split <;> rfl

set_option maxHeartbeats 400000 in
theorem alone_spec (n i : Nat) (w : World) (hn : n ≤ 100) (hi : i < n) : Calls Try.prog 75 #[.int .i64 n, .int .i64 i] w (MadeO w n i) := by
  have hmk := run_make_row' (P := Try.prog) 26 3 (.int .i64 0) 8 Try.underlying26 Try.info3 rfl .i64 .i64 n (by omega) (by omega)
  have hrow := World.rowIs_made w (.int .i64 0) n 3
  have c1 := hrow.cell hi
  have c2 := hrow.frozen i
  have hb := below_alloc w (.cells (madeCells #[.int .i64 0] n) 3)
  have HR := Lib.hid ((hrow.set i (.int .i64 1)).congr (g := fun j => if j = i then .int .i64 1 else .int .i64 0) fun j _ => rfl)
  have HB := Lib.hid (hb.setCell (p := ⟨w.heap.size, i, none⟩) (Nat.le_refl _) (.int .i64 1))
  have HE := Lib.hid (alloc_set w (madeCells #[.int .i64 0] n) 3 i (.int .i64 1))
  clear hrow hb
  go_enter Try.func75, Try.ntmps75
  go_wp2
  go_ret
  exact ⟨rfl, onl_own w _ n i hn (by rw [← HE.out]; exact HR.out), by rw [← HE.out]; exact HB.out⟩
set_option maxHeartbeats 400000 in
theorem alone_impl (n i : Nat) (w : World) (hn : n ≤ 100) (hi : i < n) : Calls Try.prog 57 #[.int .i64 i, .int .i64 n] w (MadeO w n i) := by
  have hmk := run_make_row' (P := Try.prog) 26 3 (.int .i64 0) 8 Try.underlying26 Try.info3 rfl .i64 .i64 n (by omega) (by omega)
  have hrow := World.rowIs_made w (.int .i64 0) n 3
  have c1 := hrow.cell hi
  have c2 := hrow.frozen i
  have hb := below_alloc w (.cells (madeCells #[.int .i64 0] n) 3)
  have HR := Lib.hid ((hrow.set i (.int .i64 1)).congr (g := fun j => if j = i then .int .i64 1 else .int .i64 0) fun j _ => rfl)
  have HB := Lib.hid (hb.setCell (p := ⟨w.heap.size, i, none⟩) (Nat.le_refl _) (.int .i64 1))
  have HE := Lib.hid (alloc_set w (madeCells #[.int .i64 0] n) 3 i (.int .i64 1))
  clear hrow hb
  go_enter Try.func57, Try.ntmps57
  go_wp2
  go_ret
  exact ⟨rfl, onl_own w _ n i hn (by rw [← HE.out]; exact HR.out), by rw [← HE.out]; exact HB.out⟩
end Go.Proofs.Ytbpjblefmammcaa

/- The least mean over columns alone, by the model. -/
namespace Go.Proofs.Ytbpjblefmammcaa
open Go.RowKit

theorem PB.onl {a x y n m} (h : PB a x y n m) (j : Nat) : PB a x (onl m j) n m :=
  ⟨h.a, h.x, fun k hk => by have := onl_bd (n := m) (i := j) hk; omega⟩
theorem col_bd {a x y n m} (h : PB a x y n m) (hn : n ≤ 3) (hm : m ≤ 3) (j : Nat) : -81000000 ≤ colU a x n m j ∧ colU a x n m j ≤ 81000000 := by
  have := payU_bd (h.onl j) hm (Nat.le_refl n)
  unfold colU
  omega
theorem wst_bd {a x y n m} (h : PB a x y n m) (hn : n ≤ 3) (hm : m ≤ 3) (tx : 0 < tot x) (tx3 : tot x ≤ 3000) : ∀ k, (-81000000 ≤ (wst a x n m k).1 ∧ (wst a x n m k).1 ≤ 81000000) ∧ 1 ≤ (wst a x n m k).2 ∧ (wst a x n m k).2 ≤ 3000
  | 0 => ⟨frU_bd tx (col_bd h hn hm 0), frD_bd tx tx3⟩
  | k + 1 => by
    simp only [wst]
    split
    · exact ⟨frU_bd tx (col_bd h hn hm (k + 1)), frD_bd tx tx3⟩
    · exact wst_bd h hn hm tx tx3 k
theorem wst_yes {a x n m k} (h : lessB (frU (colU a x n m (k + 1)) (tot x)) (frD (colU a x n m (k + 1)) (tot x)) (wst a x n m k).1 (wst a x n m k).2 = true) :
    wst a x n m (k + 1) = (frU (colU a x n m (k + 1)) (tot x), frD (colU a x n m (k + 1)) (tot x)) := by
  unfold lessB at h
  simp only [decide_eq_true_eq] at h
  simp only [wst]
  rw [if_pos h]
theorem wst_no {a x n m k} (h : lessB (frU (colU a x n m (k + 1)) (tot x)) (frD (colU a x n m (k + 1)) (tot x)) (wst a x n m k).1 (wst a x n m k).2 = false) : wst a x n m (k + 1) = wst a x n m k := by
  unfold lessB at h
  simp only [decide_eq_false_iff_not] at h
  simp only [wst]
  rw [if_neg h]

/-- The boxes of the result and of what is the least so far. -/
structure WO (w W : World) (U D : Int) : Prop where
  b0 : Blk W w.heap.size 44 #[.int .i64 0, .int .i64 0]
  b1 : Blk W (w.heap.size + 1) 44 #[.int .i64 U, .int .i64 D]
  below : Below w.heap.size w W
theorem WO.up {w W W' U D} (h : WO w W U D) (k : Below W.heap.size W W') : WO w W' U D := ⟨blk_below h.b0 k, blk_below h.b1 k, below_up h.below k⟩
theorem WO.keep {w W U D} (h : WO w W U D) : Keep w W := Keep.below h.below
theorem WO.start (w : World) : WO w ((w.alloc (.cells #[.int .i64 0, .int .i64 0] 44)).alloc (.cells #[.int .i64 0, .int .i64 0] 44)) 0 0 := by
  have h := blk_new (w.alloc (.cells #[.int .i64 0, .int .i64 0] 44)) 44 #[.int .i64 0, .int .i64 0]
  rw [World.size_alloc] at h
  exact ⟨blk_old (blk_new _ _ _) _, h, below_up (below_alloc _ _) (below_alloc _ _)⟩
theorem WO.set {w W U D} (h : WO w W U D) (U' D' : Int) : WO w ((W.setCell ⟨w.heap.size + 1, 0, none⟩ (.int .i64 U')).setCell ⟨w.heap.size + 1, 1, none⟩ (.int .i64 D')) U' D' :=
  ⟨blk_other (blk_other h.b0 (p := ⟨w.heap.size + 1, 0, none⟩) (by show w.heap.size ≠ w.heap.size + 1; omega) _) (p := ⟨w.heap.size + 1, 1, none⟩) (by show w.heap.size ≠ w.heap.size + 1; omega) _,
   blk_set (blk_set h.b1 0 (.int .i64 U')) 1 (.int .i64 D'),
   (h.below.setCell (p := ⟨w.heap.size + 1, 0, none⟩) (by show w.heap.size ≤ w.heap.size + 1; omega) _).setCell (p := ⟨w.heap.size + 1, 1, none⟩) (by show w.heap.size ≤ w.heap.size + 1; omega) _⟩

end Go.Proofs.Ytbpjblefmammcaa

/- The worst mean of shares, by both programs. -/
namespace Go.Proofs.Ytbpjblefmammcaa
open Go.RowKit

structure WOk (a : List (List Int)) (x : List Int) : Prop where
  v : VT a
  x : VS x a.length
def wstV (p : Int × Int) : Value := .agg #[.int .i64 p.1, .int .i64 p.2]
def wlast (a : List (List Int)) (x : List Int) : Int × Int := wst a x a.length (gr a 0).length ((gr a 0).length - 1)
noncomputable def worF (a : List (List Int)) (x : List Int) : Int × Int := if pb (WOk a x) = true then wlast a x else (0, 0)
theorem worF_yes {a x} (h : WOk a x) : worF a x = wlast a x := by rw [worF, if_pos (pb_true h)]
theorem worF_no {a x} (h : ¬ WOk a x) : worF a x = (0, 0) := by rw [worF, if_neg (by rw [pb_false h]; decide)]
theorem wstV_form (p : Int × Int) : ∃ U D, wstV p = .agg #[.int .i64 U, .int .i64 D] := ⟨_, _, rfl⟩
theorem VT.pbx {a : List (List Int)} {x : List Int} (v : VT a) (hx : VS x a.length) : PB a x (onl (gr a 0).length 0) a.length (gr a 0).length :=
  ⟨fun i j hi hj => v.bd hi hj, fun i hi => hx.2.1 i (by have := hx.1; omega), fun j hj => by have := onl_bd (n := (gr a 0).length) (i := 0) hj; omega⟩

/-- The boxes of the result and of what is the least so far, at h. -/
structure WP (w W : World) (h : Nat) (U D : Int) : Prop where
  b0 : Blk W w.heap.size 44 #[.int .i64 0, .int .i64 0]
  b1 : Blk W h 44 #[.int .i64 U, .int .i64 D]
  lt : w.heap.size < h
  below : Below w.heap.size w W
theorem WP.up {w W W' h U D} (p : WP w W h U D) (k : Below W.heap.size W W') : WP w W' h U D := ⟨blk_below p.b0 k, blk_below p.b1 k, p.lt, below_up p.below k⟩
theorem WP.keep {w W h U D} (p : WP w W h U D) : Keep w W := Keep.below p.below
theorem WP.start {w W : World} (p : PF w W) (U D : Int) : WP w (W.alloc (.cells #[.int .i64 U, .int .i64 D] 44)) W.heap.size U D :=
  ⟨blk_old p.box _, blk_new _ _ _, blk_lt p.box, below_up p.below (below_alloc _ _)⟩
theorem WP.set {w W h U D} (p : WP w W h U D) (U' D' : Int) : WP w ((W.setCell ⟨h, 0, none⟩ (.int .i64 U')).setCell ⟨h, 1, none⟩ (.int .i64 D')) h U' D' := by
  have hl := p.lt
  exact ⟨blk_other (blk_other p.b0 (p := ⟨h, 0, none⟩) (by show w.heap.size ≠ h; omega) _) (p := ⟨h, 1, none⟩) (by show w.heap.size ≠ h; omega) _,
   blk_set (blk_set p.b1 0 (.int .i64 U')) 1 (.int .i64 D'), hl,
   (p.below.setCell (p := ⟨h, 0, none⟩) (by show w.heap.size ≤ h; omega) _).setCell (p := ⟨h, 1, none⟩) (by show w.heap.size ≤ h; omega) _⟩
theorem frV_onl (u : Int) (x : List Int) {m j : Nat} (h : j < m) : frV u (tot x * tot (onl m j)) = .agg #[.int .i64 (frU u (tot x)), .int .i64 (frD u (tot x))] := by
  rw [tot_onl h, Int.mul_one]; rfl

set_option maxRecDepth 100000 in
set_option maxHeartbeats 3200000 in
theorem WorstOf_impl (A X : Option Addr) (n c nx cx : Nat) (a : List (List Int)) (x : List Int) (w : World) (ha : IntRows w A n c a) (hx : Ints w X nx cx x) :
    Calls Try.prog 25 #[.slice A n c, .slice X nx cx] w (Ret (.tuple #[wstV (worF a x), .bool (pb (WOk a x))]) w) := by
  have HA := Lib.hid ha
  have HX := Lib.hid hx
  have HPF := Lib.hid (PF.start w)
  clear ha hx
  by_cases hv : VT a
  · have HV := Lib.hid hv
    have hn1 := hv.n1
    have hn3 := hv.n3
    have hm1 := hv.m1
    have hm3 := hv.m3
    rw [HA.out.len] at hn1 hn3
    have HC := Lib.hid (pb_true hv ▸ ValidTable_impl _ _ _ _ _ (HA.out.keep HPF.out.keep))
    clear hv
    have HLEN := Lib.hid HA.out.len
    by_cases hvx : VS x a.length
    · have HVX := Lib.hid hvx
      have hq := fun W (k : Keep w W) => ValidShares_any' _ _ _ _ (n : Int) W (HX.out.keep k) (by omega)
      rw [show pb (VSn x (n : Int)) = true by rw [← HLEN.out]; rw [HV.out.vsn]; exact pb_true hvx] at hq
      have HQ := Lib.hid hq
      clear hvx hq
      have HP := Lib.hid (WOk.mk HV.out HVX.out)
      have HPB := Lib.hid (HV.out.pbx HVX.out)
      have tx := HVX.out.2.2
      have h1 : n = nx := by have := HVX.out.1; have := HX.out.len; have := HLEN.out; omega
      subst h1
      obtain ⟨b, o, rb, ro, cc, rfl, tab⟩ := HA.out.tab HV.out
      have HT := Lib.hid tab
      clear tab
      rw [worF_yes HP.out, pb_true HP.out, wlast, HLEN.out]
      rw [HLEN.out] at HPB
      generalize (gr a 0).length = m at *
      have hrow := HT.out.row 0 (by omega)
      simp only [Nat.add_zero] at hrow
      have HROW := Lib.hid hrow
      have hbx := tot_bd hn3 HX.out.len HPB.out.x
      have HW := Lib.hid (wst_bd HPB.out hn3 hm3 tx hbx.2)
      clear hrow
      go_enter Try.func25, Try.ntmps25
      go_wp2_with fail
      refine HC.out.mono ?_
      rintro e w1 ⟨rfl, hq⟩
      have HPF1 := Lib.hid (HPF.out.up hq.below)
      clear hq HC HPF
      go_wp2_with fail
      refine (HQ.out _ HPF1.out.keep).mono ?_
      rintro e w2 ⟨rfl, hq⟩
      have HPF := Lib.hid (HPF1.out.up hq.below)
      clear hq HQ HPF1
      have hrow := HPF.out.keep _ _ HROW.out
      have HA0 := Lib.hid (alone_impl m 0 w2 (by omega) (by omega))
      go_wp2_with fail
      refine HA0.out.mono ?_
      rintro e w3 ⟨rfl, ho, hb⟩
      have HPF1 := Lib.hid (HPF.out.up hb)
      have HY := Lib.hid ho.ints
      clear ho hb HA0 HPF hrow
      have HMP := Lib.hid (meanPay_any b o rb ro cc n m c cx m X _ a x (onl m 0) w3 (HT.out.keep HPF1.out.keep) (HX.out.keep HPF1.out.keep) HY.out (HPB.out.onl 0) tx (by rw [tot_onl (by omega)]; omega))
      rw [frV_onl _ _ (by omega)] at HMP
      go_wp2_with fail
      refine HMP.out.mono ?_
      rintro e w4 ⟨rfl, hb⟩
      have HPF := Lib.hid (HPF1.out.up hb)
      clear hb HMP HPF1 HY
      have HU0 : Hid ((frU (payU a x (onl m 0) m n) (tot x), frD (payU a x (onl m 0) m n) (tot x)) = wst a x n m (0 - 1)) := Lib.hid rfl
      generalize frU (payU a x (onl m 0) m n) (tot x) = U at *
      generalize frD (payU a x (onl m 0) m n) (tot x) = D at *
      have HO := Lib.hid (WP.start HPF.out U D)
      have hrow := HO.out.keep _ _ HROW.out
      clear HPF
      go_wp2
      clear hrow
      generalize w4.alloc (.cells #[.int .i64 U, .int .i64 D] 44) = W4 at *
      generalize w4.heap.size = h at *
      go_loopw [32] (fun i wr => ∃ (j : Nat) (U D : Int), j ≤ m ∧ i = .int .i64 j ∧ Hid (WP w wr h U D) ∧ Hid ((U, D) = wst a x n m (j - 1))) (fun i _ => m - (intOf i).toNat)
      case atStart => exact ⟨0, U, D, Nat.zero_le _, rfl, HO, HU0⟩
      case round =>
        clear HO HU0
        obtain ⟨j, U, D, hj, rfl, HO, HUD⟩ := hrel
        have hrow := HO.out.keep _ _ HROW.out
        by_cases hlt : j < m
        · have HA0 := Lib.hid (alone_impl m j wr (by omega) hlt)
          go_wp2_with fail
          refine HA0.out.mono ?_
          rintro e w5 ⟨rfl, ho, hb⟩
          have HO1 := Lib.hid (HO.out.up hb)
          have HY := Lib.hid ho.ints
          clear ho hb HA0 HO hrow
          have HMP := Lib.hid (meanPay_any b o rb ro cc n m c cx m X _ a x (onl m j) w5 (HT.out.keep HO1.out.keep) (HX.out.keep HO1.out.keep) HY.out (HPB.out.onl j) tx (by rw [tot_onl hlt]; omega))
          rw [frV_onl _ _ hlt] at HMP
          go_wp2_with fail
          refine HMP.out.mono ?_
          rintro e w6 ⟨rfl, hb⟩
          have HO4 := Lib.hid (HO1.out.up hb)
          clear hb HMP HO1 HY
          have HCB := Lib.hid (col_bd HPB.out hn3 hm3 j)
          have HFU := Lib.hid (frU_bd tx HCB.out)
          have HFD := Lib.hid (frD_bd (u := colU a x n m j) tx hbx.2)
          have HPQ : Hid ((frU (colU a x n m j) (tot x), frD (colU a x n m j) (tot x)) = (frU (payU a x (onl m j) m n) (tot x), frD (payU a x (onl m j) m n) (tot x))) := Lib.hid rfl
          generalize frU (payU a x (onl m j) m n) (tot x) = u at *
          generalize frD (payU a x (onl m j) m n) (tot x) = d at *
          have HE := Lib.hid (show frU (colU a x n m j) (tot x) = u from (Prod.ext_iff.1 HPQ.out).1)
          have HE2 := Lib.hid (show frD (colU a x n m j) (tot x) = d from (Prod.ext_iff.1 HPQ.out).2)
          have hub := HFU.out
          have hdb := HFD.out
          rw [HE.out] at hub
          rw [HE2.out] at hdb
          clear HFU HFD
          have hz4 : h < w6.heap.size := blk_lt HO4.out.b1
          have HO5 := Lib.hid (HO4.out.up (below_alloc w6 (.cells #[.int .i64 u, .int .i64 d] 44)))
          have HB5 := Lib.hid (blk_new w6 44 #[.int .i64 u, .int .i64 d])
          have c0 := blk_cell HO5.out.b1 (i := 0) (v := .int .i64 U) rfl
          have c1 := blk_cell HO5.out.b1 (i := 1) (v := .int .i64 D) rfl
          have k0 := blk_cell HB5.out (i := 0) (v := .int .i64 u) rfl
          have k1 := blk_cell HB5.out (i := 1) (v := .int .i64 d) rfl
          clear HO4
          have HUD2 := Lib.hid (show U = (wst a x n m (j - 1)).1 ∧ D = (wst a x n m (j - 1)).2 from ⟨(Prod.ext_iff.1 HUD.out).1, (Prod.ext_iff.1 HUD.out).2⟩)
          have hWB := HW.out (j - 1)
          rw [← HUD2.out.1, ← HUD2.out.2] at hWB
          obtain ⟨⟨wb1, wb2⟩, wb3, wb4⟩ := hWB
          have HL := Lib.hid (less_impl u d U D (w6.alloc (.cells #[.int .i64 u, .int .i64 d] 44)) (by omega) (by omega) (by omega) (by omega))
          go_wp2_with fail
          refine HL.out.mono ?_
          rintro e w7 ⟨rfl, hb⟩
          have HO6 := Lib.hid (HO5.out.up hb)
          have HB6 := Lib.hid (blk_below HB5.out hb)
          clear hb HL c0 c1 k0 k1 HO5 HB5
          have c0 := blk_cell HO6.out.b1 (i := 0) (v := .int .i64 U) rfl
          have c1 := blk_cell HO6.out.b1 (i := 1) (v := .int .i64 D) rfl
          have f0 := blk_frozen HO6.out.b1 0
          have f1 := blk_frozen HO6.out.b1 1
          have k0 := blk_cell HB6.out (i := 0) (v := .int .i64 u) rfl
          have k1 := blk_cell HB6.out (i := 1) (v := .int .i64 d) rfl
          have HO7 := Lib.hid (HO6.out.set u d)
          have HS0 : Hid (j = 0 → wst a x n m j = (u, d)) := Lib.hid (fun e => by subst e; rw [wst, HE.out, HE2.out])
          have HJJ : Hid (j ≠ 0 → j - 1 + 1 = j) := Lib.hid (fun _ => by omega)
          by_cases hless : lessB u d U D = true
          · have HN : Hid (wst a x n m j = (u, d)) := Lib.hid (by
              by_cases e : j = 0
              · exact HS0.out e
              · have hjj := HJJ.out e
                have := wst_yes (a := a) (x := x) (n := n) (m := m) (k := j - 1) (by rw [hjj, HE.out, HE2.out, ← HUD2.out.1, ← HUD2.out.2]; exact hless)
                rw [hjj, HE.out, HE2.out] at this
                exact this)
            go_wp2
            go_roundw
            case rel => exact ⟨j + 1, u, d, by omega, by go_num, HO7, Lib.hid (by rw [Nat.add_sub_cancel, HN.out])⟩
            case measure => simp [intOf]; omega
          · have hless' : lessB u d U D = false := by simpa using hless
            have HN : Hid (wst a x n m j = (U, D)) := Lib.hid (by
              by_cases e : j = 0
              · rw [HUD.out, e]
              · have hjj := HJJ.out e
                have := wst_no (a := a) (x := x) (n := n) (m := m) (k := j - 1) (by rw [hjj, HE.out, HE2.out, ← HUD2.out.1, ← HUD2.out.2]; exact hless')
                rw [hjj] at this
                rw [this, HUD2.out.1, HUD2.out.2])
            clear hless
            go_wp2
            go_roundw
            case rel => exact ⟨j + 1, U, D, by omega, by go_num, HO6, Lib.hid (by rw [Nat.add_sub_cancel, HN.out])⟩
            case measure => simp [intOf]; omega
        · obtain rfl : j = m := by omega
          have HFV : Hid (wstV (wst a x n j (j - 1)) = .agg #[.int .i64 U, .int .i64 D]) := Lib.hid (by rw [← HUD.out]; rfl)
          rw [HFV.out]
          have k0 := blk_cell HO.out.b1 (i := 0) (v := .int .i64 U) rfl
          have k1 := blk_cell HO.out.b1 (i := 1) (v := .int .i64 D) rfl
          have HPF := Lib.hid (PF.mk HO.out.b0 HO.out.below)
          clear HO
          have c0 := blk_cell HPF.out.box (i := 0) rfl
          have c1 := blk_cell HPF.out.box (i := 1) rfl
          have f0 := blk_frozen HPF.out.box 0
          have f1 := blk_frozen HPF.out.box 1
          go_wp2
          clear c0 c1 f0 f1
          have B1 := blk_set (blk_set HPF.out.box 0 (.int .i64 U)) 1 (.int .i64 D)
          have r0 := blk_cell B1 (i := 0) (v := .int .i64 U) rfl
          have r1 := blk_cell B1 (i := 1) (v := .int .i64 D) rfl
          have HBX := Lib.hid ((HPF.out.below.setCell (p := ⟨w.heap.size, 0, none⟩) (Nat.le_refl _) (.int .i64 U)).setCell (p := ⟨w.heap.size, 1, none⟩) (Nat.le_refl _) (.int .i64 D))
          clear B1 HPF
          generalize (wr.setCell ⟨w.heap.size, 0, none⟩ (.int .i64 U)).setCell ⟨w.heap.size, 1, none⟩ (.int .i64 D) = WE at *
          refine bodyPost_ret (v := .tuple #[.agg #[.int .i64 U, .int .i64 D], .bool true]) (by simp [results, Try.results25, go_sem, r0, r1]) rfl ?_
          exact ⟨by rw [HFV.out], HBX.out⟩
    · have hq := fun W (k : Keep w W) => ValidShares_any' _ _ _ _ (n : Int) W (HX.out.keep k) (by omega)
      rw [show pb (VSn x (n : Int)) = false by rw [← HLEN.out]; rw [HV.out.vsn]; exact pb_false hvx] at hq
      have HQ := Lib.hid hq
      have HNO := Lib.hid (show worF a x = (0, 0) ∧ pb (WOk a x) = false from ⟨worF_no fun h => hvx h.x, pb_false fun h => hvx h.x⟩)
      clear hvx hq
      go_enter Try.func25, Try.ntmps25
      go_wp2_with fail
      refine HC.out.mono ?_
      rintro e w1 ⟨rfl, hq⟩
      have HPF1 := Lib.hid (HPF.out.up hq.below)
      clear hq HC HPF
      go_wp2_with fail
      refine (HQ.out _ HPF1.out.keep).mono ?_
      rintro e w2 ⟨rfl, hq⟩
      have HPF := Lib.hid (HPF1.out.up hq.below)
      clear hq HQ HPF1
      have c0 := blk_cell HPF.out.box (i := 0) rfl
      have c1 := blk_cell HPF.out.box (i := 1) rfl
      have f0 := blk_frozen HPF.out.box 0
      have f1 := blk_frozen HPF.out.box 1
      go_wp2
      clear c0 c1 f0 f1
      have B1 := blk_set (blk_set HPF.out.box 0 (.int .i64 0)) 1 (.int .i64 0)
      have r0 := blk_cell B1 (i := 0) (v := .int .i64 0) rfl
      have r1 := blk_cell B1 (i := 1) (v := .int .i64 0) rfl
      have HBX := Lib.hid ((HPF.out.below.setCell (p := ⟨w.heap.size, 0, none⟩) (Nat.le_refl _) (.int .i64 0)).setCell (p := ⟨w.heap.size, 1, none⟩) (Nat.le_refl _) (.int .i64 0))
      clear B1 HPF
      generalize (w2.setCell ⟨w.heap.size, 0, none⟩ (.int .i64 0)).setCell ⟨w.heap.size, 1, none⟩ (.int .i64 0) = WE at *
      refine bodyPost_ret (v := .tuple #[.agg #[.int .i64 0, .int .i64 0], .bool false]) (by simp [results, Try.results25, go_sem, r0, r1]) rfl ?_
      exact ⟨by rw [HNO.out.1, HNO.out.2]; rfl, HBX.out⟩
  · have HC := Lib.hid (pb_false hv ▸ ValidTable_impl _ _ _ _ _ (HA.out.keep HPF.out.keep))
    have HNO := Lib.hid (show worF a x = (0, 0) ∧ pb (WOk a x) = false from ⟨worF_no fun h => hv h.v, pb_false fun h => hv h.v⟩)
    clear hv
    go_enter Try.func25, Try.ntmps25
    go_wp2_with fail
    refine HC.out.mono ?_
    rintro e w1 ⟨rfl, hq⟩
    have HPF1 := Lib.hid (HPF.out.up hq.below)
    clear hq HC HPF
    have HPF := HPF1
    clear HPF1
    have c0 := blk_cell HPF.out.box (i := 0) rfl
    have c1 := blk_cell HPF.out.box (i := 1) rfl
    have f0 := blk_frozen HPF.out.box 0
    have f1 := blk_frozen HPF.out.box 1
    go_wp2
    clear c0 c1 f0 f1
    have B1 := blk_set (blk_set HPF.out.box 0 (.int .i64 0)) 1 (.int .i64 0)
    have r0 := blk_cell B1 (i := 0) (v := .int .i64 0) rfl
    have r1 := blk_cell B1 (i := 1) (v := .int .i64 0) rfl
    have HBX := Lib.hid ((HPF.out.below.setCell (p := ⟨w.heap.size, 0, none⟩) (Nat.le_refl _) (.int .i64 0)).setCell (p := ⟨w.heap.size, 1, none⟩) (Nat.le_refl _) (.int .i64 0))
    clear B1 HPF
    generalize (w1.setCell ⟨w.heap.size, 0, none⟩ (.int .i64 0)).setCell ⟨w.heap.size, 1, none⟩ (.int .i64 0) = WE at *
    refine bodyPost_ret (v := .tuple #[.agg #[.int .i64 0, .int .i64 0], .bool false]) (by simp [results, Try.results25, go_sem, r0, r1]) rfl ?_
    exact ⟨by rw [HNO.out.1, HNO.out.2]; rfl, HBX.out⟩

end Go.Proofs.Ytbpjblefmammcaa

/- Best shares, by the model. -/
namespace Go.Proofs.Ytbpjblefmammcaa
open Go.RowKit

theorem VT.small {a : List (List Int)} (v : VT a) : Small a := by
  have h3 := v.n3
  refine ⟨by omega, fun r hr => ?_⟩
  obtain ⟨k, hk, rfl⟩ := List.mem_iff_getElem.1 hr
  have h1 := v.rows k hk
  rw [← gr_get hk]
  have h2 := h1.1
  have h4 := v.m3
  refine ⟨by omega, fun x hx => ?_⟩
  obtain ⟨j, hj, rfl⟩ := List.mem_iff_getElem.1 hx
  have := h1.2 j hj
  unfold InR at this
  rw [gi_get hj] at this
  omega
/-- The table as the second player has it. -/
def ntab (a : List (List Int)) : List (List Int) := mtab (flip a a.length (gr a 0).length) (flip a a.length (gr a 0).length).length
theorem ntab_len (a : List (List Int)) : (ntab a).length = (gr a 0).length := by unfold ntab; rw [mtab_len, flip_len]
theorem VT.ntab {a : List (List Int)} (v : VT a) : VT (ntab a) := v.flip.minus
theorem VT.ntab_m {a : List (List Int)} (v : VT a) : (gr (Go.Proofs.Ytbpjblefmammcaa.ntab a) 0).length = a.length := by
  have h0 := v.m1
  have h1 := flip_len a a.length (gr a 0).length
  unfold Go.Proofs.Ytbpjblefmammcaa.ntab
  rw [gr_get (by rw [mtab_len, h1]; exact h0)]
  simp only [mtab, List.getElem_map, List.getElem_range, mrow_len]
  rw [gr_flip h0]; simp
/-- Shares that are best for both. -/
structure BestP (a : List (List Int)) (x y : List Int) : Prop where
  ok : POk a x y
  eq : wlast a x = (- (wlast (ntab a) y).1, (wlast (ntab a) y).2)
theorem wlast_bd {a : List (List Int)} {x : List Int} (v : VT a) (hx : VS x a.length) : (-81000000 ≤ (wlast a x).1 ∧ (wlast a x).1 ≤ 81000000) ∧ 1 ≤ (wlast a x).2 ∧ (wlast a x).2 ≤ 3000 := by
  have h := VT.pbx v hx
  have n3 := v.n3
  have := tot_bd (x := x) (n := a.length) n3 (by have := hx.1; omega) h.x
  exact wst_bd h n3 v.m3 hx.2.2 this.2 _

end Go.Proofs.Ytbpjblefmammcaa

