/- Texts merged: LiftB LiftC Enter Math24 G9 D4 Math25 W8 T2 T4 W9 X1 Math13 FnTab Math30. -/
import Derived.Test.YtfcienghlbnjbaaQ9
import Derived.ChangeSlices
/- An argument of bytes, opened. -/
namespace Go.Proofs.Ytfcienghlbnjbaa
open Go.ChangeShapes Go.WideShapes Go.ChangeAt Go.RowKit Go.Deep

theorem Try.cells_u8 : Try.prog.cellsOf 5 = 1 := by kernel_rfl
theorem Try.bytes_u8 : Try.prog.bytesOf 5 = 1 := by kernel_rfl
set_option maxRecDepth 100000 in
theorem open_bytes {H : Type} {enc : TypeId × Value → H} {W : World} {v : Value} {d : DataW H} {p : List MemPlace} {b0 : Nat} (hval : Value.okWide Try.prog W .any b0 22 v)
    (h : DataW.Trod enc Try.prog W 0 (fun _ => true) true 22 v d p) (hw : ∀ n ∈ d.weights Try.prog 22, n ≤ reachBytes) :
    ∃ A n c, v = .slice A n c ∧ Bytes W A n c := by
  obtain ⟨a1, len, cap, rfl⟩ := okWide_slice Try.underlying22 hval
  obtain ⟨fuel, hf⟩ := h
  rcases open_ints Try.underlying22 Try.underlying5 Try.cells_u8 hf with ⟨hcs, hx⟩ | ⟨a, len', cap', zs, hcs, _, hl, hm, hz, hx, hcell, hwz⟩
  · simp [Value.cells] at hcs
    obtain ⟨rfl, rfl, rfl⟩ := hcs
    exact ⟨none, 0, 0, rfl, Nat.le_refl _, by omega, fun h => absurd h (by omega)⟩
  · simp [Value.cells] at hcs
    obtain ⟨rfl, rfl, rfl⟩ := hcs
    simp only [Prod.mk.injEq] at hx
    obtain ⟨rfl, rfl⟩ := hx
    simp only [if_true] at hz
    have h1 := hw _ (weights_slice Try.underlying22 (.inl rfl))
    simp only [lits, List.length_map, List.length_take, List.length_drop, Try.bytes_u8, reachBytes] at h1
    refine ⟨some a, len, cap, rfl, hl, by omega, fun hn => ?_⟩
    have hspot : a.spot = none := by simpa [Addr.add] using World.cell?_spot (hcell 0 (by omega))
    obtain ⟨b, o, sp⟩ := a
    simp only at hspot
    subst hspot
    refine ⟨b, o, rfl, fun k hk => ⟨zs.getD k 0, ?_, ?_, by rw [← add_plain]; exact hcell k (by omega)⟩⟩
    · rw [List.getD_eq_getElem?_getD]; have := hwz (zs.getD k 0) (by rw [List.getD_eq_getElem?_getD, List.getElem?_eq_getElem (show k < zs.length by omega)]; simp)
      simp [Lit.wf, IntKind.min, IntKind.max, IntKind.signed, IntKind.bits] at this
      omega
    · rw [List.getD_eq_getElem?_getD]; have := hwz (zs.getD k 0) (by rw [List.getD_eq_getElem?_getD, List.getElem?_eq_getElem (show k < zs.length by omega)]; simp)
      simp [Lit.wf, IntKind.min, IntKind.max, IntKind.signed, IntKind.bits] at this
      omega
end Go.Proofs.Ytfcienghlbnjbaa

/- Arguments that are a slice of ints, or an int, opened. -/
namespace Go.Proofs.Ytfcienghlbnjbaa
open Go.ChangeShapes Go.WideShapes Go.ChangeAt Go.RowKit Go.Deep

set_option maxRecDepth 100000 in
theorem open_intS {H : Type} {enc : TypeId × Value → H} {W : World} {v : Value} {d : DataW H} {p : List MemPlace} {b0 : Nat} (hval : Value.okWide Try.prog W .any b0 24 v)
    (h : DataW.Trod enc Try.prog W 0 (fun _ => true) true 24 v d p) (hw : ∀ n ∈ d.weights Try.prog 24, n ≤ reachBytes) :
    ∃ A n c xs, v = .slice A n c ∧ Ints W A n c xs := by
  obtain ⟨a1, len, cap, rfl⟩ := okWide_slice Try.underlying24 hval
  obtain ⟨fuel, hf⟩ := h
  rcases open_ints Try.underlying24 Try.underlying3 Try.cells3 hf with ⟨hcs, hx⟩ | ⟨a, len', cap', zs, hcs, _, hl, hm, hz, hx, hcell, hwz⟩
  · simp [Value.cells] at hcs
    obtain ⟨rfl, rfl, rfl⟩ := hcs
    exact ⟨none, 0, 0, [], rfl, rfl, Nat.le_refl _, by omega, fun _ h => by simp at h, fun h => absurd h (by omega)⟩
  · simp [Value.cells] at hcs
    obtain ⟨rfl, rfl, rfl⟩ := hcs
    simp only [Prod.mk.injEq] at hx
    obtain ⟨rfl, rfl⟩ := hx
    simp only [if_true] at hz
    have h1 := hw _ (weights_slice Try.underlying24 (.inl rfl))
    simp only [lits, List.length_map, List.length_take, List.length_drop, Try.bytes3, reachBytes] at h1
    have hlen : (zs.take len).length = len := by rw [List.length_take]; omega
    refine ⟨some a, len, cap, zs.take len, rfl, hlen, hl, by omega, fun x hx => ?_, fun hn => ?_⟩
    · have := hwz x (List.mem_of_mem_take hx)
      simp [Lit.wf, IntKind.min, IntKind.max, IntKind.signed, IntKind.bits] at this
      omega
    have hspot : a.spot = none := by simpa [Addr.add] using World.cell?_spot (hcell 0 (by omega))
    obtain ⟨b, o, sp⟩ := a
    simp only at hspot
    subst hspot
    refine ⟨b, o, rfl, fun k hk => ?_⟩
    rw [← add_plain, hcell k (by omega)]
    congr 2
    rw [gi_get (by rw [hlen]; exact hk), List.getElem_take]
    simp [List.getD, show k < zs.length by omega]

set_option maxRecDepth 100000 in
theorem open_num {H : Type} {enc : TypeId × Value → H} {W : World} {v : Value} {d : DataW H} {p : List MemPlace} {b0 : Nat} (hval : Value.okWide Try.prog W .any b0 3 v)
    (h : DataW.Trod enc Try.prog W 0 (fun _ => true) true 3 v d p) : ∃ x, v = .int .i64 x ∧ Fit x := by
  obtain ⟨x, rfl, _, _, hw⟩ := open_int Try.underlying3 hval h
  refine ⟨x, rfl, ?_⟩
  simp [Lit.wf, IntKind.min, IntKind.max, IntKind.signed, IntKind.bits] at hw
  unfold Fit
  omega
end Go.Proofs.Ytfcienghlbnjbaa

/- The program may be entered: facts of its head, once for all laws. -/
namespace Go.Proofs.Ytfcienghlbnjbaa

theorem prog_enters : Try.pinned.checked.prog.mayEnter = true := by kernel_rfl
theorem prog_lifts0 : (false == Try.pinned.checked.prog.liftsFinal) = true := by kernel_rfl
theorem prog_make0 : (Try.pinned.checked.prog.make == some .cut) = true := by kernel_rfl
theorem prog_lifts {b : Bool} (h : b = false) : (b == Try.pinned.checked.prog.liftsFinal) = true := by subst h; exact prog_lifts0
theorem prog_make {m : Make} (h : m = .cut) : (Try.pinned.checked.prog.make == some m) = true := by subst h; exact prog_make0
end Go.Proofs.Ytfcienghlbnjbaa

/- One strategy alone rests just if it twice is a pure rest of two who play the table. Plain. -/
namespace Go.Proofs.Ytfcienghlbnjbaa

theorem rest_le {a : List (List Int)} (v : VQ a) {i : Nat} (hi : i < a.length) : RQ a (onl a.length i) ↔ ∀ k, k < a.length → g2 a k i ≤ g2 a i i := by
  constructor
  · intro h k hk
    have := h.r i hi (by rw [gi_onl hi, if_pos rfl]; omega) k hk
    rwa [dotr_alone a _ k i hi, dotr_alone a _ i i hi] at this
  · intro h
    refine ⟨v, onl_VS hi, fun j hj hp k hk => ?_⟩
    rw [gi_onl hj] at hp
    have e : j = i := by
      by_cases e : j = i
      · exact e
      · rw [if_neg e] at hp; omega
    subst e
    rw [dotr_alone a _ k j hj, dotr_alone a _ j j hj]
    exact h k hk
theorem pair_le {a : List (List Int)} (v : VQ a) {i : Nat} (hi : i < a.length) : [(i : Int), (i : Int)] ∈ pureR a (flip a a.length a.length) ↔ ∀ k, k < a.length → g2 a k i ≤ g2 a i i := by
  have hf := v.flip rfl
  have hm := v.m rfl
  have hg : VG a (flip a a.length a.length) := ⟨v.1, hf.1, by rw [flip_len], by rw [hm, gr_flip (by omega)]; simp⟩
  unfold pureR
  rw [if_pos (pb_true hg), allRests_mem]
  constructor
  · rintro ⟨k, l, hk, hl, e, h⟩
    simp only [List.cons.injEq, and_true] at e
    have e1 : k = i := by omega
    have e2 : l = i := by omega
    subst e1; subst e2
    exact h.1
  · intro h
    refine ⟨i, i, hi, by omega, rfl, h, fun k hk => ?_⟩
    rw [hm] at hk
    rw [g2_flipT hi hk, g2_flipT hi hi]
    exact h k hk
theorem rest_pair {a : List (List Int)} (v : VQ a) {n i : Nat} (hl : a.length = n) (hi : i < n) : RQ a (onl n i) ↔ [(i : Int), (i : Int)] ∈ pureR a (flip a n n) := by
  subst hl
  exact (rest_le v hi).trans (pair_le v hi).symm
theorem pureR_le (a b : List (List Int)) : (pureR a b).length ≤ 9 := by
  by_cases v : VG a b
  · have h1 := allRests_len a b a.length (gr a 0).length v.ta.m3 a.length
    have h2 := v.ta.n3
    unfold pureR; rw [if_pos (pb_true v)]; omega
  · unfold pureR; rw [if_neg (by rw [pb_false v]; decide)]; simp
end Go.Proofs.Ytfcienghlbnjbaa

/- Squares and shares drawn, now and then shares that rest. -/
namespace Go.Proofs.Ytfcienghlbnjbaa
open Go.RowKit

set_option maxRecDepth 100000 in
set_option maxHeartbeats 2000000 in
theorem DrawIsRest_any (A : Option Addr) (n c : Nat) (w : World) (h : Bytes w A n c) :
    Calls Try.prog 7 #[.slice A n c] w (DrawnTS w) := by
  have H0 := Lib.hid (newReader_any A n c w h)
  clear h
  go_enter Try.func7, Try.ntmps7
  go_wp2_with fail
  refine H0.out.mono ?_
  rintro e w1 ⟨A1, l, c1, rfl, hl, hr, hs⟩
  have H1 := Lib.hid (someSquare_any w w1 w.heap.size A1 l c1 0 hr (by omega))
  clear hr hl H0
  go_wp2_with fail
  refine H1.out.mono ?_
  rintro e w2 ⟨wb, v', vs', xss', p', rfl, hsm, hto, hp, hg⟩
  have hsz := hg.size
  obtain ⟨Av, nv, cv, gg, rfl, hnv, hown⟩ := hto.bo.owns (by have := hsm.n; omega)
  have HO := Lib.hid (hown.mono (show w.heap.size + 1 ≤ wb.heap.size by have := hto.gl; omega) (Nat.le_refl _))
  have HRD := Lib.hid hto.rd
  have HS := Lib.hid hsm
  have hn8 : nv ≤ 8 := by rw [hnv]; exact hsm.n
  clear hsm hto hown hg H1 hnv
  have HC := Lib.hid (sharesOf_any w w2 w.heap.size A1 l c1 p' nv HRD.out (by omega) hn8)
  go_wp2_with fail
  refine HC.out.mono ?_
  rintro e w4 ⟨Bv, cb, ys, p2, rfl, hyl, hyb, hsh, hp2⟩
  obtain ⟨A', n', c', g', e, -, ho, -⟩ := hsh.bi.owns (by omega) (fun x hx => by have := hyb x hx; omega)
  injection e with e1 e2 e3
  subst e1
  subst e2
  subst e3
  have HI := Lib.hid (ho.mono (show w.heap.size + 1 ≤ w2.heap.size by have := blk_lt HRD.out.box; omega) (Nat.le_refl _))
  have HR4 := Lib.hid hsh.rd
  have HO4 := Lib.hid ((HO.out.grown hsh.up (by omega)).mono (Nat.le_refl _) hsh.up.size)
  clear hsh ho HC hyb HO HRD
  have HC := Lib.hid (pick_any w w4 w.heap.size A1 l c1 p2 2 HR4.out (by omega))
  go_wp2_with fail
  refine HC.out.mono ?_
  rintro e w6 hpk
  obtain ⟨m, rfl, hm, hrd, hgr⟩ := hpk.one
  have HR6 := Lib.hid hrd
  have HO6 := Lib.hid ((HO4.out.grown hgr (by omega)).mono (Nat.le_refl _) hgr.size)
  have HI6 := Lib.hid (HI.out.grown hgr (by omega))
  clear hpk hrd hgr HC HR4 HO4 HI hm
  by_cases h0 : m = 0
  · have hz : (m == 0) = true := by simpa using h0
    clear h0
    by_cases hv : VQ xss'
    · have HC := Lib.hid (pb_true hv ▸ validSquare_any _ _ _ _ w6 HO6.out.rows)
      clear hv
      go_wp2_with fail
      refine HC.out.mono ?_
      rintro e w7 ⟨rfl, hq⟩
      have HO7 := Lib.hid (HO6.out.quiet hq)
      have HI7 := Lib.hid (HI6.out.below (hq.below (B := w6.heap.size)))
      have HR7 := Lib.hid (HR6.out.quiet hq)
      have hz7 : w6.heap.size ≤ w7.heap.size := (hq.below (B := 0)).size
      have hg7 : w.heap.size + 1 ≤ w7.heap.size := by have := blk_lt HR7.out.box; omega
      clear hq HC HO6 HI6 HR6 hz
      have HC := Lib.hid (RestsOn_spec _ _ _ xss' w7 HO7.out.rows)
      go_wp2_with fail
      refine HC.out.mono ?_
      rintro e w8 ⟨A8, n8, c8, g8, rfl, rfl, ho, hb⟩
      have HL8 := Lib.hid (ho.mono hg7 (Nat.le_refl _))
      have HR8 := Lib.hid (HR7.out.below_ hb)
      have HO8 := Lib.hid ((HO7.out.mono (Nat.le_refl _) hz7 |>.below hb).mono (Nat.le_refl _) hb.size)
      have HI8 := Lib.hid (HI7.out.below hb)
      have hrl := resF_len xss'
      clear ho hb HC HO7 HI7 HR7
      by_cases hl0 : (resF xss').length = 0
      · have hl0' : ¬ (0 : Int) < ((resF xss').length : Int) := by omega
        have HL0 := Lib.hid hl0
        clear hl0
        go_wp2
        go_ret2
        exact ⟨Av, nv, cv, gg, xss', Bv, _, cb, ys, rfl, HS.out, HO8.out.mono (Nat.le_succ _) (Nat.le_refl _), HI8.out.ints, HR8.out.below⟩
      · have hl0' : (0 : Int) < ((resF xss').length : Int) := by omega
        have HRL := Lib.hid (fun q (hq : q < (resF xss').length) => (resF_rest (gr_mem hq)).2)
        generalize resF xss' = rs at *
        have HC := Lib.hid (pick_any w w8 w.heap.size A1 l c1 _ (rs.length : Int) HR8.out (by omega))
        go_wp2_with fail
        refine HC.out.mono ?_
        rintro e w9 hpk
        obtain ⟨m2, rfl, hm, hrd, hgr⟩ := hpk.one
        have hm := hm (by omega)
        obtain ⟨q, rfl⟩ : ∃ q : Nat, m2 = (q : Int) := ⟨m2.toNat, by omega⟩
        have HB9 := Lib.hid hrd.below
        have HO9 := Lib.hid ((HO8.out.grown hgr (by omega)).mono (Nat.le_succ _) hgr.size)
        have HL9 := Lib.hid (HL8.out.grown hgr (by omega))
        have hqn : q < rs.length := by omega
        obtain ⟨rb', ro', rfl, hc⟩ := HL9.out.rows.at_ (by omega)
        obtain ⟨R, cR, c1', hR⟩ := hc q hqn
        have HRI := Lib.hid hR
        obtain ⟨hm1, hm2⟩ := hm
        clear hpk hrd hgr HC hc hR HO8 HI8 HR8 HL8 hl0
        go_wp2
        go_ret2
        exact ⟨Av, nv, cv, gg, xss', R, _, cR, gr rs q, rfl, HS.out, HO9.out, HRI.out, HB9.out⟩
    · have HC := Lib.hid (pb_false hv ▸ validSquare_any _ _ _ _ w6 HO6.out.rows)
      clear hv
      go_wp2_with fail
      refine HC.out.mono ?_
      rintro e w7 ⟨rfl, hq⟩
      have HO7 := Lib.hid ((HO6.out.quiet hq).mono (Nat.le_succ _) (hq.below (B := 0)).size)
      have HI7 := Lib.hid (HI6.out.below (hq.below (B := w6.heap.size)))
      have HB7 := Lib.hid (below_quiet HR6.out.below hq)
      clear hq HC HO6 HI6 HR6 hz
      go_wp2
      go_ret2
      exact ⟨Av, nv, cv, gg, xss', Bv, _, cb, ys, rfl, HS.out, HO7.out, HI7.out.ints, HB7.out⟩
  · have hz : (m == 0) = false := by simpa using h0
    clear h0
    go_wp2
    go_ret2
    exact ⟨Av, nv, cv, gg, xss', Bv, _, cb, ys, rfl, HS.out, HO6.out.mono (Nat.le_succ _) (Nat.le_refl _), HI6.out.ints, HR6.out.below⟩

end Go.Proofs.Ytfcienghlbnjbaa

/- Pure rests, by the program. -/
namespace Go.Proofs.Ytfcienghlbnjbaa
open Go.RowKit

theorem Try.info32b : (Try.prog.info? 24).map (fun i => (i.zero, i.size, i.bytes)) = some (some (.slice none 0 0), 1, 24) := by kernel_rfl

/-- What the loops know: the game, the turned table, the rests so far. -/
structure PS (p : GP) (w : World) (N L : Nat) (wr : World) (v : Value) (vs : List Value) (xs ys rs : List (List Int)) : Prop where
  gt : GT p w wr w.heap.size xs ys
  tn : OwnR N L wr N (some ⟨N, 0, none⟩) p.m p.m (flip xs p.n p.m)
  bd : Bld L wr.heap.size wr v vs rs
  h1 : w.heap.size < N
  h2 : N < L
  h3 : L ≤ wr.heap.size
theorem PS.qu {p w N L wr wr' v vs xs ys rs} (h : PS p w N L wr v vs xs ys rs) (k : Quiet wr wr') : PS p w N L wr' v vs xs ys rs := by
  have kb : Below wr.heap.size wr wr' := k.below
  exact ⟨h.gt.up kb, h.tn.below kb, (h.bd.below kb).mono kb.size, h.h1, h.h2, Nat.le_trans h.h3 kb.size⟩

set_option maxHeartbeats 1000000 in
theorem PureRests_impl (A B : Option Addr) (n c m d : Nat) (xs ys : List (List Int)) (w : World) (hx : IntRows w A n c xs) (hy : IntRows w B m d ys) :
    Calls Try.prog 21 #[.agg #[.slice A n c, .slice B m d]] w (RetR (pureR xs ys) w) := by
  have hb0 := below_alloc w (.cells #[.slice A n c, .slice B m d] 43)
  have b0 := blk_new w 43 #[.slice A n c, .slice B m d]
  have HB := Lib.hid hb0
  have HK := Lib.hid b0
  have HX := Lib.hid (hx.keep (Keep.below hb0))
  have HY := Lib.hid (hy.keep (Keep.below hb0))
  have HX0 := Lib.hid hx
  have HY0 := Lib.hid hy
  clear hx hy hb0 b0
  go_enter Try.func21, Try.ntmps21
  go_wp2_with fail
  generalize w.alloc (.cells #[.slice A n c, .slice B m d] 43) = W1 at *
  have HC := Lib.hid (ValidGame_impl _ _ _ _ _ _ _ _ _ HX.out HY.out)
  by_cases hv : VG xs ys
  · refine ((pb_true hv) ▸ HC.out).mono ?_
    rintro e w1 ⟨rfl, hb⟩
    have hb2 := below_up HB.out hb
    have hk2 := blk_below HK.out hb
    obtain ⟨p, rfl, rfl, rfl, rfl, rfl, rfl, hg⟩ := GV.of HX0.out HY0.out hv
    have HT := Lib.hid (show GT p w w1 w.heap.size xs ys from ⟨hb2, hk2, hg⟩)
    have hn3 := hg.tx.n3
    have hm3 := hg.tx.m3
    have hn1 := hg.tx.n1
    have hm1 := hg.tx.m1
    have HP := Lib.hid (show pureR xs ys = allRests xs ys p.n p.m p.n by rw [pureR, if_pos (pb_true hv), hg.lx, hg.mx])
    have HLY := Lib.hid (show ∀ i, i < p.n → (gr ys i).length = p.m from fun i hi => (hg.ty.ints i hi).len)
    clear hb hv hb2 hk2 hg HX HY HX0 HY0 HB HK HC
    have k0 := HT.out.c0
    go_wp2_with fail
    refine (turned_any _ _ _ _ _ _ _ _ _ _ HT.out.gv.tx).mono ?_
    rintro e w2 ⟨rfl, ho, hb, hlt⟩
    have HS := Lib.hid (show PS p w w1.heap.size w2.heap.size w2 (.slice none 0 0) [] xs ys [] from ⟨HT.out.up hb, ho, Bld.nil _ _ _, blk_lt HT.out.box, hlt, Nat.le_refl _⟩)
    clear ho hb hlt HT k0
    generalize w1.heap.size = N at *
    generalize w2.heap.size = L at *
    have k1 := HS.out.gt.c1
    go_wp2
    clear k1
    go_loopw [4, 18] (fun v s wr => ∃ (i : Nat) (vs : List Value), i ≤ p.n ∧ s = .int .i64 i ∧ Hid (PS p w N L wr v vs xs ys (allRests xs ys p.n p.m i))) (fun _ s _ => p.n - (intOf s).toNat)
    case atStart => exact ⟨0, [], Nat.zero_le _, rfl, HS⟩
    case round =>
      clear HS
      obtain ⟨i, vs, hi, rfl, HS⟩ := hrel
      by_cases hin : i < p.n
      · have s1 := HS.out.gt.gv.ty.row i hin
        go_wp2
        clear s1
        go_loopw [4, 25] (fun v s wj => ∃ (j : Nat) (vs : List Value), j ≤ p.m ∧ s = .int .i64 j ∧ Hid (PS p w N L wj v vs xs ys (allRests xs ys p.n p.m i ++ rowRests xs ys p.n p.m i j))) (fun _ s _ => p.m - (intOf s).toNat)
        case atStart => exact ⟨0, vs, Nat.zero_le _, rfl, Lib.hid (by rw [rowRests, List.append_nil]; exact HS.out)⟩
        case round =>
          clear HS vs
          obtain ⟨j, vs, hj, rfl, HS⟩ := hrel
          by_cases hjm : j < p.m
          · have k0 := HS.out.gt.c0
            have r1 := HS.out.gt.gv.tx.row i hin
            have e1 := HS.out.gt.gv.tx.cell i j hin hjm
            have f1 := HS.out.gt.gv.ty.cell i j hin hjm
            obtain ⟨R, cc, t1, tI⟩ := HS.out.tn.row0 hjm
            have hfl : (gr (flip xs p.n p.m) j).length = p.n := by rw [gr_flip hjm]; simp
            have HQX := Lib.hid tI
            have HQY := Lib.hid (HS.out.gt.gv.ty.ints i hin)
            clear tI
            generalize hcol : gr (flip xs p.n p.m) j = col at *
            have HCOL := Lib.hid hcol
            clear hcol
            have QX := Lib.hid (fun W (hW : Quiet wr W) => Max_any _ _ _ _ W (HQX.out.keep (Keep.quiet hW)) (by omega))
            have QY := Lib.hid (fun W (hW : Quiet wr W) => Max_any _ _ _ _ W (HQY.out.keep (Keep.quiet hW)) (by omega))
            clear HQX HQY hfl
            by_cases h1 : g2 xs i j = mxl col
            · have h1' : (g2 xs i j == mxl col) = true := by simp [h1]
              by_cases h2 : g2 ys i j = mxl (gr ys i)
              · have h2' : (g2 ys i j == mxl (gr ys i)) = true := by simp [h2]
                have HR := Lib.hid (rowRests_yes ((RestAt_iff hin hjm (HLY.out i hin)).2 ⟨by rw [HCOL.out]; exact h1, h2⟩))
                clear h1 h2
                go_wp2
                go_quiet ((go_at_call 48; (first | (with_reducible refine quiet_fit (QX.out _ ?_) (fun m => ?_)) | (with_reducible refine quiet_fit (QY.out _ ?_) (fun m => ?_))); (first | exact ⟨_, rfl⟩ | exact Quiet.two _ _ _); (first | exact drewN_to1 _ _ _ | exact drewN_to2 _ _ _ _)))
                have HS2 := Lib.hid (HS.out.qu ⟨nq, rfl⟩)
                have hlen : (allRests xs ys p.n p.m i ++ rowRests xs ys p.n p.m i j).length ≤ 12 := by
                  have h1 := allRests_len xs ys p.n p.m hm3 i
                  have h2 := rowRests_len xs ys p.n p.m i j
                  rw [List.length_append]; omega
                clear QX QY h1' h2' HS k0 r1 e1 f1 t1
                generalize wr.drewN nq = w2 at *
                have hb3 := below_alloc w2 (.cells #[.int .i64 i, .int .i64 j] 3)
                have hb4 := below_alloc (w2.alloc (.cells #[.int .i64 i, .int .i64 j] 3)) (.cells #[.slice (some ⟨w2.heap.size, 0, none⟩) 2 2] 24)
                have HB4 := Lib.hid ((HS2.out.bd.below hb3).below hb4).own
                have HN := Lib.hid (cell_one_new (w2.alloc (.cells #[.int .i64 i, .int .i64 j] 3)) (.slice (some ⟨w2.heap.size, 0, none⟩) 2 2) 24)
                have hL := HS2.out.h3
                clear hb3 hb4
                generalize hrs : allRests xs ys p.n p.m i ++ rowRests xs ys p.n p.m i j = rs at *
                have HRS := Lib.hid hrs
                clear hrs
                obtain ⟨i0, hi0, hz0, hz1, hz2⟩ := info_parts Try.info32b
                go_wp2_with (at_builtin; refine wpList_append_own_at _ rfl _ _ 23 rfl L 24 i0 (.slice none 0 0) 1 24 Try.underlying23 hi0 hz0 hz1 hz2 rfl (by decide) _ rs.length vs rfl HB4.out ⟨w2.heap.size + 1, 0, none⟩ 1 1 [.slice (some ⟨w2.heap.size, 0, none⟩) 2 2] rfl rfl ?c1 ?c2 ?c3 ?c4 ?c5 ?_)
                case c1 => have h := HN.out; rw [World.size_alloc] at h; exact h
                case c2 => intro u hu; simp at hu; subst hu; rfl
                case c3 => unfold maxLen; omega
                case c4 => omega
                case c5 => simp; omega
                intro v' w5 hown' hgrow _ hat
                obtain ⟨hP, hK⟩ := push_pair HS2.out.bd (by omega) (by omega) hown' hgrow hat hL
                have HS5 := Lib.hid (show PS p w N L w5 v' _ xs ys _ from ⟨HS2.out.gt.up2 hK (by have := HS2.out.h1; have := HS2.out.h2; omega) (by have := HS2.out.h1; have := HS2.out.h2; omega), HS2.out.tn.of_blocks (fun g _ hg _ => hK.block g hg), hP, HS2.out.h1, HS2.out.h2, Nat.le_trans hL hK.size⟩)
                clear HB4 HN hown' hgrow hat hP hK HS2
                go_wp2
                go_roundw
                case rel => exact ⟨j + 1, _, by omega, by go_num, Lib.hid (by rw [HR.out, ← List.append_assoc, HRS.out]; exact HS5.out)⟩
                case measure => simp [intOf]; omega
              · have h2' : (g2 ys i j == mxl (gr ys i)) = false := by simp [h2]
                have HR := Lib.hid (rowRests_no (a := xs) (fun v => h2 ((RestAt_iff hin hjm (HLY.out i hin)).1 v).2))
                clear h1 h2
                go_wp2
                go_quiet ((go_at_call 48; (first | (with_reducible refine quiet_fit (QX.out _ ?_) (fun m => ?_)) | (with_reducible refine quiet_fit (QY.out _ ?_) (fun m => ?_))); (first | exact ⟨_, rfl⟩ | exact Quiet.two _ _ _); (first | exact drewN_to1 _ _ _ | exact drewN_to2 _ _ _ _)))
                have HS2 := Lib.hid (HS.out.qu ⟨nq, rfl⟩)
                go_wp2
                go_roundw
                case rel => exact ⟨j + 1, vs, by omega, by go_num, Lib.hid (by rw [HR.out]; exact HS2.out)⟩
                case measure => simp [intOf]; omega
            · have h1' : (g2 xs i j == mxl col) = false := by simp [h1]
              have HR := Lib.hid (rowRests_no (fun v => h1 (by have := ((RestAt_iff hin hjm (HLY.out i hin)).1 v).1; rw [HCOL.out] at this; exact this)))
              clear h1
              go_wp2
              go_quiet ((go_at_call 48; (first | (with_reducible refine quiet_fit (QX.out _ ?_) (fun m => ?_)) | (with_reducible refine quiet_fit (QY.out _ ?_) (fun m => ?_))); (first | exact ⟨_, rfl⟩ | exact Quiet.two _ _ _); (first | exact drewN_to1 _ _ _ | exact drewN_to2 _ _ _ _)))
              have HS2 := Lib.hid (HS.out.qu ⟨nq, rfl⟩)
              go_wp2
              go_roundw
              case rel => exact ⟨j + 1, vs, by omega, by go_num, Lib.hid (by rw [HR.out]; exact HS2.out)⟩
              case measure => simp [intOf]; omega
          · go_wp2
            go_roundw
            case rel => exact ⟨i + 1, vs, by omega, by go_num, Lib.hid (by have h := HS.out; rw [show j = p.m by omega] at h; rw [allRests]; exact h)⟩
            case measure => simp [intOf]; omega
      · go_wp2
        go_ret
        obtain ⟨A, n, c, g, rfl, hn, ho⟩ := HS.out.bd.owns (by have := allRests_len xs ys p.n p.m hm3 i; omega)
        have e : pureR xs ys = allRests xs ys p.n p.m i := by rw [HP.out, show i = p.n by omega]
        exact ⟨A, n, c, g, rfl, by rw [e]; exact hn, by rw [e]; exact ho.mono (by have := HS.out.h1; have := HS.out.h2; omega) (Nat.le_refl _), HS.out.gt.below⟩
  · have HZ := Lib.hid (show pureR xs ys = [] by rw [pureR, if_neg (by rw [pb_false hv]; decide)])
    refine ((pb_false hv) ▸ HC.out).mono ?_
    rintro e w1 ⟨rfl, hb⟩
    have HB2 := Lib.hid (below_up HB.out hb)
    clear hb hv HC
    go_wp2
    go_ret
    exact ⟨none, 0, 0, 0, rfl, by rw [HZ.out]; rfl, by rw [HZ.out]; exact OwnR.nil _ _ _ _, HB2.out⟩
end Go.Proofs.Ytfcienghlbnjbaa

/- At rest no one has more than the mean, and each one with a share has it. Plain. -/
namespace Go.Proofs.Ytfcienghlbnjbaa

theorem payR_dot' (a : List (List Int)) (x y : List Int) (i : Nat) : ∀ j, payR a x y i j = gi x i * dotr a y i j
  | 0 => by simp [payR, dotr]
  | j + 1 => by
    rw [payR, dotr, payR_dot' a x y i j, Int.mul_add]
    congr 1
    grind
theorem payU_next (a : List (List Int)) (x y : List Int) (m k : Nat) : payU a x y m (k + 1) = payU a x y m k + gi x k * dotr a y k m := by
  rw [payU, payR_dot']
theorem payU_same {a : List (List Int)} {x : List Int} {n : Nat} {M : Int} : ∀ {k}, (∀ i, i < k → 0 ≤ gi x i) → (∀ i, i < k → 0 < gi x i → dotr a x i n = M) → payU a x x n k = M * sm x k
  | 0, _, _ => by simp [payU, sm]
  | k + 1, h0, h => by
    rw [payU_next, sm, payU_same (fun i hi => h0 i (by omega)) (fun i hi => h i (by omega)), Int.mul_add]
    congr 1
    by_cases e : 0 < gi x k
    · rw [h k (by omega) e, Int.mul_comm]
    · have : gi x k = 0 := by have := h0 k (by omega); omega
      rw [this]; simp
theorem sm_one {x : List Int} : ∀ {k}, (∀ j, j < k → 0 ≤ gi x j) → 0 < sm x k → ∃ j, j < k ∧ 0 < gi x j
  | 0, _, h => by simp [sm] at h
  | k + 1, h0, h => by
    by_cases e : 0 < gi x k
    · exact ⟨k, by omega, e⟩
    · rw [sm] at h
      obtain ⟨j, hj, hp⟩ := sm_one (k := k) (fun j hj => h0 j (by omega)) (by have := h0 k (by omega); omega)
      exact ⟨j, by omega, hp⟩
/-- Strategy i has no more than the mean, and has it if it has a share. -/
def MeanOk (a : List (List Int)) (x : List Int) (n : Nat) (i : Nat) : Prop := ¬ payU a x x n n < dotr a x i n * tot x ∧ (0 < gi x i → dotr a x i n * tot x = payU a x x n n)
theorem rest_mean {a : List (List Int)} {x : List Int} {n : Nat} (hx : VS x n) : RestP a x n ↔ ∀ i, i < n → MeanOk a x n i := by
  have hl : x.length = n := by have := hx.1; omega
  have h0 : ∀ j, j < n → 0 ≤ gi x j := fun j hj => (VS.bds hx j hj).1
  have ht : tot x = sm x n := by unfold tot; rw [hl]
  have hp : 0 < tot x := hx.2.2
  constructor
  · intro h
    obtain ⟨j, hj, hjp⟩ := sm_one h0 (by rw [← ht]; exact hp)
    have hP : payU a x x n n = dotr a x j n * tot x := by
      rw [ht]
      exact payU_same h0 fun i hi hip => by have := h i hi hip j hj; have := h j hj hjp i hi; omega
    intro i hi
    refine ⟨?_, fun hip => ?_⟩
    · rw [hP]
      have := Int.mul_le_mul_of_nonneg_right (h j hj hjp i hi) (Int.le_of_lt hp)
      omega
    · rw [hP]
      have e : dotr a x i n = dotr a x j n := by have := h i hi hip j hj; have := h j hj hjp i hi; omega
      rw [e]
  · intro h i hi hip k hk
    have h1 := (h i hi).2 hip
    have h2 := (h k hk).1
    rw [← h1] at h2
    exact Int.le_of_mul_le_mul_right (by omega) hp
/-- The fractions that the law compares. -/
theorem mean_frac {P d T : Int} (hT : 0 < T) : (lessB (frU P (T * T)) (frD P (T * T)) (frU d T) (frD d T) = decide (P < d * T)) ∧ ((frU d T = frU P (T * T) ∧ frD d T = frD P (T * T)) ↔ d * T = P) := by
  have hTT : 0 < T * T := Int.mul_pos hT hT
  have e1 : d * (T * T) = d * T * T := by rw [Int.mul_assoc]
  constructor
  · unfold lessB
    rw [decide_eq_decide, fr_lt hTT hT, e1]
    exact ⟨fun h => Int.lt_of_mul_lt_mul_right h (Int.le_of_lt hT), fun h => Int.mul_lt_mul_of_pos_right h hT⟩
  · constructor
    · rintro ⟨h1, h2⟩
      have k1 := fr_lt (u := d) (d := T) (v := P) (e := T * T) hT hTT
      have k2 := fr_lt (u := P) (d := T * T) (v := d) (e := T) hTT hT
      rw [h1, h2] at k1 k2
      have n1 : ¬ d * (T * T) < P * T := fun h => by have := k1.2 h; omega
      have n2 : ¬ P * T < d * (T * T) := fun h => by have := k2.2 h; omega
      rw [e1] at n1 n2
      exact Int.eq_of_mul_eq_mul_right (by omega) (show d * T * T = P * T by omega)
    · intro h
      exact fr_eq hT hTT (by rw [e1, h])
end Go.Proofs.Ytfcienghlbnjbaa

/- Shares by a part of a table, by the program. -/
namespace Go.Proofs.Ytfcienghlbnjbaa
open Go.RowKit
open V (sumN detN rowC colC cofN minorN skip sgn Asc Kern)

/-- The part tells shares. -/
structure Tells (a : List (List Int)) (k : Nat) (r s : Nat → Nat) : Prop where
  det : detN k (kf a r s) ≠ 0
  cx : ClrP (kX a r s k)
  cy : ClrP (kY a r s k)
def NewS (w : World) (a : List (List Int)) (k l : Nat) (r s : Nat → Nat) (e : Ending) (w' : World) : Prop :=
  (k = l ∧ Tells a k r s ∧ ∃ A1 c1 g1 A2 c2 g2, e = .returned (.tuple #[.slice A1 a.length c1, .slice A2 (gr a 0).length c2]) ∧ OwnI w.heap.size w'.heap.size w' g1 A1 a.length c1 (shr a.length r (kX a r s k) k) ∧
    OwnI w.heap.size w'.heap.size w' g2 A2 (gr a 0).length c2 (shr (gr a 0).length s (kY a r s k) k) ∧ g1 ≠ g2 ∧ Below w.heap.size w w') ∨
  (¬ (k = l ∧ Tells a k r s) ∧ e = .returned (.tuple #[.slice none 0 0, .slice none 0 0]) ∧ Below w.heap.size w w')
theorem newS_of {w wf : World} {a : List (List Int)} {k n : Nat} {r s : Nat → Nat} (hl : a.length = n) (T : Tells a k r s) {Ax Ay : Option Addr} {nx dx gx ny dy gy lo1 lo2 : Nat} (hnx : nx = (shr n r (kX a r s k) k).length) (hny : ny = (shr (gr a 0).length s (kY a r s k) k).length)
    (hx : OwnI lo1 wf.heap.size wf gx Ax nx dx (shr n r (kX a r s k) k)) (hy : OwnI lo2 wf.heap.size wf gy Ay ny dy (shr (gr a 0).length s (kY a r s k) k)) (h1 : w.heap.size ≤ lo1) (h2 : w.heap.size ≤ lo2) (hne : gx ≠ gy) (hb : Below w.heap.size w wf) :
    NewS w a k k r s (.returned (.tuple #[.slice Ax nx dx, .slice Ay ny dy])) wf := by
  obtain rfl : nx = n := hnx.trans (putL_len _ _ _ _)
  obtain rfl : ny = (gr a 0).length := hny.trans (putL_len _ _ _ _)
  subst hl
  exact .inl ⟨rfl, T, Ax, dx, gx, Ay, dy, gy, rfl, hx.mono h1 (Nat.le_refl _), hy.mono h2 (Nat.le_refl _), hne, hb⟩
theorem own_apart {lo1 hi1 lo2 hi2 : Nat} {w1 w2 : World} {g1 g2 n1 n2 c1 c2 : Nat} {A1 A2 : Option Addr} {xs ys : List Int} (h1 : OwnI lo1 hi1 w1 g1 A1 n1 c1 xs) (h2 : OwnI lo2 hi2 w2 g2 A2 n2 c2 ys) (p1 : 0 < n1) (p2 : 0 < n2) (h : hi1 ≤ lo2) : g1 ≠ g2 := by
  obtain ⟨_, _, _, q1, _⟩ := h1.own p1
  obtain ⟨_, _, q2, _⟩ := h2.own p2
  omega
theorem lit_two {w : World} {A B : Option Addr} {n m c d : Nat} {xs ys : List Int} (hx : Ints w A n c xs) (hy : Ints w B m d ys) :
    IntRows (w.alloc (.cells #[.slice A n c, .slice B m d] 24)) (some ⟨w.heap.size, 0, none⟩) 2 2 [xs, ys] := by
  have hb := blk_new w 24 #[.slice A n c, .slice B m d]
  have hk := Keep.below (below_alloc w (.cells #[.slice A n c, .slice B m d] 24))
  refine ⟨rfl, Nat.le_refl _, by omega, fun _ => ⟨_, 0, rfl, fun k hk2 => ?_⟩⟩
  rw [Nat.zero_add]
  have hlx := hx.len
  have hly := hy.len
  match k, hk2 with
  | 0, _ => exact ⟨A, c, by rw [show (gr [xs, ys] 0).length = n from hlx]; exact blk_cell hb rfl, by rw [show (gr [xs, ys] 0).length = n from hlx]; exact hx.keep hk⟩
  | 1, _ => exact ⟨B, d, by rw [show (gr [xs, ys] 1).length = m from hly]; exact blk_cell hb rfl, by rw [show (gr [xs, ys] 1).length = m from hly]; exact hy.keep hk⟩
theorem kXY_rows {a : List (List Int)} {k : Nat} {r s : Nat → Nat} (hk : k ≤ 3) (hu : Up k (kf a r s)) : ∀ p, p < [kX a r s k, kY a r s k].length → (gr [kX a r s k, kY a r s k] p).length = k ∧ ∀ x ∈ gr [kX a r s k, kY a r s k] p, -1000000 ≤ x ∧ x ≤ 1000000 := fun p hp => by
  have hp : p < 2 := hp
  match p, hp with
  | 0, _ => exact ⟨kX_len a r s k, cofL_bd hk hu.ab (Nat.le_refl k)⟩
  | 1, _ => exact ⟨kY_len a r s k, cofL_bd hk hu.tr.ab (Nat.le_refl k)⟩

set_option maxRecDepth 100000 in
set_option maxHeartbeats 4000000 in
theorem sharesOn_any (A X Y : Option Addr) (n c k l cx cy : Nat) (a : List (List Int)) (r s : Nat → Nat) (w : World) (ha : IntRows w A n c a) (hv : VT a) (hx : Pl w X k cx r a.length) (hy : Pl w Y l cy s (gr a 0).length)
    (hk1 : 1 ≤ k) (hk3 : k ≤ 3) (hl3 : l ≤ 3) (hr : Asc a.length k r) (hs : Asc (gr a 0).length l s) :
    Calls Try.prog 50 #[.slice A n c, .slice X k cx, .slice Y l cy] w (NewS w a k l r s) := by
  by_cases hkl : k = l
  case neg =>
    have hz := nei_true hkl
    have HKL := Lib.hid hkl
    clear hkl ha hv hx hy hr hs
    go_enter Try.func50, Try.ntmps50
    go_wp2
    go_ret2
    exact .inr ⟨fun h => HKL.out h.1, rfl, Below.refl _ _⟩
  subst hkl
  have hz : ((k : Int) != (k : Int)) = false := by simp
  have HA := Lib.hid ha
  have HX := Lib.hid hx
  have HY := Lib.hid hy
  have HV := Lib.hid hv
  have HR := Lib.hid hr
  have HS := Lib.hid hs
  have HLEN := Lib.hid ha.len
  have hn1 := hv.n1
  have hn3 := hv.n3
  have hm1 := hv.m1
  have hm3 := hv.m3
  rw [ha.len] at hn1 hn3
  obtain ⟨b, o, rb, ro, cc, rfl, tab⟩ := ha.tab hv
  have HT := Lib.hid tab
  have hrow := tab.row 0 (by omega)
  simp only [Nat.add_zero] at hrow
  have HROW := Lib.hid hrow
  have HUP := Lib.hid (kf_up hv hr hs)
  clear ha hv hx hy hr hs tab hrow
  have HC := Lib.hid (partOf_any b o rb ro cc n (gr a 0).length c k k cx cy X Y a r s 18 w HT.out (HLEN.out ▸ HX.out) HY.out hk3 hk3 (by omega) (by omega))
  go_enter Try.func50, Try.ntmps50
  go_wp2_with fail
  refine HC.out.mono ?_
  rintro e w1 ⟨A1, n1, c1, g1, rfl, hn1', ho, hb⟩
  have HSQ := Lib.hid (show Sq k (prtL a r s 18 k k) (kf a r s) from prtL_sq a r s 18 k)
  have HO1 := Lib.hid ho.rows
  have HB1 := Lib.hid hb
  obtain rfl : n1 = k := hn1'.trans HSQ.out.len
  clear hn1' ho hb HC hz
  have HC := Lib.hid (determinant_any n1 hk3 A1 c1 _ _ w1 HO1.out HSQ.out HUP.out.ab)
  by_cases hd : detN n1 (kf a r s) = 0
  · have HNO := Lib.hid (show ¬ Tells a n1 r s from fun h => h.det hd)
    rw [hd] at HC
    clear hd
    go_wp2_with fail
    refine HC.out.mono ?_
    rintro e w2 ⟨rfl, hb⟩
    have HB2 := Lib.hid (below_up HB1.out hb)
    clear hb HC HB1
    go_wp2
    go_ret2
    exact .inr ⟨fun h => HNO.out h.2, rfl, HB2.out⟩
  have HD := Lib.hid hd
  have hdz : (detN n1 (kf a r s) == 0) = false := by simpa using hd
  clear hd
  generalize hdd : detN n1 (kf a r s) = D at hdz HC
  clear hdd
  go_wp2_with fail
  refine HC.out.mono ?_
  rintro e w2 ⟨rfl, hb⟩
  have HB2 := Lib.hid (below_up HB1.out hb)
  have HO2 := Lib.hid (HO1.out.keep (Keep.below hb))
  clear hb HC HB1 HO1
  have HC := Lib.hid (cofactorsM_any n1 hk3 (by omega) A1 c1 _ _ w2 HO2.out HSQ.out HUP.out.ab)
  go_wp2_with fail
  refine HC.out.mono ?_
  rintro e w3 ⟨A3, n3, c3, g3, rfl, hn3', ho, hb⟩
  have HF := Lib.hid ho.rows
  have HB3 := Lib.hid (below_up HB2.out hb)
  obtain rfl : n3 = n1 := hn3'.trans (cofM_len _ _ _)
  clear hn3' ho hb HC HB2 HO2
  have HSF := Lib.hid (cofM_sq n3 (kf a r s))
  have HCB := Lib.hid (fun i j (hi : i < n3) (hj : j < n3) => cof_bd hk3 HUP.out.ab hi hj)
  have HSO := Lib.hid (show ∀ p, p < n3 → SumOk (gr (cofM n3 (kf a r s) n3) p) from fun p hp => by
    rw [gr_cofM hp]; exact sumOk_of (by rw [cofR_len]; omega) (fun x hx => by have := cofR_bd hk3 HUP.out.ab hp (Nat.le_refl n3) x hx; omega))
  have HC := Lib.hid (rowSums_any A3 n3 c3 _ w3 HF.out hk3 HSO.out)
  rw [rsL_cofM] at HC
  go_wp2_with fail
  refine HC.out.mono ?_
  rintro e w4 ⟨A4, n4, c4, g4, rfl, hn4, ho, hb⟩
  have HX4 := Lib.hid (show Ints w4 A4 n4 c4 (kX a r s n3) from ho.ints)
  have HB4 := Lib.hid (below_up HB3.out hb)
  have HF4 := Lib.hid (HF.out.keep (Keep.below hb))
  obtain rfl : n4 = n3 := hn4.trans (cofL_len _ _ _)
  clear hn4 ho hb HC HB3 HF HSO
  obtain ⟨b3, o3, rb3, ro3, cc3, rfl, tx⟩ := HF4.out.tabX HSF.out (by omega) (fun i j hi hj => by have := HCB.out i j hi hj; omega)
  have HTX := Lib.hid tx
  clear tx
  have HC := Lib.hid (turnedX_any b3 o3 rb3 ro3 cc3 n4 c3 _ w4 HTX.out (by omega) hk3)
  go_wp2_with fail
  refine HC.out.mono ?_
  rintro e w5 ⟨rfl, ho, hb, -⟩
  have HG := Lib.hid ho.rows
  have HB5 := Lib.hid (below_up HB4.out hb)
  have HX5 := Lib.hid (HX4.out.keep (Keep.below hb))
  clear ho hb HC HB4 HF4 HTX HX4
  have HSO := Lib.hid (show ∀ p, p < n4 → SumOk (gr (flip (cofM n4 (kf a r s) n4) n4 n4) p) from fun p hp => by
    rw [gr_flip hp]; exact sumOk_of (by simp; omega) (fun x hx => by
      obtain ⟨i, hi, rfl⟩ := List.mem_map.1 hx
      have hi := List.mem_range.1 hi
      rw [HSF.out.eq i p hi hp]; have := HCB.out i p hi hp; omega))
  generalize w4.heap.size = h4 at *
  have HC := Lib.hid (rowSums_any _ n4 n4 _ w5 HG.out hk3 HSO.out)
  rw [rsL_flip hk3] at HC
  go_wp2_with fail
  refine HC.out.mono ?_
  rintro e w6 ⟨A6, n6, c6, g6, rfl, hn6, ho, hb⟩
  have HY6 := Lib.hid (show Ints w6 A6 n6 c6 (kY a r s n4) from ho.ints)
  have HB6 := Lib.hid (below_up HB5.out hb)
  have HX6 := Lib.hid (HX5.out.keep (Keep.below hb))
  obtain rfl : n6 = n4 := hn6.trans (cofL_len _ _ _)
  clear hn6 ho hb HC HB5 HX5 HG HSO HSF HCB HSQ
  have HLT := Lib.hid (lit_two HX6.out HY6.out)
  have HKR := Lib.hid (kXY_rows hk3 HUP.out)
  have hal := below_alloc w6 (.cells #[.slice A4 n6 c4, .slice A6 n6 c6] 24)
  have HB7 := Lib.hid (below_up HB6.out hal)
  have HX7 := Lib.hid (HX6.out.keep (Keep.below hal))
  have HY7 := Lib.hid (HY6.out.keep (Keep.below hal))
  clear hal
  have HC := Lib.hid (Concat_any _ 2 2 _ _ HLT.out (by omega) (fun p hp => by rw [(HKR.out p hp).1]; exact hk3) (fun p hp => by rw [(HKR.out p hp).1]; omega) (fun p hp => (HKR.out p hp).2) (by rw [catL_two, List.length_append, kX_len, kY_len]; omega))
  rw [catL_two] at HC
  go_wp2_with fail
  clear HLT HB6 HX6 HY6
  generalize w6.alloc (.cells #[.slice A4 n6 c4, .slice A6 n6 c6] 24) = w7 at *
  refine HC.out.mono ?_
  rintro e w8 ⟨A8, n8, c8, g8, rfl, hn8, ho, hb⟩
  have HI8 := Lib.hid ho.ints
  have HB8 := Lib.hid (below_up HB7.out hb)
  have HX8 := Lib.hid (HX7.out.keep (Keep.below hb))
  have HY8 := Lib.hid (HY7.out.keep (Keep.below hb))
  have h8 : 0 < n8 := by rw [hn8, List.length_append, kX_len]; omega
  clear ho hb HC HB7 HX7 HY7 hn8
  have HC := Lib.hid (haveBothSigns_any A8 n8 c8 _ w8 HI8.out h8)
  have HSG := Lib.hid (sgn_ok (a := a) (r := r) (s := s) (k := n6) (by omega) hk3 HD.out)
  by_cases hbb : bothB (kX a r s n6 ++ kY a r s n6) = false
  case neg =>
    have HNO := Lib.hid (show ¬ Tells a n6 r s from fun h => hbb (HSG.out.2 ⟨h.cx, h.cy⟩))
    rw [show bothB (kX a r s n6 ++ kY a r s n6) = true by simpa using hbb] at HC
    clear hbb HSG
    go_wp2_with fail
    refine HC.out.mono ?_
    rintro e w9 ⟨rfl, hq⟩
    have HB9 := Lib.hid (below_quiet HB8.out hq)
    clear hq HC HB8
    go_wp2
    go_ret2
    exact .inr ⟨fun h => HNO.out h.2, rfl, HB9.out⟩
  have HTL := Lib.hid (show Tells a n6 r s from ⟨HD.out, (HSG.out.1 hbb).1, (HSG.out.1 hbb).2⟩)
  rw [hbb] at HC
  clear hbb HSG
  go_wp2_with fail
  refine HC.out.mono ?_
  rintro e w9 ⟨rfl, hq⟩
  have HB9 := Lib.hid (below_quiet HB8.out hq)
  have HX9 := Lib.hid (HX8.out.keep (Keep.quiet hq))
  have HY9 := Lib.hid (HY8.out.keep (Keep.quiet hq))
  clear hq HC HB8 HX8 HY8 HI8
  have hrow := Keep.below HB9.out _ _ HROW.out
  have HXB := Lib.hid (fun p hp => mid_of (kX_bd HV.out hk3 HR.out HS.out (p := p) hp))
  have HYB := Lib.hid (fun p hp => mid_of (kY_bd HV.out hk3 HR.out HS.out (p := p) hp))
  have HCX := Lib.hid (fun W (k : Keep w9 W) => spreadI_any n n6 c4 cx A4 X _ r W (HX9.out.keep k) (HLEN.out ▸ HX.out.keep (Keep.trans (Keep.below HB9.out) k)) hn3 hk3 HXB.out HTL.out.cx)
  have HCY := Lib.hid (fun W (k : Keep w9 W) => spreadI_any (gr a 0).length n6 c6 cy A6 Y _ s W (HY9.out.keep k) (HY.out.keep (Keep.trans (Keep.below HB9.out) k)) hm3 hk3 HYB.out HTL.out.cy)
  have HK0 := Lib.hid (show Keep w9 w9.drew from Keep.drewN w9 1)
  have HRW := Lib.hid hrow
  have h0n : (0 : Int) < (n : Int) := by omega
  have h0n' : 0 < n := by omega
  go_wp2
  go_region_held3 (fun W => W.cell? ⟨b, o, none⟩ = some (.slice (some ⟨rb 0, ro 0, none⟩) (gr a 0).length (cc 0))) (first | exact HSX.out | exact HSY.out | exact HRW.out | go_keep)
    (first
    | (go_at_call 69; (with_reducible refine (HCX.out _ ?_).mono ?_); (first | exact HKY.out | exact HK0.out); rintro e wx ⟨Ax, nx, dx, gx, rfl, hnx, ho, hb⟩; have HOX := Lib.hid ho; have HBX := Lib.hid hb; have HNX := Lib.hid hnx; (first | (have HKX := Lib.hid (Keep.trans HKY.out (Keep.below hb))) | (have HKX := Lib.hid (Keep.trans HK0.out (Keep.below hb)))); (first | (have HSX := Lib.hid (Keep.below hb _ _ HSY.out)) | (have HSX := Lib.hid (Keep.below hb _ _ HRW.out))); clear ho hb hnx HCX)
    | (go_at_call 69; (with_reducible refine (HCY.out _ ?_).mono ?_); (first | exact HKX.out | exact HK0.out); rintro e wy ⟨Ay, ny, dy, gy, rfl, hny, ho, hb⟩; have HOY := Lib.hid ho; have HBY := Lib.hid hb; have HNY := Lib.hid hny; (first | (have HKY := Lib.hid (Keep.trans HKX.out (Keep.below hb))) | (have HKY := Lib.hid (Keep.trans HK0.out (Keep.below hb)))); (first | (have HSY := Lib.hid (Keep.below hb _ _ HSX.out)) | (have HSY := Lib.hid (Keep.below hb _ _ HRW.out))); clear ho hb hny HCY))
  all_goals
    have hnx : 0 < nx := by rw [HNX.out]; unfold shr; rw [putL_len]; omega
    have hny : 0 < ny := by rw [HNY.out]; unfold shr; rw [putL_len]; omega
    have hz9 := HB9.out.size
    have HFIN := Lib.hid (And.intro hnx hny)
    clear hnx hny hrow
    go_wp2
    go_ret2
    first
    | exact newS_of HLEN.out HTL.out HNX.out HNY.out ((HOX.out.below HBY.out).mono (Nat.le_refl _) HBY.out.size) HOY.out (by simpa using hz9) (Nat.le_trans hz9 (by simpa using HBX.out.size)) (own_apart HOX.out HOY.out HFIN.out.1 HFIN.out.2 (Nat.le_refl _)) (below_up (below_up HB9.out.drew HBX.out) HBY.out)
    | exact newS_of HLEN.out HTL.out HNX.out HNY.out HOX.out ((HOY.out.below HBX.out).mono (Nat.le_refl _) HBX.out.size) (Nat.le_trans hz9 (by simpa using HBY.out.size)) (by simpa using hz9) (own_apart HOY.out HOX.out HFIN.out.2 HFIN.out.1 (Nat.le_refl _)).symm (below_up (below_up HB9.out.drew HBY.out) HBX.out)
end Go.Proofs.Ytfcienghlbnjbaa

/- A table as the second player has it, by the program. -/
namespace Go.Proofs.Ytfcienghlbnjbaa
open Go.RowKit

/-- The first j numbers of a row with the other sign. -/
def negTo (r : List Int) (j : Nat) : List Int := (List.range r.length).map fun k => if k < j then - gi r k else gi r k
theorem negTo_len (r : List Int) (j : Nat) : (negTo r j).length = r.length := by simp [negTo]
theorem gi_negTo {r : List Int} {j k : Nat} (h : k < r.length) : gi (negTo r j) k = if k < j then - gi r k else gi r k := by
  rw [gi_get (by rw [negTo_len]; exact h)]; simp [negTo]
theorem negTo_zero (r : List Int) : negTo r 0 = r := gi_ext (negTo_len r 0) fun k hk => by
  rw [negTo_len] at hk; rw [gi_negTo hk, if_neg (by omega)]
theorem negTo_all (r : List Int) : negTo r r.length = mrow r r.length := gi_ext (by rw [negTo_len, mrow_len]) fun k hk => by
  rw [negTo_len] at hk
  rw [gi_negTo hk, if_pos hk, gi_get (xs := mrow r r.length) (by rw [mrow_len]; exact hk)]
  simp [mrow]
theorem negTo_set {r : List Int} {j : Nat} (h : j < r.length) : (negTo r j).set j (- gi r j) = negTo r (j + 1) := gi_ext (by rw [List.length_set, negTo_len, negTo_len]) fun k hk => by
  rw [List.length_set, negTo_len] at hk
  by_cases e : k = j
  · subst e; rw [gi_set_eq (by rw [negTo_len]; exact h), gi_negTo hk, if_pos (by omega)]
  · rw [gi_set_ne (by rw [negTo_len]; exact hk) e, gi_negTo hk, gi_negTo hk]
    split <;> split <;> first | rfl | omega
/-- The first i rows with the other signs. -/
def negR (a : List (List Int)) (i : Nat) : List (List Int) := (List.range a.length).map fun k => if k < i then mrow (gr a k) (gr a k).length else gr a k
theorem negR_len (a : List (List Int)) (i : Nat) : (negR a i).length = a.length := by simp [negR]
theorem gr_negR {a : List (List Int)} {i k : Nat} (h : k < a.length) : gr (negR a i) k = if k < i then mrow (gr a k) (gr a k).length else gr a k := by
  rw [gr_get (by rw [negR_len]; exact h)]; simp [negR]
theorem negR_zero (a : List (List Int)) : negR a 0 = a := gr_ext (negR_len a 0) fun k hk => by
  rw [negR_len] at hk; rw [gr_negR hk, if_neg (by omega)]
theorem negR_all (a : List (List Int)) : negR a a.length = mtab a a.length := gr_ext (by rw [negR_len, mtab_len]) fun k hk => by
  rw [negR_len] at hk
  rw [gr_negR hk, if_pos hk, gr_get (xs := mtab a a.length) (by rw [mtab_len]; exact hk)]
  simp [mtab]
theorem negR_set {a : List (List Int)} {i : Nat} (h : i < a.length) : (negR a i).set i (mrow (gr a i) (gr a i).length) = negR a (i + 1) := gr_ext (by rw [List.length_set, negR_len, negR_len]) fun k hk => by
  rw [List.length_set, negR_len] at hk
  by_cases e : k = i
  · subst e; rw [gr_set_eq (by rw [negR_len]; exact h), gr_negR hk, if_pos (by omega)]
  · rw [gr_set_ne e, gr_negR hk, gr_negR hk]
    split <;> split <;> first | rfl | omega
theorem One.trans {b : Nat} {x y z : World} (h : One b x y) (k : One b y z) : One b x z :=
  ⟨k.os.trans h.os, k.tape.trans h.tape, k.output.trans h.output, by rw [k.size, h.size], fun g hg => (k.block g hg).trans (h.block g hg)⟩

set_option maxHeartbeats 1000000 in
theorem otherSide_any (b o : Nat) (rb ro cc : Nat → Nat) (n m c : Nat) (xs : List (List Int)) (w : World) (h : Tab w b o rb ro cc n m xs) :
    Calls Try.prog 52 #[.slice (some ⟨b, o, none⟩) n c] w (NewT w (mtab (flip xs n m) (flip xs n m).length)) := by
  have HC := Lib.hid (turned_any b o rb ro cc n m c xs w h)
  have hm1 := h.m1
  have hm3 := h.m3
  have hn1 := h.n1
  have hn3 := h.n3
  have hbd := Lib.hid h.bd
  have HFL : Hid ((flip xs n m).length = m) := Lib.hid (by simp [flip])
  clear h
  go_enter Try.func52, Try.ntmps52
  go_wp2_with fail
  refine HC.out.mono ?_
  rintro e w1 ⟨rfl, ho, hb, hz⟩
  have HO := Lib.hid (negR_zero (flip xs n m) ▸ ho)
  have HB := Lib.hid hb
  have HRL : Hid (∀ k, k < m → (gr (flip xs n m) k).length = n) := Lib.hid (fun k hk => by rw [gr_flip hk]; simp)
  have HRB : Hid (∀ k j, k < m → j < n → -9 ≤ gi (gr (flip xs n m) k) j ∧ gi (gr (flip xs n m) k) j ≤ 9) := Lib.hid (fun k j hk hj => by rw [gr_flip hk, gi_col hj]; exact hbd.out j k hj hk)
  clear ho hb HC hbd
  have hfl := HFL.out
  rw [← hfl]
  generalize flip xs n m = fs at *
  rw [hfl]
  generalize hg : w.heap.size = g at *
  have HG := Lib.hid hg
  clear hg hfl
  go_wp2
  go_loopw [11] (fun i wr => ∃ k : Nat, k ≤ m ∧ i = .int .i64 k ∧ Hid (OwnR g w1.heap.size wr g (some ⟨g, 0, none⟩) m m (negR fs k)) ∧ Hid (Touch g w1.heap.size w1 wr)) (fun i _ => m - (intOf i).toNat)
  case atStart => exact ⟨0, Nat.zero_le _, rfl, HO, Lib.hid (Touch.refl _ _ _)⟩
  case round =>
    clear HO
    obtain ⟨k, hk, rfl, HO, HT⟩ := hrel
    by_cases hlt : k < m
    · obtain ⟨o', g', R, c', e, c1, hI, hset⟩ := HO.out.at_row hlt
      have hgk : gr (negR fs k) k = gr fs k := by rw [gr_negR (by rw [HFL.out]; exact hlt), if_neg (Nat.lt_irrefl k)]
      rw [hgk, HRL.out k hlt] at c1 hI hset
      injection e with e
      injection e with _ e _
      subst e
      obtain ⟨oR, e, hlo, hhi, _⟩ := hI.own (by omega)
      subst e
      have HI := Lib.hid (negTo_zero (gr fs k) ▸ hI)
      have HS := Lib.hid hset
      simp only [Nat.zero_add] at c1
      clear hI hset hgk
      go_wp2
      clear c1
      go_loopw [17] (fun j wi => ∃ l : Nat, l ≤ n ∧ j = .int .i64 l ∧ Hid (OwnI g w1.heap.size wi g' (some ⟨g', oR, none⟩) n c' (negTo (gr fs k) l)) ∧ Hid (One g' wr wi)) (fun j _ => n - (intOf j).toNat)
      case atStart => exact ⟨0, Nat.zero_le _, rfl, HI, Lib.hid (One.refl _ _)⟩
      case round =>
        clear HI
        obtain ⟨l, hl, rfl, HI, HN⟩ := hrel
        by_cases hll : l < n
        · have HL := Lib.hid (HRL.out k hlt)
          obtain ⟨z1, z2⟩ := HRB.out k l hlt hll
          obtain ⟨b', o2, e, hc⟩ := HI.out.ints.at_ (by omega)
          obtain ⟨o3, e3, _, _, hf⟩ := HI.out.own (by omega)
          injection e with e
          injection e with e1 e2 _
          subst e1
          subst e2
          injection e3 with e3
          injection e3 with _ e3 _
          subst e3
          have c2 := hc l hll
          have f2 := hf l hll
          rw [gi_negTo (by rw [HL.out]; exact hll), if_neg (Nat.lt_irrefl l)] at c2
          have HI2 := Lib.hid (HI.out.set hll (v := - gi (gr fs k) l) (by omega))
          have HN2 := Lib.hid (HN.out.set (oR + l) (.int .i64 (- gi (gr fs k) l)))
          have HSE := Lib.hid (negTo_set (r := gr fs k) (j := l) (by rw [HL.out]; exact hll))
          clear hc hf HI HN
          go_wp2
          go_roundw
          case rel => exact ⟨l + 1, by omega, by go_num, Lib.hid (by rw [← HSE.out]; exact HI2.out), HN2⟩
          case measure => simp [intOf]; omega
        · obtain rfl : l = n := by omega
          have HL := Lib.hid (HRL.out k hlt)
          have hx := HS.out _ (mrow (gr fs k) (gr fs k).length) (by rw [mrow_len, HL.out]) (by rw [← negTo_all, HL.out]; exact HI.out) (fun h => absurd h (by omega)) HN.out
          rw [negR_set (by rw [HFL.out]; exact hlt)] at hx
          have HX := Lib.hid hx
          clear hx HS HI HN
          go_wp2
          go_roundw
          case rel => exact ⟨k + 1, by omega, by go_num, Lib.hid HX.out.1, Lib.hid (HT.out.trans HX.out.2)⟩
          case measure => simp [intOf]; omega
    · obtain rfl : k = m := by omega
      have HO2 := Lib.hid (show OwnR g w1.heap.size wr g (some ⟨g, 0, none⟩) k k (mtab fs fs.length) by rw [← negR_all, HFL.out]; exact HO.out)
      have HSZ := Lib.hid HT.out.size
      have HB2 := Lib.hid (Touch.below HB.out HT.out (by omega))
      clear HO
      go_wp2
      go_ret
      exact ⟨some ⟨g, 0, none⟩, k, k, g, rfl, by rw [mtab_len, HFL.out], by rw [HG.out]; exact HO2.out.mono (Nat.le_refl _) (Nat.le_of_eq HSZ.out.symm), by rw [HG.out]; exact HB2.out⟩
end Go.Proofs.Ytfcienghlbnjbaa

/- Best shares, by the program. -/
namespace Go.Proofs.Ytfcienghlbnjbaa
open Go.RowKit

set_option maxHeartbeats 1000000 in
theorem minus_any (U D : Int) (w : World) (hU : -1000000000 ≤ U ∧ U ≤ 1000000000) : Calls Try.prog 53 #[.agg #[.int .i64 U, .int .i64 D]] w (Ret (.agg #[.int .i64 (-U), .int .i64 D]) w) := by
  obtain ⟨u1, u2⟩ := hU
  have b0 := blk_old (blk_new w 31 #[.int .i64 U, .int .i64 D]) (.cells #[.int .i64 0, .int .i64 0] 31)
  have b1 := blk_new (w.alloc (.cells #[.int .i64 U, .int .i64 D] 31)) 31 #[.int .i64 0, .int .i64 0]
  have HB := Lib.hid (below_up (below_alloc w (.cells #[.int .i64 U, .int .i64 D] 31)) (below_alloc _ (.cells #[.int .i64 (-U), .int .i64 D] 31)))
  have HN := Lib.hid (blk_new (w.alloc (.cells #[.int .i64 U, .int .i64 D] 31)) 31 #[.int .i64 (-U), .int .i64 D])
  rw [World.size_alloc] at b1 HN
  have c0 := blk_cell b0 (i := 0) (v := .int .i64 U) rfl
  have c1 := blk_cell b0 (i := 1) (v := .int .i64 D) rfl
  go_enter Try.func53, Try.ntmps53
  go_wp2
  have r0 := blk_cell HN.out (i := 0) (v := .int .i64 (-U)) rfl
  have r1 := blk_cell HN.out (i := 1) (v := .int .i64 D) rfl
  clear c0 c1 b0 b1 HN
  generalize (w.alloc (.cells #[.int .i64 U, .int .i64 D] 31)).alloc (.cells #[.int .i64 (-U), .int .i64 D] 31) = WE at *
  refine bodyPost_ret (v := .agg #[.int .i64 (-U), .int .i64 D]) (by simp [results, Try.results53, go_sem, r0, r1]) rfl ?_
  exact ⟨rfl, HB.out⟩

set_option maxRecDepth 100000 in
set_option maxHeartbeats 3200000 in
theorem AreBest_impl (A X Y : Option Addr) (n c nx cx ny cy : Nat) (a : List (List Int)) (x y : List Int) (w : World) (ha : IntRows w A n c a) (hx : Ints w X nx cx x) (hy : Ints w Y ny cy y) :
    Calls Try.prog 28 #[.slice A n c, .slice X nx cx, .slice Y ny cy] w (Ret (.bool (pb (BestP a x y))) w) := by
  have HC := Lib.hid (WorstOf_impl A X n c nx cx a x w ha hx)
  have HA := Lib.hid ha
  have HY := Lib.hid hy
  clear ha hx hy
  obtain ⟨U, D, hform⟩ := wstV_form (worF a x)
  rw [hform] at HC
  have HUD : Hid (worF a x = (U, D)) := Lib.hid (by
    unfold wstV at hform
    injection hform with h
    have h1 := congrArg (fun z : Array Value => z[0]!) h
    have h2 := congrArg (fun z : Array Value => z[1]!) h
    simp at h1 h2
    exact Prod.ext h1 h2)
  clear hform
  by_cases hok : WOk a x
  · have HV := Lib.hid hok.v
    have HVX := Lib.hid hok.x
    rw [pb_true hok] at HC
    have HUD2 := Lib.hid (show wlast a x = (U, D) by rw [← worF_yes hok]; exact HUD.out)
    have hn1 := HV.out.n1
    have hn3 := HV.out.n3
    have hm1 := HV.out.m1
    have hm3 := HV.out.m3
    have HLEN := Lib.hid HA.out.len
    have hbd := wlast_bd HV.out HVX.out
    rw [HUD2.out] at hbd
    obtain ⟨⟨u1, u2⟩, u3, u4⟩ := hbd
    simp only at u1 u2 u3 u4
    clear hok
    rw [HLEN.out] at hn1 hn3
    obtain ⟨b, o, rb, ro, cc, rfl, tab⟩ := HA.out.tab HV.out
    have HT := Lib.hid tab
    clear tab
    go_enter Try.func28, Try.ntmps28
    go_wp2_with fail
    refine HC.out.mono ?_
    rintro e w1 ⟨rfl, hb⟩
    have HB0 := Lib.hid (show Below w.heap.size w w1 from hb)
    have HB1 := Lib.hid (below_up HB0.out (below_alloc w1 (.cells #[.int .i64 U, .int .i64 D] 31)))
    have HK1 := Lib.hid (blk_new w1 31 #[.int .i64 U, .int .i64 D])
    clear hb HC HB0
    go_wp2_with fail
    generalize w1.alloc (.cells #[.int .i64 U, .int .i64 D] 31) = W1 at *
    generalize w1.heap.size = h1 at *
    have HC := Lib.hid (otherSide_any b o rb ro cc n (gr a 0).length c a W1 (HT.out.keep (Keep.below HB1.out)))
    have HNT : Hid (mtab (flip a n (gr a 0).length) (flip a n (gr a 0).length).length = ntab a) := Lib.hid (by rw [← HLEN.out]; rfl)
    rw [HNT.out] at HC
    refine HC.out.mono ?_
    rintro e w2 ⟨A2, n2, c2, g2, rfl, hn2, ho, hb⟩
    have HO2 := Lib.hid ho.rows
    have HB2 := Lib.hid (below_up HB1.out hb)
    have HK2 := Lib.hid (blk_below HK1.out hb)
    clear hn2 ho hb HC HB1 HK1
    have HC := Lib.hid (WorstOf_impl A2 Y n2 c2 ny cy (ntab a) y w2 HO2.out (HY.out.keep (Keep.below HB2.out)))
    obtain ⟨P, Q, hform⟩ := wstV_form (worF (ntab a) y)
    rw [hform] at HC
    have HPQ : Hid (worF (ntab a) y = (P, Q)) := Lib.hid (by
      unfold wstV at hform
      injection hform with h
      have h1 := congrArg (fun z : Array Value => z[0]!) h
      have h2 := congrArg (fun z : Array Value => z[1]!) h
      simp at h1 h2
      exact Prod.ext h1 h2)
    clear hform
    by_cases hvy : VS y (ntab a).length
    · have HVY := Lib.hid hvy
      have HWK := Lib.hid (WOk.mk HV.out.ntab hvy)
      rw [pb_true HWK.out] at HC
      have HPQ2 := Lib.hid (show wlast (ntab a) y = (P, Q) by rw [← worF_yes HWK.out]; exact HPQ.out)
      have hbd := wlast_bd HV.out.ntab HVY.out
      rw [HPQ2.out] at hbd
      obtain ⟨⟨p1, p2⟩, p3, p4⟩ := hbd
      simp only at p1 p2 p3 p4
      clear hvy
      have HBP : Hid (pb (BestP a x y) = pb (U = -P ∧ D = Q)) := Lib.hid (pb_congr ⟨fun h => by
        have := h.eq
        rw [HUD2.out, HPQ2.out] at this
        exact Prod.mk.inj this, fun h => ⟨⟨HV.out, HVX.out, by have := HVY.out; rw [ntab_len] at this; exact this⟩, by rw [HUD2.out, HPQ2.out, h.1, h.2]⟩⟩)
      go_wp2_with fail
      refine HC.out.mono ?_
      rintro e w3 ⟨rfl, hb⟩
      have HB3 := Lib.hid (below_up (below_up HB2.out hb) (below_alloc w3 (.cells #[.int .i64 P, .int .i64 Q] 31)))
      have HK3 := Lib.hid (blk_old (blk_below HK2.out hb) (.cells #[.int .i64 P, .int .i64 Q] 31))
      have HL3 := Lib.hid (blk_new w3 31 #[.int .i64 P, .int .i64 Q])
      clear hb HC HB2 HK2
      have c0 := blk_cell HK3.out (i := 0) (v := .int .i64 U) rfl
      have c1 := blk_cell HK3.out (i := 1) (v := .int .i64 D) rfl
      have d0 := blk_cell HL3.out (i := 0) (v := .int .i64 P) rfl
      have d1 := blk_cell HL3.out (i := 1) (v := .int .i64 Q) rfl
      go_wp2_with fail
      generalize w3.alloc (.cells #[.int .i64 P, .int .i64 Q] 31) = W3 at *
      generalize w3.heap.size = h3 at *
      have HBX := Lib.hid HB3.out.drew
      have HKD := Lib.hid (show Blk W3.drew h1 31 #[.int .i64 U, .int .i64 D] from HK3.out)
      have HLD := Lib.hid (show Blk W3.drew h3 31 #[.int .i64 P, .int .i64 Q] from HL3.out)
      have HMC := Lib.hid (fun W => minus_any P Q W (by omega))
      clear HK3 HL3
      by_cases e1 : U = -P
      · by_cases e2 : D = Q
        · have HR := Lib.hid (pb_true (p := U = -P ∧ D = Q) ⟨e1, e2⟩)
          subst e1
          subst e2
          go_region_held3 (fun W => (W.cell? ⟨h1, 0, none⟩ = some (.int .i64 (-P)) ∧ W.cell? ⟨h1, 1, none⟩ = some (.int .i64 D)) ∧ (W.cell? ⟨h3, 0, none⟩ = some (.int .i64 P) ∧ W.cell? ⟨h3, 1, none⟩ = some (.int .i64 D))) (first | go_keep | exact HKK.out)
            (first
            | (go_at_call 53; refine (HMC.out _).mono ?_; rintro e w7 ⟨rfl, hb⟩; have HB7 := Lib.hid (below_up HBX.out hb); have HKK := Lib.hid (And.intro (And.intro (blk_cell (blk_below HKD.out hb) (i := 0) (v := .int .i64 (-P)) rfl) (blk_cell (blk_below HKD.out hb) (i := 1) (v := .int .i64 D) rfl)) (And.intro (blk_cell (blk_below HLD.out hb) (i := 0) (v := .int .i64 P) rfl) (blk_cell (blk_below HLD.out hb) (i := 1) (v := .int .i64 D) rfl))); clear hb))
          go_wp2
          go_ret
          exact ⟨by rw [HBP.out, HR.out]; rfl, HB7.out⟩
        · have HR := Lib.hid (pb_false (p := U = -P ∧ D = Q) (fun h => e2 h.2))
          have e2' : (D == Q) = false := by simpa using e2
          subst e1
          go_region_held3 (fun W => (W.cell? ⟨h1, 0, none⟩ = some (.int .i64 (-P)) ∧ W.cell? ⟨h1, 1, none⟩ = some (.int .i64 D)) ∧ (W.cell? ⟨h3, 0, none⟩ = some (.int .i64 P) ∧ W.cell? ⟨h3, 1, none⟩ = some (.int .i64 Q))) (first | go_keep | exact HKK.out)
            (first
            | (go_at_call 53; refine (HMC.out _).mono ?_; rintro e w7 ⟨rfl, hb⟩; have HB7 := Lib.hid (below_up HBX.out hb); have HKK := Lib.hid (And.intro (And.intro (blk_cell (blk_below HKD.out hb) (i := 0) (v := .int .i64 (-P)) rfl) (blk_cell (blk_below HKD.out hb) (i := 1) (v := .int .i64 D) rfl)) (And.intro (blk_cell (blk_below HLD.out hb) (i := 0) (v := .int .i64 P) rfl) (blk_cell (blk_below HLD.out hb) (i := 1) (v := .int .i64 Q) rfl))); clear hb))
          go_wp2
          go_ret
          exact ⟨by rw [HBP.out, HR.out]; rfl, HB7.out⟩
      · have HR := Lib.hid (pb_false (p := U = -P ∧ D = Q) (fun h => e1 h.1))
        have e1' : (U == -P) = false := by simpa using e1
        go_region_held3 (fun W => (W.cell? ⟨h1, 0, none⟩ = some (.int .i64 U) ∧ W.cell? ⟨h1, 1, none⟩ = some (.int .i64 D)) ∧ (W.cell? ⟨h3, 0, none⟩ = some (.int .i64 P) ∧ W.cell? ⟨h3, 1, none⟩ = some (.int .i64 Q))) (first | go_keep | exact HKK.out)
          (first
          | (go_at_call 53; refine (HMC.out _).mono ?_; rintro e w7 ⟨rfl, hb⟩; have HB7 := Lib.hid (below_up HBX.out hb); have HKK := Lib.hid (And.intro (And.intro (blk_cell (blk_below HKD.out hb) (i := 0) (v := .int .i64 U) rfl) (blk_cell (blk_below HKD.out hb) (i := 1) (v := .int .i64 D) rfl)) (And.intro (blk_cell (blk_below HLD.out hb) (i := 0) (v := .int .i64 P) rfl) (blk_cell (blk_below HLD.out hb) (i := 1) (v := .int .i64 Q) rfl))); clear hb))
        go_wp2
        go_ret
        exact ⟨by rw [HBP.out, HR.out]; rfl, HB7.out⟩
    · have HWN := Lib.hid (pb_false (p := WOk (ntab a) y) (fun h => hvy h.x))
      rw [HWN.out] at HC
      have HNO := Lib.hid (pb_false (p := BestP a x y) (fun h => hvy (by rw [ntab_len]; exact h.ok.y)))
      clear hvy
      go_wp2_with fail
      refine HC.out.mono ?_
      rintro e w3 ⟨rfl, hb⟩
      have HB3 := Lib.hid (below_up (below_up HB2.out hb) (below_alloc w3 (.cells #[.int .i64 P, .int .i64 Q] 31)))
      clear hb HC HB2 HK2
      go_wp2_with fail
      go_quiet (fail)
      go_wp2
      go_ret
      exact ⟨by rw [HNO.out]; rfl, below_drewN HB3.out _⟩
  · have HNO := Lib.hid (pb_false (p := BestP a x y) (fun h => hok ⟨h.ok.v, h.ok.x⟩))
    rw [pb_false hok] at HC
    clear hok
    go_enter Try.func28, Try.ntmps28
    go_wp2_with fail
    refine HC.out.mono ?_
    rintro e w1 ⟨rfl, hb⟩
    have HB1 := Lib.hid (below_up (show Below w.heap.size w w1 from hb) (below_alloc w1 (.cells #[.int .i64 U, .int .i64 D] 31)))
    clear hb HC
    go_wp2
    go_ret
    exact ⟨by rw [HNO.out]; rfl, HB1.out⟩
end Go.Proofs.Ytfcienghlbnjbaa

/- Best shares, by the program. -/
namespace Go.Proofs.Ytfcienghlbnjbaa
open Go.RowKit
open V (Asc)

/-- The best shares of a table, each in memory of its own; none of what is no table. -/
def NewBS (w : World) (a : List (List Int)) (e : Ending) (w' : World) : Prop :=
  (VT a ∧ ∃ A1 c1 g1 A2 c2 g2, e = .returned (.tuple #[.slice A1 a.length c1, .slice A2 (gr a 0).length c2]) ∧ OwnI w.heap.size w'.heap.size w' g1 A1 a.length c1 (bx a) ∧
    OwnI w.heap.size w'.heap.size w' g2 A2 (gr a 0).length c2 (by_ a) ∧ g1 ≠ g2 ∧ Below w.heap.size w w') ∨
  (¬ VT a ∧ e = .returned (.tuple #[.slice none 0 0, .slice none 0 0]) ∧ Below w.heap.size w w')
theorem memL_pos : ∀ R, R < 8 → ∀ n, n < 4 → 1 ≤ R → R < 2 ^ n → 1 ≤ (memL R n).length := by decide
theorem shl_val {n : Nat} (h : n ≤ 3) : ∃ P : Nat, wrap64 ((2 : Int) ^ n) = (P : Int) ∧ P = 2 ^ n := by
  refine ⟨2 ^ n, ?_, rfl⟩
  have : n = 0 ∨ n = 1 ∨ n = 2 ∨ n = 3 := by omega
  rcases this with rfl | rfl | rfl | rfl <;> (unfold wrap64; decide)
/-- What sharesOn tells is best just if the part passes the model's test. -/
theorem tells_best {a : List (List Int)} (v : VT a) {k : Nat} {r s : Nat → Nat} (hk : k ≤ 3) (hr : Asc a.length k r) (hs : Asc (gr a 0).length k s) (T : Tells a k r s) :
    BestP a (shr a.length r (kX a r s k) k) (shr (gr a 0).length s (kY a r s k) k) ↔ KerP a k r s :=
  ⟨fun h => ⟨T.det, T.cx, T.cy, h.eq⟩, fun h => ⟨⟨v, (KerP.shares v hk hr hs T.cx T.cy).1, (KerP.shares v hk hr hs T.cx T.cy).2⟩, h.eq⟩⟩

set_option maxRecDepth 100000 in
set_option maxHeartbeats 4000000 in
theorem BestShares_impl (A : Option Addr) (n c : Nat) (a : List (List Int)) (w : World) (ha : IntRows w A n c a) :
    Calls Try.prog 26 #[.slice A n c] w (NewBS w a) := by
  have HA := Lib.hid ha
  by_cases hv : VT a
  · have HV := Lib.hid hv
    have HLEN := Lib.hid ha.len
    have hn1 := hv.n1
    have hn3 := hv.n3
    have hm1 := hv.m1
    have hm3 := hv.m3
    rw [ha.len] at hn1 hn3
    obtain ⟨b, o, rb, ro, cc, rfl, tab⟩ := ha.tab hv
    have hrow := tab.row 0 (by omega)
    simp only [Nat.add_zero] at hrow
    have HROW := Lib.hid hrow
    have HF := Lib.hid (first_of hv)
    have hS1 := HF.out.s1
    have hT1 := HF.out.t1
    obtain ⟨P, hP, hP2⟩ := shl_val hn3
    obtain ⟨Q, hQ, hQ2⟩ := shl_val hm3
    have hP8 : P ≤ 8 := by rw [hP2]; exact pow_le8 hn3
    have hQ8 : Q ≤ 8 := by rw [hQ2]; exact pow_le8 hm3
    have hSP : vS a < P := by rw [hP2]; have := HF.out.sn; rwa [HLEN.out] at this
    have hTQ : vT a < Q := by rw [hQ2]; exact HF.out.tm
    have HP2 := Lib.hid hP2
    have HQ2 := Lib.hid hQ2
    clear hP2 hQ2
    have hn0 : 0 < n := by omega
    have hn0' : (0 : Int) < (n : Int) := by omega
    have HC := Lib.hid (pb_true hv ▸ ValidTable_impl _ _ _ _ w HA.out)
    clear ha hv tab
    go_enter Try.func26, Try.ntmps26
    go_wp2_with fail
    refine HC.out.mono ?_
    rintro e w1 ⟨rfl, hq⟩
    have HB1 := Lib.hid (show Below w.heap.size w w1 from hq.below)
    clear hq HC hrow
    go_wp2
    go_loopw [4] (fun i wr => ∃ R : Nat, 1 ≤ R ∧ R ≤ vS a ∧ i = .int .i64 R ∧ Hid (Below w.heap.size w wr)) (fun i _ => 8 - (intOf i).toNat)
    case atStart => exact ⟨1, by omega, hS1, rfl, HB1⟩
    case round =>
      clear HB1
      obtain ⟨R, hR1, hR2, rfl, HB⟩ := hrel
      have hRP : (R : Int) < (P : Int) := by omega
      go_wp2
      rw [hP]
      generalize wr = w1 at *
      go_loopw [5] (fun i wi => ∃ T : Nat, 1 ≤ T ∧ T ≤ Q ∧ i = .int .i64 T ∧ Hid (R = vS a → T ≤ vT a) ∧ Hid (Below w1.heap.size w1 wi)) (fun i _ => 8 - (intOf i).toNat)
      case atStart => exact ⟨1, by omega, by omega, rfl, Lib.hid (fun _ => hT1), Lib.hid (Below.refl _ _)⟩
      case round =>
        obtain ⟨T, hT1', hT8', rfl, HRT, HBI⟩ := hrel
        have HBW := Lib.hid (below_up HB.out HBI.out)
        have hrow := Keep.below HBW.out _ _ HROW.out
        by_cases hlt : T < Q
        · have hTQ' : (T : Int) < (Q : Int) := by omega
          have HC := Lib.hid (membersOf_any R wr (by omega))
          rw [memL_all3 R (by omega) n (by omega) (by rw [← HP2.out]; omega)] at HC
          go_wp2_with fail
          refine HC.out.mono ?_
          rintro e w2 ⟨Ar, nr, cr, gr_, rfl, hnr, ho, hb⟩
          have HRI := Lib.hid (memL_pl ho.ints hnr)
          have HNR := Lib.hid (show nr = (memL R a.length).length by rw [HLEN.out]; exact hnr)
          have hnr3 : nr ≤ 3 := by have := memL_le R n; omega
          have hnr1 : 1 ≤ nr := by rw [hnr]; exact memL_pos R (by omega) n (by omega) hR1 (by rw [← HP2.out]; omega)
          have HBI2 := Lib.hid (below_up HBI.out hb)
          have HBW2 := Lib.hid (below_up HBW.out hb)
          clear hnr ho hb HC HBI HBW hrow
          have HC := Lib.hid (membersOf_any T w2 (by omega))
          rw [memL_all3 T (by omega) (gr a 0).length (by omega) (by rw [← HQ2.out]; omega)] at HC
          go_wp2_with fail
          refine HC.out.mono ?_
          rintro e w3 ⟨Ac, nc, cc2, gc, rfl, hnc, ho, hb⟩
          have HCI := Lib.hid (memL_pl ho.ints hnc)
          have HNC := Lib.hid hnc
          have hnc3 : nc ≤ 3 := by have := memL_le T (gr a 0).length; omega
          have HBI3 := Lib.hid (below_up HBI2.out hb)
          have HBW3 := Lib.hid (below_up HBW2.out hb)
          have HRP := Lib.hid (show Pl w3 Ar nr cr (idx R a.length) a.length by rw [HLEN.out]; exact HRI.out.keep (Keep.below hb))
          clear hnc ho hb HC HBI2 HBW2 HRI
          have HAR := Lib.hid (show Asc a.length nr (idx R a.length) by rw [HNR.out]; exact idx_asc _ _)
          have HAT := Lib.hid (show Asc (gr a 0).length nc (idx T (gr a 0).length) by rw [HNC.out]; exact idx_asc _ _)
          have HC := Lib.hid (sharesOn_any _ Ar Ac n c nr nc cr cc2 a (idx R a.length) (idx T (gr a 0).length) w3 (HA.out.keep (Keep.below HBW3.out)) HV.out HRP.out HCI.out hnr1 hnr3 hnc3 HAR.out HAT.out)
          have HKI : Hid (kerAt a R T ↔ nr = nc ∧ KerP a nr (idx R a.length) (idx T (gr a 0).length)) := Lib.hid (by
            unfold kerAt
            rw [← HNR.out, ← HNC.out]
            exact ⟨fun h => h.2, fun h => ⟨hnr1, h⟩⟩)
          have HNX : Hid (¬ kerAt a R T → R = vS a → T + 1 ≤ vT a) := Lib.hid (fun hk e => by
            have := HRT.out e
            have : T ≠ vT a := fun e2 => hk (by rw [e, e2]; exact HF.out.at_)
            omega)
          have HEQ : Hid (kerAt a R T → R = vS a ∧ T = vT a) := Lib.hid (fun hk => by
            by_cases e : R = vS a
            · refine ⟨e, ?_⟩
              apply Classical.byContradiction; intro h2
              have h1 := HRT.out e
              exact HF.out.noT T hT1' (by omega) (e ▸ hk)
            · exact absurd hk (HF.out.noS R T hR1 (by omega) hT1' (by omega)))
          go_wp2_with fail
          refine HC.out.mono ?_
          clear HC
          rintro e w4 hsn
          by_cases hts : nr = nc ∧ Tells a nr (idx R a.length) (idx T (gr a 0).length)
          · obtain ⟨A1, c1, g1, A2, c2, g2, rfl, o1, o2, hne, hb⟩ : ∃ A1 c1 g1 A2 c2 g2, e = .returned (.tuple #[.slice A1 a.length c1, .slice A2 (gr a 0).length c2]) ∧ OwnI w3.heap.size w4.heap.size w4 g1 A1 a.length c1 (shr a.length (idx R a.length) (kX a (idx R a.length) (idx T (gr a 0).length) nr) nr) ∧
                OwnI w3.heap.size w4.heap.size w4 g2 A2 (gr a 0).length c2 (shr (gr a 0).length (idx T (gr a 0).length) (kY a (idx R a.length) (idx T (gr a 0).length) nr) nr) ∧ g1 ≠ g2 ∧ Below w3.heap.size w3 w4 := by
              rcases hsn with ⟨_, _, h⟩ | ⟨h, _⟩
              · exact h
              · exact absurd hts h
            have HO1 := Lib.hid o1
            have HO2 := Lib.hid o2
            have HNE := Lib.hid hne
            have HBI4 := Lib.hid (below_up HBI3.out hb)
            have HBW4 := Lib.hid (below_up HBW3.out hb)
            have hz3 := HBW3.out.size
            have HTB := Lib.hid (tells_best HV.out hnr3 HAR.out (by rw [hts.1]; exact HAT.out) hts.2)
            have HRC := Lib.hid hts.1
            clear hsn o1 o2 hne hb hts HBI3 HBW3
            have HC := Lib.hid (AreBest_impl _ A1 A2 n c _ c1 _ c2 a _ _ w4 (HA.out.keep (Keep.below HBW4.out)) HO1.out.ints HO2.out.ints)
            by_cases hk : kerAt a R T
            · obtain ⟨e1, e2⟩ := HEQ.out hk
              rw [pb_true (HTB.out.2 (HKI.out.1 hk).2)] at HC
              have HEX : Hid (shr a.length (idx R a.length) (kX a (idx R a.length) (idx T (gr a 0).length) nr) nr = bx a ∧ shr (gr a 0).length (idx T (gr a 0).length) (kY a (idx R a.length) (idx T (gr a 0).length) nr) nr = by_ a) := Lib.hid (by
                have e : nr = bxk a := by rw [HNR.out, e1]; rfl
                rw [e, e1, e2]; exact ⟨rfl, rfl⟩)
              rw [HEX.out.1] at HO1
              rw [HEX.out.2] at HO2
              clear e1 e2 hk
              go_wp2_with fail
              refine HC.out.mono ?_
              rintro e w5 ⟨rfl, hb⟩
              have HB5 := Lib.hid (below_up HBW4.out hb)
              have HP1 := Lib.hid ((HO1.out.below hb).mono hz3 hb.size)
              have HP2 := Lib.hid ((HO2.out.below hb).mono hz3 hb.size)
              clear hb HC HO1 HO2
              go_wp2
              go_ret2
              exact .inl ⟨HV.out, A1, c1, g1, A2, c2, g2, rfl, HP1.out, HP2.out, HNE.out, HB5.out⟩
            · have HT2 := Lib.hid (HNX.out hk)
              rw [pb_false (fun h => hk (HKI.out.2 ⟨HRC.out, HTB.out.1 h⟩))] at HC
              clear hk
              go_wp2_with fail
              refine HC.out.mono ?_
              rintro e w5 ⟨rfl, hb⟩
              have HBI5 := Lib.hid (below_up HBI4.out hb)
              clear hb HC HO1 HO2
              go_wp2
              go_roundw
              case rel => exact ⟨T + 1, by omega, by omega, by go_num, HT2, HBI5⟩
              case measure => simp [intOf]; omega
          · obtain ⟨rfl, hb⟩ : e = .returned (.tuple #[.slice none 0 0, .slice none 0 0]) ∧ Below w3.heap.size w3 w4 := by
              rcases hsn with ⟨h1, h2, _⟩ | ⟨_, h⟩
              · exact absurd ⟨h1, h2⟩ hts
              · exact h
            have HBI4 := Lib.hid (below_up HBI3.out hb)
            have HBW4 := Lib.hid (below_up HBW3.out hb)
            have HT2 := Lib.hid (HNX.out (fun h => hts ⟨(HKI.out.1 h).1, (HKI.out.1 h).2.det, (HKI.out.1 h).2.cx, (HKI.out.1 h).2.cy⟩))
            have HC := Lib.hid (AreBest_impl _ none none n c 0 0 0 0 a [] [] w4 (HA.out.keep (Keep.below HBW4.out)) (OwnI.nil 0 0 w4 0).ints (OwnI.nil 0 0 w4 0).ints)
            rw [pb_false (p := BestP a [] []) (fun h => by have := h.ok.x.1; have := HV.out.n1; simp at *; omega)] at HC
            clear hsn hb hts HBI3 HBW3
            go_wp2_with fail
            refine HC.out.mono ?_
            rintro e w5 ⟨rfl, hb⟩
            have HBI5 := Lib.hid (below_up HBI4.out hb)
            clear hb HC
            go_wp2
            go_roundw
            case rel => exact ⟨T + 1, by omega, by omega, by go_num, HT2, HBI5⟩
            case measure => simp [intOf]; omega
        · obtain rfl : T = Q := by omega
          have hRS : R < vS a := by
            by_cases e : R = vS a
            · have := HRT.out e; omega
            · omega
          go_wp2
          go_roundw
          case rel => exact ⟨R + 1, by omega, by omega, by go_num, HBW⟩
          case measure => simp [intOf]; omega
  · have HV := Lib.hid hv
    have HC := Lib.hid (pb_false hv ▸ ValidTable_impl _ _ _ _ w HA.out)
    clear ha hv
    go_enter Try.func26, Try.ntmps26
    go_wp2_with fail
    refine HC.out.mono ?_
    rintro e w1 ⟨rfl, hq⟩
    have HB1 := Lib.hid (show Below w.heap.size w w1 from hq.below)
    clear hq HC
    go_wp2
    go_ret2
    exact .inr ⟨HV.out, rfl, HB1.out⟩
end Go.Proofs.Ytfcienghlbnjbaa

/- The value and the best shares, by both programs. -/
namespace Go.Proofs.Ytfcienghlbnjbaa
open Go.RowKit

/-- The value; 0 over 0 of what is no table. -/
noncomputable def vF (a : List (List Int)) : Int × Int := if pb (VT a) = true then wlast a (bx a) else (0, 0)
theorem vF_yes {a} (h : VT a) : vF a = wlast a (bx a) := by rw [vF, if_pos (pb_true h)]
theorem vF_no {a} (h : ¬ VT a) : vF a = (0, 0) := by rw [vF, if_neg (by rw [pb_false h]; decide)]
theorem bx_VS {a} (v : VT a) : VS (bx a) a.length := (best_is v).ok.x
theorem by_VS {a} (v : VT a) : VS (by_ a) (gr a 0).length := (best_is v).ok.y
/-- Best shares by the model: what they read as. -/
def NewBSs (w : World) (a : List (List Int)) (e : Ending) (w' : World) : Prop :=
  ∃ A1 n1 c1 A2 n2 c2, e = .returned (.tuple #[.slice A1 n1 c1, .slice A2 n2 c2]) ∧ Ints w' A1 n1 c1 (if pb (VT a) = true then bx a else []) ∧ Ints w' A2 n2 c2 (if pb (VT a) = true then by_ a else []) ∧ Below w.heap.size w w'

set_option maxRecDepth 100000 in
set_option maxHeartbeats 3200000 in
theorem ValueOf_impl (A : Option Addr) (n c : Nat) (a : List (List Int)) (w : World) (ha : IntRows w A n c a) :
    Calls Try.prog 25 #[.slice A n c] w (Ret (.tuple #[wstV (vF a), .bool (pb (VT a))]) w) := by
  have HA := Lib.hid ha
  have HPF := Lib.hid (PF.start w)
  clear ha
  have HC := Lib.hid (BestShares_impl A n c a _ (HA.out.keep HPF.out.keep))
  go_enter Try.func25, Try.ntmps25
  go_wp2_with fail
  refine HC.out.mono ?_
  rintro e w1 hbs
  have hx : ∃ A1 n1 c1 xs v2, e = .returned (.tuple #[.slice A1 n1 c1, v2]) ∧ Ints w1 A1 n1 c1 xs ∧ worF a xs = vF a ∧ pb (WOk a xs) = pb (VT a) ∧ Below (w.alloc (.cells #[.int .i64 0, .int .i64 0] 31)).heap.size (w.alloc (.cells #[.int .i64 0, .int .i64 0] 31)) w1 := by
    rcases hbs with ⟨hv, A1, c1, g1, A2, c2, g2, rfl, o1, _, _, hb⟩ | ⟨hv, rfl, hb⟩
    · exact ⟨A1, _, c1, bx a, _, rfl, o1.ints, by rw [vF_yes hv, worF_yes ⟨hv, bx_VS hv⟩], pb_congr ⟨fun h => h.v, fun h => ⟨h, bx_VS h⟩⟩, hb⟩
    · exact ⟨none, 0, 0, [], _, rfl, (OwnI.nil 0 0 w1 0).ints, by rw [vF_no hv, worF_no fun h => hv h.v], pb_congr ⟨fun h => h.v, fun h => absurd h hv⟩, hb⟩
  obtain ⟨A1, n1, c1, xs, v2, rfl, hi, hwv, hwo, hb⟩ := hx
  have HI := Lib.hid hi
  have HPF1 := Lib.hid (HPF.out.up hb)
  have HWV := Lib.hid hwv
  have HWO := Lib.hid hwo
  clear hbs hi hwv hwo hb HC HPF
  have HC := Lib.hid (WorstOf_impl A A1 n c n1 c1 a xs w1 (HA.out.keep HPF1.out.keep) HI.out)
  rw [HWV.out, HWO.out] at HC
  have HFV : Hid (wstV (vF a) = .agg #[.int .i64 (vF a).1, .int .i64 (vF a).2]) := Lib.hid rfl
  rw [HFV.out] at HC
  clear HWV
  generalize (vF a).1 = U at *
  generalize (vF a).2 = D at *
  generalize pb (VT a) = K at *
  go_wp2_with fail
  refine HC.out.mono ?_
  rintro e w2 ⟨rfl, hb⟩
  have HPF := Lib.hid (HPF1.out.up hb)
  clear hb HC HPF1
  have c0 := blk_cell HPF.out.box (i := 0) rfl
  have c1 := blk_cell HPF.out.box (i := 1) rfl
  have f0 := blk_frozen HPF.out.box 0
  have f1 := blk_frozen HPF.out.box 1
  go_wp2
  clear c0 c1 f0 f1
  have B1 := blk_set (blk_set HPF.out.box 0 (.int .i64 U)) 1 (.int .i64 D)
  have r0 := blk_cell B1 (i := 0) (v := .int .i64 U) rfl
  have r1 := blk_cell B1 (i := 1) (v := .int .i64 D) rfl
  have HBX := Lib.hid ((HPF.out.below.setCell (p := ⟨w.heap.size, 0, none⟩) (Nat.le_refl _) (.int .i64 U)).setCell (p := ⟨w.heap.size, 1, none⟩) (Nat.le_refl _) (.int .i64 D))
  clear B1 HPF
  generalize (w2.setCell ⟨w.heap.size, 0, none⟩ (.int .i64 U)).setCell ⟨w.heap.size, 1, none⟩ (.int .i64 D) = WE at *
  refine bodyPost_ret (v := .tuple #[.agg #[.int .i64 U, .int .i64 D], .bool K]) (by simp [results, Try.results25, go_sem, r0, r1]) rfl ?_
  exact ⟨by rw [HFV.out], HBX.out⟩

end Go.Proofs.Ytfcienghlbnjbaa

/- The value from both sides. Plain. -/
namespace Go.Proofs.Ytfcienghlbnjbaa

theorem ntab_row {a : List (List Int)} (v : VT a) {j : Nat} (hj : j < (gr a 0).length) : (gr (ntab a) j).length = a.length := by
  have h := VT.len v.ntab (i := j) (by rw [ntab_len]; exact hj)
  rw [h, v.ntab_m]
/-- Turned and with the other signs twice it is the table. -/
theorem ntab_ntab {a : List (List Int)} (v : VT a) : ntab (ntab a) = a := by
  have vn := v.ntab
  have l1 : (ntab (ntab a)).length = a.length := by rw [ntab_len, v.ntab_m]
  refine gr_ext l1 fun i hi => ?_
  rw [l1] at hi
  have hi' : i < (gr (ntab a) 0).length := by rw [v.ntab_m]; exact hi
  have r1 := ntab_row vn hi'
  rw [ntab_len] at r1
  have r2 := VT.len v hi
  refine gi_ext (by omega) fun j hj => ?_
  have hj' : j < (gr a 0).length := by omega
  have e1 := vn.ntab_neg j i (by rw [ntab_len]; exact hj') hi'
  have e2 := v.ntab_neg i j hi hj'
  unfold g2 at e1 e2
  omega
theorem duo_of {a : List (List Int)} {x y : List Int} (v : VT a) (hx : VS x a.length) (hy : VS y (gr a 0).length) : Duo a (ntab a) x y a.length (gr a 0).length :=
  ⟨v.n1, v.m1, v.ntab_neg, by have := hx.1; omega, by have := hy.1; omega, fun i hi => (hx.2.1 i (by have := hx.1; omega)).1, fun j hj => (hy.2.1 j (by have := hy.1; omega)).1, hx.2.2, hy.2.2⟩
theorem wlast_n (a : List (List Int)) (x : List Int) : wlast a x = wst a x a.length (gr a 0).length ((gr a 0).length - 1) := rfl
theorem wlast_t {a : List (List Int)} (v : VT a) (y : List Int) : wlast (ntab a) y = wst (ntab a) y (gr a 0).length a.length (a.length - 1) := wlast_def _ _ _ _ (ntab_len a) v.ntab_m
/-- Less or the same, of fractions. -/
def leF (p q : Int × Int) : Prop := p.1 * q.2 ≤ q.1 * p.2
theorem weak_of {a : List (List Int)} {x y : List Int} (v : VT a) (hx : VS x a.length) (hy : VS y (gr a 0).length) : leF (wlast a x) (-(wlast (ntab a) y).1, (wlast (ntab a) y).2) := by
  rw [wlast_n, wlast_t v]; exact (duo_of v hx hy).weak
/-- No shares make more sure than the value. -/
theorem le_value {a : List (List Int)} {x : List Int} (v : VT a) (hx : VS x a.length) : leF (wlast a x) (vF a) := by
  rw [vF_yes v, (best_is v).eq]; exact weak_of v hx (by_VS v)
/-- .. and no shares of columns let less through. -/
theorem value_le {a : List (List Int)} {y : List Int} (v : VT a) (hy : VS y (gr a 0).length) : leF (vF a) (-(wlast (ntab a) y).1, (wlast (ntab a) y).2) := by
  rw [vF_yes v]; exact weak_of v (bx_VS v) hy
theorem best_same {a : List (List Int)} {x y : List Int} (v : VT a) (h : BestP a x y) : wlast a x = vF a := by
  rw [vF_yes v]
  have e1 := h.eq
  have e2 := (best_is v).eq
  rw [wlast_n, wlast_t v] at e1 e2
  exact (duo_of v h.ok.x h.ok.y).same e1 (duo_of v (bx_VS v) (by_VS v)) e2
/-- The other player's value is it with the other sign. -/
theorem vF_ntab {a : List (List Int)} (v : VT a) : vF (ntab a) = (-(vF a).1, (vF a).2) := by
  have B := best_is v.ntab
  have e := B.eq
  rw [ntab_ntab v] at e
  have hx := B.ok.x
  have hy := B.ok.y
  rw [ntab_len] at hx
  rw [v.ntab_m] at hy
  have B2 : BestP a (by_ (ntab a)) (bx (ntab a)) := ⟨⟨v, hy, hx⟩, by rw [e]; simp⟩
  rw [vF_yes v.ntab, e, best_same v B2]
theorem vF_bd {a : List (List Int)} (v : VT a) : (-81000000 ≤ (vF a).1 ∧ (vF a).1 ≤ 81000000) ∧ 1 ≤ (vF a).2 ∧ (vF a).2 ≤ 3000 := by rw [vF_yes v]; exact wlast_bd v (bx_VS v)
/-- Shares that make the value sure, against shares that let no more through, are best; and so is no other pair. -/
theorem best_iff {a : List (List Int)} {x y : List Int} (v : VT a) (hx : VS x a.length) (hy : VS y (gr a 0).length) : BestP a x y ↔ wlast a x = vF a ∧ wlast (ntab a) y = (-(vF a).1, (vF a).2) := by
  constructor
  · intro h
    have e := best_same v h
    refine ⟨e, ?_⟩
    have := h.eq
    rw [e] at this
    rw [this]; simp
  · rintro ⟨h1, h2⟩
    exact ⟨⟨v, hx, hy⟩, by rw [h1, h2]; simp⟩
end Go.Proofs.Ytfcienghlbnjbaa

/- Two words that the laws of values share. -/
namespace Go.Proofs.Ytfcienghlbnjbaa
theorem wstV_eq (p : Int × Int) {U D : Int} (h : p = (U, D)) : wstV p = .agg #[.int .i64 U, .int .i64 D] := by rw [h]; rfl
theorem small_ntab {a : List (List Int)} (v : VT a) : Small (flip a a.length (gr a 0).length) := v.small.flip v.even v.n1
end Go.Proofs.Ytfcienghlbnjbaa

/- A table less it turned has the value 0. Plain. -/
namespace Go.Proofs.Ytfcienghlbnjbaa
open Go.RowKit

theorem wst_min' (a : List (List Int)) (x : List Int) (n m : Nat) (tx : 0 < tot x) : ∃ C, wst a x n m (m - 1) = (frU C (tot x), frD C (tot x)) := by
  obtain ⟨j, hj, e, hl⟩ := wst_least a x n m tx (m - 1)
  exact ⟨_, e⟩
theorem NewBS.one {w w' : World} {a : List (List Int)} {e : Ending} (h : NewBS w a e w') (v : VT a) : ∃ A1 c1 A2 c2, e = .returned (.tuple #[.slice A1 a.length c1, .slice A2 (gr a 0).length c2]) ∧ Ints w' A1 a.length c1 (bx a) ∧ Below w.heap.size w w' := by
  rcases h with ⟨_, A1, c1, g1, A2, c2, g2, rfl, o1, o2, _, hb⟩ | ⟨h, _⟩
  · exact ⟨A1, c1, A2, c2, rfl, o1.ints, hb⟩
  · exact absurd v h
/-- The first j numbers of row i of a table less it turned; the first i rows. -/
def farR (a : List (List Int)) (i j : Nat) : List Int := (List.range j).map fun q => g2 a i q - g2 a q i
def farL (a : List (List Int)) (n i : Nat) : List (List Int) := (List.range i).map fun p => farR a p n
theorem farR_succ (a : List (List Int)) (i j : Nat) : farR a i (j + 1) = farR a i j ++ [g2 a i j - g2 a j i] := by simp [farR, List.range_succ]
theorem farL_succ (a : List (List Int)) (n i : Nat) : farL a n (i + 1) = farL a n i ++ [farR a i n] := by simp [farL, List.range_succ]
theorem farR_len (a : List (List Int)) (i j : Nat) : (farR a i j).length = j := by simp [farR]
theorem farL_len (a : List (List Int)) (n i : Nat) : (farL a n i).length = i := by simp [farL]
theorem gr_farL {a : List (List Int)} {n i p : Nat} (h : p < i) : gr (farL a n i) p = farR a p n := by
  rw [gr_get (by rw [farL_len]; exact h)]; simp [farL]
theorem g2_farL {a : List (List Int)} {n i p q : Nat} (h : p < i) (hq : q < n) : g2 (farL a n i) p q = g2 a p q - g2 a q p := by
  unfold g2
  rw [gr_farL h, gi_get (by rw [farR_len]; exact hq)]
  simp [farR, g2]
theorem far_ntab {a : List (List Int)} {n : Nat} (h0 : 0 < n) (v : VT (farL a n n)) : ntab (farL a n n) = farL a n n := by
  have hl := farL_len a n n
  have hm : (gr (farL a n n) 0).length = n := by rw [gr_farL h0, farR_len]
  refine gr_ext (by rw [ntab_len, hm, hl]) fun i hi => ?_
  have hi' : i < n := by rw [ntab_len, hm] at hi; exact hi
  have r1 := ntab_row v (j := i) (by rw [hm]; exact hi')
  refine gi_ext (by rw [r1, hl, gr_farL hi', farR_len]) fun j hj => ?_
  rw [r1, hl] at hj
  have e := v.ntab_neg j i (by rw [hl]; exact hj) (by rw [hm]; exact hi')
  have e1 := g2_farL (a := a) (n := n) (i := n) (p := j) (q := i) hj hi'
  have e2 := g2_farL (a := a) (n := n) (i := n) (p := i) (q := j) hi' hj
  unfold g2 at e e1 e2
  omega
/-- Its value is 0, and the best shares of the rows are best for the columns, too. -/
theorem far_value {a : List (List Int)} {n : Nat} (h0 : 0 < n) (v : VT (farL a n n)) : vF (farL a n n) = (0, 1) ∧ BestP (farL a n n) (bx (farL a n n)) (bx (farL a n n)) := by
  have hs := far_ntab h0 v
  have hl := farL_len a n n
  have hm : (gr (farL a n n) 0).length = n := by rw [gr_farL h0, farR_len]
  have e := vF_ntab v
  rw [hs] at e
  have h1 : (vF (farL a n n)).1 = 0 := by have := congrArg Prod.fst e; simp only at this; omega
  have hx := bx_VS v
  obtain ⟨C, hC⟩ := wst_min' (farL a n n) (bx (farL a n n)) (farL a n n).length (gr (farL a n n) 0).length hx.2.2
  have hv := vF_yes v
  rw [wlast_n, hC] at hv
  have hfu : frU C (tot (bx (farL a n n))) = 0 := by rw [hv] at h1; exact h1
  have k1 := frU_mul C (tot (bx (farL a n n)))
  rw [hfu, Int.zero_mul] at k1
  have hz := fr_eq (u := C) (d := tot (bx (farL a n n))) (v := 0) (e := 1) hx.2.2 (by omega) (by omega)
  rw [(fr_one 0).1, (fr_one 0).2] at hz
  have hval : vF (farL a n n) = (0, 1) := by rw [hv, hz.1, hz.2]
  refine ⟨hval, (best_iff v hx (by have h := hx; rw [hl] at h; rw [hm]; exact h)).2 ⟨(vF_yes v).symm, ?_⟩⟩
  rw [hs, ← vF_yes v, hval]; rfl
end Go.Proofs.Ytfcienghlbnjbaa

