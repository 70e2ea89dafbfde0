/- Texts merged: LiftB LiftC Enter Math24 G9 D4 Math25. -/
import Derived.Test.YtfcienghlbnjbaaQ9
import Derived.ChangeSlices
/- An argument of bytes, opened. -/
namespace Go.Proofs.Ytfcienghlbnjbaa
open Go.ChangeShapes Go.WideShapes Go.ChangeAt Go.RowKit Go.Deep

theorem Try.cells_u8 : Try.prog.cellsOf 5 = 1 := by kernel_rfl
theorem Try.bytes_u8 : Try.prog.bytesOf 5 = 1 := by kernel_rfl
set_option maxRecDepth 100000 in
theorem open_bytes {H : Type} {enc : TypeId × Value → H} {W : World} {v : Value} {d : DataW H} {p : List MemPlace} {b0 : Nat} (hval : Value.okWide Try.prog W .any b0 22 v)
    (h : DataW.Trod enc Try.prog W 0 (fun _ => true) true 22 v d p) (hw : ∀ n ∈ d.weights Try.prog 22, n ≤ reachBytes) :
    ∃ A n c, v = .slice A n c ∧ Bytes W A n c := by
  obtain ⟨a1, len, cap, rfl⟩ := okWide_slice Try.underlying22 hval
  obtain ⟨fuel, hf⟩ := h
  rcases open_ints Try.underlying22 Try.underlying5 Try.cells_u8 hf with ⟨hcs, hx⟩ | ⟨a, len', cap', zs, hcs, _, hl, hm, hz, hx, hcell, hwz⟩
  · simp [Value.cells] at hcs
    obtain ⟨rfl, rfl, rfl⟩ := hcs
    exact ⟨none, 0, 0, rfl, Nat.le_refl _, by omega, fun h => absurd h (by omega)⟩
  · simp [Value.cells] at hcs
    obtain ⟨rfl, rfl, rfl⟩ := hcs
    simp only [Prod.mk.injEq] at hx
    obtain ⟨rfl, rfl⟩ := hx
    simp only [if_true] at hz
    have h1 := hw _ (weights_slice Try.underlying22 (.inl rfl))
    simp only [lits, List.length_map, List.length_take, List.length_drop, Try.bytes_u8, reachBytes] at h1
    refine ⟨some a, len, cap, rfl, hl, by omega, fun hn => ?_⟩
    have hspot : a.spot = none := by simpa [Addr.add] using World.cell?_spot (hcell 0 (by omega))
    obtain ⟨b, o, sp⟩ := a
    simp only at hspot
    subst hspot
    refine ⟨b, o, rfl, fun k hk => ⟨zs.getD k 0, ?_, ?_, by rw [← add_plain]; exact hcell k (by omega)⟩⟩
    · rw [List.getD_eq_getElem?_getD]; have := hwz (zs.getD k 0) (by rw [List.getD_eq_getElem?_getD, List.getElem?_eq_getElem (show k < zs.length by omega)]; simp)
      simp [Lit.wf, IntKind.min, IntKind.max, IntKind.signed, IntKind.bits] at this
      omega
    · rw [List.getD_eq_getElem?_getD]; have := hwz (zs.getD k 0) (by rw [List.getD_eq_getElem?_getD, List.getElem?_eq_getElem (show k < zs.length by omega)]; simp)
      simp [Lit.wf, IntKind.min, IntKind.max, IntKind.signed, IntKind.bits] at this
      omega
end Go.Proofs.Ytfcienghlbnjbaa

/- Arguments that are a slice of ints, or an int, opened. -/
namespace Go.Proofs.Ytfcienghlbnjbaa
open Go.ChangeShapes Go.WideShapes Go.ChangeAt Go.RowKit Go.Deep

set_option maxRecDepth 100000 in
theorem open_intS {H : Type} {enc : TypeId × Value → H} {W : World} {v : Value} {d : DataW H} {p : List MemPlace} {b0 : Nat} (hval : Value.okWide Try.prog W .any b0 24 v)
    (h : DataW.Trod enc Try.prog W 0 (fun _ => true) true 24 v d p) (hw : ∀ n ∈ d.weights Try.prog 24, n ≤ reachBytes) :
    ∃ A n c xs, v = .slice A n c ∧ Ints W A n c xs := by
  obtain ⟨a1, len, cap, rfl⟩ := okWide_slice Try.underlying24 hval
  obtain ⟨fuel, hf⟩ := h
  rcases open_ints Try.underlying24 Try.underlying3 Try.cells3 hf with ⟨hcs, hx⟩ | ⟨a, len', cap', zs, hcs, _, hl, hm, hz, hx, hcell, hwz⟩
  · simp [Value.cells] at hcs
    obtain ⟨rfl, rfl, rfl⟩ := hcs
    exact ⟨none, 0, 0, [], rfl, rfl, Nat.le_refl _, by omega, fun _ h => by simp at h, fun h => absurd h (by omega)⟩
  · simp [Value.cells] at hcs
    obtain ⟨rfl, rfl, rfl⟩ := hcs
    simp only [Prod.mk.injEq] at hx
    obtain ⟨rfl, rfl⟩ := hx
    simp only [if_true] at hz
    have h1 := hw _ (weights_slice Try.underlying24 (.inl rfl))
    simp only [lits, List.length_map, List.length_take, List.length_drop, Try.bytes3, reachBytes] at h1
    have hlen : (zs.take len).length = len := by rw [List.length_take]; omega
    refine ⟨some a, len, cap, zs.take len, rfl, hlen, hl, by omega, fun x hx => ?_, fun hn => ?_⟩
    · have := hwz x (List.mem_of_mem_take hx)
      simp [Lit.wf, IntKind.min, IntKind.max, IntKind.signed, IntKind.bits] at this
      omega
    have hspot : a.spot = none := by simpa [Addr.add] using World.cell?_spot (hcell 0 (by omega))
    obtain ⟨b, o, sp⟩ := a
    simp only at hspot
    subst hspot
    refine ⟨b, o, rfl, fun k hk => ?_⟩
    rw [← add_plain, hcell k (by omega)]
    congr 2
    rw [gi_get (by rw [hlen]; exact hk), List.getElem_take]
    simp [List.getD, show k < zs.length by omega]

set_option maxRecDepth 100000 in
theorem open_num {H : Type} {enc : TypeId × Value → H} {W : World} {v : Value} {d : DataW H} {p : List MemPlace} {b0 : Nat} (hval : Value.okWide Try.prog W .any b0 3 v)
    (h : DataW.Trod enc Try.prog W 0 (fun _ => true) true 3 v d p) : ∃ x, v = .int .i64 x ∧ Fit x := by
  obtain ⟨x, rfl, _, _, hw⟩ := open_int Try.underlying3 hval h
  refine ⟨x, rfl, ?_⟩
  simp [Lit.wf, IntKind.min, IntKind.max, IntKind.signed, IntKind.bits] at hw
  unfold Fit
  omega
end Go.Proofs.Ytfcienghlbnjbaa

/- The program may be entered: facts of its head, once for all laws. -/
namespace Go.Proofs.Ytfcienghlbnjbaa

theorem prog_enters : Try.pinned.checked.prog.mayEnter = true := by kernel_rfl
theorem prog_lifts0 : (false == Try.pinned.checked.prog.liftsFinal) = true := by kernel_rfl
theorem prog_make0 : (Try.pinned.checked.prog.make == some .cut) = true := by kernel_rfl
theorem prog_lifts {b : Bool} (h : b = false) : (b == Try.pinned.checked.prog.liftsFinal) = true := by subst h; exact prog_lifts0
theorem prog_make {m : Make} (h : m = .cut) : (Try.pinned.checked.prog.make == some m) = true := by subst h; exact prog_make0
end Go.Proofs.Ytfcienghlbnjbaa

/- One strategy alone rests just if it twice is a pure rest of two who play the table. Plain. -/
namespace Go.Proofs.Ytfcienghlbnjbaa

theorem rest_le {a : List (List Int)} (v : VQ a) {i : Nat} (hi : i < a.length) : RQ a (onl a.length i) ↔ ∀ k, k < a.length → g2 a k i ≤ g2 a i i := by
  constructor
  · intro h k hk
    have := h.r i hi (by rw [gi_onl hi, if_pos rfl]; omega) k hk
    rwa [dotr_alone a _ k i hi, dotr_alone a _ i i hi] at this
  · intro h
    refine ⟨v, onl_VS hi, fun j hj hp k hk => ?_⟩
    rw [gi_onl hj] at hp
    have e : j = i := by
      by_cases e : j = i
      · exact e
      · rw [if_neg e] at hp; omega
    subst e
    rw [dotr_alone a _ k j hj, dotr_alone a _ j j hj]
    exact h k hk
theorem pair_le {a : List (List Int)} (v : VQ a) {i : Nat} (hi : i < a.length) : [(i : Int), (i : Int)] ∈ pureR a (flip a a.length a.length) ↔ ∀ k, k < a.length → g2 a k i ≤ g2 a i i := by
  have hf := v.flip rfl
  have hm := v.m rfl
  have hg : VG a (flip a a.length a.length) := ⟨v.1, hf.1, by rw [flip_len], by rw [hm, gr_flip (by omega)]; simp⟩
  unfold pureR
  rw [if_pos (pb_true hg), allRests_mem]
  constructor
  · rintro ⟨k, l, hk, hl, e, h⟩
    simp only [List.cons.injEq, and_true] at e
    have e1 : k = i := by omega
    have e2 : l = i := by omega
    subst e1; subst e2
    exact h.1
  · intro h
    refine ⟨i, i, hi, by omega, rfl, h, fun k hk => ?_⟩
    rw [hm] at hk
    rw [g2_flipT hi hk, g2_flipT hi hi]
    exact h k hk
theorem rest_pair {a : List (List Int)} (v : VQ a) {n i : Nat} (hl : a.length = n) (hi : i < n) : RQ a (onl n i) ↔ [(i : Int), (i : Int)] ∈ pureR a (flip a n n) := by
  subst hl
  exact (rest_le v hi).trans (pair_le v hi).symm
theorem pureR_le (a b : List (List Int)) : (pureR a b).length ≤ 9 := by
  by_cases v : VG a b
  · have h1 := allRests_len a b a.length (gr a 0).length v.ta.m3 a.length
    have h2 := v.ta.n3
    unfold pureR; rw [if_pos (pb_true v)]; omega
  · unfold pureR; rw [if_neg (by rw [pb_false v]; decide)]; simp
end Go.Proofs.Ytfcienghlbnjbaa

/- Squares and shares drawn, now and then shares that rest. -/
namespace Go.Proofs.Ytfcienghlbnjbaa
open Go.RowKit

set_option maxRecDepth 100000 in
set_option maxHeartbeats 2000000 in
theorem DrawIsRest_any (A : Option Addr) (n c : Nat) (w : World) (h : Bytes w A n c) :
    Calls Try.prog 7 #[.slice A n c] w (DrawnTS w) := by
  have H0 := Lib.hid (newReader_any A n c w h)
  clear h
  go_enter Try.func7, Try.ntmps7
  go_wp2_with fail
  refine H0.out.mono ?_
  rintro e w1 ⟨A1, l, c1, rfl, hl, hr, hs⟩
  have H1 := Lib.hid (someSquare_any w w1 w.heap.size A1 l c1 0 hr (by omega))
  clear hr hl H0
  go_wp2_with fail
  refine H1.out.mono ?_
  rintro e w2 ⟨wb, v', vs', xss', p', rfl, hsm, hto, hp, hg⟩
  have hsz := hg.size
  obtain ⟨Av, nv, cv, gg, rfl, hnv, hown⟩ := hto.bo.owns (by have := hsm.n; omega)
  have HO := Lib.hid (hown.mono (show w.heap.size + 1 ≤ wb.heap.size by have := hto.gl; omega) (Nat.le_refl _))
  have HRD := Lib.hid hto.rd
  have HS := Lib.hid hsm
  have hn8 : nv ≤ 8 := by rw [hnv]; exact hsm.n
  clear hsm hto hown hg H1 hnv
  have HC := Lib.hid (sharesOf_any w w2 w.heap.size A1 l c1 p' nv HRD.out (by omega) hn8)
  go_wp2_with fail
  refine HC.out.mono ?_
  rintro e w4 ⟨Bv, cb, ys, p2, rfl, hyl, hyb, hsh, hp2⟩
  obtain ⟨A', n', c', g', e, -, ho, -⟩ := hsh.bi.owns (by omega) (fun x hx => by have := hyb x hx; omega)
  injection e with e1 e2 e3
  subst e1
  subst e2
  subst e3
  have HI := Lib.hid (ho.mono (show w.heap.size + 1 ≤ w2.heap.size by have := blk_lt HRD.out.box; omega) (Nat.le_refl _))
  have HR4 := Lib.hid hsh.rd
  have HO4 := Lib.hid ((HO.out.grown hsh.up (by omega)).mono (Nat.le_refl _) hsh.up.size)
  clear hsh ho HC hyb HO HRD
  have HC := Lib.hid (pick_any w w4 w.heap.size A1 l c1 p2 2 HR4.out (by omega))
  go_wp2_with fail
  refine HC.out.mono ?_
  rintro e w6 hpk
  obtain ⟨m, rfl, hm, hrd, hgr⟩ := hpk.one
  have HR6 := Lib.hid hrd
  have HO6 := Lib.hid ((HO4.out.grown hgr (by omega)).mono (Nat.le_refl _) hgr.size)
  have HI6 := Lib.hid (HI.out.grown hgr (by omega))
  clear hpk hrd hgr HC HR4 HO4 HI hm
  by_cases h0 : m = 0
  · have hz : (m == 0) = true := by simpa using h0
    clear h0
    by_cases hv : VQ xss'
    · have HC := Lib.hid (pb_true hv ▸ validSquare_any _ _ _ _ w6 HO6.out.rows)
      clear hv
      go_wp2_with fail
      refine HC.out.mono ?_
      rintro e w7 ⟨rfl, hq⟩
      have HO7 := Lib.hid (HO6.out.quiet hq)
      have HI7 := Lib.hid (HI6.out.below (hq.below (B := w6.heap.size)))
      have HR7 := Lib.hid (HR6.out.quiet hq)
      have hz7 : w6.heap.size ≤ w7.heap.size := (hq.below (B := 0)).size
      have hg7 : w.heap.size + 1 ≤ w7.heap.size := by have := blk_lt HR7.out.box; omega
      clear hq HC HO6 HI6 HR6 hz
      have HC := Lib.hid (RestsOn_spec _ _ _ xss' w7 HO7.out.rows)
      go_wp2_with fail
      refine HC.out.mono ?_
      rintro e w8 ⟨A8, n8, c8, g8, rfl, rfl, ho, hb⟩
      have HL8 := Lib.hid (ho.mono hg7 (Nat.le_refl _))
      have HR8 := Lib.hid (HR7.out.below_ hb)
      have HO8 := Lib.hid ((HO7.out.mono (Nat.le_refl _) hz7 |>.below hb).mono (Nat.le_refl _) hb.size)
      have HI8 := Lib.hid (HI7.out.below hb)
      have hrl := resF_len xss'
      clear ho hb HC HO7 HI7 HR7
      by_cases hl0 : (resF xss').length = 0
      · have hl0' : ¬ (0 : Int) < ((resF xss').length : Int) := by omega
        have HL0 := Lib.hid hl0
        clear hl0
        go_wp2
        go_ret2
        exact ⟨Av, nv, cv, gg, xss', Bv, _, cb, ys, rfl, HS.out, HO8.out.mono (Nat.le_succ _) (Nat.le_refl _), HI8.out.ints, HR8.out.below⟩
      · have hl0' : (0 : Int) < ((resF xss').length : Int) := by omega
        have HRL := Lib.hid (fun q (hq : q < (resF xss').length) => (resF_rest (gr_mem hq)).2)
        generalize resF xss' = rs at *
        have HC := Lib.hid (pick_any w w8 w.heap.size A1 l c1 _ (rs.length : Int) HR8.out (by omega))
        go_wp2_with fail
        refine HC.out.mono ?_
        rintro e w9 hpk
        obtain ⟨m2, rfl, hm, hrd, hgr⟩ := hpk.one
        have hm := hm (by omega)
        obtain ⟨q, rfl⟩ : ∃ q : Nat, m2 = (q : Int) := ⟨m2.toNat, by omega⟩
        have HB9 := Lib.hid hrd.below
        have HO9 := Lib.hid ((HO8.out.grown hgr (by omega)).mono (Nat.le_succ _) hgr.size)
        have HL9 := Lib.hid (HL8.out.grown hgr (by omega))
        have hqn : q < rs.length := by omega
        obtain ⟨rb', ro', rfl, hc⟩ := HL9.out.rows.at_ (by omega)
        obtain ⟨R, cR, c1', hR⟩ := hc q hqn
        have HRI := Lib.hid hR
        obtain ⟨hm1, hm2⟩ := hm
        clear hpk hrd hgr HC hc hR HO8 HI8 HR8 HL8 hl0
        go_wp2
        go_ret2
        exact ⟨Av, nv, cv, gg, xss', R, _, cR, gr rs q, rfl, HS.out, HO9.out, HRI.out, HB9.out⟩
    · have HC := Lib.hid (pb_false hv ▸ validSquare_any _ _ _ _ w6 HO6.out.rows)
      clear hv
      go_wp2_with fail
      refine HC.out.mono ?_
      rintro e w7 ⟨rfl, hq⟩
      have HO7 := Lib.hid ((HO6.out.quiet hq).mono (Nat.le_succ _) (hq.below (B := 0)).size)
      have HI7 := Lib.hid (HI6.out.below (hq.below (B := w6.heap.size)))
      have HB7 := Lib.hid (below_quiet HR6.out.below hq)
      clear hq HC HO6 HI6 HR6 hz
      go_wp2
      go_ret2
      exact ⟨Av, nv, cv, gg, xss', Bv, _, cb, ys, rfl, HS.out, HO7.out, HI7.out.ints, HB7.out⟩
  · have hz : (m == 0) = false := by simpa using h0
    clear h0
    go_wp2
    go_ret2
    exact ⟨Av, nv, cv, gg, xss', Bv, _, cb, ys, rfl, HS.out, HO6.out.mono (Nat.le_succ _) (Nat.le_refl _), HI6.out.ints, HR6.out.below⟩

end Go.Proofs.Ytfcienghlbnjbaa

/- Pure rests, by the program. -/
namespace Go.Proofs.Ytfcienghlbnjbaa
open Go.RowKit

theorem Try.info32b : (Try.prog.info? 24).map (fun i => (i.zero, i.size, i.bytes)) = some (some (.slice none 0 0), 1, 24) := by kernel_rfl

/-- What the loops know: the game, the turned table, the rests so far. -/
structure PS (p : GP) (w : World) (N L : Nat) (wr : World) (v : Value) (vs : List Value) (xs ys rs : List (List Int)) : Prop where
  gt : GT p w wr w.heap.size xs ys
  tn : OwnR N L wr N (some ⟨N, 0, none⟩) p.m p.m (flip xs p.n p.m)
  bd : Bld L wr.heap.size wr v vs rs
  h1 : w.heap.size < N
  h2 : N < L
  h3 : L ≤ wr.heap.size
theorem PS.qu {p w N L wr wr' v vs xs ys rs} (h : PS p w N L wr v vs xs ys rs) (k : Quiet wr wr') : PS p w N L wr' v vs xs ys rs := by
  have kb : Below wr.heap.size wr wr' := k.below
  exact ⟨h.gt.up kb, h.tn.below kb, (h.bd.below kb).mono kb.size, h.h1, h.h2, Nat.le_trans h.h3 kb.size⟩

set_option maxHeartbeats 1000000 in
theorem PureRests_impl (A B : Option Addr) (n c m d : Nat) (xs ys : List (List Int)) (w : World) (hx : IntRows w A n c xs) (hy : IntRows w B m d ys) :
    Calls Try.prog 21 #[.agg #[.slice A n c, .slice B m d]] w (RetR (pureR xs ys) w) := by
  have hb0 := below_alloc w (.cells #[.slice A n c, .slice B m d] 43)
  have b0 := blk_new w 43 #[.slice A n c, .slice B m d]
  have HB := Lib.hid hb0
  have HK := Lib.hid b0
  have HX := Lib.hid (hx.keep (Keep.below hb0))
  have HY := Lib.hid (hy.keep (Keep.below hb0))
  have HX0 := Lib.hid hx
  have HY0 := Lib.hid hy
  clear hx hy hb0 b0
  go_enter Try.func21, Try.ntmps21
  go_wp2_with fail
  generalize w.alloc (.cells #[.slice A n c, .slice B m d] 43) = W1 at *
  have HC := Lib.hid (ValidGame_impl _ _ _ _ _ _ _ _ _ HX.out HY.out)
  by_cases hv : VG xs ys
  · refine ((pb_true hv) ▸ HC.out).mono ?_
    rintro e w1 ⟨rfl, hb⟩
    have hb2 := below_up HB.out hb
    have hk2 := blk_below HK.out hb
    obtain ⟨p, rfl, rfl, rfl, rfl, rfl, rfl, hg⟩ := GV.of HX0.out HY0.out hv
    have HT := Lib.hid (show GT p w w1 w.heap.size xs ys from ⟨hb2, hk2, hg⟩)
    have hn3 := hg.tx.n3
    have hm3 := hg.tx.m3
    have hn1 := hg.tx.n1
    have hm1 := hg.tx.m1
    have HP := Lib.hid (show pureR xs ys = allRests xs ys p.n p.m p.n by rw [pureR, if_pos (pb_true hv), hg.lx, hg.mx])
    have HLY := Lib.hid (show ∀ i, i < p.n → (gr ys i).length = p.m from fun i hi => (hg.ty.ints i hi).len)
    clear hb hv hb2 hk2 hg HX HY HX0 HY0 HB HK HC
    have k0 := HT.out.c0
    go_wp2_with fail
    refine (turned_any _ _ _ _ _ _ _ _ _ _ HT.out.gv.tx).mono ?_
    rintro e w2 ⟨rfl, ho, hb, hlt⟩
    have HS := Lib.hid (show PS p w w1.heap.size w2.heap.size w2 (.slice none 0 0) [] xs ys [] from ⟨HT.out.up hb, ho, Bld.nil _ _ _, blk_lt HT.out.box, hlt, Nat.le_refl _⟩)
    clear ho hb hlt HT k0
    generalize w1.heap.size = N at *
    generalize w2.heap.size = L at *
    have k1 := HS.out.gt.c1
    go_wp2
    clear k1
    go_loopw [4, 18] (fun v s wr => ∃ (i : Nat) (vs : List Value), i ≤ p.n ∧ s = .int .i64 i ∧ Hid (PS p w N L wr v vs xs ys (allRests xs ys p.n p.m i))) (fun _ s _ => p.n - (intOf s).toNat)
    case atStart => exact ⟨0, [], Nat.zero_le _, rfl, HS⟩
    case round =>
      clear HS
      obtain ⟨i, vs, hi, rfl, HS⟩ := hrel
      by_cases hin : i < p.n
      · have s1 := HS.out.gt.gv.ty.row i hin
        go_wp2
        clear s1
        go_loopw [4, 25] (fun v s wj => ∃ (j : Nat) (vs : List Value), j ≤ p.m ∧ s = .int .i64 j ∧ Hid (PS p w N L wj v vs xs ys (allRests xs ys p.n p.m i ++ rowRests xs ys p.n p.m i j))) (fun _ s _ => p.m - (intOf s).toNat)
        case atStart => exact ⟨0, vs, Nat.zero_le _, rfl, Lib.hid (by rw [rowRests, List.append_nil]; exact HS.out)⟩
        case round =>
          clear HS vs
          obtain ⟨j, vs, hj, rfl, HS⟩ := hrel
          by_cases hjm : j < p.m
          · have k0 := HS.out.gt.c0
            have r1 := HS.out.gt.gv.tx.row i hin
            have e1 := HS.out.gt.gv.tx.cell i j hin hjm
            have f1 := HS.out.gt.gv.ty.cell i j hin hjm
            obtain ⟨R, cc, t1, tI⟩ := HS.out.tn.row0 hjm
            have hfl : (gr (flip xs p.n p.m) j).length = p.n := by rw [gr_flip hjm]; simp
            have HQX := Lib.hid tI
            have HQY := Lib.hid (HS.out.gt.gv.ty.ints i hin)
            clear tI
            generalize hcol : gr (flip xs p.n p.m) j = col at *
            have HCOL := Lib.hid hcol
            clear hcol
            have QX := Lib.hid (fun W (hW : Quiet wr W) => Max_any _ _ _ _ W (HQX.out.keep (Keep.quiet hW)) (by omega))
            have QY := Lib.hid (fun W (hW : Quiet wr W) => Max_any _ _ _ _ W (HQY.out.keep (Keep.quiet hW)) (by omega))
            clear HQX HQY hfl
            by_cases h1 : g2 xs i j = mxl col
            · have h1' : (g2 xs i j == mxl col) = true := by simp [h1]
              by_cases h2 : g2 ys i j = mxl (gr ys i)
              · have h2' : (g2 ys i j == mxl (gr ys i)) = true := by simp [h2]
                have HR := Lib.hid (rowRests_yes ((RestAt_iff hin hjm (HLY.out i hin)).2 ⟨by rw [HCOL.out]; exact h1, h2⟩))
                clear h1 h2
                go_wp2
                go_quiet ((go_at_call 48; (first | (with_reducible refine quiet_fit (QX.out _ ?_) (fun m => ?_)) | (with_reducible refine quiet_fit (QY.out _ ?_) (fun m => ?_))); (first | exact ⟨_, rfl⟩ | exact Quiet.two _ _ _); (first | exact drewN_to1 _ _ _ | exact drewN_to2 _ _ _ _)))
                have HS2 := Lib.hid (HS.out.qu ⟨nq, rfl⟩)
                have hlen : (allRests xs ys p.n p.m i ++ rowRests xs ys p.n p.m i j).length ≤ 12 := by
                  have h1 := allRests_len xs ys p.n p.m hm3 i
                  have h2 := rowRests_len xs ys p.n p.m i j
                  rw [List.length_append]; omega
                clear QX QY h1' h2' HS k0 r1 e1 f1 t1
                generalize wr.drewN nq = w2 at *
                have hb3 := below_alloc w2 (.cells #[.int .i64 i, .int .i64 j] 3)
                have hb4 := below_alloc (w2.alloc (.cells #[.int .i64 i, .int .i64 j] 3)) (.cells #[.slice (some ⟨w2.heap.size, 0, none⟩) 2 2] 24)
                have HB4 := Lib.hid ((HS2.out.bd.below hb3).below hb4).own
                have HN := Lib.hid (cell_one_new (w2.alloc (.cells #[.int .i64 i, .int .i64 j] 3)) (.slice (some ⟨w2.heap.size, 0, none⟩) 2 2) 24)
                have hL := HS2.out.h3
                clear hb3 hb4
                generalize hrs : allRests xs ys p.n p.m i ++ rowRests xs ys p.n p.m i j = rs at *
                have HRS := Lib.hid hrs
                clear hrs
                obtain ⟨i0, hi0, hz0, hz1, hz2⟩ := info_parts Try.info32b
                go_wp2_with (at_builtin; refine wpList_append_own_at _ rfl _ _ 23 rfl L 24 i0 (.slice none 0 0) 1 24 Try.underlying23 hi0 hz0 hz1 hz2 rfl (by decide) _ rs.length vs rfl HB4.out ⟨w2.heap.size + 1, 0, none⟩ 1 1 [.slice (some ⟨w2.heap.size, 0, none⟩) 2 2] rfl rfl ?c1 ?c2 ?c3 ?c4 ?c5 ?_)
                case c1 => have h := HN.out; rw [World.size_alloc] at h; exact h
                case c2 => intro u hu; simp at hu; subst hu; rfl
                case c3 => unfold maxLen; omega
                case c4 => omega
                case c5 => simp; omega
                intro v' w5 hown' hgrow _ hat
                obtain ⟨hP, hK⟩ := push_pair HS2.out.bd (by omega) (by omega) hown' hgrow hat hL
                have HS5 := Lib.hid (show PS p w N L w5 v' _ xs ys _ from ⟨HS2.out.gt.up2 hK (by have := HS2.out.h1; have := HS2.out.h2; omega) (by have := HS2.out.h1; have := HS2.out.h2; omega), HS2.out.tn.of_blocks (fun g _ hg _ => hK.block g hg), hP, HS2.out.h1, HS2.out.h2, Nat.le_trans hL hK.size⟩)
                clear HB4 HN hown' hgrow hat hP hK HS2
                go_wp2
                go_roundw
                case rel => exact ⟨j + 1, _, by omega, by go_num, Lib.hid (by rw [HR.out, ← List.append_assoc, HRS.out]; exact HS5.out)⟩
                case measure => simp [intOf]; omega
              · have h2' : (g2 ys i j == mxl (gr ys i)) = false := by simp [h2]
                have HR := Lib.hid (rowRests_no (a := xs) (fun v => h2 ((RestAt_iff hin hjm (HLY.out i hin)).1 v).2))
                clear h1 h2
                go_wp2
                go_quiet ((go_at_call 48; (first | (with_reducible refine quiet_fit (QX.out _ ?_) (fun m => ?_)) | (with_reducible refine quiet_fit (QY.out _ ?_) (fun m => ?_))); (first | exact ⟨_, rfl⟩ | exact Quiet.two _ _ _); (first | exact drewN_to1 _ _ _ | exact drewN_to2 _ _ _ _)))
                have HS2 := Lib.hid (HS.out.qu ⟨nq, rfl⟩)
                go_wp2
                go_roundw
                case rel => exact ⟨j + 1, vs, by omega, by go_num, Lib.hid (by rw [HR.out]; exact HS2.out)⟩
                case measure => simp [intOf]; omega
            · have h1' : (g2 xs i j == mxl col) = false := by simp [h1]
              have HR := Lib.hid (rowRests_no (fun v => h1 (by have := ((RestAt_iff hin hjm (HLY.out i hin)).1 v).1; rw [HCOL.out] at this; exact this)))
              clear h1
              go_wp2
              go_quiet ((go_at_call 48; (first | (with_reducible refine quiet_fit (QX.out _ ?_) (fun m => ?_)) | (with_reducible refine quiet_fit (QY.out _ ?_) (fun m => ?_))); (first | exact ⟨_, rfl⟩ | exact Quiet.two _ _ _); (first | exact drewN_to1 _ _ _ | exact drewN_to2 _ _ _ _)))
              have HS2 := Lib.hid (HS.out.qu ⟨nq, rfl⟩)
              go_wp2
              go_roundw
              case rel => exact ⟨j + 1, vs, by omega, by go_num, Lib.hid (by rw [HR.out]; exact HS2.out)⟩
              case measure => simp [intOf]; omega
          · go_wp2
            go_roundw
            case rel => exact ⟨i + 1, vs, by omega, by go_num, Lib.hid (by have h := HS.out; rw [show j = p.m by omega] at h; rw [allRests]; exact h)⟩
            case measure => simp [intOf]; omega
      · go_wp2
        go_ret
        obtain ⟨A, n, c, g, rfl, hn, ho⟩ := HS.out.bd.owns (by have := allRests_len xs ys p.n p.m hm3 i; omega)
        have e : pureR xs ys = allRests xs ys p.n p.m i := by rw [HP.out, show i = p.n by omega]
        exact ⟨A, n, c, g, rfl, by rw [e]; exact hn, by rw [e]; exact ho.mono (by have := HS.out.h1; have := HS.out.h2; omega) (Nat.le_refl _), HS.out.gt.below⟩
  · have HZ := Lib.hid (show pureR xs ys = [] by rw [pureR, if_neg (by rw [pb_false hv]; decide)])
    refine ((pb_false hv) ▸ HC.out).mono ?_
    rintro e w1 ⟨rfl, hb⟩
    have HB2 := Lib.hid (below_up HB.out hb)
    clear hb hv HC
    go_wp2
    go_ret
    exact ⟨none, 0, 0, 0, rfl, by rw [HZ.out]; rfl, by rw [HZ.out]; exact OwnR.nil _ _ _ _, HB2.out⟩
end Go.Proofs.Ytfcienghlbnjbaa

/- At rest no one has more than the mean, and each one with a share has it. Plain. -/
namespace Go.Proofs.Ytfcienghlbnjbaa

theorem payR_dot' (a : List (List Int)) (x y : List Int) (i : Nat) : ∀ j, payR a x y i j = gi x i * dotr a y i j
  | 0 => by simp [payR, dotr]
  | j + 1 => by
    rw [payR, dotr, payR_dot' a x y i j, Int.mul_add]
    congr 1
    grind
theorem payU_next (a : List (List Int)) (x y : List Int) (m k : Nat) : payU a x y m (k + 1) = payU a x y m k + gi x k * dotr a y k m := by
  rw [payU, payR_dot']
theorem payU_same {a : List (List Int)} {x : List Int} {n : Nat} {M : Int} : ∀ {k}, (∀ i, i < k → 0 ≤ gi x i) → (∀ i, i < k → 0 < gi x i → dotr a x i n = M) → payU a x x n k = M * sm x k
  | 0, _, _ => by simp [payU, sm]
  | k + 1, h0, h => by
    rw [payU_next, sm, payU_same (fun i hi => h0 i (by omega)) (fun i hi => h i (by omega)), Int.mul_add]
    congr 1
    by_cases e : 0 < gi x k
    · rw [h k (by omega) e, Int.mul_comm]
    · have : gi x k = 0 := by have := h0 k (by omega); omega
      rw [this]; simp
theorem sm_one {x : List Int} : ∀ {k}, (∀ j, j < k → 0 ≤ gi x j) → 0 < sm x k → ∃ j, j < k ∧ 0 < gi x j
  | 0, _, h => by simp [sm] at h
  | k + 1, h0, h => by
    by_cases e : 0 < gi x k
    · exact ⟨k, by omega, e⟩
    · rw [sm] at h
      obtain ⟨j, hj, hp⟩ := sm_one (k := k) (fun j hj => h0 j (by omega)) (by have := h0 k (by omega); omega)
      exact ⟨j, by omega, hp⟩
/-- Strategy i has no more than the mean, and has it if it has a share. -/
def MeanOk (a : List (List Int)) (x : List Int) (n : Nat) (i : Nat) : Prop := ¬ payU a x x n n < dotr a x i n * tot x ∧ (0 < gi x i → dotr a x i n * tot x = payU a x x n n)
theorem rest_mean {a : List (List Int)} {x : List Int} {n : Nat} (hx : VS x n) : RestP a x n ↔ ∀ i, i < n → MeanOk a x n i := by
  have hl : x.length = n := by have := hx.1; omega
  have h0 : ∀ j, j < n → 0 ≤ gi x j := fun j hj => (VS.bds hx j hj).1
  have ht : tot x = sm x n := by unfold tot; rw [hl]
  have hp : 0 < tot x := hx.2.2
  constructor
  · intro h
    obtain ⟨j, hj, hjp⟩ := sm_one h0 (by rw [← ht]; exact hp)
    have hP : payU a x x n n = dotr a x j n * tot x := by
      rw [ht]
      exact payU_same h0 fun i hi hip => by have := h i hi hip j hj; have := h j hj hjp i hi; omega
    intro i hi
    refine ⟨?_, fun hip => ?_⟩
    · rw [hP]
      have := Int.mul_le_mul_of_nonneg_right (h j hj hjp i hi) (Int.le_of_lt hp)
      omega
    · rw [hP]
      have e : dotr a x i n = dotr a x j n := by have := h i hi hip j hj; have := h j hj hjp i hi; omega
      rw [e]
  · intro h i hi hip k hk
    have h1 := (h i hi).2 hip
    have h2 := (h k hk).1
    rw [← h1] at h2
    exact Int.le_of_mul_le_mul_right (by omega) hp
/-- The fractions that the law compares. -/
theorem mean_frac {P d T : Int} (hT : 0 < T) : (lessB (frU P (T * T)) (frD P (T * T)) (frU d T) (frD d T) = decide (P < d * T)) ∧ ((frU d T = frU P (T * T) ∧ frD d T = frD P (T * T)) ↔ d * T = P) := by
  have hTT : 0 < T * T := Int.mul_pos hT hT
  have e1 : d * (T * T) = d * T * T := by rw [Int.mul_assoc]
  constructor
  · unfold lessB
    rw [decide_eq_decide, fr_lt hTT hT, e1]
    exact ⟨fun h => Int.lt_of_mul_lt_mul_right h (Int.le_of_lt hT), fun h => Int.mul_lt_mul_of_pos_right h hT⟩
  · constructor
    · rintro ⟨h1, h2⟩
      have k1 := fr_lt (u := d) (d := T) (v := P) (e := T * T) hT hTT
      have k2 := fr_lt (u := P) (d := T * T) (v := d) (e := T) hTT hT
      rw [h1, h2] at k1 k2
      have n1 : ¬ d * (T * T) < P * T := fun h => by have := k1.2 h; omega
      have n2 : ¬ P * T < d * (T * T) := fun h => by have := k2.2 h; omega
      rw [e1] at n1 n2
      exact Int.eq_of_mul_eq_mul_right (by omega) (show d * T * T = P * T by omega)
    · intro h
      exact fr_eq hT hTT (by rw [e1, h])
end Go.Proofs.Ytfcienghlbnjbaa

