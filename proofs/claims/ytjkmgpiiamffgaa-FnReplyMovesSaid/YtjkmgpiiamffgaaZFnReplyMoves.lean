/- The law FnReplyMoves holds: whatever the bytes, of the game and the pair that are drawn from them the program's moves are the model's, each is a reply that pays more, and a pair that has any is no rest. No condition. -/
import Derived.Test.YtjkmgpiiamffgaaQ14
import Derived.BigQuiet
namespace Go.Proofs.Ytjkmgpiiamffgaa
open Go.ChangeShapes Go.WideShapes Go.ChangeAt Go.RowKit Go.Deep

theorem rep_row {xs ys : List (List Int)} {n m i j k : Nat} (hi : i < n) (hj : j < m) (hl : (gr ys i).length = m) (hk : k < (repL xs ys n i j).length) :
    (∃ x : Nat, x < n ∧ x ≠ i ∧ g2 xs i j < g2 xs x j ∧ gr (repL xs ys n i j) k = [(x : Int), (j : Int)]) ∨
    (∃ y : Nat, y < m ∧ y ≠ j ∧ g2 ys i j < g2 ys i y ∧ gr (repL xs ys n i j) k = [(i : Int), (y : Int)]) := by
  have hm := gr_mem hk
  generalize gr (repL xs ys n i j) k = row at *
  rw [repL, List.mem_append] at hm
  rcases hm with hm | hm
  · obtain ⟨z, hz, rfl⟩ := List.mem_map.1 hm
    obtain ⟨hne, x, hx, e, rfl⟩ := brF_mem.1 hz
    rw [colOf_len] at hx
    rw [gi_colOf hx] at e
    rw [gi_colOf hi] at hne
    have h1 := mx_ge (colOf xs n j) (j := i) (k := (colOf xs n j).length - 1) (by rw [colOf_len]; omega)
    rw [gi_colOf hi] at h1
    unfold mxl at e hne
    exact .inl ⟨x, hx, fun e2 => hne (by rw [← e2]; exact e), by omega, rfl⟩
  · obtain ⟨z, hz, rfl⟩ := List.mem_map.1 hm
    obtain ⟨hne, y, hy, e, rfl⟩ := brF_mem.1 hz
    rw [hl] at hy
    have h1 := mx_ge (gr ys i) (j := j) (k := (gr ys i).length - 1) (by omega)
    unfold mxl at e hne
    refine .inr ⟨y, hy, fun e2 => hne (by rw [← e2]; exact e), ?_, rfl⟩
    unfold g2; omega
theorem IntRows.two {W : World} {A : Option Addr} {n c : Nat} {xs : List (List Int)} (h : IntRows W A n c xs) {k : Nat} (hk : k < n) {x y : Int} (e : gr xs k = [x, y]) :
    ∃ b o R p cc, A = some ⟨b, o, none⟩ ∧ W.cell? ⟨b, o + k, none⟩ = some (.slice (some ⟨R, p, none⟩) 2 cc) ∧ W.cell? ⟨R, p, none⟩ = some (.int .i64 x) ∧ W.cell? ⟨R, p + 1, none⟩ = some (.int .i64 y) := by
  obtain ⟨b, o, rfl, hc⟩ := h.at_ (by omega)
  obtain ⟨R, cc, h1, h2⟩ := hc k hk
  rw [e] at h1 h2
  obtain ⟨R, p, rfl, h3⟩ := h2.at_ (by simp)
  exact ⟨b, o, R, p, cc, rfl, h1, h3 0 (by simp), h3 1 (by simp)⟩
/-- What the loop knows: the game, and the moves. -/
structure RMw (p : GP) (w w0 : World) (h : Nat) (xa xb : List (List Int)) (Ao : Option Addr) (no co : Nat) (ro : List (List Int)) (W : World) : Prop where
  up0 : Below w.heap.size w w0
  gt : GT p w0 W h xa xb
  hs : w.heap.size ≤ w0.heap.size
  ro : IntRows W Ao no co ro
  ra : IntRows W (some ⟨p.ba, p.oa, none⟩) p.n p.c xa
  rb : IntRows W (some ⟨p.bb, p.ob, none⟩) p.n p.d xb
theorem RMw.up {p w w0 h xa xb Ao no co ro W W'} (o : RMw p w w0 h xa xb Ao no co ro W) (k : Below W.heap.size W W') : RMw p w w0 h xa xb Ao no co ro W' :=
  ⟨o.up0, o.gt.up k, o.hs, o.ro.keep (Keep.below k), o.ra.keep (Keep.below k), o.rb.keep (Keep.below k)⟩
theorem RMw.below {p w w0 h xa xb Ao no co ro W} (o : RMw p w w0 h xa xb Ao no co ro W) : Below w.heap.size w W := o.up0.trans (o.gt.below.mono o.hs)

set_option maxRecDepth 100000 in
set_option maxHeartbeats 1600000 in
theorem fnReplyMoves_calls (A : Option Addr) (n c : Nat) (w : World) (hx : Bytes w A n c) :
    Calls Try.prog 9 #[.slice A n c] w fun e w' => e = .returned (.bool true) ∧ Below w.heap.size w w' := by
  have hmx := hx.max
  have H0 := Lib.hid (DrawReplyMoves_any A n c w hx)
  clear hx
  by_cases hs : 1048576 < n
  · go_enter Try.func9, Try.ntmps9
    go_wp2
    go_ret
    exact ⟨rfl, Below.refl _ _⟩
  go_enter Try.func9, Try.ntmps9
  go_wp2_with fail
  refine H0.out.mono ?_
  rintro e w1 ⟨Aa, na, ca, xa, Ab, nb, cb, xb, i, j, rfl, sa, sb, ⟨hi0, hi3⟩, ⟨hj0, hj3⟩, ra, rb, hb⟩
  have hfi : Fit i := by unfold Fit; omega
  have hfj : Fit j := by unfold Fit; omega
  have HFI := Lib.hid hfi
  have HFJ := Lib.hid hfj
  have HSA := Lib.hid sa
  have HSB := Lib.hid sb
  have HLA := Lib.hid ra.len
  have HLB := Lib.hid rb.len
  have HG := Lib.hid (GW.start hb ra rb)
  clear sa sb ra rb hb H0 hfi hfj
  have c0 := HG.out.cells.1
  have c1 := HG.out.cells.2
  have HC := Lib.hid (ReplyMoves_impl Aa Ab na ca nb cb xa xb i j _ HG.out.ra HG.out.rb HFI.out HFJ.out)
  go_wp2_with fail
  generalize w1.alloc (.cells #[.slice Aa na ca, .slice Ab nb cb] 54) = W1 at *
  generalize w1.heap.size = h at *
  refine HC.out.mono ?_
  rintro e w2 ⟨Ao, no, co, go, rfl, hno, oo, hb⟩
  have HG2 := Lib.hid (HG.out.up hb)
  have HO2 := Lib.hid oo.rows
  have HNO := Lib.hid hno
  have hmo := oo.rows.max
  clear hb HC HG c0 c1 oo hno
  have c0 := HG2.out.cells.1
  have c1 := HG2.out.cells.2
  have HC := Lib.hid (ReplyMoves_spec Aa Ab na ca nb cb xa xb i j _ HG2.out.ra HG2.out.rb HFI.out HFJ.out)
  go_wp2_with fail
  refine HC.out.mono ?_
  rintro e w3 ⟨Au, nu, cu, gu, rfl, hnu, ou, hb⟩
  have HG3 := Lib.hid (HG2.out.up hb)
  have HO3 := Lib.hid (HO2.out.keep (Keep.below hb))
  have HU3 := Lib.hid ou.rows
  clear hb HC HG2 HO2 c0 c1 ou hnu
  have HEQ := Lib.hid (show eqRR (repF xa xb i j) (repF xa xb i j) = true by simp [eqRR])
  have HC := Lib.hid (HEQ.out ▸ equalRows_any _ _ _ _ _ _ _ _ _ HO3.out HU3.out)
  by_cases hz : no = 0
  · subst hz
    go_wp2_with fail
    refine HC.out.mono ?_
    rintro e w4 ⟨rfl, hq⟩
    have HG4 := Lib.hid (HG3.out.up hq.below)
    have HO4 := Lib.hid (HO3.out.keep (Keep.quiet hq))
    clear hq HC HG3 HO3 HU3
    have c0 := HG4.out.cells.1
    have c1 := HG4.out.cells.2
    have HC := Lib.hid (ReplyMoves_spec Aa Ab na ca nb cb xa xb i j _ HG4.out.ra HG4.out.rb HFI.out HFJ.out)
    go_wp2_with fail
    refine HC.out.mono ?_
    rintro e w5 ⟨Av, nv, cv, gv, rfl, hnv, ov, hb⟩
    have HG5 := Lib.hid (HG4.out.up hb)
    have HO5 := Lib.hid (HO4.out.keep (Keep.below hb))
    have HU5 := Lib.hid ov.rows
    clear hb HC HG4 HO4 c0 c1 ov hnv
    have HC := Lib.hid (HEQ.out ▸ equalRows_any _ _ _ _ _ _ _ _ _ HO5.out HU5.out)
    go_wp2_with fail
    refine HC.out.mono ?_
    rintro e w6 ⟨rfl, hq⟩
    have HG6 := Lib.hid (HG5.out.up hq.below)
    clear hq HC HG5 HO5 HU5
    go_wp2
    go_ret
    exact ⟨rfl, HG6.out.below⟩
  · have hz1 : ((no : Int) == 0) = false := by rw [beq_eq_false_iff_ne]; omega
    have hall : VG xa xb ∧ Blw xa.length i ∧ Blw (gr xa 0).length j := by
      have hne : ¬ repF xa xb i j = [] := fun e0 => hz (by rw [HNO.out, e0]; rfl)
      unfold repF at hne
      refine ⟨Classical.byContradiction fun hv => hne ?_, Classical.byContradiction fun hv => hne ?_, Classical.byContradiction fun hv => hne ?_⟩ <;> rw [pb_false hv] <;> simp
    obtain ⟨hv, hbi, hbj⟩ := hall
    unfold Blw at hbi hbj
    obtain ⟨i, rfl⟩ := Int.eq_ofNat_of_zero_le (show 0 ≤ i by omega)
    obtain ⟨j, rfl⟩ := Int.eq_ofNat_of_zero_le (show 0 ≤ j by omega)
    have hi : i < xa.length := by omega
    have hj : j < (gr xa 0).length := by omega
    have HRP := Lib.hid (repF_in hv hi hj)
    have HNP := Lib.hid (pb_false (p := [(i : Int), (j : Int)] ∈ pureR xa xb) (fun hm => hz (by
      rw [HNO.out, repF_in hv hi hj, (repL_nil hi hj (by rw [(hv.tb.rows i (by rw [← hv.n]; exact hi)).1, hv.m])).2 ((pureR_mem hv hi hj).1 hm)]; rfl)))
    have HRW := Lib.hid (fun k (hk : k < (repL xa xb xa.length i j).length) => rep_row hi hj (by rw [(hv.tb.rows i (by rw [← hv.n]; exact hi)).1, hv.m]) hk)
    go_wp2_with fail
    refine HC.out.mono ?_
    rintro e w4 ⟨rfl, hq⟩
    have HG4 := HG3.out.up hq.below
    have HO4 := HO3.out.keep (Keep.quiet hq)
    have hno := HNO.out
    rw [HRP.out] at HO4 hno
    obtain ⟨p, rfl, rfl, rfl, rfl, rfl, rfl, hgv⟩ := GV.of HG4.ra HG4.rb hv
    have hin : i < p.n := by rw [← hgv.lx]; exact hi
    have hjm : j < p.m := by rw [← hgv.mx]; exact hj
    have hn3 := hgv.tx.n3
    have hm3 := hgv.tx.m3
    have hcx := hgv.capx
    have hcy := hgv.capy
    have HM := Lib.hid (RMw.mk (p := p) (h := h) (Ao := Ao) (no := no) (co := co) HG4.below ⟨Below.refl _ _, HG4.box, hgv⟩ HG4.below.size HO4 HG4.ra HG4.rb)
    have HBX := Lib.hid (fun i j hi hj => hgv.tx.bd i j hi hj)
    have HBY := Lib.hid (fun i j hi hj => hgv.ty.bd i j hi hj)
    have HHN := Lib.hid hno
    have HHR := Lib.hid (HRW.out)
    rw [hgv.lx, hgv.mx] at HHR
    rw [hgv.lx] at HHN
    rw [hgv.lx] at HM
    clear hq HC HG3 HO3 HU3 HG4 HO4 hgv hv hbi hbj hi hj HFI HFJ HRP HEQ HNO hno HRW
    generalize repL xa xb p.n i j = rl at *
    go_wp2
    go_loopw [7] (fun s wr => ∃ k : Nat, k ≤ no ∧ s = .int .i64 k ∧ Hid (RMw p w w4 h xa xb Ao no co rl wr)) (fun s _ => no - (intOf s).toNat)
    case atStart => exact ⟨0, Nat.zero_le _, rfl, HM⟩
    case round =>
      clear HM
      obtain ⟨k, hk, rfl, HM⟩ := hrel
      have c0 := HM.out.gt.c0
      have c1 := HM.out.gt.c1
      by_cases hkn : k < no
      · rcases HHR.out k (by rw [← HHN.out]; exact hkn) with ⟨x, hx, hxi, hgt, e⟩ | ⟨y, hy, hyj, hgt, e⟩
        · obtain ⟨bo, oo, bR, oR, cR, rfl, r1, r2, r3⟩ := HM.out.ro.two hkn e
          have t1 := HM.out.gt.gv.tx.row x hx
          have t2 := HM.out.gt.gv.tx.row i hin
          have t3 := HM.out.gt.gv.tx.cell x j hx hjm
          have t4 := HM.out.gt.gv.tx.cell i j hin hjm
          have hxi' : ((x : Int) != (i : Int)) = true := by simp; omega
          have hgt' : decide (g2 xa x j > g2 xa i j) = true := by simp; omega
          clear e
          generalize g2 xa x j = G1 at *
          generalize g2 xa i j = G2 at *
          go_wp2
          go_quiet (fail)
          go_wp2
          go_roundw
          case rel => exact ⟨k + 1, by omega, by go_num, Lib.hid (HM.out.up (Quiet.below ⟨_, rfl⟩))⟩
          case measure => simp [intOf]; omega
        · obtain ⟨bo, oo, bR, oR, cR, rfl, r1, r2, r3⟩ := HM.out.ro.two hkn e
          have t1 := HM.out.gt.gv.ty.row i hin
          have t3 := HM.out.gt.gv.ty.cell i y hin hy
          have t4 := HM.out.gt.gv.ty.cell i j hin hjm
          have hyj' : ((y : Int) == (j : Int)) = false := by rw [beq_eq_false_iff_ne]; omega
          have hyj2 : ((y : Int) != (j : Int)) = true := by simp; omega
          have hgt' : decide (g2 xb i y > g2 xb i j) = true := by simp; omega
          clear e
          generalize g2 xb i y = G1 at *
          generalize g2 xb i j = G2 at *
          go_wp2
          go_quiet (fail)
          go_wp2
          go_roundw
          case rel => exact ⟨k + 1, by omega, by go_num, Lib.hid (HM.out.up (Quiet.below ⟨_, rfl⟩))⟩
          case measure => simp [intOf]; omega
      · obtain rfl : k = no := by omega
        have HC := Lib.hid (PureRests_impl _ _ p.n p.c p.n p.d xa xb _ HM.out.ra HM.out.rb)
        go_wp2_with fail
        refine HC.out.mono ?_
        rintro e w6 ⟨Ak, _, ck, gk, rfl, rfl, ok_, hb⟩
        have HM6 := Lib.hid (HM.out.up hb)
        have HK6 := Lib.hid ok_.rows
        clear hb HC HM c0 c1 ok_
        have HI := Lib.hid (Ints.two w6 (i : Int) (j : Int))
        have HM7 := Lib.hid (HM6.out.up (below_alloc w6 (.cells #[iv (i : Int), iv (j : Int)] 3)))
        have HK7 := Lib.hid (HK6.out.keep (Keep.below (below_alloc w6 (.cells #[iv (i : Int), iv (j : Int)] 3))))
        have HC := Lib.hid (HNP.out ▸ inRows_any Ak _ _ ck _ _ (pureR xa xb) [(i : Int), (j : Int)] _ HK7.out HI.out)
        clear HI HM6 HK6 HK7
        go_wp2_with fail
        refine HC.out.mono ?_
        rintro e w7 ⟨rfl, hq⟩
        have HM8 := Lib.hid (HM7.out.up hq.below)
        clear hq HC HM7
        go_wp2
        go_ret
        exact ⟨rfl, HM8.out.below⟩

set_option maxRecDepth 100000 in
theorem hFnReplyMoves_lifted (os : Os) (started : os.Started) (H : Type) (enc : TypeId × Value → H) :
    ReturnsInHanded {} Try.checked os 9 .any (Rows.fnReplyMovesSpec.pre6 enc Try.prog Try.f9 Rows.fnReplyMovesRow.domain false) (Rows.fnReplyMovesSpec.post enc Try.prog Try.f9 false true false false) := by
  refine returnsInHanded_of_change_sized (C := Try.checked) Try.own started (by kernel_rfl) Try.func9
    (ChangeSpec.witness6 (enc := enc) (C := Try.checked) false ⟨#[], #[.slice none 0 0], []⟩ 8 (by kernel_rfl) (by kernel_rfl) (by kernel_rfl) (by kernel_rfl)) ?_
  intro W base args ds gs before hval0 hW _ hwt _
  have hval : ∀ (j : Nat) t v, Try.f9.params[j]? = some t → args[j]? = some v → Value.okWide Try.prog W .any base t v := hval0
  have hA : ∃ p, DataW.TrodAll enc Try.prog W 0 (fun _ => true) true Try.f9.params.toList args.toList ds p := by obtain ⟨p, q, hA0, _⟩ := hW; exact ⟨p, hA0⟩
  obtain ⟨p, hA⟩ := hA
  have hwt' := weights_arg hwt (j := 0) (t := 22) (by rw [Try.params9]; rfl) (d := ds.getD 0 .nil)
  rw [Try.params9] at hA hval
  obtain ⟨v0, d0, rfl, rfl, h0⟩ := trodAll_one hA
  obtain ⟨A, n, c, rfl, hx⟩ := open_bytes (hval 0 22 v0 rfl rfl) h0 (hwt' rfl)
  refine (fnReplyMoves_calls A n c W hx).mono fun e W' ⟨he, hb⟩ => ?_
  subst he
  exact ⟨_, rfl, law_post (F := Try.f9) rfl rfl (by rw [Try.params9]; simp only [List.mem_cons, List.not_mem_nil, or_false, forall_eq]; exact ⟨by kernel_rfl, of_decide_eq_true (by kernel_rfl)⟩) hW (fun h => by subst h; rfl) hb⟩

theorem hFnReplyMoves_holds : Rows.FnReplyMovesSaid :=
  OpenClaim.holds_of_wide 9 Try.f9 rfl rfl rfl rfl rfl rfl rfl ⟨rfl, rfl, rfl, rfl, rfl⟩ rfl rfl rfl rfl rfl (by kernel_rfl) Try.func9
    (by unfold joinedFacts; simp only [Bool.and_eq_true]; (repeat' apply And.intro) <;> (first | (with_reducible exact prog_enters) | ((with_reducible refine prog_lifts ?_); rfl) | ((with_reducible refine prog_make ?_); rfl) | kernel_rfl))
    (of_decide_eq_true (by kernel_rfl)) (by unfold Func.isWrapper; first | (rw [if_pos (by decide +kernel)]; kernel_rfl) | (rw [if_neg (by decide +kernel)]; exact ⟨rfl, rfl⟩))
    (fun os started H enc _ => hFnReplyMoves_lifted os started H enc)

end Go.Proofs.Ytjkmgpiiamffgaa
