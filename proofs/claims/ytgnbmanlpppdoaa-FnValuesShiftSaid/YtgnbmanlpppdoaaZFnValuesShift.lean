/- The law FnValuesShift holds: for every code, of the table that it draws, the program's BestShares answers as the model's, ValueOf with all numbers 1 more is 1 more, and without the last row no more. No condition. -/
import Derived.Test.YtgnbmanlpppdoaaQ8
import Derived.Deep.RegionHeld3
namespace Go.Proofs.Ytgnbmanlpppdoaa
open Go.ChangeShapes Go.WideShapes Go.ChangeAt Go.RowKit Go.Deep

/-- The first rows of a table. -/
theorem IntRows.take {w A n c xss} (h : IntRows w A n c xss) {k : Nat} (hk : k ≤ n) : IntRows w A k c (xss.take k) :=
  ⟨by rw [List.length_take, h.len]; omega, by have := h.cap; omega, by have := h.max; omega, fun h0 => by
    obtain ⟨b, o, e, hc⟩ := h.at_ (by omega)
    refine ⟨b, o, e, fun i hi => ?_⟩
    have := hc i (by omega)
    have e : gr (xss.take k) i = gr xss i := by rw [gr_get (by rw [List.length_take, h.len]; omega), gr_get (by rw [h.len]; omega), List.getElem_take]
    rw [e]; exact this⟩

set_option maxRecDepth 100000 in
set_option maxHeartbeats 6400000 in
theorem fnValuesShift_calls (A : Option Addr) (n c : Nat) (w : World) (hx : Bytes w A n c) :
    Calls Try.prog 10 #[.slice A n c] w fun e w' => e = .returned (.bool true) ∧ Below w.heap.size w w' := by
  have hmx := hx.max
  have H0 := Lib.hid (DrawBestShares_any A n c w hx)
  clear hx
  by_cases hs : 1048576 < n
  · go_enter Try.func10, Try.ntmps10
    go_wp2
    go_ret
    exact ⟨rfl, Below.refl _ _⟩
  · go_enter Try.func10, Try.ntmps10
    go_wp2_with fail
    refine H0.out.mono ?_
    rintro e w1 ⟨Av, k, cv, gg, xss, rfl, hsm, hown, hb⟩
    have HR := Lib.hid hown.rows
    have B1 := Lib.hid hb
    have LX := Lib.hid hown.rows.len
    clear hown hb H0
    by_cases hv : VT xss
    · have HV := Lib.hid hv
      have HTV := Lib.hid (pb_true hv)
      have HSM := Lib.hid hsm
      have hk : 0 < k := by rw [← LX.out]; exact hv.n1
      have hk3 : k ≤ 3 := by rw [← LX.out]; exact hv.n3
      have hbd := vF_bd hv
      obtain ⟨U, D, hUD⟩ : ∃ U D, vF xss = (U, D) := ⟨_, _, rfl⟩
      have HUV := Lib.hid (wstV_eq _ hUD)
      rw [hUD] at hbd
      obtain ⟨⟨u1, u2⟩, d1, d2⟩ := hbd
      simp only at u1 u2 d1 d2
      have HE1 := Lib.hid (eqI_self (bx xss))
      have HE2 := Lib.hid (eqI_self (by_ xss))
      obtain ⟨UM, DM, hUM⟩ : ∃ U D, vF (itab xss xss.length) = (U, D) := ⟨_, _, rfl⟩
      obtain ⟨fm, hfm⟩ : ∃ b, pb (VT (itab xss xss.length)) = b := ⟨_, rfl⟩
      have HFM := Lib.hid hfm
      have HUMV := Lib.hid (wstV_eq _ hUM)
      have HM := Lib.hid (show fm = true → frV (U * 1 + 1 * D) (D * 1) = .agg #[.int .i64 UM, .int .i64 DM] from fun h => by
        rw [vF_inc hv (pb_iff.1 (by rw [hfm, h])) hUD, HUMV.out])
      obtain ⟨UL, DL, hUL⟩ : ∃ U D, vF (xss.take (k - 1)) = (U, D) := ⟨_, _, rfl⟩
      obtain ⟨fl, hfl⟩ : ∃ b, pb (VT (xss.take (k - 1))) = b := ⟨_, rfl⟩
      have HFL := Lib.hid hfl
      have HULV := Lib.hid (wstV_eq _ hUL)
      have HL := Lib.hid (show fl = true → lessB U D UL DL = false ∧ (-1000000000 ≤ UL ∧ UL ≤ 1000000000) ∧ 0 ≤ DL ∧ DL ≤ 1000000000 from fun h => by
        have hvl : VT (xss.take (k - 1)) := pb_iff.1 (by rw [hfl, h])
        have h1 : leF (vF (xss.take (k - 1))) (vF xss) := by have := vF_less hv (by rw [LX.out]; exact hvl); rw [LX.out] at this; exact this
        have h2 := vF_bd hvl
        rw [hUL] at h1 h2
        rw [hUD] at h1
        unfold leF at h1
        simp only at h1 h2
        exact ⟨by unfold lessB; rw [decide_eq_false_iff_not]; omega, by omega, by omega, by omega⟩)
      have HMO := Lib.hid (frV_one 1)
      have hcv := HR.out.cap
      obtain ⟨b, oo, rb, ro, cc, rfl, -⟩ := HR.out.tab hv
      clear hv hUD hUM hfm hUL hfl hsm
      have HC := Lib.hid (BestShares_impl _ k cv xss w1 HR.out)
      go_wp2_with fail
      refine HC.out.mono ?_
      rintro e w2 hbs
      obtain ⟨A1, c1, A2, c2, rfl, i1, i2, hb⟩ := hbs.yes HV.out
      have HR_2 := Lib.hid (HR.out.keep (Keep.below hb))
      have B_2 := Lib.hid (below_up B1.out hb)
      have HX := Lib.hid i1
      have HY := Lib.hid i2
      clear hbs i1 i2 hb HC HR B1
      have HC := Lib.hid (BestShares_spec _ k cv xss w2 HR_2.out)
      go_wp2_with fail
      refine HC.out.mono ?_
      rintro e w3 hbs
      obtain ⟨A3, n3, c3, A4, n4, c4, rfl, i1, i2, hb⟩ := hbs.yes HV.out
      have HR_3 := Lib.hid (HR_2.out.keep (Keep.below hb))
      have HX_3 := Lib.hid (HX.out.keep (Keep.below hb))
      have HY_3 := Lib.hid (HY.out.keep (Keep.below hb))
      have B_3 := Lib.hid (below_up B_2.out hb)
      have HP := Lib.hid i1
      have HQ := Lib.hid i2
      clear hbs i1 i2 hb HC HR_2 HX HY B_2
      have HC := Lib.hid (HE1.out ▸ equalInts_any _ _ _ _ _ _ (bx xss) (bx xss) w3 HX_3.out HP.out)
      go_wp2_with fail
      refine HC.out.mono ?_
      rintro e w4 ⟨rfl, hq⟩
      have hb := hq.below (B := w3.heap.size)
      have HR_4 := Lib.hid (HR_3.out.keep (Keep.below hb))
      have HX_4 := Lib.hid (HX_3.out.keep (Keep.below hb))
      have HY_4 := Lib.hid (HY_3.out.keep (Keep.below hb))
      have HP_4 := Lib.hid (HP.out.keep (Keep.below hb))
      have HQ_4 := Lib.hid (HQ.out.keep (Keep.below hb))
      have B_4 := Lib.hid (below_up B_3.out hb)
      clear hb HC hq HR_3 HX_3 HY_3 HP HQ B_3
      have HC := Lib.hid (HE2.out ▸ equalInts_any _ _ _ _ _ _ (by_ xss) (by_ xss) w4 HY_4.out HQ_4.out)
      go_wp2_with fail
      refine HC.out.mono ?_
      rintro e w5 ⟨rfl, hq⟩
      have hb := hq.below (B := w4.heap.size)
      have HR_5 := Lib.hid (HR_4.out.keep (Keep.below hb))
      have HX_5 := Lib.hid (HX_4.out.keep (Keep.below hb))
      have HY_5 := Lib.hid (HY_4.out.keep (Keep.below hb))
      have HP_5 := Lib.hid (HP_4.out.keep (Keep.below hb))
      have HQ_5 := Lib.hid (HQ_4.out.keep (Keep.below hb))
      have B_5 := Lib.hid (below_up B_4.out hb)
      clear hb HC hq HR_4 HX_4 HY_4 HP_4 HQ_4 B_4
      clear HP_5
      clear HQ_5
      clear HX_5
      clear HY_5
      have HC := Lib.hid (ValueOf_impl _ k cv xss w5 HR_5.out)
      rw [HUV.out, HTV.out] at HC
      go_wp2_with fail
      refine HC.out.mono ?_
      rintro e w6 ⟨rfl, hb⟩
      have HR_6 := Lib.hid (HR_5.out.keep (Keep.below hb))
      have B_6 := Lib.hid (below_up B_5.out hb)
      clear hb HC HR_5 B_5
      have hal := below_alloc w6 (.cells #[.int .i64 U, .int .i64 D] 28)
      have HR_6b := Lib.hid (HR_6.out.keep (Keep.below hal))
      have B_6b := Lib.hid (below_up B_6.out hal)
      have V0 := Lib.hid (blk_cell (blk_new w6 28 #[.int .i64 U, .int .i64 D]) (i := 0) (v := .int .i64 U) rfl)
      have V1 := Lib.hid (blk_cell (blk_new w6 28 #[.int .i64 U, .int .i64 D]) (i := 1) (v := .int .i64 D) rfl)
      clear hal HR_6 B_6
      go_wp2
      have hsz := World.size_alloc w6 (.cells #[.int .i64 U, .int .i64 D] 28)
      generalize w6.alloc (.cells #[.int .i64 U, .int .i64 D] 28) = w6a at *
      generalize w6.heap.size = h6a at *
      have HS0 := Lib.hid (TM.start w6a)
      go_loopw [10, 11] (fun v i wr => ∃ (q : Nat) (vs : List Value), q ≤ k ∧ i = .int .i64 q ∧ Hid (TM w6a v vs (itab xss q) wr)) (fun _ i _ => k - (intOf i).toNat)
      case atStart => exact ⟨0, [], Nat.zero_le _, rfl, by rw [← hsz]; exact HS0⟩
      case round =>
        clear HS0 hsz
        obtain ⟨q, vs, hq, rfl, HT⟩ := hrel
        obtain ⟨As, cs, rfl⟩ := HT.out.bo.form
        by_cases hlt : q < k
        · have HI := Lib.hid HT.out.row
          have hkx : q < xss.length := by rw [LX.out]; exact hlt
          clear HT
          obtain ⟨b2, o2, e0, hc⟩ := HR_6b.out.at_ (by omega)
          injection e0 with e0
          injection e0 with e1 e2 _
          subst e1
          subst e2
          have HC := Lib.hid (hc q hlt)
          clear hc
          go_wp2
          generalize wr.heap.size = N at *
          go_loopw [12, 13] (fun u i wi => ∃ (j : Nat), j ≤ (gr xss q).length ∧ i = .int .i64 j ∧ Hid (TN w6a N (.slice As (itab xss q).length cs) vs (itab xss q) u (irow (gr xss q) j) wi)) (fun _ i _ => (gr xss q).length - (intOf i).toNat)
          case atStart => exact ⟨0, Nat.zero_le _, rfl, HI⟩
          case round =>
            clear HI
            obtain ⟨j, hj, rfl, HI⟩ := hrel
            obtain ⟨Au, cu, rfl⟩ := HI.out.bi.form
            obtain ⟨R, cc, c1, hR⟩ := HC.out
            have c2 := HI.out.up.cell (p := ⟨b, oo + q, none⟩) (World.block_lt_of_cell? _ _ c1)
            rw [c1] at c2
            have hR2 := hR.keep (Keep.below HI.out.up)
            by_cases hlm : j < (gr xss q).length
            · obtain ⟨b', o', rfl, hc'⟩ := hR2.at_ (by omega)
              have c3 := hc' j hlm
              have hbd := HSM.out.gi hkx hlm
              clear hc' hR hR2
              generalize hval : gi (gr xss q) j = x at *
              have HVV := Lib.hid hval
              clear hval
              have hb := below_alloc wr (.cells #[iv (x + 1)] 3)
              have HB4 := Lib.hid (HI.out.bi.below hb).own
              have HN := Lib.hid (cell_one_new wr (iv (x + 1)) 3)
              have hHs := HI.out.hs
              have hlh := HI.out.lh
              have HML := Lib.hid (irow_len (gr xss q) j)
              generalize hys : irow (gr xss q) j = ys at *
              have HYS := Lib.hid hys
              clear hb hys
              have hrl := (HSM.out.rows _ (gr_mem hkx)).1
              obtain ⟨i0, hi0, hz0, hz1, hz2⟩ := info_parts Try.info_int
              go_wp2_with (at_builtin; refine wpList_append_own_at _ rfl _ _ 32 rfl N 3 i0 (.int .i64 0) 1 8 Try.underlying32 hi0 hz0 hz1 hz2 rfl (by decide) _ ys.length (ys.map iv) rfl HB4.out ⟨wr.heap.size, 0, none⟩ 1 1 [iv (x + 1)] rfl rfl ?c1 ?c2 ?c3 ?c4 ?c5 ?_)
              case c1 => exact HN.out
              case c2 => intro u hu; simp at hu; subst hu; rfl
              case c3 => have := HML.out; unfold maxLen; omega
              case c4 => have := HML.out; omega
              case c5 => simp; omega
              intro v' w5 hown' hgrow _ hat
              have HI5 := Lib.hid (HI.out.push hown' hgrow (by simpa using hat))
              clear HB4 HN hown' hgrow hat HI
              go_wp2
              go_roundw
              case rel => exact ⟨j + 1, by omega, by go_num, Lib.hid (by rw [irow_succ, HYS.out, HVV.out]; exact HI5.out)⟩
              case measure => simp [intOf]; omega
            · obtain rfl : j = (gr xss q).length := by omega
              have hrl := (HSM.out.rows _ (gr_mem hkx)).1
              have HBD : Hid (∀ x ∈ irow (gr xss q) (gr xss q).length, -2000 ≤ x ∧ x ≤ 2000) := Lib.hid (fun x hx => by
                obtain ⟨i, hi, rfl⟩ := List.mem_map.1 hx
                have := HSM.out.gi hkx (List.mem_range.1 hi)
                omega)
              obtain ⟨Ar, nr, cr, gg, e, rfl, ho, _⟩ := HI.out.bi.owns (by rw [irow_len]; omega) (fun x hx => by have := HBD.out x hx; omega)
              injection e with e1 _ e3
              subst e1
              subst e3
              have HO := Lib.hid ho
              have HML := Lib.hid (irow_len (gr xss q) (gr xss q).length)
              have HTL := Lib.hid (itab_len xss q)
              have hb := below_alloc wr (.cells #[.slice Au (irow (gr xss q) (gr xss q).length).length cu] 32)
              have HB4 := Lib.hid (HI.out.bo.below hb).own
              have HN := Lib.hid (cell_one_new wr (.slice Au (irow (gr xss q) (gr xss q).length).length cu) 32)
              have hHs := HI.out.hs
              have hlh := HI.out.lh
              have HMS := Lib.hid (itab_succ xss q)
              clear hb ho hR hR2
              generalize irow (gr xss q) (gr xss q).length = ys at *
              generalize itab xss q = ms at *
              obtain ⟨i0, hi0, hz0, hz1, hz2⟩ := info_parts Try.info_row
              go_wp2_with (at_builtin; refine wpList_append_own_at _ rfl _ _ 23 rfl w6a.heap.size 32 i0 (.slice none 0 0) 1 24 Try.underlying23 hi0 hz0 hz1 hz2 rfl (by decide) _ ms.length vs rfl HB4.out ⟨wr.heap.size, 0, none⟩ 1 1 [.slice Au ys.length cu] rfl rfl ?d1 ?d2 ?d3 ?d4 ?d5 ?_)
              case d2 => rfl
              case d3 => have := HTL.out; unfold maxLen; omega
              case d4 => have := HTL.out; omega
              case d5 => omega
              intro v' w5 hown' hgrow _ hat
              have HT5 := Lib.hid (HI.out.done HO.out hown' hgrow (by simpa using hat))
              clear HB4 HN hown' hgrow hat HI HO
              go_wp2
              go_roundw
              case rel => exact ⟨q + 1, _, by omega, by go_num, Lib.hid (by rw [HMS.out]; exact HT5.out)⟩
              case measure => simp [intOf]; omega
        · obtain rfl : q = k := by omega
          obtain ⟨A', n', c', gg, e, hn', hown⟩ := HT.out.bo.owns (by rw [itab_len]; omega)
          injection e with e1 e2 e3
          subst e1
          subst e2
          subst e3
          have hup := HT.out.up
          have HTE := HT
          clear HT
          have HR_m := Lib.hid (HR_6b.out.keep (Keep.below hup))
          have V0_m := Lib.hid (Keep.below hup _ _ V0.out)
          have V1_m := Lib.hid (Keep.below hup _ _ V1.out)
          have B_m := Lib.hid (below_up B_6b.out hup)
          have HO := Lib.hid (show IntRows wr As (itab xss xss.length).length cs (itab xss xss.length) by rw [LX.out]; exact hown.rows)
          rw [show (itab xss q).length = (itab xss xss.length).length by rw [itab_len, itab_len, LX.out]]
          clear hup hown HTE HR_6b V0 V1 B_6b
          have HC := Lib.hid (ValueOf_impl As (itab xss xss.length).length cs (itab xss xss.length) wr HO.out)
          rw [HUMV.out, HFM.out] at HC
          go_wp2_with fail
          refine HC.out.mono ?_
          rintro e w7 ⟨rfl, hb⟩
          have HR_7 := Lib.hid (HR_m.out.keep (Keep.below hb))
          have V0_7 := Lib.hid (Keep.below hb _ _ V0_m.out)
          have V1_7 := Lib.hid (Keep.below hb _ _ V1_m.out)
          have HO_7 := Lib.hid (HO.out.keep (Keep.below hb))
          have B_7 := Lib.hid (below_up B_m.out hb)
          clear hb HC HR_m V0_m V1_m HO B_m
          clear HO_7
          have hal := below_alloc w7 (.cells #[.int .i64 UM, .int .i64 DM] 28)
          have HR_7b := Lib.hid (HR_7.out.keep (Keep.below hal))
          have V0_7b := Lib.hid (Keep.below hal _ _ V0_7.out)
          have V1_7b := Lib.hid (Keep.below hal _ _ V1_7.out)
          have B_7b := Lib.hid (below_up B_7.out hal)
          have M0 := Lib.hid (blk_cell (blk_new w7 28 #[.int .i64 UM, .int .i64 DM]) (i := 0) (v := .int .i64 UM) rfl)
          have M1 := Lib.hid (blk_cell (blk_new w7 28 #[.int .i64 UM, .int .i64 DM]) (i := 1) (v := .int .i64 DM) rfl)
          clear hal HR_7 V0_7 V1_7 B_7
          have hkw : IntKind.i64.wrap ((q : Int) - 1) = ((q - 1 : Nat) : Int) := by rw [wrapIn (by omega)]; omega
          have HC := Lib.hid (ValueOf_impl _ (q - 1) cv (xss.take (q - 1)) (w7.alloc (.cells #[.int .i64 UM, .int .i64 DM] 28)) (HR_7b.out.take (by omega)))
          rw [HULV.out, HFL.out] at HC
          go_wp2_with fail
          generalize w7.alloc (.cells #[.int .i64 UM, .int .i64 DM] 28) = w7a at *
          generalize w7.heap.size = h7a at *
          refine HC.out.mono ?_
          rintro e w8 ⟨rfl, hb⟩
          have HR_8 := Lib.hid (HR_7b.out.keep (Keep.below hb))
          have V0_8 := Lib.hid (Keep.below hb _ _ V0_7b.out)
          have V1_8 := Lib.hid (Keep.below hb _ _ V1_7b.out)
          have M0_8 := Lib.hid (Keep.below hb _ _ M0.out)
          have M1_8 := Lib.hid (Keep.below hb _ _ M1.out)
          have B_8 := Lib.hid (below_up B_7b.out hb)
          clear hb HC HR_7b V0_7b V1_7b M0 M1 B_7b
          clear HR_8
          have hal := below_alloc w8 (.cells #[.int .i64 UL, .int .i64 DL] 28)
          have V0_8b := Lib.hid (Keep.below hal _ _ V0_8.out)
          have V1_8b := Lib.hid (Keep.below hal _ _ V1_8.out)
          have M0_8b := Lib.hid (Keep.below hal _ _ M0_8.out)
          have M1_8b := Lib.hid (Keep.below hal _ _ M1_8.out)
          have B_8b := Lib.hid (below_up B_8.out hal)
          have L0 := Lib.hid (blk_cell (blk_new w8 28 #[.int .i64 UL, .int .i64 DL]) (i := 0) (v := .int .i64 UL) rfl)
          have L1 := Lib.hid (blk_cell (blk_new w8 28 #[.int .i64 UL, .int .i64 DL]) (i := 1) (v := .int .i64 DL) rfl)
          clear hal V0_8 V1_8 M0_8 M1_8 B_8
          cases fm
          · cases fl
            · go_wp2_with fail
              generalize w8.alloc (.cells #[.int .i64 UL, .int .i64 DL] 28) = wL at *
              generalize w8.heap.size = hL at *
              have HS := Lib.hid (And.intro V0_8b.out (And.intro V1_8b.out (And.intro M0_8b.out (And.intro M1_8b.out (And.intro L0.out L1.out)))))
              have HB := Lib.hid B_8b.out.drew
              refine wp_region_held_drew (S := (fun W => W.cell? ⟨h6a, 0, none⟩ = some (.int .i64 U) ∧ W.cell? ⟨h6a, 1, none⟩ = some (.int .i64 D) ∧ W.cell? ⟨h7a, 0, none⟩ = some (.int .i64 UM) ∧ W.cell? ⟨h7a, 1, none⟩ = some (.int .i64 DM) ∧ W.cell? ⟨hL, 0, none⟩ = some (.int .i64 UL) ∧ W.cell? ⟨hL, 1, none⟩ = some (.int .i64 DL))) (by kernel_rfl) HS.out (fun hHeld => ?_)
              refine wpAnyH_take (i := 0) (oi := { dst := some 99, op := Go.Op.move (Go.Operand.tmp 15), type := 4, pos := "laws.go:1544", after := #[], guard := none }) (v := ?_) rfl (by kernel_rfl) (by kernel_rfl) (by kernel_rfl) (fun _ _ _ h => h) (Or.inl ⟨by rfl, ?_⟩) (by assumption) ?_
              rotate_left
              · (intro w hSw; (try dsimp only at hSw); go_simp; try with_reducible rfl)
              simp only [Act.put, List.setIfInBounds_toArray, List.set_cons_zero, List.set_cons_succ]
              refine wpAnyH_take (i := 1) (oi := { dst := some 100, op := Go.Op.unOp Go.UnOp.not 4 (Go.Operand.tmp 99), type := 4, pos := "laws.go:1544", after := #[{ on := 0, ground := Go.Ground.data }], guard := none }) (v := ?_) rfl (by kernel_rfl) (by kernel_rfl) (by kernel_rfl) (fun _ _ _ h => h) (Or.inl ⟨by rfl, ?_⟩) (by assumption) ?_
              rotate_left
              · (intro w hSw; (try dsimp only at hSw); go_simp; try with_reducible rfl)
              simp only [Act.put, List.setIfInBounds_toArray, List.set_cons_zero, List.set_cons_succ]
              refine wpAnyH_take (i := 2) (oi := { dst := some 101, op := Go.Op.move (Go.Operand.tmp 100), type := 4, pos := "laws.go:1544", after := #[{ on := 1, ground := Go.Ground.data }], guard := none }) (v := ?_) rfl (by kernel_rfl) (by kernel_rfl) (by kernel_rfl) (fun _ _ _ h => h) (Or.inl ⟨by rfl, ?_⟩) (by assumption) ?_
              rotate_left
              · (intro w hSw; (try dsimp only at hSw); go_simp; try with_reducible rfl)
              simp only [Act.put, List.setIfInBounds_toArray, List.set_cons_zero, List.set_cons_succ]
              refine wpAnyH_take (i := 3) (oi := { dst := some 102, op := Go.Op.load 28 (Go.Operand.tmp 14), type := 28, pos := "laws.go:1544", after := #[{ on := 2, ground := Go.Ground.guard }], guard := some (2, false) }) (v := undef) rfl (by kernel_rfl) (by kernel_rfl) (by kernel_rfl) (fun _ _ _ h => h) (Or.inr ⟨by rfl, rfl⟩) (by assumption) ?_
              simp only [Act.put, List.setIfInBounds_toArray, List.set_cons_zero, List.set_cons_succ]
              refine wpAnyH_take (i := 4) (oi := { dst := some 103, op := Go.Op.load 28 (Go.Operand.tmp 8), type := 28, pos := "laws.go:1544", after := #[{ on := 2, ground := Go.Ground.guard }], guard := some (2, false) }) (v := undef) rfl (by kernel_rfl) (by kernel_rfl) (by kernel_rfl) (fun _ _ _ h => h) (Or.inr ⟨by rfl, rfl⟩) (by assumption) ?_
              simp only [Act.put, List.setIfInBounds_toArray, List.set_cons_zero, List.set_cons_succ]
              refine wpAnyH_take (i := 5) (oi := { dst := some 104, op := Go.Op.call { callee := Go.Callee.value (Go.Operand.func 21), args := #[Go.Operand.const (Go.Value.int Go.IntKind.i64 1), Go.Operand.const (Go.Value.int Go.IntKind.i64 1)], argTypes := #[3, 3] }, type := 28, pos := "laws.go:1544", after := #[{ on := 2, ground := Go.Ground.chain }, { on := 2, ground := Go.Ground.guard }], guard := some (2, false) }) (v := undef) rfl (by kernel_rfl) (by kernel_rfl) (by kernel_rfl) (fun _ _ _ h => h) (Or.inr ⟨by rfl, rfl⟩) (by assumption) ?_
              simp only [Act.put, List.setIfInBounds_toArray, List.set_cons_zero, List.set_cons_succ]
              refine wpAnyH_take (i := 6) (oi := { dst := some 105, op := Go.Op.call { callee := Go.Callee.value (Go.Operand.func 26), args := #[Go.Operand.tmp 103, Go.Operand.tmp 104], argTypes := #[28, 28] }, type := 28, pos := "laws.go:1544", after := #[{ on := 4, ground := Go.Ground.data }, { on := 5, ground := Go.Ground.data }, { on := 5, ground := Go.Ground.chain }, { on := 2, ground := Go.Ground.guard }], guard := some (2, false) }) (v := undef) rfl (by kernel_rfl) (by kernel_rfl) (by kernel_rfl) (fun _ _ _ h => h) (Or.inr ⟨by rfl, rfl⟩) (by assumption) ?_
              simp only [Act.put, List.setIfInBounds_toArray, List.set_cons_zero, List.set_cons_succ]
              refine wpAnyH_take (i := 7) (oi := { dst := some 106, op := Go.Op.binOp Go.BinOp.eql 28 (Go.Operand.tmp 102) (Go.Operand.tmp 105) 28, type := 4, pos := "laws.go:1544", after := #[{ on := 3, ground := Go.Ground.data }, { on := 6, ground := Go.Ground.data }, { on := 2, ground := Go.Ground.guard }], guard := some (2, false) }) (v := undef) rfl (by kernel_rfl) (by kernel_rfl) (by kernel_rfl) (fun _ _ _ h => h) (Or.inr ⟨by rfl, rfl⟩) (by assumption) ?_
              simp only [Act.put, List.setIfInBounds_toArray, List.set_cons_zero, List.set_cons_succ]
              refine wpAnyH_take (i := 8) (oi := { dst := some 107, op := Go.Op.pick (Go.Operand.tmp 101) (Go.Operand.const (Go.Value.bool true)) (Go.Operand.tmp 106), type := 4, pos := "laws.go:1544", after := #[{ on := 2, ground := Go.Ground.data }, { on := 7, ground := Go.Ground.data }], guard := none }) (v := ?_) rfl (by kernel_rfl) (by kernel_rfl) (by kernel_rfl) (fun _ _ _ h => h) (Or.inl ⟨by rfl, ?_⟩) (by assumption) ?_
              rotate_left
              · (intro w hSw; (try dsimp only at hSw); go_simp; try with_reducible rfl)
              simp only [Act.put, List.setIfInBounds_toArray, List.set_cons_zero, List.set_cons_succ]
              refine wpAnyH_take (i := 9) (oi := { dst := some 108, op := Go.Op.move (Go.Operand.tmp 107), type := 4, pos := "laws.go:1544", after := #[{ on := 8, ground := Go.Ground.data }, { on := 6, ground := Go.Ground.chain }], guard := none }) (v := ?_) rfl (by kernel_rfl) (by kernel_rfl) (by kernel_rfl) (fun _ _ _ h => h) (Or.inl ⟨by rfl, ?_⟩) (by assumption) ?_
              rotate_left
              · (intro w hSw; (try dsimp only at hSw); go_simp; try with_reducible rfl)
              simp only [Act.put, List.setIfInBounds_toArray, List.set_cons_zero, List.set_cons_succ]
              refine wpAnyH_take (i := 10) (oi := { dst := some 109, op := Go.Op.move (Go.Operand.tmp 17), type := 4, pos := "laws.go:1544", after := #[{ on := 9, ground := Go.Ground.guard }], guard := some (9, true) }) (v := ?_) rfl (by kernel_rfl) (by kernel_rfl) (by kernel_rfl) (fun _ _ _ h => h) (Or.inl ⟨by rfl, ?_⟩) (by assumption) ?_
              rotate_left
              · (intro w hSw; (try dsimp only at hSw); go_simp; try with_reducible rfl)
              simp only [Act.put, List.setIfInBounds_toArray, List.set_cons_zero, List.set_cons_succ]
              refine wpAnyH_take (i := 11) (oi := { dst := some 110, op := Go.Op.unOp Go.UnOp.not 4 (Go.Operand.tmp 109), type := 4, pos := "laws.go:1544", after := #[{ on := 10, ground := Go.Ground.data }, { on := 9, ground := Go.Ground.guard }], guard := some (9, true) }) (v := ?_) rfl (by kernel_rfl) (by kernel_rfl) (by kernel_rfl) (fun _ _ _ h => h) (Or.inl ⟨by rfl, ?_⟩) (by assumption) ?_
              rotate_left
              · (intro w hSw; (try dsimp only at hSw); go_simp; try with_reducible rfl)
              simp only [Act.put, List.setIfInBounds_toArray, List.set_cons_zero, List.set_cons_succ]
              refine wpAnyH_take (i := 12) (oi := { dst := some 111, op := Go.Op.move (Go.Operand.tmp 110), type := 4, pos := "laws.go:1544", after := #[{ on := 11, ground := Go.Ground.data }, { on := 9, ground := Go.Ground.chain }, { on := 9, ground := Go.Ground.guard }], guard := some (9, true) }) (v := ?_) rfl (by kernel_rfl) (by kernel_rfl) (by kernel_rfl) (fun _ _ _ h => h) (Or.inl ⟨by rfl, ?_⟩) (by assumption) ?_
              rotate_left
              · (intro w hSw; (try dsimp only at hSw); go_simp; try with_reducible rfl)
              simp only [Act.put, List.setIfInBounds_toArray, List.set_cons_zero, List.set_cons_succ]
              refine wpAnyH_take (i := 13) (oi := { dst := some 112, op := Go.Op.load 28 (Go.Operand.tmp 8), type := 28, pos := "laws.go:1544", after := #[{ on := 12, ground := Go.Ground.guard }], guard := some (12, false) }) (v := undef) rfl (by kernel_rfl) (by kernel_rfl) (by kernel_rfl) (fun _ _ _ h => h) (Or.inr ⟨by rfl, rfl⟩) (by assumption) ?_
              simp only [Act.put, List.setIfInBounds_toArray, List.set_cons_zero, List.set_cons_succ]
              refine wpAnyH_take (i := 14) (oi := { dst := some 113, op := Go.Op.load 28 (Go.Operand.tmp 16), type := 28, pos := "laws.go:1544", after := #[{ on := 12, ground := Go.Ground.guard }], guard := some (12, false) }) (v := undef) rfl (by kernel_rfl) (by kernel_rfl) (by kernel_rfl) (fun _ _ _ h => h) (Or.inr ⟨by rfl, rfl⟩) (by assumption) ?_
              simp only [Act.put, List.setIfInBounds_toArray, List.set_cons_zero, List.set_cons_succ]
              refine wpAnyH_take (i := 15) (oi := { dst := some 114, op := Go.Op.call { callee := Go.Callee.value (Go.Operand.func 20), args := #[Go.Operand.tmp 112, Go.Operand.tmp 113], argTypes := #[28, 28] }, type := 4, pos := "laws.go:1544", after := #[{ on := 13, ground := Go.Ground.data }, { on := 14, ground := Go.Ground.data }, { on := 12, ground := Go.Ground.chain }, { on := 12, ground := Go.Ground.guard }], guard := some (12, false) }) (v := undef) rfl (by kernel_rfl) (by kernel_rfl) (by kernel_rfl) (fun _ _ _ h => h) (Or.inr ⟨by rfl, rfl⟩) (by assumption) ?_
              simp only [Act.put, List.setIfInBounds_toArray, List.set_cons_zero, List.set_cons_succ]
              refine wpAnyH_take (i := 16) (oi := { dst := some 115, op := Go.Op.unOp Go.UnOp.not 4 (Go.Operand.tmp 114), type := 4, pos := "laws.go:1544", after := #[{ on := 15, ground := Go.Ground.data }, { on := 12, ground := Go.Ground.guard }], guard := some (12, false) }) (v := undef) rfl (by kernel_rfl) (by kernel_rfl) (by kernel_rfl) (fun _ _ _ h => h) (Or.inr ⟨by rfl, rfl⟩) (by assumption) ?_
              simp only [Act.put, List.setIfInBounds_toArray, List.set_cons_zero, List.set_cons_succ]
              refine wpAnyH_take (i := 17) (oi := { dst := some 116, op := Go.Op.pick (Go.Operand.tmp 111) (Go.Operand.const (Go.Value.bool true)) (Go.Operand.tmp 115), type := 4, pos := "laws.go:1544", after := #[{ on := 12, ground := Go.Ground.data }, { on := 16, ground := Go.Ground.data }, { on := 9, ground := Go.Ground.guard }], guard := some (9, true) }) (v := ?_) rfl (by kernel_rfl) (by kernel_rfl) (by kernel_rfl) (fun _ _ _ h => h) (Or.inl ⟨by rfl, ?_⟩) (by assumption) ?_
              rotate_left
              · (intro w hSw; (try dsimp only at hSw); go_simp; try with_reducible rfl)
              simp only [Act.put, List.setIfInBounds_toArray, List.set_cons_zero, List.set_cons_succ]
              refine wpAnyH_take (i := 18) (oi := { dst := some 117, op := Go.Op.pick (Go.Operand.tmp 108) (Go.Operand.tmp 116) (Go.Operand.const (Go.Value.bool false)), type := 4, pos := "laws.go:1544", after := #[{ on := 9, ground := Go.Ground.data }, { on := 17, ground := Go.Ground.data }], guard := none }) (v := ?_) rfl (by kernel_rfl) (by kernel_rfl) (by kernel_rfl) (fun _ _ _ h => h) (Or.inl ⟨by rfl, ?_⟩) (by assumption) ?_
              rotate_left
              · (intro w hSw; (try dsimp only at hSw); go_simp; try with_reducible rfl)
              simp only [Act.put, List.setIfInBounds_toArray, List.set_cons_zero, List.set_cons_succ]
              refine wpAnyH_take (i := 19) (oi := { dst := some 2, op := Go.Op.assign (Go.Operand.tmp 117), type := 4, pos := "laws.go:1544", after := #[{ on := 18, ground := Go.Ground.data }, { on := 15, ground := Go.Ground.chain }, { on := 0, ground := Go.Ground.phase }, { on := 1, ground := Go.Ground.phase }, { on := 2, ground := Go.Ground.phase }, { on := 3, ground := Go.Ground.phase }, { on := 4, ground := Go.Ground.phase }, { on := 5, ground := Go.Ground.phase }, { on := 6, ground := Go.Ground.phase }, { on := 7, ground := Go.Ground.phase }, { on := 8, ground := Go.Ground.phase }, { on := 9, ground := Go.Ground.phase }, { on := 10, ground := Go.Ground.phase }, { on := 11, ground := Go.Ground.phase }, { on := 12, ground := Go.Ground.phase }, { on := 13, ground := Go.Ground.phase }, { on := 14, ground := Go.Ground.phase }, { on := 15, ground := Go.Ground.phase }, { on := 16, ground := Go.Ground.phase }, { on := 17, ground := Go.Ground.phase }, { on := 18, ground := Go.Ground.phase }], guard := none }) (v := ?_) rfl (by kernel_rfl) (by kernel_rfl) (by kernel_rfl) (fun _ _ _ h => h) (Or.inl ⟨by rfl, ?_⟩) (by assumption) ?_
              rotate_left
              · (intro w hSw; (try dsimp only at hSw); go_simp; try with_reducible rfl)
              simp only [Act.put, List.setIfInBounds_toArray, List.set_cons_zero, List.set_cons_succ]
              refine wpAnyH_done (by kernel_rfl) ?_ _
              go_wp2
              go_ret
              exact ⟨rfl, HB.out⟩
            · go_wp2_with fail
              generalize w8.alloc (.cells #[.int .i64 UL, .int .i64 DL] 28) = wL at *
              generalize w8.heap.size = hL at *
              have HS := Lib.hid (And.intro V0_8b.out (And.intro V1_8b.out (And.intro M0_8b.out (And.intro M1_8b.out (And.intro L0.out L1.out)))))
              have HB := Lib.hid B_8b.out.drew
              have HLL := Lib.hid (HL.out (by simp))
              obtain ⟨_, ⟨l1, l2⟩, l3, l4⟩ := HL.out (by simp)
              refine wp_region_held_drew (S := (fun W => W.cell? ⟨h6a, 0, none⟩ = some (.int .i64 U) ∧ W.cell? ⟨h6a, 1, none⟩ = some (.int .i64 D) ∧ W.cell? ⟨h7a, 0, none⟩ = some (.int .i64 UM) ∧ W.cell? ⟨h7a, 1, none⟩ = some (.int .i64 DM) ∧ W.cell? ⟨hL, 0, none⟩ = some (.int .i64 UL) ∧ W.cell? ⟨hL, 1, none⟩ = some (.int .i64 DL))) (by kernel_rfl) HS.out (fun hHeld => ?_)
              refine wpAnyH_take (i := 0) (oi := { dst := some 99, op := Go.Op.move (Go.Operand.tmp 15), type := 4, pos := "laws.go:1544", after := #[], guard := none }) (v := ?_) rfl (by kernel_rfl) (by kernel_rfl) (by kernel_rfl) (fun _ _ _ h => h) (Or.inl ⟨by rfl, ?_⟩) (by assumption) ?_
              rotate_left
              · (intro w hSw; (try dsimp only at hSw); go_simp; try with_reducible rfl)
              simp only [Act.put, List.setIfInBounds_toArray, List.set_cons_zero, List.set_cons_succ]
              refine wpAnyH_take (i := 1) (oi := { dst := some 100, op := Go.Op.unOp Go.UnOp.not 4 (Go.Operand.tmp 99), type := 4, pos := "laws.go:1544", after := #[{ on := 0, ground := Go.Ground.data }], guard := none }) (v := ?_) rfl (by kernel_rfl) (by kernel_rfl) (by kernel_rfl) (fun _ _ _ h => h) (Or.inl ⟨by rfl, ?_⟩) (by assumption) ?_
              rotate_left
              · (intro w hSw; (try dsimp only at hSw); go_simp; try with_reducible rfl)
              simp only [Act.put, List.setIfInBounds_toArray, List.set_cons_zero, List.set_cons_succ]
              refine wpAnyH_take (i := 2) (oi := { dst := some 101, op := Go.Op.move (Go.Operand.tmp 100), type := 4, pos := "laws.go:1544", after := #[{ on := 1, ground := Go.Ground.data }], guard := none }) (v := ?_) rfl (by kernel_rfl) (by kernel_rfl) (by kernel_rfl) (fun _ _ _ h => h) (Or.inl ⟨by rfl, ?_⟩) (by assumption) ?_
              rotate_left
              · (intro w hSw; (try dsimp only at hSw); go_simp; try with_reducible rfl)
              simp only [Act.put, List.setIfInBounds_toArray, List.set_cons_zero, List.set_cons_succ]
              refine wpAnyH_take (i := 3) (oi := { dst := some 102, op := Go.Op.load 28 (Go.Operand.tmp 14), type := 28, pos := "laws.go:1544", after := #[{ on := 2, ground := Go.Ground.guard }], guard := some (2, false) }) (v := undef) rfl (by kernel_rfl) (by kernel_rfl) (by kernel_rfl) (fun _ _ _ h => h) (Or.inr ⟨by rfl, rfl⟩) (by assumption) ?_
              simp only [Act.put, List.setIfInBounds_toArray, List.set_cons_zero, List.set_cons_succ]
              refine wpAnyH_take (i := 4) (oi := { dst := some 103, op := Go.Op.load 28 (Go.Operand.tmp 8), type := 28, pos := "laws.go:1544", after := #[{ on := 2, ground := Go.Ground.guard }], guard := some (2, false) }) (v := undef) rfl (by kernel_rfl) (by kernel_rfl) (by kernel_rfl) (fun _ _ _ h => h) (Or.inr ⟨by rfl, rfl⟩) (by assumption) ?_
              simp only [Act.put, List.setIfInBounds_toArray, List.set_cons_zero, List.set_cons_succ]
              refine wpAnyH_take (i := 5) (oi := { dst := some 104, op := Go.Op.call { callee := Go.Callee.value (Go.Operand.func 21), args := #[Go.Operand.const (Go.Value.int Go.IntKind.i64 1), Go.Operand.const (Go.Value.int Go.IntKind.i64 1)], argTypes := #[3, 3] }, type := 28, pos := "laws.go:1544", after := #[{ on := 2, ground := Go.Ground.chain }, { on := 2, ground := Go.Ground.guard }], guard := some (2, false) }) (v := undef) rfl (by kernel_rfl) (by kernel_rfl) (by kernel_rfl) (fun _ _ _ h => h) (Or.inr ⟨by rfl, rfl⟩) (by assumption) ?_
              simp only [Act.put, List.setIfInBounds_toArray, List.set_cons_zero, List.set_cons_succ]
              refine wpAnyH_take (i := 6) (oi := { dst := some 105, op := Go.Op.call { callee := Go.Callee.value (Go.Operand.func 26), args := #[Go.Operand.tmp 103, Go.Operand.tmp 104], argTypes := #[28, 28] }, type := 28, pos := "laws.go:1544", after := #[{ on := 4, ground := Go.Ground.data }, { on := 5, ground := Go.Ground.data }, { on := 5, ground := Go.Ground.chain }, { on := 2, ground := Go.Ground.guard }], guard := some (2, false) }) (v := undef) rfl (by kernel_rfl) (by kernel_rfl) (by kernel_rfl) (fun _ _ _ h => h) (Or.inr ⟨by rfl, rfl⟩) (by assumption) ?_
              simp only [Act.put, List.setIfInBounds_toArray, List.set_cons_zero, List.set_cons_succ]
              refine wpAnyH_take (i := 7) (oi := { dst := some 106, op := Go.Op.binOp Go.BinOp.eql 28 (Go.Operand.tmp 102) (Go.Operand.tmp 105) 28, type := 4, pos := "laws.go:1544", after := #[{ on := 3, ground := Go.Ground.data }, { on := 6, ground := Go.Ground.data }, { on := 2, ground := Go.Ground.guard }], guard := some (2, false) }) (v := undef) rfl (by kernel_rfl) (by kernel_rfl) (by kernel_rfl) (fun _ _ _ h => h) (Or.inr ⟨by rfl, rfl⟩) (by assumption) ?_
              simp only [Act.put, List.setIfInBounds_toArray, List.set_cons_zero, List.set_cons_succ]
              refine wpAnyH_take (i := 8) (oi := { dst := some 107, op := Go.Op.pick (Go.Operand.tmp 101) (Go.Operand.const (Go.Value.bool true)) (Go.Operand.tmp 106), type := 4, pos := "laws.go:1544", after := #[{ on := 2, ground := Go.Ground.data }, { on := 7, ground := Go.Ground.data }], guard := none }) (v := ?_) rfl (by kernel_rfl) (by kernel_rfl) (by kernel_rfl) (fun _ _ _ h => h) (Or.inl ⟨by rfl, ?_⟩) (by assumption) ?_
              rotate_left
              · (intro w hSw; (try dsimp only at hSw); go_simp; try with_reducible rfl)
              simp only [Act.put, List.setIfInBounds_toArray, List.set_cons_zero, List.set_cons_succ]
              refine wpAnyH_take (i := 9) (oi := { dst := some 108, op := Go.Op.move (Go.Operand.tmp 107), type := 4, pos := "laws.go:1544", after := #[{ on := 8, ground := Go.Ground.data }, { on := 6, ground := Go.Ground.chain }], guard := none }) (v := ?_) rfl (by kernel_rfl) (by kernel_rfl) (by kernel_rfl) (fun _ _ _ h => h) (Or.inl ⟨by rfl, ?_⟩) (by assumption) ?_
              rotate_left
              · (intro w hSw; (try dsimp only at hSw); go_simp; try with_reducible rfl)
              simp only [Act.put, List.setIfInBounds_toArray, List.set_cons_zero, List.set_cons_succ]
              refine wpAnyH_take (i := 10) (oi := { dst := some 109, op := Go.Op.move (Go.Operand.tmp 17), type := 4, pos := "laws.go:1544", after := #[{ on := 9, ground := Go.Ground.guard }], guard := some (9, true) }) (v := ?_) rfl (by kernel_rfl) (by kernel_rfl) (by kernel_rfl) (fun _ _ _ h => h) (Or.inl ⟨by rfl, ?_⟩) (by assumption) ?_
              rotate_left
              · (intro w hSw; (try dsimp only at hSw); go_simp; try with_reducible rfl)
              simp only [Act.put, List.setIfInBounds_toArray, List.set_cons_zero, List.set_cons_succ]
              refine wpAnyH_take (i := 11) (oi := { dst := some 110, op := Go.Op.unOp Go.UnOp.not 4 (Go.Operand.tmp 109), type := 4, pos := "laws.go:1544", after := #[{ on := 10, ground := Go.Ground.data }, { on := 9, ground := Go.Ground.guard }], guard := some (9, true) }) (v := ?_) rfl (by kernel_rfl) (by kernel_rfl) (by kernel_rfl) (fun _ _ _ h => h) (Or.inl ⟨by rfl, ?_⟩) (by assumption) ?_
              rotate_left
              · (intro w hSw; (try dsimp only at hSw); go_simp; try with_reducible rfl)
              simp only [Act.put, List.setIfInBounds_toArray, List.set_cons_zero, List.set_cons_succ]
              refine wpAnyH_take (i := 12) (oi := { dst := some 111, op := Go.Op.move (Go.Operand.tmp 110), type := 4, pos := "laws.go:1544", after := #[{ on := 11, ground := Go.Ground.data }, { on := 9, ground := Go.Ground.chain }, { on := 9, ground := Go.Ground.guard }], guard := some (9, true) }) (v := ?_) rfl (by kernel_rfl) (by kernel_rfl) (by kernel_rfl) (fun _ _ _ h => h) (Or.inl ⟨by rfl, ?_⟩) (by assumption) ?_
              rotate_left
              · (intro w hSw; (try dsimp only at hSw); go_simp; try with_reducible rfl)
              simp only [Act.put, List.setIfInBounds_toArray, List.set_cons_zero, List.set_cons_succ]
              refine wpAnyH_take (i := 13) (oi := { dst := some 112, op := Go.Op.load 28 (Go.Operand.tmp 8), type := 28, pos := "laws.go:1544", after := #[{ on := 12, ground := Go.Ground.guard }], guard := some (12, false) }) (v := ?_) rfl (by kernel_rfl) (by kernel_rfl) (by kernel_rfl) (fun _ _ _ h => h) (Or.inl ⟨by rfl, ?_⟩) (by assumption) ?_
              rotate_left
              · (intro w hSw; (try dsimp only at hSw); go_simp; try with_reducible rfl)
              simp only [Act.put, List.setIfInBounds_toArray, List.set_cons_zero, List.set_cons_succ]
              refine wpAnyH_take (i := 14) (oi := { dst := some 113, op := Go.Op.load 28 (Go.Operand.tmp 16), type := 28, pos := "laws.go:1544", after := #[{ on := 12, ground := Go.Ground.guard }], guard := some (12, false) }) (v := ?_) rfl (by kernel_rfl) (by kernel_rfl) (by kernel_rfl) (fun _ _ _ h => h) (Or.inl ⟨by rfl, ?_⟩) (by assumption) ?_
              rotate_left
              · (intro w hSw; (try dsimp only at hSw); go_simp; try with_reducible rfl)
              simp only [Act.put, List.setIfInBounds_toArray, List.set_cons_zero, List.set_cons_succ]
              refine wpAnyH_ready (rs := [15]) (by kernel_rfl) (by simp) ?_
              refine AllReadyH.cons (o := { dst := some 114, op := Go.Op.call { callee := Go.Callee.value (Go.Operand.func 20), args := #[Go.Operand.tmp 112, Go.Operand.tmp 113], argTypes := #[28, 28] }, type := 4, pos := "laws.go:1544", after := #[{ on := 13, ground := Go.Ground.data }, { on := 14, ground := Go.Ground.data }, { on := 12, ground := Go.Ground.chain }, { on := 12, ground := Go.Ground.guard }], guard := some (12, false) }) rfl (fun K hK => ?_) AllReadyH.nil
              go_simp
              (go_at_call 20; (with_reducible refine (HLL.out.1 ▸ lessOf_any U D UL DL _ (by omega) (by omega) (by omega) (by omega)).mono ?_); rintro e v3 ⟨rfl, hb⟩; have S3 := Lib.hid (And.intro (Keep.below hb _ _ HS.out.1) (And.intro (Keep.below hb _ _ HS.out.2.1) (And.intro (Keep.below hb _ _ HS.out.2.2.1) (And.intro (Keep.below hb _ _ HS.out.2.2.2.1) (And.intro (Keep.below hb _ _ HS.out.2.2.2.2.1) (Keep.below hb _ _ HS.out.2.2.2.2.2)))))); have D3 := Lib.hid (below_up HB.out hb); clear hb HB)
              refine hK.out _ _ S3.out (fun hHeld => ?_)
              clear hK K
              try simp only [Act.put, List.setIfInBounds_toArray, List.set_cons_zero, List.set_cons_succ]
              refine wpAnyH_take (i := 16) (oi := { dst := some 115, op := Go.Op.unOp Go.UnOp.not 4 (Go.Operand.tmp 114), type := 4, pos := "laws.go:1544", after := #[{ on := 15, ground := Go.Ground.data }, { on := 12, ground := Go.Ground.guard }], guard := some (12, false) }) (v := ?_) rfl (by kernel_rfl) (by kernel_rfl) (by kernel_rfl) (fun _ _ _ h => h) (Or.inl ⟨by rfl, ?_⟩) (by assumption) ?_
              rotate_left
              · (intro w hSw; (try dsimp only at hSw); go_simp; try with_reducible rfl)
              simp only [Act.put, List.setIfInBounds_toArray, List.set_cons_zero, List.set_cons_succ]
              refine wpAnyH_take (i := 17) (oi := { dst := some 116, op := Go.Op.pick (Go.Operand.tmp 111) (Go.Operand.const (Go.Value.bool true)) (Go.Operand.tmp 115), type := 4, pos := "laws.go:1544", after := #[{ on := 12, ground := Go.Ground.data }, { on := 16, ground := Go.Ground.data }, { on := 9, ground := Go.Ground.guard }], guard := some (9, true) }) (v := ?_) rfl (by kernel_rfl) (by kernel_rfl) (by kernel_rfl) (fun _ _ _ h => h) (Or.inl ⟨by rfl, ?_⟩) (by assumption) ?_
              rotate_left
              · (intro w hSw; (try dsimp only at hSw); go_simp; try with_reducible rfl)
              simp only [Act.put, List.setIfInBounds_toArray, List.set_cons_zero, List.set_cons_succ]
              refine wpAnyH_take (i := 18) (oi := { dst := some 117, op := Go.Op.pick (Go.Operand.tmp 108) (Go.Operand.tmp 116) (Go.Operand.const (Go.Value.bool false)), type := 4, pos := "laws.go:1544", after := #[{ on := 9, ground := Go.Ground.data }, { on := 17, ground := Go.Ground.data }], guard := none }) (v := ?_) rfl (by kernel_rfl) (by kernel_rfl) (by kernel_rfl) (fun _ _ _ h => h) (Or.inl ⟨by rfl, ?_⟩) (by assumption) ?_
              rotate_left
              · (intro w hSw; (try dsimp only at hSw); go_simp; try with_reducible rfl)
              simp only [Act.put, List.setIfInBounds_toArray, List.set_cons_zero, List.set_cons_succ]
              refine wpAnyH_take (i := 19) (oi := { dst := some 2, op := Go.Op.assign (Go.Operand.tmp 117), type := 4, pos := "laws.go:1544", after := #[{ on := 18, ground := Go.Ground.data }, { on := 15, ground := Go.Ground.chain }, { on := 0, ground := Go.Ground.phase }, { on := 1, ground := Go.Ground.phase }, { on := 2, ground := Go.Ground.phase }, { on := 3, ground := Go.Ground.phase }, { on := 4, ground := Go.Ground.phase }, { on := 5, ground := Go.Ground.phase }, { on := 6, ground := Go.Ground.phase }, { on := 7, ground := Go.Ground.phase }, { on := 8, ground := Go.Ground.phase }, { on := 9, ground := Go.Ground.phase }, { on := 10, ground := Go.Ground.phase }, { on := 11, ground := Go.Ground.phase }, { on := 12, ground := Go.Ground.phase }, { on := 13, ground := Go.Ground.phase }, { on := 14, ground := Go.Ground.phase }, { on := 15, ground := Go.Ground.phase }, { on := 16, ground := Go.Ground.phase }, { on := 17, ground := Go.Ground.phase }, { on := 18, ground := Go.Ground.phase }], guard := none }) (v := ?_) rfl (by kernel_rfl) (by kernel_rfl) (by kernel_rfl) (fun _ _ _ h => h) (Or.inl ⟨by rfl, ?_⟩) (by assumption) ?_
              rotate_left
              · (intro w hSw; (try dsimp only at hSw); go_simp; try with_reducible rfl)
              simp only [Act.put, List.setIfInBounds_toArray, List.set_cons_zero, List.set_cons_succ]
              refine wpAnyH_done (by kernel_rfl) ?_ _
              go_wp2
              go_ret
              exact ⟨rfl, D3.out⟩
          · cases fl
            · go_wp2_with fail
              generalize w8.alloc (.cells #[.int .i64 UL, .int .i64 DL] 28) = wL at *
              generalize w8.heap.size = hL at *
              have HS := Lib.hid (And.intro V0_8b.out (And.intro V1_8b.out (And.intro M0_8b.out (And.intro M1_8b.out (And.intro L0.out L1.out)))))
              have HB := Lib.hid B_8b.out.drew
              have HPQ := Lib.hid (HM.out (by simp))
              refine wp_region_held_drew (S := (fun W => W.cell? ⟨h6a, 0, none⟩ = some (.int .i64 U) ∧ W.cell? ⟨h6a, 1, none⟩ = some (.int .i64 D) ∧ W.cell? ⟨h7a, 0, none⟩ = some (.int .i64 UM) ∧ W.cell? ⟨h7a, 1, none⟩ = some (.int .i64 DM) ∧ W.cell? ⟨hL, 0, none⟩ = some (.int .i64 UL) ∧ W.cell? ⟨hL, 1, none⟩ = some (.int .i64 DL))) (by kernel_rfl) HS.out (fun hHeld => ?_)
              refine wpAnyH_take (i := 0) (oi := { dst := some 99, op := Go.Op.move (Go.Operand.tmp 15), type := 4, pos := "laws.go:1544", after := #[], guard := none }) (v := ?_) rfl (by kernel_rfl) (by kernel_rfl) (by kernel_rfl) (fun _ _ _ h => h) (Or.inl ⟨by rfl, ?_⟩) (by assumption) ?_
              rotate_left
              · (intro w hSw; (try dsimp only at hSw); go_simp; try with_reducible rfl)
              simp only [Act.put, List.setIfInBounds_toArray, List.set_cons_zero, List.set_cons_succ]
              refine wpAnyH_take (i := 1) (oi := { dst := some 100, op := Go.Op.unOp Go.UnOp.not 4 (Go.Operand.tmp 99), type := 4, pos := "laws.go:1544", after := #[{ on := 0, ground := Go.Ground.data }], guard := none }) (v := ?_) rfl (by kernel_rfl) (by kernel_rfl) (by kernel_rfl) (fun _ _ _ h => h) (Or.inl ⟨by rfl, ?_⟩) (by assumption) ?_
              rotate_left
              · (intro w hSw; (try dsimp only at hSw); go_simp; try with_reducible rfl)
              simp only [Act.put, List.setIfInBounds_toArray, List.set_cons_zero, List.set_cons_succ]
              refine wpAnyH_take (i := 2) (oi := { dst := some 101, op := Go.Op.move (Go.Operand.tmp 100), type := 4, pos := "laws.go:1544", after := #[{ on := 1, ground := Go.Ground.data }], guard := none }) (v := ?_) rfl (by kernel_rfl) (by kernel_rfl) (by kernel_rfl) (fun _ _ _ h => h) (Or.inl ⟨by rfl, ?_⟩) (by assumption) ?_
              rotate_left
              · (intro w hSw; (try dsimp only at hSw); go_simp; try with_reducible rfl)
              simp only [Act.put, List.setIfInBounds_toArray, List.set_cons_zero, List.set_cons_succ]
              refine wpAnyH_take (i := 3) (oi := { dst := some 102, op := Go.Op.load 28 (Go.Operand.tmp 14), type := 28, pos := "laws.go:1544", after := #[{ on := 2, ground := Go.Ground.guard }], guard := some (2, false) }) (v := ?_) rfl (by kernel_rfl) (by kernel_rfl) (by kernel_rfl) (fun _ _ _ h => h) (Or.inl ⟨by rfl, ?_⟩) (by assumption) ?_
              rotate_left
              · (intro w hSw; (try dsimp only at hSw); go_simp; try with_reducible rfl)
              simp only [Act.put, List.setIfInBounds_toArray, List.set_cons_zero, List.set_cons_succ]
              refine wpAnyH_take (i := 4) (oi := { dst := some 103, op := Go.Op.load 28 (Go.Operand.tmp 8), type := 28, pos := "laws.go:1544", after := #[{ on := 2, ground := Go.Ground.guard }], guard := some (2, false) }) (v := ?_) rfl (by kernel_rfl) (by kernel_rfl) (by kernel_rfl) (fun _ _ _ h => h) (Or.inl ⟨by rfl, ?_⟩) (by assumption) ?_
              rotate_left
              · (intro w hSw; (try dsimp only at hSw); go_simp; try with_reducible rfl)
              simp only [Act.put, List.setIfInBounds_toArray, List.set_cons_zero, List.set_cons_succ]
              refine wpAnyH_ready (rs := [5]) (by kernel_rfl) (by simp) ?_
              refine AllReadyH.cons (o := { dst := some 104, op := Go.Op.call { callee := Go.Callee.value (Go.Operand.func 21), args := #[Go.Operand.const (Go.Value.int Go.IntKind.i64 1), Go.Operand.const (Go.Value.int Go.IntKind.i64 1)], argTypes := #[3, 3] }, type := 28, pos := "laws.go:1544", after := #[{ on := 2, ground := Go.Ground.chain }, { on := 2, ground := Go.Ground.guard }], guard := some (2, false) }) rfl (fun K hK => ?_) AllReadyH.nil
              go_simp
              (go_at_call 21; (with_reducible refine (HMO.out ▸ fracOfL_any 1 1 _ (by unfold Mid; omega) (by unfold Mid; omega) (by omega)).mono ?_); rintro e v1 ⟨rfl, hb⟩; have S1 := Lib.hid (And.intro (Keep.below hb _ _ HS.out.1) (And.intro (Keep.below hb _ _ HS.out.2.1) (And.intro (Keep.below hb _ _ HS.out.2.2.1) (And.intro (Keep.below hb _ _ HS.out.2.2.2.1) (And.intro (Keep.below hb _ _ HS.out.2.2.2.2.1) (Keep.below hb _ _ HS.out.2.2.2.2.2)))))); have D1 := Lib.hid (below_up HB.out hb); clear hb HB)
              refine hK.out _ _ S1.out (fun hHeld => ?_)
              clear hK K
              try simp only [Act.put, List.setIfInBounds_toArray, List.set_cons_zero, List.set_cons_succ]
              refine wpAnyH_ready (rs := [6]) (by kernel_rfl) (by simp) ?_
              refine AllReadyH.cons (o := { dst := some 105, op := Go.Op.call { callee := Go.Callee.value (Go.Operand.func 26), args := #[Go.Operand.tmp 103, Go.Operand.tmp 104], argTypes := #[28, 28] }, type := 28, pos := "laws.go:1544", after := #[{ on := 4, ground := Go.Ground.data }, { on := 5, ground := Go.Ground.data }, { on := 5, ground := Go.Ground.chain }, { on := 2, ground := Go.Ground.guard }], guard := some (2, false) }) rfl (fun K hK => ?_) AllReadyH.nil
              go_simp
              (go_at_call 26; (with_reducible refine (HPQ.out ▸ plusOf_any U D 1 1 _ (by omega) (by omega) (by omega) (by omega) (by unfold Mid; omega)).mono ?_); rintro e v2 ⟨rfl, hb⟩; have S2 := Lib.hid (And.intro (Keep.below hb _ _ S1.out.1) (And.intro (Keep.below hb _ _ S1.out.2.1) (And.intro (Keep.below hb _ _ S1.out.2.2.1) (And.intro (Keep.below hb _ _ S1.out.2.2.2.1) (And.intro (Keep.below hb _ _ S1.out.2.2.2.2.1) (Keep.below hb _ _ S1.out.2.2.2.2.2)))))); have D2 := Lib.hid (below_up D1.out hb); clear hb D1)
              refine hK.out _ _ S2.out (fun hHeld => ?_)
              clear hK K
              try simp only [Act.put, List.setIfInBounds_toArray, List.set_cons_zero, List.set_cons_succ]
              refine wpAnyH_take (i := 7) (oi := { dst := some 106, op := Go.Op.binOp Go.BinOp.eql 28 (Go.Operand.tmp 102) (Go.Operand.tmp 105) 28, type := 4, pos := "laws.go:1544", after := #[{ on := 3, ground := Go.Ground.data }, { on := 6, ground := Go.Ground.data }, { on := 2, ground := Go.Ground.guard }], guard := some (2, false) }) (v := ?_) rfl (by kernel_rfl) (by kernel_rfl) (by kernel_rfl) (fun _ _ _ h => h) (Or.inl ⟨by rfl, ?_⟩) (by assumption) ?_
              rotate_left
              · (intro w hSw; (try dsimp only at hSw); go_simp; try with_reducible rfl)
              simp only [Act.put, List.setIfInBounds_toArray, List.set_cons_zero, List.set_cons_succ]
              refine wpAnyH_take (i := 8) (oi := { dst := some 107, op := Go.Op.pick (Go.Operand.tmp 101) (Go.Operand.const (Go.Value.bool true)) (Go.Operand.tmp 106), type := 4, pos := "laws.go:1544", after := #[{ on := 2, ground := Go.Ground.data }, { on := 7, ground := Go.Ground.data }], guard := none }) (v := ?_) rfl (by kernel_rfl) (by kernel_rfl) (by kernel_rfl) (fun _ _ _ h => h) (Or.inl ⟨by rfl, ?_⟩) (by assumption) ?_
              rotate_left
              · (intro w hSw; (try dsimp only at hSw); go_simp; try with_reducible rfl)
              simp only [Act.put, List.setIfInBounds_toArray, List.set_cons_zero, List.set_cons_succ]
              refine wpAnyH_take (i := 9) (oi := { dst := some 108, op := Go.Op.move (Go.Operand.tmp 107), type := 4, pos := "laws.go:1544", after := #[{ on := 8, ground := Go.Ground.data }, { on := 6, ground := Go.Ground.chain }], guard := none }) (v := ?_) rfl (by kernel_rfl) (by kernel_rfl) (by kernel_rfl) (fun _ _ _ h => h) (Or.inl ⟨by rfl, ?_⟩) (by assumption) ?_
              rotate_left
              · (intro w hSw; (try dsimp only at hSw); go_simp; try with_reducible rfl)
              simp only [Act.put, List.setIfInBounds_toArray, List.set_cons_zero, List.set_cons_succ]
              refine wpAnyH_take (i := 10) (oi := { dst := some 109, op := Go.Op.move (Go.Operand.tmp 17), type := 4, pos := "laws.go:1544", after := #[{ on := 9, ground := Go.Ground.guard }], guard := some (9, true) }) (v := ?_) rfl (by kernel_rfl) (by kernel_rfl) (by kernel_rfl) (fun _ _ _ h => h) (Or.inl ⟨by rfl, ?_⟩) (by assumption) ?_
              rotate_left
              · (intro w hSw; (try dsimp only at hSw); go_simp; try with_reducible rfl)
              simp only [Act.put, List.setIfInBounds_toArray, List.set_cons_zero, List.set_cons_succ]
              refine wpAnyH_take (i := 11) (oi := { dst := some 110, op := Go.Op.unOp Go.UnOp.not 4 (Go.Operand.tmp 109), type := 4, pos := "laws.go:1544", after := #[{ on := 10, ground := Go.Ground.data }, { on := 9, ground := Go.Ground.guard }], guard := some (9, true) }) (v := ?_) rfl (by kernel_rfl) (by kernel_rfl) (by kernel_rfl) (fun _ _ _ h => h) (Or.inl ⟨by rfl, ?_⟩) (by assumption) ?_
              rotate_left
              · (intro w hSw; (try dsimp only at hSw); go_simp; try with_reducible rfl)
              simp only [Act.put, List.setIfInBounds_toArray, List.set_cons_zero, List.set_cons_succ]
              refine wpAnyH_take (i := 12) (oi := { dst := some 111, op := Go.Op.move (Go.Operand.tmp 110), type := 4, pos := "laws.go:1544", after := #[{ on := 11, ground := Go.Ground.data }, { on := 9, ground := Go.Ground.chain }, { on := 9, ground := Go.Ground.guard }], guard := some (9, true) }) (v := ?_) rfl (by kernel_rfl) (by kernel_rfl) (by kernel_rfl) (fun _ _ _ h => h) (Or.inl ⟨by rfl, ?_⟩) (by assumption) ?_
              rotate_left
              · (intro w hSw; (try dsimp only at hSw); go_simp; try with_reducible rfl)
              simp only [Act.put, List.setIfInBounds_toArray, List.set_cons_zero, List.set_cons_succ]
              refine wpAnyH_take (i := 13) (oi := { dst := some 112, op := Go.Op.load 28 (Go.Operand.tmp 8), type := 28, pos := "laws.go:1544", after := #[{ on := 12, ground := Go.Ground.guard }], guard := some (12, false) }) (v := undef) rfl (by kernel_rfl) (by kernel_rfl) (by kernel_rfl) (fun _ _ _ h => h) (Or.inr ⟨by rfl, rfl⟩) (by assumption) ?_
              simp only [Act.put, List.setIfInBounds_toArray, List.set_cons_zero, List.set_cons_succ]
              refine wpAnyH_take (i := 14) (oi := { dst := some 113, op := Go.Op.load 28 (Go.Operand.tmp 16), type := 28, pos := "laws.go:1544", after := #[{ on := 12, ground := Go.Ground.guard }], guard := some (12, false) }) (v := undef) rfl (by kernel_rfl) (by kernel_rfl) (by kernel_rfl) (fun _ _ _ h => h) (Or.inr ⟨by rfl, rfl⟩) (by assumption) ?_
              simp only [Act.put, List.setIfInBounds_toArray, List.set_cons_zero, List.set_cons_succ]
              refine wpAnyH_take (i := 15) (oi := { dst := some 114, op := Go.Op.call { callee := Go.Callee.value (Go.Operand.func 20), args := #[Go.Operand.tmp 112, Go.Operand.tmp 113], argTypes := #[28, 28] }, type := 4, pos := "laws.go:1544", after := #[{ on := 13, ground := Go.Ground.data }, { on := 14, ground := Go.Ground.data }, { on := 12, ground := Go.Ground.chain }, { on := 12, ground := Go.Ground.guard }], guard := some (12, false) }) (v := undef) rfl (by kernel_rfl) (by kernel_rfl) (by kernel_rfl) (fun _ _ _ h => h) (Or.inr ⟨by rfl, rfl⟩) (by assumption) ?_
              simp only [Act.put, List.setIfInBounds_toArray, List.set_cons_zero, List.set_cons_succ]
              refine wpAnyH_take (i := 16) (oi := { dst := some 115, op := Go.Op.unOp Go.UnOp.not 4 (Go.Operand.tmp 114), type := 4, pos := "laws.go:1544", after := #[{ on := 15, ground := Go.Ground.data }, { on := 12, ground := Go.Ground.guard }], guard := some (12, false) }) (v := undef) rfl (by kernel_rfl) (by kernel_rfl) (by kernel_rfl) (fun _ _ _ h => h) (Or.inr ⟨by rfl, rfl⟩) (by assumption) ?_
              simp only [Act.put, List.setIfInBounds_toArray, List.set_cons_zero, List.set_cons_succ]
              refine wpAnyH_take (i := 17) (oi := { dst := some 116, op := Go.Op.pick (Go.Operand.tmp 111) (Go.Operand.const (Go.Value.bool true)) (Go.Operand.tmp 115), type := 4, pos := "laws.go:1544", after := #[{ on := 12, ground := Go.Ground.data }, { on := 16, ground := Go.Ground.data }, { on := 9, ground := Go.Ground.guard }], guard := some (9, true) }) (v := ?_) rfl (by kernel_rfl) (by kernel_rfl) (by kernel_rfl) (fun _ _ _ h => h) (Or.inl ⟨by rfl, ?_⟩) (by assumption) ?_
              rotate_left
              · (intro w hSw; (try dsimp only at hSw); go_simp; try with_reducible rfl)
              simp only [Act.put, List.setIfInBounds_toArray, List.set_cons_zero, List.set_cons_succ]
              refine wpAnyH_take (i := 18) (oi := { dst := some 117, op := Go.Op.pick (Go.Operand.tmp 108) (Go.Operand.tmp 116) (Go.Operand.const (Go.Value.bool false)), type := 4, pos := "laws.go:1544", after := #[{ on := 9, ground := Go.Ground.data }, { on := 17, ground := Go.Ground.data }], guard := none }) (v := ?_) rfl (by kernel_rfl) (by kernel_rfl) (by kernel_rfl) (fun _ _ _ h => h) (Or.inl ⟨by rfl, ?_⟩) (by assumption) ?_
              rotate_left
              · (intro w hSw; (try dsimp only at hSw); go_simp; try with_reducible rfl)
              simp only [Act.put, List.setIfInBounds_toArray, List.set_cons_zero, List.set_cons_succ]
              refine wpAnyH_take (i := 19) (oi := { dst := some 2, op := Go.Op.assign (Go.Operand.tmp 117), type := 4, pos := "laws.go:1544", after := #[{ on := 18, ground := Go.Ground.data }, { on := 15, ground := Go.Ground.chain }, { on := 0, ground := Go.Ground.phase }, { on := 1, ground := Go.Ground.phase }, { on := 2, ground := Go.Ground.phase }, { on := 3, ground := Go.Ground.phase }, { on := 4, ground := Go.Ground.phase }, { on := 5, ground := Go.Ground.phase }, { on := 6, ground := Go.Ground.phase }, { on := 7, ground := Go.Ground.phase }, { on := 8, ground := Go.Ground.phase }, { on := 9, ground := Go.Ground.phase }, { on := 10, ground := Go.Ground.phase }, { on := 11, ground := Go.Ground.phase }, { on := 12, ground := Go.Ground.phase }, { on := 13, ground := Go.Ground.phase }, { on := 14, ground := Go.Ground.phase }, { on := 15, ground := Go.Ground.phase }, { on := 16, ground := Go.Ground.phase }, { on := 17, ground := Go.Ground.phase }, { on := 18, ground := Go.Ground.phase }], guard := none }) (v := ?_) rfl (by kernel_rfl) (by kernel_rfl) (by kernel_rfl) (fun _ _ _ h => h) (Or.inl ⟨by rfl, ?_⟩) (by assumption) ?_
              rotate_left
              · (intro w hSw; (try dsimp only at hSw); go_simp; try with_reducible rfl)
              simp only [Act.put, List.setIfInBounds_toArray, List.set_cons_zero, List.set_cons_succ]
              refine wpAnyH_done (by kernel_rfl) ?_ _
              go_wp2
              go_ret
              exact ⟨rfl, D2.out⟩
            · go_wp2_with fail
              generalize w8.alloc (.cells #[.int .i64 UL, .int .i64 DL] 28) = wL at *
              generalize w8.heap.size = hL at *
              have HS := Lib.hid (And.intro V0_8b.out (And.intro V1_8b.out (And.intro M0_8b.out (And.intro M1_8b.out (And.intro L0.out L1.out)))))
              have HB := Lib.hid B_8b.out.drew
              have HPQ := Lib.hid (HM.out (by simp))
              have HLL := Lib.hid (HL.out (by simp))
              obtain ⟨_, ⟨l1, l2⟩, l3, l4⟩ := HL.out (by simp)
              go_region_held3 (fun W => W.cell? ⟨h6a, 0, none⟩ = some (.int .i64 U) ∧ W.cell? ⟨h6a, 1, none⟩ = some (.int .i64 D) ∧ W.cell? ⟨h7a, 0, none⟩ = some (.int .i64 UM) ∧ W.cell? ⟨h7a, 1, none⟩ = some (.int .i64 DM) ∧ W.cell? ⟨hL, 0, none⟩ = some (.int .i64 UL) ∧ W.cell? ⟨hL, 1, none⟩ = some (.int .i64 DL))
                (first | exact S3.out | exact S2.out | exact S1.out | exact HS.out | go_keep)
                (first
                | (go_at_call 21; (with_reducible refine (HMO.out ▸ fracOfL_any 1 1 _ (by unfold Mid; omega) (by unfold Mid; omega) (by omega)).mono ?_); rintro e v1 ⟨rfl, hb⟩; have S1 := Lib.hid (And.intro (Keep.below hb _ _ HS.out.1) (And.intro (Keep.below hb _ _ HS.out.2.1) (And.intro (Keep.below hb _ _ HS.out.2.2.1) (And.intro (Keep.below hb _ _ HS.out.2.2.2.1) (And.intro (Keep.below hb _ _ HS.out.2.2.2.2.1) (Keep.below hb _ _ HS.out.2.2.2.2.2)))))); have D1 := Lib.hid (below_up HB.out hb); clear hb HB)
                | (go_at_call 26; (with_reducible refine (HPQ.out ▸ plusOf_any U D 1 1 _ (by omega) (by omega) (by omega) (by omega) (by unfold Mid; omega)).mono ?_); rintro e v2 ⟨rfl, hb⟩; have S2 := Lib.hid (And.intro (Keep.below hb _ _ S1.out.1) (And.intro (Keep.below hb _ _ S1.out.2.1) (And.intro (Keep.below hb _ _ S1.out.2.2.1) (And.intro (Keep.below hb _ _ S1.out.2.2.2.1) (And.intro (Keep.below hb _ _ S1.out.2.2.2.2.1) (Keep.below hb _ _ S1.out.2.2.2.2.2)))))); have D2 := Lib.hid (below_up D1.out hb); clear hb D1)
                | (go_at_call 20; (with_reducible refine (HLL.out.1 ▸ lessOf_any U D UL DL _ (by omega) (by omega) (by omega) (by omega)).mono ?_); rintro e v3 ⟨rfl, hb⟩; have S3 := Lib.hid (And.intro (Keep.below hb _ _ S2.out.1) (And.intro (Keep.below hb _ _ S2.out.2.1) (And.intro (Keep.below hb _ _ S2.out.2.2.1) (And.intro (Keep.below hb _ _ S2.out.2.2.2.1) (And.intro (Keep.below hb _ _ S2.out.2.2.2.2.1) (Keep.below hb _ _ S2.out.2.2.2.2.2)))))); have D3 := Lib.hid (below_up D2.out hb); clear hb D2))
              go_wp2
              go_ret
              exact ⟨rfl, D3.out⟩
    · have HV := Lib.hid hv
      have HE1 := Lib.hid (eqI_self [])
      have HTV := Lib.hid (pb_false hv)
      have HUV := Lib.hid (wstV_eq _ (vF_no hv))
      clear hv hsm
      have HC := Lib.hid (BestShares_impl Av k cv xss w1 HR.out)
      go_wp2_with fail
      refine HC.out.mono ?_
      rintro e w2 hbs
      obtain ⟨rfl, hb⟩ := hbs.no HV.out
      have HR_2 := Lib.hid (HR.out.keep (Keep.below hb))
      have B_2 := Lib.hid (below_up B1.out hb)
      have HX := Lib.hid (OwnI.nil 0 0 w2 0).ints
      clear hbs hb HC HR B1
      have HC := Lib.hid (BestShares_spec Av k cv xss w2 HR_2.out)
      go_wp2_with fail
      refine HC.out.mono ?_
      rintro e w3 hbs
      obtain ⟨A3, n3, c3, A4, n4, c4, rfl, i1, i2, hb⟩ := hbs.no HV.out
      have HR_3 := Lib.hid (HR_2.out.keep (Keep.below hb))
      have HX_3 := Lib.hid (HX.out.keep (Keep.below hb))
      have B_3 := Lib.hid (below_up B_2.out hb)
      have HP := Lib.hid i1
      have HQ := Lib.hid i2
      clear hbs i1 i2 hb HC HR_2 HX B_2
      have HC := Lib.hid (HE1.out ▸ equalInts_any _ _ _ _ _ _ [] [] w3 HX_3.out HP.out)
      go_wp2_with fail
      refine HC.out.mono ?_
      rintro e w4 ⟨rfl, hq⟩
      have hb := hq.below (B := w3.heap.size)
      have HR_4 := Lib.hid (HR_3.out.keep (Keep.below hb))
      have HX_4 := Lib.hid (HX_3.out.keep (Keep.below hb))
      have HP_4 := Lib.hid (HP.out.keep (Keep.below hb))
      have HQ_4 := Lib.hid (HQ.out.keep (Keep.below hb))
      have B_4 := Lib.hid (below_up B_3.out hb)
      clear hb HC hq HR_3 HX_3 HP HQ B_3
      have HC := Lib.hid (HE1.out ▸ equalInts_any _ _ _ _ _ _ [] [] w4 HX_4.out HQ_4.out)
      go_wp2_with fail
      refine HC.out.mono ?_
      rintro e w5 ⟨rfl, hq⟩
      have hb := hq.below (B := w4.heap.size)
      have HR_5 := Lib.hid (HR_4.out.keep (Keep.below hb))
      have HX_5 := Lib.hid (HX_4.out.keep (Keep.below hb))
      have HP_5 := Lib.hid (HP_4.out.keep (Keep.below hb))
      have HQ_5 := Lib.hid (HQ_4.out.keep (Keep.below hb))
      have B_5 := Lib.hid (below_up B_4.out hb)
      clear hb HC hq HR_4 HX_4 HP_4 HQ_4 B_4
      clear HX_5
      clear HP_5
      clear HQ_5
      have HC := Lib.hid (ValueOf_impl Av k cv xss w5 HR_5.out)
      rw [HUV.out, HTV.out] at HC
      go_wp2_with fail
      refine HC.out.mono ?_
      rintro e w6 ⟨rfl, hb⟩
      have HR_6 := Lib.hid (HR_5.out.keep (Keep.below hb))
      have B_6 := Lib.hid (below_up B_5.out hb)
      clear hb HC HR_5 B_5
      have hal := below_alloc w6 (.cells #[.int .i64 0, .int .i64 0] 28)
      have HR_6b := Lib.hid (HR_6.out.keep (Keep.below hal))
      have B_6b := Lib.hid (below_up B_6.out hal)
      have V0 := Lib.hid (blk_cell (blk_new w6 28 #[.int .i64 0, .int .i64 0]) (i := 0) (v := .int .i64 0) rfl)
      have V1 := Lib.hid (blk_cell (blk_new w6 28 #[.int .i64 0, .int .i64 0]) (i := 1) (v := .int .i64 0) rfl)
      clear hal HR_6 B_6
      have q_V0 := V0.out
      have q_V1 := V1.out
      go_wp2
      go_ret
      exact ⟨rfl, B_6b.out⟩

theorem hFnValuesShift_lifted (os : Os) (started : os.Started) (H : Type) (enc : TypeId × Value → H) :
    ReturnsInHanded {} Try.checked os 10 .any (Rows.fnValuesShiftSpec.pre6 enc Try.prog Try.f10 Rows.fnValuesShiftRow.domain false) (Rows.fnValuesShiftSpec.post enc Try.prog Try.f10 false true false false) := by
  refine returnsInHanded_of_change_sized (C := Try.checked) Try.own started (by kernel_rfl) Try.func10
    (ChangeSpec.witness6 (enc := enc) (C := Try.checked) false ⟨#[], #[.slice none 0 0], []⟩ 8 (by kernel_rfl) (by kernel_rfl) (by kernel_rfl) (by kernel_rfl)) ?_
  intro W base args ds gs before hval0 hW _ hwt _
  have hval : ∀ (j : Nat) t v, Try.f10.params[j]? = some t → args[j]? = some v → Value.okWide Try.prog W .any base t v := hval0
  have hA : ∃ p, DataW.TrodAll enc Try.prog W 0 (fun _ => true) true Try.f10.params.toList args.toList ds p := by obtain ⟨p, q, hA0, _⟩ := hW; exact ⟨p, hA0⟩
  obtain ⟨p, hA⟩ := hA
  have hwt' := weights_arg hwt (j := 0) (t := 22) (by rw [Try.params10]; rfl) (d := ds.getD 0 .nil)
  rw [Try.params10] at hA hval
  obtain ⟨v0, d0, rfl, rfl, h0⟩ := trodAll_one hA
  obtain ⟨A, n, c, rfl, hx⟩ := open_bytes (hval 0 22 v0 rfl rfl) h0 (hwt' rfl)
  refine (fnValuesShift_calls A n c W hx).mono fun e W' ⟨he, hb⟩ => ?_
  subst he
  exact ⟨_, rfl, law_post (F := Try.f10) rfl rfl (by rw [Try.params10]; simp only [List.mem_cons, List.not_mem_nil, or_false, forall_eq]; exact ⟨by kernel_rfl, of_decide_eq_true (by kernel_rfl)⟩) hW (fun h => by subst h; rfl) hb⟩

theorem hFnValuesShift_holds : Rows.FnValuesShiftSaid :=
  OpenClaim.holds_of_wide 10 Try.f10 rfl rfl rfl rfl rfl rfl rfl ⟨rfl, rfl, rfl, rfl, rfl⟩ rfl rfl rfl rfl rfl (by kernel_rfl) Try.func10
    (by unfold joinedFacts; simp only [Bool.and_eq_true]; (repeat' apply And.intro) <;> (first | (with_reducible exact prog_enters) | ((with_reducible refine prog_lifts ?_); rfl) | ((with_reducible refine prog_make ?_); rfl) | kernel_rfl))
    (of_decide_eq_true (by kernel_rfl)) (by unfold Func.isWrapper; first | (rw [if_pos (by decide +kernel)]; kernel_rfl) | (rw [if_neg (by decide +kernel)]; exact ⟨rfl, rfl⟩))
    (fun os started H enc _ => hFnValuesShift_lifted os started H enc)

end Go.Proofs.Ytgnbmanlpppdoaa
