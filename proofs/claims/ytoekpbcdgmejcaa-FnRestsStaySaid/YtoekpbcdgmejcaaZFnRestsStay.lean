/- The law FnRestsStay holds: for every code, of what it draws, the program tells the next shares as the model does, and the next shares of shares that rest are the same shares. No condition. -/
import Derived.Test.YtoekpbcdgmejcaaQ10
import Derived.Deep.RegionHeld3
namespace Go.Proofs.Ytoekpbcdgmejcaa
open Go.ChangeShapes Go.WideShapes Go.ChangeAt Go.RowKit Go.Deep

set_option maxRecDepth 100000 in
set_option maxHeartbeats 3200000 in
theorem fnRestsStay_calls (A : Option Addr) (n c : Nat) (w : World) (hx : Bytes w A n c) :
    Calls Try.prog 9 #[.slice A n c] w fun e w' => e = .returned (.bool true) ∧ Below w.heap.size w w' := by
  have hmx := hx.max
  have H0 := Lib.hid (DrawNextShares_any A n c w hx)
  clear hx
  by_cases hs : 1048576 < n
  · go_enter Try.func9, Try.ntmps9
    go_wp2
    go_ret
    exact ⟨rfl, Below.refl _ _⟩
  · go_enter Try.func9, Try.ntmps9
    go_wp2_with fail
    refine H0.out.mono ?_
    rintro e w1 ⟨Av, k, cv, gg, xss, Bv, m, cb, ys, rfl, hsm, hown, hi, hb⟩
    have HS := Lib.hid hsm
    have HR := Lib.hid hown.rows
    have HY := Lib.hid hi
    have B1 := Lib.hid hb
    have LX := Lib.hid hown.rows.len
    have LY := Lib.hid hi.len
    clear hsm hown hi hb H0
    have HEQ := Lib.hid (show eqI (nsF xss ys) (nsF xss ys) = true by simp [eqI])
    have hnl := nsF_le xss ys
    have HC := Lib.hid (NextShares_impl _ _ _ xss _ _ _ ys w1 HR.out HY.out)
    go_wp2_with fail
    refine HC.out.mono ?_
    rintro e w2 ⟨A2, n2, c2, g2_, rfl, rfl, ho, hb⟩
    have HR_2 := Lib.hid (HR.out.keep (Keep.below hb))
    have HY_2 := Lib.hid (HY.out.keep (Keep.below hb))
    have B_2 := Lib.hid (below_up B1.out hb)
    have HP := Lib.hid ho.ints
    clear ho
    clear hb HC HR HY B1
    have HC := Lib.hid (NextShares_spec _ _ _ xss _ _ _ ys w2 HR_2.out HY_2.out)
    go_wp2_with fail
    refine HC.out.mono ?_
    rintro e w3 ⟨A3, n3, c3, g3_, rfl, rfl, ho, hb⟩
    have HR_3 := Lib.hid (HR_2.out.keep (Keep.below hb))
    have HY_3 := Lib.hid (HY_2.out.keep (Keep.below hb))
    have HP_3 := Lib.hid (HP.out.keep (Keep.below hb))
    have B_3 := Lib.hid (below_up B_2.out hb)
    have HQ_ := Lib.hid ho.ints
    clear ho
    clear hb HC HR_2 HY_2 HP B_2
    have HC := Lib.hid (HEQ.out ▸ equalInts_any _ _ _ _ _ _ (nsF xss ys) (nsF xss ys) w3 HP_3.out HQ_.out)
    go_wp2_with fail
    refine HC.out.mono ?_
    rintro e w4 ⟨rfl, hq⟩
    have hb := hq.below (B := w3.heap.size)
    have HR_4 := Lib.hid (HR_3.out.keep (Keep.below hb))
    have HY_4 := Lib.hid (HY_3.out.keep (Keep.below hb))
    have HP_4 := Lib.hid (HP_3.out.keep (Keep.below hb))
    have HQ__4 := Lib.hid (HQ_.out.keep (Keep.below hb))
    have B_4 := Lib.hid (below_up B_3.out hb)
    clear hb HC hq HR_3 HY_3 HP_3 HQ_ B_3
    clear HP_4
    clear HQ__4
    have HC := Lib.hid (NextShares_impl _ _ _ xss _ _ _ ys w4 HR_4.out HY_4.out)
    go_wp2_with fail
    refine HC.out.mono ?_
    rintro e w5 ⟨A4, n4, c4, g4_, rfl, rfl, ho, hb⟩
    have HR_5 := Lib.hid (HR_4.out.keep (Keep.below hb))
    have HY_5 := Lib.hid (HY_4.out.keep (Keep.below hb))
    have B_5 := Lib.hid (below_up B_4.out hb)
    clear ho
    clear hb HC HR_4 HY_4 B_4
    by_cases h0 : (nsF xss ys).length = 0
    · have h0' : (((nsF xss ys).length : Int) == 0) = true := by rw [beq_iff_eq]; omega
      have H0_ := Lib.hid h0
      clear h0
      go_wp2
      go_ret
      exact ⟨rfl, B_5.out⟩
    have h0' : (((nsF xss ys).length : Int) == 0) = false := by rw [beq_eq_false_iff_ne]; omega
    have hf : VF xss ∧ VS ys xss.length := by
      apply Classical.byContradiction; intro hn
      apply h0; rw [nsF_no hn]; rfl
    have hv := hf.1.q
    have hk : 0 < k := by rw [← LX.out]; exact hv.1.n1
    have hk3 : k ≤ 3 := by rw [← LX.out]; exact hv.1.n3
    have HFS := Lib.hid (fun (x : List Int) (h : RQ xss x) => show FS xss x k ∧ RestP xss x k from ⟨FS.of LX.out hf.1 (by have := h.s; rw [LX.out] at this; exact this), by have := h.r; rw [LX.out] at this; exact this⟩)
    have HRL := Lib.hid (resF_len xss)
    clear hv hf h0
    generalize (nsF xss ys).length = N0 at *
    have HRK := Lib.hid HR_5.out
    have HYK := Lib.hid HY_5.out
    have HLO := Lib.hid B_5.out.size
    have HBL0 := Lib.hid (Below.refl w5.heap.size w5)
    have HC := Lib.hid (RestsOn_bld _ _ _ xss w5 HR_5.out)
    go_wp2_with fail
    refine HC.out.mono ?_
    rintro e w6 ⟨A5, c5, vs, rfl, hbd, hb⟩
    have HR_6 := Lib.hid (HR_5.out.keep (Keep.below hb))
    have HY_6 := Lib.hid (HY_5.out.keep (Keep.below hb))
    have B_6 := Lib.hid (below_up B_5.out hb)
    have HBD := Lib.hid hbd
    have HBL := Lib.hid hb
    have hz8 := hb.size
    clear hbd hb HC HR_5 HY_5 B_5
    have hrl := HRL.out
    generalize resF xss = rs at *
    have hb2 := below_alloc w6 (.cells #[.slice Bv m cb] 26)
    have HB4 := Lib.hid (HBD.out.below hb2).own
    have HN := Lib.hid (cell_one_new w6 (.slice Bv m cb) 26)
    clear hb2
    obtain ⟨i0, hi0, hz0, hz1, hz2⟩ := info_parts Try.info_row
    go_wp2_with (at_builtin; refine wpList_append_own_at _ rfl _ _ 23 rfl w5.heap.size 26 i0 (.slice none 0 0) 1 24 Try.underlying23 hi0 hz0 hz1 hz2 rfl (by decide) _ rs.length vs rfl HB4.out ⟨w6.heap.size, 0, none⟩ 1 1 [.slice Bv m cb] rfl rfl ?d1 ?d2 ?d3 ?d4 ?d5 ?_)
    case d1 => exact HN.out
    case d2 => intro u hu; simp at hu; subst hu; rfl
    case d3 => unfold maxLen; omega
    case d4 => omega
    case d5 => simp; omega
    intro v' wb hown' hgrow _ hat
    have hbw : Below w5.heap.size w6 wb := (((Below.refl _ _).alloc hz8 (.cells #[.slice Bv m cb] 26))).grown hgrow (by simp; omega) (fun k hk => (HB4.out.lt k hk).1)
    have HBB := Lib.hid (show Below w.heap.size w wb from (B_6.out).trans (hbw.mono HLO.out))
    have HRB := Lib.hid (show IntRows wb _ _ _ xss from HRK.out.keep (Keep.below (HBL.out.trans (hbw.mono (Nat.le_refl _)))))
    have HYB := Lib.hid (show Ints wb _ _ _ ys from HYK.out.keep (Keep.below (HBL.out.trans (hbw.mono (Nat.le_refl _)))))
    obtain ⟨A6, c6, rfl, hrows⟩ := rows_app HBD.out (by omega) HYB.out hown' hgrow
    have HRW := Lib.hid hrows
    have HLN := Lib.hid (show (rs ++ [ys]).length = rs.length + 1 by simp)
    clear HB4 HN HBD hown' hgrow hat hrows hbw hz8
    generalize hxs : rs ++ [ys] = xs at *
    generalize hnn : rs.length + 1 = nn at *
    have hnn9 : nn ≤ 9 := by omega
    clear hxs hnn HBL HRK HYK HLO
    go_wp2
    go_loopw [7] (fun j wr => ∃ q : Nat, q ≤ nn ∧ j = .int .i64 q ∧ Hid (Below wb.heap.size wb wr)) (fun j _ => nn - (intOf j).toNat)
    case atStart => exact ⟨0, Nat.zero_le _, rfl, Lib.hid (Below.refl _ _)⟩
    case round =>
      obtain ⟨q, hq, rfl, HQ⟩ := hrel
      by_cases hlt : q < nn
      · obtain ⟨br, or_, rfl, hc⟩ := HRW.out.at_ (by omega)
        obtain ⟨R, cR, c1, hR⟩ := hc q hlt
        have HC1 := Lib.hid c1
        have HRI := Lib.hid hR
        clear c1 hR hc
        generalize gr xs q = x at *
        have c1 := Keep.below HQ.out _ _ HC1.out
        have HC := Lib.hid (IsRest_impl _ _ _ xss R _ cR x wr (HRB.out.keep (Keep.below HQ.out)) (HRI.out.keep (Keep.below HQ.out)))
        by_cases hrq : RQ xss x
        · rw [pb_true hrq] at HC
          obtain ⟨hfs, hrp⟩ := HFS.out x hrq
          have HXL := Lib.hid hfs.xl
          have HST := Lib.hid (rest_stays hfs hrp)
          have HBDN := Lib.hid (ns_bd hfs)
          have hL : (nsF xss x).length = k := by obtain ⟨_, _, h, _⟩ := Mean.ns_key hfs; exact h
          have HLL := Lib.hid hL
          have HXB := Lib.hid hfs.x
          have HSX := Lib.hid (hfs.s.sumOk (by omega))
          have HSL := Lib.hid (SumOk.of_small (xs := nsF xss x) (B := 27000000) (by omega) (fun j hj => by have := HBDN.out j (by omega); omega) (by omega))
          have htx := hfs.s.bd (by omega)
          have htl := HSL.out.sm (k := (nsF xss x).length) (Nat.le_refl _)
          clear hrq hfs hrp hL
          go_wp2_with fail
          refine HC.out.mono ?_
          rintro e v1 ⟨rfl, hb⟩
          have HQ1 := Lib.hid (below_up HQ.out hb)
          clear hb HC HQ c1
          have c1 := Keep.below HQ1.out _ _ HC1.out
          have HC := Lib.hid (NextShares_impl _ _ _ xss R _ cR x v1 (HRB.out.keep (Keep.below HQ1.out)) (HRI.out.keep (Keep.below HQ1.out)))
          go_wp2_with fail
          refine HC.out.mono ?_
          rintro e v2 ⟨AL, nL, cL, gL, rfl, hnL, ho, hb⟩
          have HQ2 := Lib.hid (below_up HQ1.out hb)
          have HLI := Lib.hid ho.ints
          have hnk : nL = k := by rw [hnL, HLL.out]
          subst hnk
          clear hb HC HQ1 c1 ho hnL
          obtain ⟨bl, ol, rfl, hcl⟩ := HLI.out.at_ hk
          have HCL := Lib.hid hcl
          clear hcl
          generalize nsF xss x = L at *
          obtain ⟨t1, t2⟩ := htx
          go_wp2
          go_loopw [9] (fun j wi => ∃ i : Nat, i ≤ nL ∧ j = .int .i64 i ∧ Hid (Below v2.heap.size v2 wi)) (fun j _ => nL - (intOf j).toNat)
          case atStart => exact ⟨0, Nat.zero_le _, rfl, Lib.hid (Below.refl _ _)⟩
          case round =>
            obtain ⟨i, hi, rfl, HI⟩ := hrel
            by_cases hll : i < nL
            · have HW := Lib.hid (below_up HQ2.out HI.out)
              obtain ⟨rc, rd, hRR, hcr⟩ := HRI.out.at_ (by rw [HXL.out]; omega)
              have c1 := Keep.below HW.out _ _ HC1.out
              have c2 := Keep.below HW.out _ _ (hcr i (by rw [HXL.out]; exact hll))
              have c3 := Keep.below HI.out _ _ (HCL.out i hll)
              rw [hRR] at c1
              have HRT := Lib.hid (HRI.out.keep (Keep.below HW.out))
              rw [hRR] at HRT
              have HLT := Lib.hid (HLI.out.keep (Keep.below HI.out))
              have HE := HST.out i hll
              have hb1 := HBDN.out i hll
              have hb2 := HXB.out i hll
              clear hcr hRR
              generalize hg1 : gi x i = y at *
              generalize hg2 : gi L i = l at *
              generalize htt : tot x = tx at *
              generalize htt2 : tot L = tl at *
              have HT1 := Lib.hid htt
              have HT2 := Lib.hid htt2
              have hne : (IntKind.i64.wrap (l * tx) != IntKind.i64.wrap (y * tl)) = false := by rw [HE]; simp
              have HKA := Lib.hid (And.intro c1 (And.intro c2 c3))
              have HK0 := Lib.hid (show Keep wr wr.drew from Keep.drewN wr 1)
              clear hg1 hg2 htt htt2 HE hb1 hb2
              have hix : i < x.length := by rw [HXL.out]; exact hll
              have hix' : (i : Int) < (x.length : Int) := by omega
              have hqn : (q : Int) < (nn : Int) := by omega
              have hil : (i : Int) < (nL : Int) := by omega
              go_wp2
              go_region_held3 (fun W => W.cell? ⟨br, or_ + q, none⟩ = some (.slice (some ⟨rc, rd, none⟩) x.length cR) ∧ W.cell? ⟨rc, rd + i, none⟩ = some (.int .i64 y) ∧ W.cell? ⟨bl, ol + i, none⟩ = some (.int .i64 l))
                (first | exact S2.out | exact S1.out | exact HKA.out | go_keep)
                (first
                | (go_at_call 35; (with_reducible refine (HT1.out ▸ total_any (some ⟨rc, rd, none⟩) x.length cR x _ (HRT.out.keep HK0.out) HSX.out).mono ?_); rintro e v3 ⟨rfl, hq3⟩; have S1 := Lib.hid (And.intro (Keep.quiet hq3 _ _ HKA.out.1) (And.intro (Keep.quiet hq3 _ _ HKA.out.2.1) (Keep.quiet hq3 _ _ HKA.out.2.2))); have D1 := Lib.hid (below_quiet HI.out.drew hq3); have LT1 := Lib.hid (HLT.out.keep (Keep.trans HK0.out (Keep.quiet hq3))); clear hq3)
                | (go_at_call 35; (with_reducible refine (HT2.out ▸ total_any (some ⟨bl, ol, none⟩) nL cL L _ LT1.out HSL.out).mono ?_); rintro e v4 ⟨rfl, hq4⟩; have S2 := Lib.hid (And.intro (Keep.quiet hq4 _ _ S1.out.1) (And.intro (Keep.quiet hq4 _ _ S1.out.2.1) (Keep.quiet hq4 _ _ S1.out.2.2))); have D2 := Lib.hid (below_quiet D1.out hq4); clear hq4))
              all_goals
                clear c1 c2 c3
                go_wp2
                go_roundw
                case rel => exact ⟨i + 1, by omega, by go_num, D2⟩
                case measure => simp [intOf]; omega
            · obtain rfl : i = nL := by omega
              have HW := Lib.hid (below_up HQ2.out HI.out)
              go_wp2
              go_roundw
              case rel => exact ⟨q + 1, by omega, by go_num, HW⟩
              case measure => simp [intOf]; omega
        · rw [pb_false hrq] at HC
          clear hrq
          go_wp2_with fail
          refine HC.out.mono ?_
          rintro e v1 ⟨rfl, hb⟩
          have HQ1 := Lib.hid (below_up HQ.out hb)
          clear hb HC HQ c1
          go_wp2
          go_roundw
          case rel => exact ⟨q + 1, by omega, by go_num, HQ1⟩
          case measure => simp [intOf]; omega
      · obtain rfl : q = nn := by omega
        have HQB := Lib.hid (below_up HBB.out HQ.out)
        go_wp2
        go_ret
        exact ⟨rfl, HQB.out⟩

set_option maxRecDepth 100000 in
theorem hFnRestsStay_lifted (os : Os) (started : os.Started) (H : Type) (enc : TypeId × Value → H) :
    ReturnsInHanded {} Try.checked os 9 .any (Rows.fnRestsStaySpec.pre6 enc Try.prog Try.f9 Rows.fnRestsStayRow.domain false) (Rows.fnRestsStaySpec.post enc Try.prog Try.f9 false true false false) := by
  refine returnsInHanded_of_change_sized (C := Try.checked) Try.own started (by kernel_rfl) Try.func9
    (ChangeSpec.witness6 (enc := enc) (C := Try.checked) false ⟨#[], #[.slice none 0 0], []⟩ 8 (by kernel_rfl) (by kernel_rfl) (by kernel_rfl) (by kernel_rfl)) ?_
  intro W base args ds gs before hval0 hW _ hwt _
  have hval : ∀ (j : Nat) t v, Try.f9.params[j]? = some t → args[j]? = some v → Value.okWide Try.prog W .any base t v := hval0
  have hA : ∃ p, DataW.TrodAll enc Try.prog W 0 (fun _ => true) true Try.f9.params.toList args.toList ds p := by obtain ⟨p, q, hA0, _⟩ := hW; exact ⟨p, hA0⟩
  obtain ⟨p, hA⟩ := hA
  have hwt' := weights_arg hwt (j := 0) (t := 22) (by rw [Try.params9]; rfl) (d := ds.getD 0 .nil)
  rw [Try.params9] at hA hval
  obtain ⟨v0, d0, rfl, rfl, h0⟩ := trodAll_one hA
  obtain ⟨A, n, c, rfl, hx⟩ := open_bytes (hval 0 22 v0 rfl rfl) h0 (hwt' rfl)
  refine (fnRestsStay_calls A n c W hx).mono fun e W' ⟨he, hb⟩ => ?_
  subst he
  exact ⟨_, rfl, law_post (F := Try.f9) rfl rfl (by rw [Try.params9]; simp only [List.mem_cons, List.not_mem_nil, or_false, forall_eq]; exact ⟨by kernel_rfl, of_decide_eq_true (by kernel_rfl)⟩) hW (fun h => by subst h; rfl) hb⟩

theorem hFnRestsStay_holds : Rows.FnRestsStaySaid :=
  OpenClaim.holds_of_wide 9 Try.f9 rfl rfl rfl rfl rfl rfl rfl ⟨rfl, rfl, rfl, rfl, rfl⟩ rfl rfl rfl rfl rfl (by kernel_rfl) Try.func9
    (by unfold joinedFacts; simp only [Bool.and_eq_true]; (repeat' apply And.intro) <;> (first | (with_reducible exact prog_enters) | ((with_reducible refine prog_lifts ?_); rfl) | ((with_reducible refine prog_make ?_); rfl) | kernel_rfl))
    (of_decide_eq_true (by kernel_rfl)) (by unfold Func.isWrapper; first | (rw [if_pos (by decide +kernel)]; kernel_rfl) | (rw [if_neg (by decide +kernel)]; exact ⟨rfl, rfl⟩))
    (fun os started H enc _ => hFnRestsStay_lifted os started H enc)

end Go.Proofs.Ytoekpbcdgmejcaa
