/- The law FnFairGames holds: for every code, of the square that it draws, the value of the table less it turned is 0, and the best shares of the rows are best for the columns. No condition. -/
import Derived.Test.YtmhknknapciebaaQ10
import Derived.Deep.RegionHeld3
namespace Go.Proofs.Ytmhknknapciebaa
open Go.ChangeShapes Go.WideShapes Go.ChangeAt Go.RowKit Go.Deep

set_option maxRecDepth 100000 in
set_option maxHeartbeats 3200000 in
theorem fnFairGames_calls (A : Option Addr) (n c : Nat) (w : World) (hx : Bytes w A n c) :
    Calls Try.prog 12 #[.slice A n c] w fun e w' => e = .returned (.bool true) ∧ Below w.heap.size w w' := by
  have hmx := hx.max
  have H0 := Lib.hid (DrawValidSquare_any A n c w hx)
  clear hx
  by_cases hs : 1048576 < n
  · go_enter Try.func12, Try.ntmps12
    go_wp2
    go_ret
    exact ⟨rfl, Below.refl _ _⟩
  · go_enter Try.func12, Try.ntmps12
    go_wp2_with fail
    refine H0.out.mono ?_
    rintro e w1 ⟨Av, k, cv, gg, xss, rfl, hsm, hown, hb⟩
    have HS := Lib.hid hsm
    have HR := Lib.hid hown.rows
    have B1 := Lib.hid hb
    have LX := Lib.hid hown.rows.len
    clear hsm hown hb H0
    by_cases hv : VQ xss
    · have hk : 0 < k := by rw [← LX.out]; exact hv.1.n1
      have hk3 : k ≤ 3 := by rw [← LX.out]; exact hv.1.n3
      have HVQ := Lib.hid (pb_true hv)
      obtain ⟨b, oo, rb, ro, cc, rfl, tab⟩ := HR.out.tab hv.1
      rw [show (gr xss 0).length = k by rw [← hv.2, LX.out]] at tab
      have TB := Lib.hid tab
      clear hv tab
      have HC := Lib.hid (HVQ.out ▸ ValidSquare_impl _ _ _ _ w1 HR.out)
      go_wp2_with fail
      refine HC.out.mono ?_
      rintro e w2 ⟨rfl, hq⟩
      have hb := hq.below (B := w1.heap.size)
      have HR_2 := Lib.hid (HR.out.keep (Keep.below hb))
      have TB_2 := Lib.hid (TB.out.keep (Keep.below hb))
      have B_2 := Lib.hid (below_up B1.out hb)
      clear hb HC hq HR TB B1
      have HC := Lib.hid (HVQ.out ▸ ValidSquare_spec _ _ _ _ w2 HR_2.out)
      go_wp2_with fail
      refine HC.out.mono ?_
      rintro e w3 ⟨rfl, hq⟩
      have hb := hq.below (B := w2.heap.size)
      have HR_3 := Lib.hid (HR_2.out.keep (Keep.below hb))
      have TB_3 := Lib.hid (TB_2.out.keep (Keep.below hb))
      have B_3 := Lib.hid (below_up B_2.out hb)
      clear hb HC hq HR_2 TB_2 B_2
      have HC := Lib.hid (HVQ.out ▸ ValidSquare_impl _ _ _ _ w3 HR_3.out)
      go_wp2_with fail
      refine HC.out.mono ?_
      rintro e w4 ⟨rfl, hq⟩
      have hb := hq.below (B := w3.heap.size)
      have HR_4 := Lib.hid (HR_3.out.keep (Keep.below hb))
      have TB_4 := Lib.hid (TB_3.out.keep (Keep.below hb))
      have B_4 := Lib.hid (below_up B_3.out hb)
      clear hb HC hq HR_3 TB_3 B_3
      have HS0 := Lib.hid (TM.start w4)
      obtain ⟨i0, hi0, hz0, hz1, hz2⟩ := info_parts Try.infoI
      go_wp2
      go_loopw [4, 5] (fun v i wr => ∃ (p : Nat) (vs : List Value), p ≤ k ∧ i = .int .i64 p ∧ Hid (TM w4 v vs (farL xss k p) wr)) (fun _ i _ => k - (intOf i).toNat)
      case atStart => exact ⟨0, [], Nat.zero_le _, rfl, HS0⟩
      case round =>
        clear HS0
        obtain ⟨p, vs, hp, rfl, HTM⟩ := hrel
        obtain ⟨Aw, cw, rfl⟩ := HTM.out.bo.form
        by_cases hlt : p < k
        · have HI := Lib.hid HTM.out.row
          clear HTM
          have HRP := Lib.hid (TB_4.out.row p hlt)
          go_wp2
          generalize wr.heap.size = N at *
          go_loopw [6, 7] (fun u j wi => ∃ (q : Nat), q ≤ k ∧ j = .int .i64 q ∧ Hid (TN w4 N (.slice Aw (farL xss k p).length cw) vs (farL xss k p) u (farR xss p q) wi)) (fun _ j _ => k - (intOf j).toNat)
          case atStart => exact ⟨0, Nat.zero_le _, rfl, HI⟩
          case round =>
            clear HI
            obtain ⟨q, hq, rfl, HI⟩ := hrel
            obtain ⟨Au, cu, rfl⟩ := HI.out.bi.form
            by_cases hlm : q < k
            · have HRS := Lib.hid (farR_succ xss p q)
              have HML := Lib.hid (farR_len xss p q)
              have c1 := TB_4.out.cell p q hlt hlm
              have c2 := TB_4.out.cell q p hlm hlt
              have HRQ := Lib.hid (TB_4.out.row q hlm)
              obtain ⟨z1, z2⟩ := TB_4.out.bd p q hlt hlm
              obtain ⟨z3, z4⟩ := TB_4.out.bd q p hlm hlt
              have HKA := Lib.hid (And.intro (And.intro HRP.out c1) (And.intro HRQ.out c2))
              have HKB := Lib.hid (show _ ∧ _ from And.intro (And.intro (Keep.below HI.out.up _ _ HRP.out) (Keep.below HI.out.up _ _ c1)) (And.intro (Keep.below HI.out.up _ _ HRQ.out) (Keep.below HI.out.up _ _ c2)))
              have hHs := HI.out.hs
              have hlh := HI.out.lh
              clear c1 c2
              generalize g2 xss p q = x at *
              generalize g2 xss q p = y at *
              generalize farR xss p q = ys at *
              have hyl : ys.length ≤ 3 := by have := HML.out; omega
              have HW : Hid (IntKind.i64.wrap (x - y) = x - y) := Lib.hid (wrapIn (by omega))
              have hpk : (p : Int) < (k : Int) := by omega
              have hqk : (q : Int) < (k : Int) := by omega
              have k1 := HKB.out.1.1
              have k2 := HKB.out.1.2
              have k3 := HKB.out.2.1
              have k4 := HKB.out.2.2
              go_wp2
              go_region_held3 (fun W => (W.cell? ⟨b, oo + p, none⟩ = some (.slice (some ⟨rb p, ro p, none⟩) k (cc p)) ∧ W.cell? ⟨rb p, ro p + q, none⟩ = some (.int .i64 x)) ∧ (W.cell? ⟨b, oo + q, none⟩ = some (.slice (some ⟨rb q, ro q, none⟩) k (cc q)) ∧ W.cell? ⟨rb q, ro q + p, none⟩ = some (.int .i64 y)))
                (first | exact HKK.out | exact HKB.out | go_keep)
                ((refine step_append_lies _ (by rfl) _ _ _ (by rfl) N 3 i0 _ 1 8 Try.underlying23 hi0 hz0 hz1 hz2 rfl (by omega) (.slice Au ys.length cu) ys.length (ys.map iv) (by rfl) ((HI.out.bi.own.alloc _).drew) ⟨wr.heap.size, 0, none⟩ 1 1 [iv (IntKind.i64.wrap (x - y))] (by rfl) (by rfl) (World.news_of_block (w := (wr.alloc (.cells #[iv (IntKind.i64.wrap (x - y))] 3)).drew) (cs := #[iv (IntKind.i64.wrap (x - y))]) (t := 3) (fr := (0, 0)) (heap_alloc_new wr _)) (by simp [Value.oneCell', iv]) (by omega) (by unfold maxLen; omega) (by omega) (by simp; omega) (wr.heap.size + 1) (by simp) ?_; intro gg cap w1 hown1 hgrow hat hlt1; rw [HW.out] at hown1; have HI2 := Lib.hid (HI.out.push2 ((below_alloc wr _).drew) hown1 hgrow hlt1); have HKK := Lib.hid (And.intro (And.intro (Keep.below HI2.out.up _ _ HKA.out.1.1) (Keep.below HI2.out.up _ _ HKA.out.1.2)) (And.intro (Keep.below HI2.out.up _ _ HKA.out.2.1) (Keep.below HI2.out.up _ _ HKA.out.2.2))); clear hown1 hgrow hat hlt1 HI))
              clear k1 k2 k3 k4
              go_wp2
              go_roundw
              case rel => exact ⟨q + 1, by omega, by go_num, Lib.hid (by rw [HRS.out]; first | exact HI2.out | exact HI2.out.qu ⟨1, rfl⟩ | exact HI2.out.qu ⟨_, rfl⟩)⟩
              case measure => simp [intOf]; omega
            · obtain rfl : q = k := by omega
              have HBD := Lib.hid (show ∀ x ∈ farR xss p q, -27 ≤ x ∧ x ≤ 27 from fun x hx => by
                obtain ⟨j, hj, rfl⟩ := List.mem_map.1 hx
                have hj := List.mem_range.1 hj
                have := TB_4.out.bd p j hlt hj
                have := TB_4.out.bd j p hj hlt
                omega)
              obtain ⟨Ar, nr, cr, gg, e, rfl, ho, _⟩ := HI.out.bi.owns (by rw [farR_len]; omega) (fun x hx => by have := HBD.out x hx; omega)
              injection e with e1 _ e3
              subst e1
              subst e3
              have HO := Lib.hid ho
              have HML := Lib.hid (farR_len xss p q)
              have HTL := Lib.hid (farL_len xss q p)
              have HMS := Lib.hid (farL_succ xss q p)
              have hb := below_alloc wr (.cells #[.slice Au (farR xss p q).length cu] 23)
              have HB4 := Lib.hid (HI.out.bo.below hb).own
              have HN := Lib.hid (cell_one_new wr (.slice Au (farR xss p q).length cu) 23)
              have hHs := HI.out.hs
              have hlh := HI.out.lh
              clear hb ho HBD
              generalize farR xss p q = ys at *
              generalize farL xss q p = ms at *
              obtain ⟨i0', hi0', hz0', hz1', hz2'⟩ := info_parts Try.info_row
              go_wp2_with (at_builtin; refine wpList_append_own_at _ rfl _ _ 22 rfl w4.heap.size 23 i0' (.slice none 0 0) 1 24 Try.underlying22 hi0' hz0' hz1' hz2' rfl (by decide) _ ms.length vs rfl HB4.out ⟨wr.heap.size, 0, none⟩ 1 1 [.slice Au ys.length cu] rfl rfl ?d1 ?d2 ?d3 ?d4 ?d5 ?_)
              case d2 => rfl
              case d3 => have := HTL.out; unfold maxLen; omega
              case d4 => have := HTL.out; omega
              case d5 => omega
              intro v' w5 hown' hgrow _ hat
              have HT5 := Lib.hid (HI.out.done HO.out hown' hgrow (by simpa using hat))
              clear HB4 HN hown' hgrow hat HI HO
              go_wp2
              go_roundw
              case rel => exact ⟨p + 1, _, by omega, by go_num, Lib.hid (by rw [HMS.out]; exact HT5.out)⟩
              case measure => simp [intOf]; omega
        · obtain rfl : p = k := by omega
          obtain ⟨A', n', c', gg, e, hn', hown⟩ := HTM.out.bo.owns (by rw [farL_len]; omega)
          injection e with e1 e2 e3
          subst e1
          subst e2
          subst e3
          have HML := Lib.hid (farL_len xss p p)
          have HFI := Lib.hid (show IntRows wr Aw p cw (farL xss p p) from by have h := hown.rows; rw [HML.out] at h; exact h)
          have HBF := Lib.hid (below_up B_4.out HTM.out.up)
          have HVA := Lib.hid (fun (v : VT (farL xss p p)) => far_value hk v)
          rw [HML.out]
          clear hown HTM hn'
          generalize hF : farL xss p p = F at *
          clear hF
          obtain ⟨U, D, hUD⟩ : ∃ U D, vF F = (U, D) := ⟨_, _, rfl⟩
          have HUV := Lib.hid (wstV_eq _ hUD)
          have HC := Lib.hid (ValueOf_impl _ _ _ F wr HFI.out)
          by_cases hvf : VT F
          · rw [HUV.out, pb_true hvf] at HC
            obtain ⟨hv01, hbest⟩ := HVA.out hvf
            rw [hUD] at hv01
            obtain ⟨rfl, rfl⟩ := Prod.mk.inj hv01
            have HBE := Lib.hid (pb_true hbest)
            have HVF := Lib.hid hvf
            clear hvf hUD hv01 hbest HUV
            go_wp2_with fail
            refine HC.out.mono ?_
            rintro e v1 ⟨rfl, hb⟩
            have HB1 := Lib.hid (below_up HBF.out hb)
            have HF1 := Lib.hid (HFI.out.keep (Keep.below hb))
            clear hb HC HBF HFI
            have hal := below_alloc v1 (.cells #[.int .i64 0, .int .i64 1] 26)
            have HB2 := Lib.hid (below_up HB1.out hal)
            have HF2 := Lib.hid (HF1.out.keep (Keep.below hal))
            have HV0 := Lib.hid (blk_cell (blk_new v1 26 #[.int .i64 0, .int .i64 1]) (i := 0) (v := .int .i64 0) rfl)
            have HV1 := Lib.hid (blk_cell (blk_new v1 26 #[.int .i64 0, .int .i64 1]) (i := 1) (v := .int .i64 1) rfl)
            clear hal HB1 HF1
            have HC := Lib.hid (BestShares_impl _ _ _ F (v1.alloc (.cells #[.int .i64 0, .int .i64 1] 26)) HF2.out)
            go_wp2_with fail
            generalize v1.alloc (.cells #[.int .i64 0, .int .i64 1] 26) = v2 at *
            generalize v1.heap.size = h1 at *
            refine HC.out.mono ?_
            intro e v3 hnew
            obtain ⟨A1, d1, A2, d2, rfl, i1, hb⟩ := hnew.one HVF.out
            have HB3 := Lib.hid (below_up HB2.out hb)
            have HX := Lib.hid i1
            have HF3 := Lib.hid (HF2.out.keep (Keep.below hb))
            have HKA := Lib.hid (And.intro (Keep.below hb _ _ HV0.out) (Keep.below hb _ _ HV1.out))
            have HK0 := Lib.hid (show Keep v3 v3.drew from Keep.drewN v3 1)
            have HFR := Lib.hid (fun W => show Calls Try.prog 50 #[.int .i64 0, .int .i64 1] W (Ret (.agg #[.int .i64 0, .int .i64 1]) W) from frV_one 0 ▸ fracOfL_any 0 1 W (by unfold Mid; omega) (by unfold Mid; omega) (by omega))
            clear hnew i1 hb HC HB2 HF2 HV0 HV1
            have v0 := HKA.out.1
            have v1' := HKA.out.2
            go_wp2
            go_region_held3 (fun W => W.cell? ⟨h1, 0, none⟩ = some (.int .i64 0) ∧ W.cell? ⟨h1, 1, none⟩ = some (.int .i64 1))
              (first | exact S2.out | exact S1.out | exact HKA.out | go_keep)
              (first
              | (go_at_call 50; (with_reducible refine (HFR.out _).mono ?_); rintro e u1 ⟨rfl, hb⟩; have S1 := Lib.hid (And.intro (Keep.below hb _ _ HKA.out.1) (Keep.below hb _ _ HKA.out.2)); have D1 := Lib.hid (below_up HB3.out.drew hb); have K1 := Lib.hid (Keep.trans HK0.out (Keep.below hb)); clear hb)
              | (go_at_call 24; (with_reducible refine (HBE.out ▸ AreBest_impl _ _ _ _ _ _ _ _ _ F (bx F) (bx F) _ (HF3.out.keep K1.out) (HX.out.keep K1.out) (HX.out.keep K1.out)).mono ?_); rintro e u2 ⟨rfl, hb⟩; have S2 := Lib.hid (And.intro (Keep.below hb _ _ S1.out.1) (Keep.below hb _ _ S1.out.2)); have D2 := Lib.hid (below_up D1.out hb); clear hb))
            all_goals
              clear v0 v1'
              go_wp2
              go_ret
              exact ⟨rfl, D2.out⟩
          · rw [HUV.out, pb_false hvf] at HC
            rw [vF_no hvf] at hUD
            obtain ⟨rfl, rfl⟩ := Prod.mk.inj hUD
            clear hvf hUD HUV HVA
            go_wp2_with fail
            refine HC.out.mono ?_
            rintro e v1 ⟨rfl, hb⟩
            have HB1 := Lib.hid (below_up (below_up HBF.out hb) (below_alloc v1 (.cells #[.int .i64 0, .int .i64 0] 26)))
            clear hb HC HBF HFI
            go_wp2
            go_ret
            exact ⟨rfl, HB1.out⟩
    · have HVQ := Lib.hid (pb_false hv)
      clear hv
      have HC := Lib.hid (HVQ.out ▸ ValidSquare_impl _ _ _ _ w1 HR.out)
      go_wp2_with fail
      refine HC.out.mono ?_
      rintro e w2 ⟨rfl, hq⟩
      have hb := hq.below (B := w1.heap.size)
      have HR_2 := Lib.hid (HR.out.keep (Keep.below hb))
      have B_2 := Lib.hid (below_up B1.out hb)
      clear hb HC hq HR B1
      have HC := Lib.hid (HVQ.out ▸ ValidSquare_spec _ _ _ _ w2 HR_2.out)
      go_wp2_with fail
      refine HC.out.mono ?_
      rintro e w3 ⟨rfl, hq⟩
      have hb := hq.below (B := w2.heap.size)
      have HR_3 := Lib.hid (HR_2.out.keep (Keep.below hb))
      have B_3 := Lib.hid (below_up B_2.out hb)
      clear hb HC hq HR_2 B_2
      have HC := Lib.hid (HVQ.out ▸ ValidSquare_impl _ _ _ _ w3 HR_3.out)
      go_wp2_with fail
      refine HC.out.mono ?_
      rintro e w4 ⟨rfl, hq⟩
      have hb := hq.below (B := w3.heap.size)
      have HR_4 := Lib.hid (HR_3.out.keep (Keep.below hb))
      have B_4 := Lib.hid (below_up B_3.out hb)
      clear hb HC hq HR_3 B_3
      go_wp2
      go_ret
      exact ⟨rfl, B_4.out⟩

set_option maxRecDepth 100000 in
theorem hFnFairGames_lifted (os : Os) (started : os.Started) (H : Type) (enc : TypeId × Value → H) :
    ReturnsInHanded {} Try.checked os 12 .any (Rows.fnFairGamesSpec.pre6 enc Try.prog Try.f12 Rows.fnFairGamesRow.domain false) (Rows.fnFairGamesSpec.post enc Try.prog Try.f12 false true false false) := by
  refine returnsInHanded_of_change_sized (C := Try.checked) Try.own started (by kernel_rfl) Try.func12
    (ChangeSpec.witness6 (enc := enc) (C := Try.checked) false ⟨#[], #[.slice none 0 0], []⟩ 8 (by kernel_rfl) (by kernel_rfl) (by kernel_rfl) (by kernel_rfl)) ?_
  intro W base args ds gs before hval0 hW _ hwt _
  have hval : ∀ (j : Nat) t v, Try.f12.params[j]? = some t → args[j]? = some v → Value.okWide Try.prog W .any base t v := hval0
  have hA : ∃ p, DataW.TrodAll enc Try.prog W 0 (fun _ => true) true Try.f12.params.toList args.toList ds p := by obtain ⟨p, q, hA0, _⟩ := hW; exact ⟨p, hA0⟩
  obtain ⟨p, hA⟩ := hA
  have hwt' := weights_arg hwt (j := 0) (t := 37) (by rw [Try.params12]; rfl) (d := ds.getD 0 .nil)
  rw [Try.params12] at hA hval
  obtain ⟨v0, d0, rfl, rfl, h0⟩ := trodAll_one hA
  obtain ⟨A, n, c, rfl, hx⟩ := open_bytes (hval 0 37 v0 rfl rfl) h0 (hwt' rfl)
  refine (fnFairGames_calls A n c W hx).mono fun e W' ⟨he, hb⟩ => ?_
  subst he
  exact ⟨_, rfl, law_post (F := Try.f12) rfl rfl (by rw [Try.params12]; simp only [List.mem_cons, List.not_mem_nil, or_false, forall_eq]; exact ⟨by kernel_rfl, of_decide_eq_true (by kernel_rfl)⟩) hW (fun h => by subst h; rfl) hb⟩

theorem hFnFairGames_holds : Rows.FnFairGamesSaid :=
  OpenClaim.holds_of_wide 12 Try.f12 rfl rfl rfl rfl rfl rfl rfl ⟨rfl, rfl, rfl, rfl, rfl⟩ rfl rfl rfl rfl rfl (by kernel_rfl) Try.func12
    (by unfold joinedFacts; simp only [Bool.and_eq_true]; (repeat' apply And.intro) <;> (first | (with_reducible exact prog_enters) | ((with_reducible refine prog_lifts ?_); rfl) | ((with_reducible refine prog_make ?_); rfl) | kernel_rfl))
    (of_decide_eq_true (by kernel_rfl)) (by unfold Func.isWrapper; first | (rw [if_pos (by decide +kernel)]; kernel_rfl) | (rw [if_neg (by decide +kernel)]; exact ⟨rfl, rfl⟩))
    (fun os started H enc _ => hFnFairGames_lifted os started H enc)

end Go.Proofs.Ytmhknknapciebaa
