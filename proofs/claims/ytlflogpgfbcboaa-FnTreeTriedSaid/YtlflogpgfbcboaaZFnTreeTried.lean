/- The law FnTreeTried holds: for every code, of the costs and the root that are drawn, TreeTried is TreeByRounds, and with all costs 1 more as much more as there are other states. No condition. -/
import Derived.Test.YtlflogpgfbcboaaQ12
namespace Go.Proofs.Ytlflogpgfbcboaa
open Go.ChangeShapes Go.WideShapes Go.ChangeAt Go.RowKit Go.Deep

set_option maxRecDepth 100000 in
set_option maxHeartbeats 3200000 in
theorem fnTreeTried_calls (A : Option Addr) (n c : Nat) (w : World) (hx : Bytes w A n c) :
    Calls Try.prog 6 #[.slice A n c] w fun e w' => e = .returned (.bool true) ∧ Below w.heap.size w w' := by
  have hmx := hx.max
  have H0 := Lib.hid (DrawTreeTried_any A n c w hx)
  clear hx
  by_cases hs : 1048576 < n
  · go_enter Try.func6, Try.ntmps6
    go_wp2
    go_ret
    exact ⟨rfl, Below.refl _ _⟩
  · go_enter Try.func6, Try.ntmps6
    go_wp2_with fail
    refine H0.out.mono ?_
    rintro e w1 ⟨Av, k, cv, gg, xss, root, rfl, hsm, hown, hri, hb⟩
    have HS := Lib.hid hsm
    have HR := Lib.hid hown.rows
    have B1 := Lib.hid hb
    have LX := Lib.hid hown.rows.len
    have hmk := hown.rows.max
    have HFR := Lib.hid (show Fit root by unfold Fit; omega)
    clear hsm hown hb H0
    have HC := Lib.hid (TreeTried_impl _ _ _ _ root w1 HR.out HFR.out)
    go_wp2_with fail
    refine HC.out.mono ?_
    rintro e w2 ⟨rfl, hb⟩
    have HR_2 := Lib.hid (HR.out.keep (Keep.below hb))
    have B_2 := Lib.hid (below_up B1.out hb)
    clear hb HC HR B1
    have HC := Lib.hid (TreeTried_spec _ _ _ _ root w2 HR_2.out HFR.out)
    go_wp2_with fail
    refine HC.out.mono ?_
    rintro e w3 ⟨rfl, hb⟩
    have HR_3 := Lib.hid (HR_2.out.keep (Keep.below hb))
    have B_3 := Lib.hid (below_up B_2.out hb)
    clear hb HC HR_2 B_2
    by_cases hv : VC xss ∧ Blw xss.length root
    · obtain ⟨r, rfl⟩ : ∃ r : Nat, root = r := ⟨root.toNat, by have := hv.2.1; omega⟩
      have hrk : r < xss.length := by have := hv.2.2; omega
      have HV := Lib.hid hv.1
      have h4 := hv.1.n4
      have h1 := hv.1.n1
      have hbd := TF_bd hv.1 hrk
      have HMO := Lib.hid (TF_more hv.1 hrk)
      rw [LX.out] at h4 h1 HMO
      have hbne : (TF xss (r : Int) != TF xss (r : Int)) = false := by simp
      clear hv
      generalize hT : TF xss (r : Int) = T at *
      have HT_ := Lib.hid hT
      clear hT
      have HTM := Lib.hid (TM.start w3)
      have HR4 := Lib.hid (HR_3.out.keep (Keep.below (below_alloc w3 (.cells #[] 27))))
      go_wp2
      go_loopw [6, 7] (fun v i wr => ∃ (p : Nat) (vs : List Value), p ≤ k ∧ i = .int .i64 p ∧ Hid (TM w3 v vs (morT (xss.take p)) wr)) (fun _ i _ => k - (intOf i).toNat)
      case atStart => exact ⟨0, [], Nat.zero_le _, rfl, HTM⟩
      case round =>
        clear HTM HR4
        obtain ⟨p, vs, hp, rfl, HT⟩ := hrel
        obtain ⟨Au, cu, rfl⟩ := HT.out.bo.form
        have HLT := Lib.hid (show (morT (xss.take p)).length ≤ 4 by rw [morT_len, List.length_take]; omega)
        by_cases hpk : p < k
        · have HI := Lib.hid HT.out.row
          have HMS := Lib.hid (morT_step (a := xss) (i := p) (by rw [LX.out]; exact hpk))
          have hrl := (HV.out.rows p (by rw [LX.out]; exact hpk)).1
          rw [LX.out] at hrl
          have HRL := Lib.hid hrl
          clear HT hrl
          generalize morT (xss.take p) = acc at *
          go_wp2
          obtain ⟨wA, hwA⟩ : ∃ wA, wA = wr := ⟨_, rfl⟩
          subst hwA
          generalize wA.heap.size = N at *
          go_loopw [8, 9] (fun u i wi => ∃ (j : Nat), j ≤ k ∧ i = .int .i64 j ∧ Hid (TN w3 N (.slice Au acc.length cu) vs acc u (morR ((gr xss p).take j)) wi)) (fun _ i _ => k - (intOf i).toNat)
          case atStart => exact ⟨0, Nat.zero_le _, rfl, HI⟩
          case round =>
            clear HI
            obtain ⟨j, hj, rfl, HI⟩ := hrel
            obtain ⟨Aw, cw_, hform⟩ := HI.out.bi.form
            have HML := Lib.hid (show (morR ((gr xss p).take j)).length ≤ 4 by rw [morR_len, List.length_take]; omega)
            by_cases hjk : j < k
            · obtain ⟨bA, oA, hAa, hcA⟩ := (HR_3.out.keep (Keep.below HI.out.up)).at_ (by omega)
              obtain ⟨R1, cc1, e1, hI1⟩ := hcA p hpk
              rw [HRL.out] at e1 hI1
              obtain ⟨b1, o1, rfl, hc1⟩ := hI1.at_ (by omega)
              have e2 := hc1 j hjk
              have HS1 := Lib.hid (morR_step (r := gr xss p) (j := j) (by rw [HRL.out]; exact hjk))
              have hxb := (HV.out.rows p (by rw [LX.out]; exact hpk)).2 j (by rw [LX.out]; exact hjk)
              unfold InR at hxb
              subst hAa
              rw [hform]
              clear hcA hI1 hc1
              generalize gi (gr xss p) j = x at *
              generalize morR ((gr xss p).take j) = ys at *
              have hb := below_alloc wr (.cells #[iv (x + 1)] 3)
              have HB4 := Lib.hid (HI.out.bi.below hb).own
              have HN := Lib.hid (cell_one_new wr (iv (x + 1)) 3)
              have hHs := HI.out.hs
              have hlh := HI.out.lh
              subst hform
              clear hb
              obtain ⟨i0, hi0, hz0, hz1, hz2⟩ := info_parts Try.info_int
              go_wp2_with (at_builtin; refine wpList_append_own_at _ rfl _ _ 27 rfl N 3 i0 (.int .i64 0) 1 8 Try.underlying27 hi0 hz0 hz1 hz2 rfl (by decide) _ ys.length (ys.map iv) rfl HB4.out ⟨wr.heap.size, 0, none⟩ 1 1 [iv (x + 1)] rfl rfl ?c1 ?c2 ?c3 ?c4 ?c5 ?_)
              case c1 => exact HN.out
              case c2 => intro u hu; simp at hu; subst hu; rfl
              case c3 => have := HML.out; unfold maxLen; omega
              case c4 => have := HML.out; omega
              case c5 => simp; omega
              intro v' w5 hown' hgrow _ hat
              have HI5 := Lib.hid (HI.out.push hown' hgrow (by simpa using hat))
              clear HB4 HN hown' hgrow hat HI e1 e2
              go_wp2
              go_roundw
              case rel => exact ⟨j + 1, by omega, by go_num, Lib.hid (by rw [HS1.out]; exact HI5.out)⟩
              case measure => simp [intOf]; omega
            · obtain rfl : j = k := by omega
              have HE := Lib.hid (show morR ((gr xss p).take j) = morR (gr xss p) by rw [← HRL.out, List.take_length])
              have HWF := Lib.hid (show ∀ y ∈ morR (gr xss p), 0 ≤ y ∧ y ≤ 21 from fun y hy => by
                obtain ⟨z, hz, rfl⟩ := List.mem_map.1 hy
                obtain ⟨q, hq, e⟩ := List.mem_iff_getElem.1 hz
                rw [← gi_get hq] at e
                have := (HV.out.rows p (by rw [LX.out]; exact hpk)).2 q (by rw [LX.out, ← HRL.out]; exact hq)
                unfold InR at this
                omega)
              rw [HE.out] at HI
              rw [hform, HE.out]
              rw [hform, HE.out] at HI
              rw [HE.out] at HML
              clear hform HE
              generalize morR (gr xss p) = ys at *
              obtain ⟨A', n', c', g', e, hn', ho, _⟩ := HI.out.bi.owns (by have := HML.out; omega) (fun y hy => by have := HWF.out y hy; omega)
              injection e with e1 e2 e3
              subst e1
              subst e2
              subst e3
              have HO := Lib.hid ho
              have hb := below_alloc wr (.cells #[.slice Aw ys.length cw_] 27)
              have HB4 := Lib.hid (HI.out.bo.below hb).own
              have HN := Lib.hid (cell_one_new wr (.slice Aw ys.length cw_) 27)
              have hHs := HI.out.hs
              have hlh := HI.out.lh
              clear hb ho
              obtain ⟨i0, hi0, hz0, hz1, hz2⟩ := info_parts Try.info_row
              go_wp2_with (at_builtin; refine wpList_append_own_at _ rfl _ _ 22 rfl w3.heap.size 27 i0 (.slice none 0 0) 1 24 Try.underlying22 hi0 hz0 hz1 hz2 rfl (by decide) _ acc.length vs rfl HB4.out ⟨wr.heap.size, 0, none⟩ 1 1 [.slice Aw ys.length cw_] rfl rfl (by exact HN.out) ?d2 ?d3 ?d4 ?d5 ?_)
              case d2 => first | (intro u hu; simp at hu; subst hu; rfl) | rfl | simp [Value.oneCell']
              case d3 => have := HLT.out; unfold maxLen; omega
              case d4 => have := HLT.out; omega
              case d5 => first | omega | (simp; omega)
              intro v' w5 hown' hgrow _ hat
              have HT5 := Lib.hid (HI.out.done HO.out hown' hgrow (by simpa using hat))
              clear HB4 HN hown' hgrow hat HI HO
              go_wp2
              go_roundw
              case rel => exact ⟨p + 1, _, by omega, by go_num, Lib.hid (by rw [HMS.out]; exact HT5.out)⟩
              case measure => simp [intOf]; omega
        · obtain rfl : p = k := by omega
          have HE := Lib.hid (show morT (xss.take p) = morT xss by rw [← LX.out, List.take_length])
          obtain ⟨A', n', c', g', e, hn', ho⟩ := HT.out.bo.owns (by have := HLT.out; omega)
          injection e with e1 e2 e3
          subst e1
          subst e2
          subst e3
          have HMR := Lib.hid ho.rows
          rw [HE.out] at HMR
          rw [HE.out]
          have HRr := Lib.hid (HR_3.out.keep (Keep.below HT.out.up))
          have BW := Lib.hid (below_up B_3.out HT.out.up)
          clear ho HT
          have HC := Lib.hid (TreeTried_impl _ _ _ _ (r : Int) wr HMR.out HFR.out)
          go_wp2_with fail
          refine HC.out.mono ?_
          rintro e w4 ⟨rfl, hb⟩
          have HR5 := Lib.hid (HRr.out.keep (Keep.below hb))
          have B5 := Lib.hid (below_up BW.out hb)
          clear hb HC HRr BW
          have HC := Lib.hid (TreeByRounds_impl _ _ _ _ (r : Int) w4 HR5.out HFR.out)
          rw [HT_.out] at HC
          go_wp2_with fail
          refine HC.out.mono ?_
          rintro e w5 ⟨rfl, hb⟩
          have B6 := Lib.hid (below_up B5.out hb)
          clear hb HC B5
          have hmo := HMO.out
          clear HMO
          have htt : (T == T) = true := by simp
          generalize TF (morT xss) (r : Int) = M at *
          by_cases hM : M < 0
          · have hM' : decide (M < 0) = true := decide_eq_true hM
            go_wp2
            go_ret
            exact ⟨rfl, B6.out⟩
          · have hM' : decide (M < 0) = false := decide_eq_false hM
            have hME : M = T + (p : Int) - 1 := by omega
            subst hME
            have hee : ((T + (p : Int) - 1) == (T + (p : Int) - 1)) = true := by simp
            go_wp2
            go_ret
            exact ⟨rfl, B6.out⟩
    · have hT := TF_no hv
      clear hv
      rw [hT]
      have HC := Lib.hid (hT ▸ TreeTried_spec _ _ _ _ root w3 HR_3.out HFR.out)
      go_wp2_with fail
      refine HC.out.mono ?_
      rintro e w4 ⟨rfl, hb⟩
      have HR_4 := Lib.hid (HR_3.out.keep (Keep.below hb))
      have B_4 := Lib.hid (below_up B_3.out hb)
      clear hb HC HR_3 B_3
      go_wp2
      go_ret
      exact ⟨rfl, B_4.out⟩

set_option maxRecDepth 100000 in
theorem hFnTreeTried_lifted (os : Os) (started : os.Started) (H : Type) (enc : TypeId × Value → H) :
    ReturnsInHanded {} Try.checked os 6 .any (Rows.fnTreeTriedSpec.pre6 enc Try.prog Try.f6 Rows.fnTreeTriedRow.domain false) (Rows.fnTreeTriedSpec.post enc Try.prog Try.f6 false true false false) := by
  refine returnsInHanded_of_change_sized (C := Try.checked) Try.own started (by kernel_rfl) Try.func6
    (ChangeSpec.witness6 (enc := enc) (C := Try.checked) false ⟨#[], #[.slice none 0 0], []⟩ 8 (by kernel_rfl) (by kernel_rfl) (by kernel_rfl) (by kernel_rfl)) ?_
  intro W base args ds gs before hval0 hW _ hwt _
  have hval : ∀ (j : Nat) t v, Try.f6.params[j]? = some t → args[j]? = some v → Value.okWide Try.prog W .any base t v := hval0
  have hA : ∃ p, DataW.TrodAll enc Try.prog W 0 (fun _ => true) true Try.f6.params.toList args.toList ds p := by obtain ⟨p, q, hA0, _⟩ := hW; exact ⟨p, hA0⟩
  obtain ⟨p, hA⟩ := hA
  have hwt' := weights_arg hwt (j := 0) (t := 32) (by rw [Try.params6]; rfl) (d := ds.getD 0 .nil)
  rw [Try.params6] at hA hval
  obtain ⟨v0, d0, rfl, rfl, h0⟩ := trodAll_one hA
  obtain ⟨A, n, c, rfl, hx⟩ := open_bytes (hval 0 32 v0 rfl rfl) h0 (hwt' rfl)
  refine (fnTreeTried_calls A n c W hx).mono fun e W' ⟨he, hb⟩ => ?_
  subst he
  exact ⟨_, rfl, law_post (F := Try.f6) rfl rfl (by rw [Try.params6]; simp only [List.mem_cons, List.not_mem_nil, or_false, forall_eq]; exact ⟨by kernel_rfl, of_decide_eq_true (by kernel_rfl)⟩) hW (fun h => by subst h; rfl) hb⟩

theorem hFnTreeTried_holds : Rows.FnTreeTriedSaid :=
  OpenClaim.holds_of_wide 6 Try.f6 rfl rfl rfl rfl rfl rfl rfl ⟨rfl, rfl, rfl, rfl, rfl⟩ rfl rfl rfl rfl rfl (by kernel_rfl) Try.func6
    (by unfold joinedFacts; simp only [Bool.and_eq_true]; (repeat' apply And.intro) <;> (first | (with_reducible exact prog_enters) | ((with_reducible refine prog_lifts ?_); rfl) | ((with_reducible refine prog_make ?_); rfl) | kernel_rfl))
    (of_decide_eq_true (by kernel_rfl)) (by unfold Func.isWrapper; first | (rw [if_pos (by decide +kernel)]; kernel_rfl) | (rw [if_neg (by decide +kernel)]; exact ⟨rfl, rfl⟩))
    (fun os started H enc _ => hFnTreeTried_lifted os started H enc)

end Go.Proofs.Ytlflogpgfbcboaa
