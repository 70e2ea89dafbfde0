/- The law FnCheaperWaysHelp holds: for every code, of the costs and the state that are drawn, with the ways out of the first state halved the least tree costs no more. No condition. -/
import Derived.Test.YtidoahicgiaodaaQ13
namespace Go.Proofs.Ytidoahicgiaodaa
open Go.ChangeShapes Go.WideShapes Go.ChangeAt Go.RowKit Go.Deep

set_option maxRecDepth 100000 in
set_option maxHeartbeats 3200000 in
theorem fnCheaperWaysHelp_calls (A : Option Addr) (n c : Nat) (w : World) (hx : Bytes w A n c) :
    Calls Try.prog 8 #[.slice A n c] w fun e w' => e = .returned (.bool true) ∧ Below w.heap.size w w' := by
  have hmx := hx.max
  have H0 := Lib.hid (DrawTreeByRounds_any A n c w hx)
  clear hx
  by_cases hs : 1048576 < n
  · go_enter Try.func8, Try.ntmps8
    go_wp2
    go_ret
    exact ⟨rfl, Below.refl _ _⟩
  · go_enter Try.func8, Try.ntmps8
    go_wp2_with fail
    refine H0.out.mono ?_
    rintro e w1 ⟨Av, k, cv, gg, xss, root, rfl, hsm, hown, hri, hb⟩
    have HS := Lib.hid hsm
    have HR := Lib.hid hown.rows
    have B1 := Lib.hid hb
    have LX := Lib.hid hown.rows.len
    have hmk := hown.rows.max
    have HFR := Lib.hid (show Fit root by unfold Fit; omega)
    clear hsm hown hb H0
    have HC := Lib.hid (TreeByRounds_impl _ _ _ _ root w1 HR.out HFR.out)
    go_wp2_with fail
    refine HC.out.mono ?_
    rintro e w2 ⟨rfl, hb⟩
    have HR_2 := Lib.hid (HR.out.keep (Keep.below hb))
    have B_2 := Lib.hid (below_up B1.out hb)
    clear hb HC HR B1
    have HC := Lib.hid (TreeByRounds_spec _ _ _ _ root w2 HR_2.out HFR.out)
    go_wp2_with fail
    refine HC.out.mono ?_
    rintro e w3 ⟨rfl, hb⟩
    have HR_3 := Lib.hid (HR_2.out.keep (Keep.below hb))
    have B_3 := Lib.hid (below_up B_2.out hb)
    clear hb HC HR_2 B_2
    have hbne : (TF xss root != TF xss root) = false := by simp
    by_cases hv : VC xss ∧ Blw xss.length root
    · obtain ⟨r, rfl⟩ : ∃ r : Nat, root = r := ⟨root.toNat, by have := hv.2.1; omega⟩
      have hrk : r < xss.length := by have := hv.2.2; omega
      have HV := Lib.hid hv.1
      have h4 := hv.1.n4
      have h1 := hv.1.n1
      have hbd := TF_bd hv.1 hrk
      have HLE := Lib.hid (ha_less hv.1 hrk)
      have HEB := Lib.hid (fun i j (hi : i < k) (hj : j < k) => (haF_bd hv.1 (i := i) (j := j) (by rw [LX.out]; exact hi) (by rw [LX.out]; exact hj)).1)
      rw [LX.out] at h4 h1 HLE hrk
      clear hv
      have HC := Lib.hid (TreeTried_impl _ _ _ _ (r : Int) w3 HR_3.out HFR.out)
      generalize hT : TF xss (r : Int) = T at *
      clear hT
      go_wp2_with fail
      refine HC.out.mono ?_
      rintro e w4 ⟨rfl, hb⟩
      have HR4 := Lib.hid (HR_3.out.keep (Keep.below hb))
      have B4 := Lib.hid (below_up B_3.out hb)
      clear hb HC hbne HR_3 B_3
      have HTM := Lib.hid (TM.start w4)
      go_wp2
      go_loopw [6, 7] (fun v i wr => ∃ (p : Nat) (vs : List Value), p ≤ k ∧ i = .int .i64 p ∧ Hid (TM w4 v vs (chT (haF xss) xss p) wr)) (fun _ i _ => k - (intOf i).toNat)
      case atStart => exact ⟨0, [], Nat.zero_le _, rfl, HTM⟩
      case round =>
        clear HTM
        obtain ⟨p, vs, hp, rfl, HT⟩ := hrel
        obtain ⟨Au, cu, rfl⟩ := HT.out.bo.form
        have HLT := Lib.hid (chT_len (haF xss) xss p)
        by_cases hpk : p < k
        · have HI := Lib.hid HT.out.row
          have HMS := Lib.hid (chT_succ (haF xss) xss p)
          have hrl := (HV.out.rows p (by rw [LX.out]; exact hpk)).1
          rw [LX.out] at hrl
          have HRL := Lib.hid hrl
          have HRW := Lib.hid (HR4.out.keep (Keep.below HI.out.up))
          have HXB := Lib.hid (show ∀ j, j < k → 0 ≤ gi (gr xss p) j ∧ gi (gr xss p) j ≤ 20 from fun j hj => by
            have := (HV.out.rows p (by rw [LX.out]; exact hpk)).2 j (by rw [LX.out]; exact hj)
            unfold InR at this; exact this)
          have HEP := Lib.hid (fun j (hj : j < k) => HEB.out p j hpk hj)
          have HEF : Hid (∀ j, haF xss p j = if p = 0 then gi (gr xss p) j / 2 else gi (gr xss p) j) := Lib.hid (fun _ => rfl)
          obtain ⟨bA, oA, hAa, hcA⟩ := HRW.out.at_ (by omega)
          obtain ⟨R1, cc1, e1, hI1⟩ := hcA p hpk
          rw [HRL.out] at e1 hI1
          obtain ⟨b1, o1, rfl, hc1⟩ := hI1.at_ (by omega)
          subst hAa
          have HNW : Hid (∀ j u, ((gr xss p).map iv)[j]? = some u → (wr.alloc (.cells #[] 3)).cell? ((⟨b1, o1, none⟩ : Addr).add j) = some u) := Lib.hid (fun j u hu => by
            rw [List.getElem?_map] at hu
            by_cases hj : j < (gr xss p).length
            · rw [List.getElem?_eq_getElem hj] at hu
              simp at hu
              subst hu
              rw [Addr.add_lit, hc1 j (by rw [← HRL.out]; exact hj), gi_get hj]; rfl
            · rw [List.getElem?_eq_none (by omega)] at hu; simp at hu)
          clear HT hrl HRW hcA hI1 hc1
          generalize chT (haF xss) xss p = acc at *
          generalize gr xss p = row at *
          generalize hef : haF xss p = ef at *
          clear hef
          have HB4 := Lib.hid HI.out.bi.own
          have hHs := HI.out.hs
          have hlh := HI.out.lh
          obtain ⟨i0, hi0, hz0, hz1, hz2⟩ := info_parts Try.info_int
          go_wp2_with (at_builtin; refine wpList_append_own_at _ rfl _ _ 36 rfl wr.heap.size 3 i0 (.int .i64 0) 1 8 Try.underlying36 hi0 hz0 hz1 hz2 rfl (by decide) _ 0 [] rfl HB4.out ⟨b1, o1, none⟩ k cc1 (row.map iv) rfl (by rw [List.length_map, HRL.out, Nat.mul_one]) HNW.out ?c2 ?c3 ?c4 ?c5 ?_)
          case c2 => intro u hu; obtain ⟨z, _, rfl⟩ := List.mem_map.1 hu; rfl
          case c3 => unfold maxLen; omega
          case c4 => omega
          case c5 => simp
          intro v' w5 hown' hgrow _ hat
          have HI5 := Lib.hid (HI.out.pushs (zs := row) (u' := v') (w' := w5) (by simp only [List.length_nil, Nat.zero_add, List.map_nil, List.nil_append]; have h := hown'; rw [← HRL.out] at h; exact h) hgrow)
          rw [List.nil_append, ← updR_zero ef row] at HI5
          clear HB4 hown' hgrow hat HI HNW e1
          go_wp2
          obtain ⟨wA, hwA⟩ : ∃ wA, wA = wr := ⟨_, rfl⟩
          subst hwA
          generalize wA.heap.size = N at *
          go_loopw [9] (fun i wr => ∃ (j : Nat), j ≤ k ∧ i = .int .i64 j ∧ Hid (TN w4 N (.slice Au acc.length cu) vs acc v' (updR ef row j) wr)) (fun i _ => k - (intOf i).toNat)
          case atStart => exact ⟨0, Nat.zero_le _, rfl, HI5⟩
          case round =>
            clear HI5
            obtain ⟨j, hj, rfl, HI⟩ := hrel
            have HIDE := Lib.hid (fun (hp0 : p ≠ 0) (q : Nat) => (HEF.out q).trans (if_neg hp0))
            by_cases hjk : j < k
            · by_cases hp0 : p = 0
              · have hp0' : ((p : Int) == 0) = true := by simp [hp0]
                obtain ⟨b2, c2, hv2, hce, hfr, hset⟩ := HI.out.set (j := j) (by rw [updR_len, HRL.out]; exact hjk) (ef j)
                have HST := Lib.hid hset
                rw [updR_set] at HST
                rw [gi_updR (by rw [HRL.out]; exact hjk), if_neg (by omega)] at hce
                have hxb := HXB.out j hjk
                have hej := HEF.out j
                rw [updR_len, HRL.out] at hv2
                rw [if_pos hp0] at hej
                rw [hej] at HST
                generalize gi row j = x at *
                have hdv : x.tdiv 2 = x / 2 := Int.tdiv_eq_ediv_of_nonneg hxb.1
                have hwr : IntKind.i64.wrap (x / 2) = x / 2 := wrap_in64 (by omega)
                clear hset hej hp0 HI HIDE
                rw [hv2]
                rw [hv2] at HST
                go_wp2
                clear hce hfr hdv hwr
                go_roundw
                case rel => exact ⟨j + 1, by omega, by go_num, by first | exact HST | (rw [hv2]; exact HST)⟩
                case measure => simp [intOf]; omega
              · have hp0' : ((p : Int) == 0) = false := by rw [beq_eq_false_iff_ne]; omega
                obtain ⟨A', n', c', g', e, hn', ho, _⟩ := HI.out.bi.owns (by rw [updR_len, HRL.out]; omega) (fun y hy => by
                  obtain ⟨q, hq, rfl⟩ := List.mem_map.1 hy
                  rw [List.mem_range, HRL.out] at hq
                  have h1 := HEP.out q hq
                  have h2 := HXB.out q hq
                  split <;> omega)
                rw [e]
                rw [e] at HI
                rw [hn']
                rw [hn'] at HI ho
                have HRE := Lib.hid (show updR ef row j = updR ef row row.length by rw [updR_id (fun q _ => HIDE.out hp0 q), updR_id (fun q _ => HIDE.out hp0 q)])
                have HO := Lib.hid ho
                have HML := Lib.hid (show (updR ef row j).length ≤ 4 by rw [updR_len, HRL.out]; omega)
                generalize updR ef row j = ys at *
                have HB4 := Lib.hid (HI.out.bo.below (below_alloc wr (.cells #[.slice A' ys.length c'] 36))).own
                have HN := Lib.hid (cell_one_new wr (.slice A' ys.length c') 36)
                have hHs := HI.out.hs
                have hlh := HI.out.lh
                clear ho e hn'
                obtain ⟨i0, hi0, hz0, hz1, hz2⟩ := info_parts Try.info_row
                go_wp2_with (at_builtin; refine wpList_append_own_at _ rfl _ _ 22 rfl w4.heap.size 36 i0 (.slice none 0 0) 1 24 Try.underlying22 hi0 hz0 hz1 hz2 rfl (by decide) _ acc.length vs rfl HB4.out ⟨wr.heap.size, 0, none⟩ 1 1 [.slice A' ys.length c'] rfl rfl (by exact HN.out) ?f2 ?f3 ?f4 ?f5 ?_)
                case f2 => first | (intro u hu; simp at hu; subst hu; rfl) | rfl | simp [Value.oneCell']
                case f3 => have := HLT.out; unfold maxLen; omega
                case f4 => have := HLT.out; omega
                case f5 => first | omega | (simp; omega)
                intro v2 w5 hown' hgrow _ hat
                have HT5 := Lib.hid (HI.out.done HO.out hown' hgrow (by simpa using hat))
                clear HB4 HN hown' hgrow hat HI HO
                go_wp2
                go_roundw
                case rel => exact ⟨p + 1, _, by omega, by go_num, Lib.hid (by rw [HMS.out, ← HRE.out]; exact HT5.out)⟩
                case measure => simp [intOf]; omega
            · obtain rfl : j = k := by omega
              obtain ⟨A', n', c', g', e, hn', ho, _⟩ := HI.out.bi.owns (by rw [updR_len, HRL.out]; omega) (fun y hy => by
                obtain ⟨q, hq, rfl⟩ := List.mem_map.1 hy
                rw [List.mem_range, HRL.out] at hq
                have h1 := HEP.out q hq
                have h2 := HXB.out q hq
                split <;> omega)
              rw [e]
              rw [e] at HI
              rw [hn']
              rw [hn'] at HI ho
              have HRE := Lib.hid (show updR ef row j = updR ef row row.length by rw [HRL.out])
              have HO := Lib.hid ho
              have HML := Lib.hid (show (updR ef row j).length ≤ 4 by rw [updR_len, HRL.out]; omega)
              generalize updR ef row j = ys at *
              have HB4 := Lib.hid (HI.out.bo.below (below_alloc wr (.cells #[.slice A' ys.length c'] 36))).own
              have HN := Lib.hid (cell_one_new wr (.slice A' ys.length c') 36)
              have hHs := HI.out.hs
              have hlh := HI.out.lh
              clear ho e hn'
              obtain ⟨i0, hi0, hz0, hz1, hz2⟩ := info_parts Try.info_row
              go_wp2_with (at_builtin; refine wpList_append_own_at _ rfl _ _ 22 rfl w4.heap.size 36 i0 (.slice none 0 0) 1 24 Try.underlying22 hi0 hz0 hz1 hz2 rfl (by decide) _ acc.length vs rfl HB4.out ⟨wr.heap.size, 0, none⟩ 1 1 [.slice A' ys.length c'] rfl rfl (by exact HN.out) ?d2 ?d3 ?d4 ?d5 ?_)
              case d2 => first | (intro u hu; simp at hu; subst hu; rfl) | rfl | simp [Value.oneCell']
              case d3 => have := HLT.out; unfold maxLen; omega
              case d4 => have := HLT.out; omega
              case d5 => first | omega | (simp; omega)
              intro v2 w5 hown' hgrow _ hat
              have HT5 := Lib.hid (HI.out.done HO.out hown' hgrow (by simpa using hat))
              clear HB4 HN hown' hgrow hat HI HO
              go_wp2
              go_roundw
              case rel => exact ⟨p + 1, _, by omega, by go_num, Lib.hid (by rw [HMS.out, ← HRE.out]; exact HT5.out)⟩
              case measure => simp [intOf]; omega
        · obtain rfl : p = k := by omega
          obtain ⟨A', n', c', g', e, hn', ho⟩ := HT.out.bo.owns (by have := HLT.out; omega)
          injection e with e1 e2 e3
          subst e1
          subst e2
          subst e3
          have HMR := Lib.hid ho.rows
          have BW := Lib.hid (below_up B4.out HT.out.up)
          clear ho HT
          rw [HLT.out] at HMR ⊢
          generalize chT (haF xss) xss p = es at *
          have HC := Lib.hid (TreeTried_impl _ _ _ _ (r : Int) wr HMR.out HFR.out)
          generalize TF es (r : Int) = T2 at *
          have hle := HLE.out
          have hled : decide (T2 ≤ T) = true := by simpa using hle
          clear HLE hle
          go_wp2_with fail
          refine HC.out.mono ?_
          rintro e w5 ⟨rfl, hb⟩
          have B5 := Lib.hid (below_up BW.out hb)
          clear hb HC HMR BW
          go_wp2
          go_ret
          exact ⟨rfl, B5.out⟩
    · have hT := TF_no hv
      clear hv
      have HC := Lib.hid (hT ▸ TreeTried_impl _ _ _ _ root w3 HR_3.out HFR.out)
      rw [hT]
      rw [hT] at hbne
      go_wp2_with fail
      refine HC.out.mono ?_
      rintro e w4 ⟨rfl, hb⟩
      have B4 := Lib.hid (below_up B_3.out hb)
      clear hb HC
      go_wp2
      go_ret
      exact ⟨rfl, B4.out⟩

set_option maxRecDepth 100000 in
theorem hFnCheaperWaysHelp_lifted (os : Os) (started : os.Started) (H : Type) (enc : TypeId × Value → H) :
    ReturnsInHanded {} Try.checked os 8 .any (Rows.fnCheaperWaysHelpSpec.pre6 enc Try.prog Try.f8 Rows.fnCheaperWaysHelpRow.domain false) (Rows.fnCheaperWaysHelpSpec.post enc Try.prog Try.f8 false true false false) := by
  refine returnsInHanded_of_change_sized (C := Try.checked) Try.own started (by kernel_rfl) Try.func8
    (ChangeSpec.witness6 (enc := enc) (C := Try.checked) false ⟨#[], #[.slice none 0 0], []⟩ 8 (by kernel_rfl) (by kernel_rfl) (by kernel_rfl) (by kernel_rfl)) ?_
  intro W base args ds gs before hval0 hW _ hwt _
  have hval : ∀ (j : Nat) t v, Try.f8.params[j]? = some t → args[j]? = some v → Value.okWide Try.prog W .any base t v := hval0
  have hA : ∃ p, DataW.TrodAll enc Try.prog W 0 (fun _ => true) true Try.f8.params.toList args.toList ds p := by obtain ⟨p, q, hA0, _⟩ := hW; exact ⟨p, hA0⟩
  obtain ⟨p, hA⟩ := hA
  have hwt' := weights_arg hwt (j := 0) (t := 32) (by rw [Try.params8]; rfl) (d := ds.getD 0 .nil)
  rw [Try.params8] at hA hval
  obtain ⟨v0, d0, rfl, rfl, h0⟩ := trodAll_one hA
  obtain ⟨A, n, c, rfl, hx⟩ := open_bytes (hval 0 32 v0 rfl rfl) h0 (hwt' rfl)
  refine (fnCheaperWaysHelp_calls A n c W hx).mono fun e W' ⟨he, hb⟩ => ?_
  subst he
  exact ⟨_, rfl, law_post (F := Try.f8) rfl rfl (by rw [Try.params8]; simp only [List.mem_cons, List.not_mem_nil, or_false, forall_eq]; exact ⟨by kernel_rfl, of_decide_eq_true (by kernel_rfl)⟩) hW (fun h => by subst h; rfl) hb⟩

theorem hFnCheaperWaysHelp_holds : Rows.FnCheaperWaysHelpSaid :=
  OpenClaim.holds_of_wide 8 Try.f8 rfl rfl rfl rfl rfl rfl rfl ⟨rfl, rfl, rfl, rfl, rfl⟩ rfl rfl rfl rfl rfl (by kernel_rfl) Try.func8
    (by unfold joinedFacts; simp only [Bool.and_eq_true]; (repeat' apply And.intro) <;> (first | (with_reducible exact prog_enters) | ((with_reducible refine prog_lifts ?_); rfl) | ((with_reducible refine prog_make ?_); rfl) | kernel_rfl))
    (of_decide_eq_true (by kernel_rfl)) (by unfold Func.isWrapper; first | (rw [if_pos (by decide +kernel)]; kernel_rfl) | (rw [if_neg (by decide +kernel)]; exact ⟨rfl, rfl⟩))
    (fun os started H enc _ => hFnCheaperWaysHelp_lifted os started H enc)

end Go.Proofs.Ytidoahicgiaodaa
