/- The law FnSafeRow holds: for every code, of the table that it draws, the program's SafeRow answers as the model's, its number is the least of its row, in it and no more than the value, and that of the other player, with the other sign, is no less. No condition. -/
import Derived.Test.YtgnbmanlpppdoaaQ8
namespace Go.Proofs.Ytgnbmanlpppdoaa
open Go.ChangeShapes Go.WideShapes Go.ChangeAt Go.RowKit Go.Deep

set_option maxRecDepth 100000 in
set_option maxHeartbeats 3200000 in
theorem fnSafeRow_calls (A : Option Addr) (n c : Nat) (w : World) (hx : Bytes w A n c) :
    Calls Try.prog 3 #[.slice A n c] w fun e w' => e = .returned (.bool true) ∧ Below w.heap.size w w' := by
  have hmx := hx.max
  have H0 := Lib.hid (DrawSafeRow_any A n c w hx)
  clear hx
  by_cases hs : 1048576 < n
  · go_enter Try.func3, Try.ntmps3
    go_wp2
    go_ret
    exact ⟨rfl, Below.refl _ _⟩
  · go_enter Try.func3, Try.ntmps3
    go_wp2_with fail
    refine H0.out.mono ?_
    rintro e w1 ⟨Av, k, cv, gg, xss, rfl, hsm, hown, hb⟩
    have HS := Lib.hid hsm
    have H1 := Lib.hid hown.rows
    have HR := Lib.hid hown.rows
    have B1 := Lib.hid hb
    have LX := Lib.hid hown.rows.len
    clear hsm hown hb H0
    by_cases hv : VT xss
    · have HV := Lib.hid hv
      have HTV := Lib.hid (pb_true hv)
      have hk : 0 < k := by rw [← LX.out]; exact hv.n1
      have hil := bst_lt' hv
      rw [LX.out] at hil
      have HSA := Lib.hid (show srAt xss = (bst xss k : Int) by rw [srAt_yes hv, LX.out])
      have HSN := Lib.hid (show srNum xss = lst (gr xss (bst xss k)) by rw [srNum_yes hv, LX.out])
      have HRL := Lib.hid (show lst (gr xss (bst xss k)) * (vF xss).2 ≤ (vF xss).1 from row_le hv (by rw [LX.out]; exact hil))
      have hnb := lst_bd9 hv (i := bst xss k) (by rw [LX.out]; exact hil)
      have HLE := Lib.hid (fun j (hj : j < (gr xss 0).length) => show lst (gr xss (bst xss k)) ≤ gi (gr xss (bst xss k)) j from lst_le (by rw [VT.len hv (by rw [LX.out]; exact hil)]; exact hj))
      have HHN := Lib.hid (pb_true (lst_has (r := gr xss (bst xss k)) (by rw [VT.len hv (by rw [LX.out]; exact hil)]; exact hv.m1)))
      have HNN := Lib.hid (row_le hv.ntab (i := bst (ntab xss) (ntab xss).length) (bst_lt' hv.ntab))
      have hob := lst_bd9 hv.ntab (i := bst (ntab xss) (ntab xss).length) (bst_lt' hv.ntab)
      have HSO := Lib.hid (srNum_yes hv.ntab)
      have HVN := Lib.hid (pb_true hv.ntab)
      have hbd := vF_bd hv
      have HUN := Lib.hid (vF_ntab hv)
      obtain ⟨U, D, hUD⟩ : ∃ U D, vF xss = (U, D) := ⟨_, _, rfl⟩
      have HUV := Lib.hid (wstV_eq _ hUD)
      rw [HUN.out, hUD] at HNN
      rw [hUD] at HRL hbd
      clear HUN hUD
      obtain ⟨⟨u1, u2⟩, d1, d2⟩ := hbd
      obtain ⟨b, oo, rb, ro, cc, rfl, tab⟩ := H1.out.tab hv
      have TB := Lib.hid tab
      have hm1 := hv.m1
      have hm3 := hv.m3
      clear tab hv
      generalize bst xss k = i at *
      generalize lst (gr xss i) = N at *
      generalize lst (gr (ntab xss) (bst (ntab xss) (ntab xss).length)) = M at *
      generalize srAt (ntab xss) = O at *
      have hik : (i : Int) < (k : Int) := by omega
      obtain ⟨n1, n2⟩ := hnb
      obtain ⟨o1, o2⟩ := hob
      simp only at u1 u2 d1 d2
      have HL1 := Lib.hid (show lessB U D N 1 = false by unfold lessB; have := HRL.out; simp; omega)
      have HL2 := Lib.hid (show lessB (-M) 1 U D = false by unfold lessB; have := HNN.out; simp only at this; rw [decide_eq_false_iff_not, Int.neg_mul, Int.mul_one]; omega)
      have HC := Lib.hid (SafeRow_impl' _ k cv xss w1 HR.out)
      rw [HSA.out, HSN.out, HTV.out] at HC
      go_wp2_with fail
      refine HC.out.mono ?_
      rintro e w2 ⟨rfl, hq⟩
      have hb := hq.below (B := w1.heap.size)
      have HR_2 := Lib.hid (HR.out.keep (Keep.below hb))
      have TB_2 := Lib.hid (TB.out.keep (Keep.below hb))
      have B_2 := Lib.hid (below_up B1.out hb)
      clear hb HC hq HR TB B1
      have HC := Lib.hid (SafeRow_spec' _ k cv xss w2 HR_2.out)
      rw [HSA.out, HSN.out, HTV.out] at HC
      go_wp2_with fail
      refine HC.out.mono ?_
      rintro e w3 ⟨rfl, hq⟩
      have hb := hq.below (B := w2.heap.size)
      have HR_3 := Lib.hid (HR_2.out.keep (Keep.below hb))
      have TB_3 := Lib.hid (TB_2.out.keep (Keep.below hb))
      have B_3 := Lib.hid (below_up B_2.out hb)
      clear hb HC hq HR_2 TB_2 B_2
      have HC := Lib.hid (ValueOf_impl _ k cv xss w3 HR_3.out)
      rw [HUV.out, HTV.out] at HC
      go_wp2_with fail
      refine HC.out.mono ?_
      rintro e w4 ⟨rfl, hb⟩
      have HR_4 := Lib.hid (HR_3.out.keep (Keep.below hb))
      have TB_4 := Lib.hid (TB_3.out.keep (Keep.below hb))
      have B_4 := Lib.hid (below_up B_3.out hb)
      clear hb HC HR_3 TB_3 B_3
      have hal := below_alloc w4 (.cells #[.int .i64 U, .int .i64 D] 28)
      have HR_4b := Lib.hid (HR_4.out.keep (Keep.below hal))
      have TB_4b := Lib.hid (TB_4.out.keep (Keep.below hal))
      have B_4b := Lib.hid (below_up B_4.out hal)
      have F0 := Lib.hid (blk_cell (blk_new w4 28 #[.int .i64 U, .int .i64 D]) (i := 0) (v := .int .i64 U) rfl)
      have F1 := Lib.hid (blk_cell (blk_new w4 28 #[.int .i64 U, .int .i64 D]) (i := 1) (v := .int .i64 D) rfl)
      clear hal HR_4 TB_4 B_4
      have HC := Lib.hid (flipped_any _ k cv (gr xss 0).length xss (w4.alloc (.cells #[.int .i64 U, .int .i64 D] 28)) HR_4b.out HS.out hk HV.out.even)
      go_wp2_with fail
      generalize w4.alloc (.cells #[.int .i64 U, .int .i64 D] 28) = w4a at *
      generalize w4.heap.size = h4a at *
      refine HC.out.mono ?_
      rintro e w5 ⟨A2, n2, cc2, gg2, rfl, -, ho, hb⟩
      have HR_5 := Lib.hid (HR_4b.out.keep (Keep.below hb))
      have TB_5 := Lib.hid (TB_4b.out.keep (Keep.below hb))
      have F0_5 := Lib.hid (Keep.below hb _ _ F0.out)
      have F1_5 := Lib.hid (Keep.below hb _ _ F1.out)
      have B_5 := Lib.hid (below_up B_4b.out hb)
      rw [← LX.out] at ho
      have HX := Lib.hid ho.rows
      clear ho
      clear hb HC HR_4b TB_4b F0 F1 B_4b
      have HC := Lib.hid (minusOf_any A2 n2 cc2 _ w5 HX.out (small_ntab HV.out))
      go_wp2_with fail
      refine HC.out.mono ?_
      rintro e w6 ⟨A3, n3, cc3, gg3, rfl, -, ho, hb⟩
      have HR_6 := Lib.hid (HR_5.out.keep (Keep.below hb))
      have TB_6 := Lib.hid (TB_5.out.keep (Keep.below hb))
      have F0_6 := Lib.hid (Keep.below hb _ _ F0_5.out)
      have F1_6 := Lib.hid (Keep.below hb _ _ F1_5.out)
      have HX_6 := Lib.hid (HX.out.keep (Keep.below hb))
      have B_6 := Lib.hid (below_up B_5.out hb)
      have HN := Lib.hid (show IntRows w6 A3 n3 cc3 (ntab xss) from ho.rows)
      clear ho
      clear hb HC HR_5 TB_5 F0_5 F1_5 HX B_5
      clear HX_6
      have HC := Lib.hid (SafeRow_impl' A3 n3 cc3 (ntab xss) w6 HN.out)
      rw [HSO.out, HVN.out] at HC
      go_wp2_with fail
      refine HC.out.mono ?_
      rintro e w7 ⟨rfl, hq⟩
      have hb := hq.below (B := w6.heap.size)
      have HR_7 := Lib.hid (HR_6.out.keep (Keep.below hb))
      have TB_7 := Lib.hid (TB_6.out.keep (Keep.below hb))
      have F0_7 := Lib.hid (Keep.below hb _ _ F0_6.out)
      have F1_7 := Lib.hid (Keep.below hb _ _ F1_6.out)
      have HN_7 := Lib.hid (HN.out.keep (Keep.below hb))
      have B_7 := Lib.hid (below_up B_6.out hb)
      clear hb HC hq HR_6 TB_6 F0_6 F1_6 HN B_6
      clear HN_7
      go_wp2
      go_loopw [15] (fun j wr => ∃ q : Nat, q ≤ (gr xss 0).length ∧ j = .int .i64 q ∧ Hid (Quiet w7 wr)) (fun j _ => (gr xss 0).length - (intOf j).toNat)
      case atStart => exact ⟨0, Nat.zero_le _, rfl, Lib.hid (Quiet.refl _)⟩
      case round =>
        obtain ⟨q, hq, rfl, HQ⟩ := hrel
        have tb := TB_7.out.keep (Keep.quiet HQ.out)
        have c1 := tb.row i hil
        by_cases hlt : q < (gr xss 0).length
        · have c2 := tb.cell i q hil hlt
          have hle := HLE.out q hlt
          have HK1 := Lib.hid (And.intro c1 c2)
          unfold g2 at c2 HK1
          clear tb
          generalize gi (gr xss i) q = x at *
          have hnl : ¬ x < N := by omega
          go_wp2
          go_roundw
          case rel => exact ⟨q + 1, by omega, by go_num, HQ⟩
          case measure => simp [intOf]; omega
        · obtain rfl : q = (gr xss 0).length := by omega
          have HRI := Lib.hid (show Ints wr.drew _ _ _ (gr xss i) from (tb.ints i hil).keep (Keep.drewN _ 1))
          have HC1 := Lib.hid c1
          have f0 := Keep.quiet HQ.out _ _ F0_7.out
          have f1 := Keep.quiet HQ.out _ _ F1_7.out
          have HF := Lib.hid (And.intro f0 f1)
          have HB := Lib.hid (below_quiet B_7.out HQ.out).drew
          have hwn : IntKind.i64.wrap (-M) = -M := wrapIn (by omega)
          have HMO := Lib.hid (frV_one N)
          have HMP := Lib.hid (frV_one (-M))
          clear tb
          go_wp2
          go_region_held3 (fun W => W.cell? ⟨b, oo + i, none⟩ = some (.slice (some ⟨rb i, ro i, none⟩) (gr xss 0).length (cc i)) ∧ (W.cell? ⟨h4a, 0, none⟩ = some (.int .i64 U) ∧ W.cell? ⟨h4a, 1, none⟩ = some (.int .i64 D)))
            (first | exact S5.out | exact S4.out | exact S3.out | exact S2.out | exact S1.out | exact And.intro HC1.out HF.out | go_keep)
            (first
            | (go_at_call 19; (with_reducible refine (isIn_any _ _ _ (gr xss i) N _ HRI.out).mono ?_); rintro e v1 ⟨rfl, hq⟩; (rw [HHN.out]); have S1 := Lib.hid (And.intro (Keep.quiet hq _ _ HC1.out) (And.intro (Keep.quiet hq _ _ HF.out.1) (Keep.quiet hq _ _ HF.out.2))); have D1 := Lib.hid (below_quiet HB.out hq); clear hq HB)
            | (go_at_call 21; (with_reducible refine (HMO.out ▸ fracOfL_any N 1 _ (by unfold Mid; omega) (by unfold Mid; omega) (by omega)).mono ?_); rintro e v2 ⟨rfl, hb⟩; have S2 := Lib.hid (And.intro (Keep.below hb _ _ S1.out.1) (And.intro (Keep.below hb _ _ S1.out.2.1) (Keep.below hb _ _ S1.out.2.2))); have D2 := Lib.hid (below_up D1.out hb); clear hb D1)
            | (go_at_call 21; (with_reducible refine (HMP.out ▸ fracOfL_any (-M) 1 _ (by unfold Mid; omega) (by unfold Mid; omega) (by omega)).mono ?_); rintro e v2 ⟨rfl, hb⟩; have S4 := Lib.hid (And.intro (Keep.below hb _ _ S3.out.1) (And.intro (Keep.below hb _ _ S3.out.2.1) (Keep.below hb _ _ S3.out.2.2))); have D4 := Lib.hid (below_up D3.out hb); clear hb D3)
            | (go_at_call 20; (with_reducible refine (HL1.out ▸ lessOf_any U D N 1 _ (by omega) (by omega) (by omega) (by omega)).mono ?_); rintro e v3 ⟨rfl, hb⟩; have S3 := Lib.hid (And.intro (Keep.below hb _ _ S2.out.1) (And.intro (Keep.below hb _ _ S2.out.2.1) (Keep.below hb _ _ S2.out.2.2))); have D3 := Lib.hid (below_up D2.out hb); clear hb D2)
            | (go_at_call 20; (with_reducible refine (HL2.out ▸ lessOf_any (-M) 1 U D _ (by omega) (by omega) (by omega) (by omega)).mono ?_); rintro e v3 ⟨rfl, hb⟩; have S5 := Lib.hid (And.intro (Keep.below hb _ _ S4.out.1) (And.intro (Keep.below hb _ _ S4.out.2.1) (Keep.below hb _ _ S4.out.2.2))); have D5 := Lib.hid (below_up D4.out hb); clear hb D4))
          go_wp2
          go_ret
          exact ⟨rfl, D5.out⟩
    · have HE := Lib.hid (sr_no hv)
      have HTV := Lib.hid (pb_false hv)
      clear hv
      have HC := Lib.hid (SafeRow_impl' _ k cv xss w1 HR.out)
      rw [HE.out.1, HE.out.2, HTV.out] at HC
      go_wp2_with fail
      refine HC.out.mono ?_
      rintro e w2 ⟨rfl, hq⟩
      have hb := hq.below (B := w1.heap.size)
      have HR_2 := Lib.hid (HR.out.keep (Keep.below hb))
      have B_2 := Lib.hid (below_up B1.out hb)
      clear hb HC hq HR B1
      have HC := Lib.hid (SafeRow_spec' _ k cv xss w2 HR_2.out)
      rw [HE.out.1, HE.out.2, HTV.out] at HC
      go_wp2_with fail
      refine HC.out.mono ?_
      rintro e w3 ⟨rfl, hq⟩
      have hb := hq.below (B := w2.heap.size)
      have HR_3 := Lib.hid (HR_2.out.keep (Keep.below hb))
      have B_3 := Lib.hid (below_up B_2.out hb)
      clear hb HC hq HR_2 B_2
      go_wp2
      go_ret
      exact ⟨rfl, B_3.out⟩

theorem hFnSafeRow_lifted (os : Os) (started : os.Started) (H : Type) (enc : TypeId × Value → H) :
    ReturnsInHanded {} Try.checked os 3 .any (Rows.fnSafeRowSpec.pre6 enc Try.prog Try.f3 Rows.fnSafeRowRow.domain false) (Rows.fnSafeRowSpec.post enc Try.prog Try.f3 false true false false) := by
  refine returnsInHanded_of_change_sized (C := Try.checked) Try.own started (by kernel_rfl) Try.func3
    (ChangeSpec.witness6 (enc := enc) (C := Try.checked) false ⟨#[], #[.slice none 0 0], []⟩ 8 (by kernel_rfl) (by kernel_rfl) (by kernel_rfl) (by kernel_rfl)) ?_
  intro W base args ds gs before hval0 hW _ hwt _
  have hval : ∀ (j : Nat) t v, Try.f3.params[j]? = some t → args[j]? = some v → Value.okWide Try.prog W .any base t v := hval0
  have hA : ∃ p, DataW.TrodAll enc Try.prog W 0 (fun _ => true) true Try.f3.params.toList args.toList ds p := by obtain ⟨p, q, hA0, _⟩ := hW; exact ⟨p, hA0⟩
  obtain ⟨p, hA⟩ := hA
  have hwt' := weights_arg hwt (j := 0) (t := 22) (by rw [Try.params3]; rfl) (d := ds.getD 0 .nil)
  rw [Try.params3] at hA hval
  obtain ⟨v0, d0, rfl, rfl, h0⟩ := trodAll_one hA
  obtain ⟨A, n, c, rfl, hx⟩ := open_bytes (hval 0 22 v0 rfl rfl) h0 (hwt' rfl)
  refine (fnSafeRow_calls A n c W hx).mono fun e W' ⟨he, hb⟩ => ?_
  subst he
  exact ⟨_, rfl, law_post (F := Try.f3) rfl rfl (by rw [Try.params3]; simp only [List.mem_cons, List.not_mem_nil, or_false, forall_eq]; exact ⟨by kernel_rfl, of_decide_eq_true (by kernel_rfl)⟩) hW (fun h => by subst h; rfl) hb⟩

theorem hFnSafeRow_holds : Rows.FnSafeRowSaid :=
  OpenClaim.holds_of_wide 3 Try.f3 rfl rfl rfl rfl rfl rfl rfl ⟨rfl, rfl, rfl, rfl, rfl⟩ rfl rfl rfl rfl rfl (by kernel_rfl) Try.func3
    (by unfold joinedFacts; simp only [Bool.and_eq_true]; (repeat' apply And.intro) <;> (first | (with_reducible exact prog_enters) | ((with_reducible refine prog_lifts ?_); rfl) | ((with_reducible refine prog_make ?_); rfl) | kernel_rfl))
    (of_decide_eq_true (by kernel_rfl)) (by unfold Func.isWrapper; first | (rw [if_pos (by decide +kernel)]; kernel_rfl) | (rw [if_neg (by decide +kernel)]; exact ⟨rfl, rfl⟩))
    (fun os started H enc _ => hFnSafeRow_lifted os started H enc)

end Go.Proofs.Ytgnbmanlpppdoaa
