/- The law FnBestShares holds: for every code, of the table that it draws, the program's BestShares answers as the model's; the shares are best, and their mean is the value. No condition. -/
import Derived.Test.YtgnbmanlpppdoaaQ8
namespace Go.Proofs.Ytgnbmanlpppdoaa
open Go.ChangeShapes Go.WideShapes Go.ChangeAt Go.RowKit Go.Deep

set_option maxRecDepth 100000 in
set_option maxHeartbeats 3200000 in
theorem fnBestShares_calls (A : Option Addr) (n c : Nat) (w : World) (hx : Bytes w A n c) :
    Calls Try.prog 8 #[.slice A n c] w fun e w' => e = .returned (.bool true) ∧ Below w.heap.size w w' := by
  have hmx := hx.max
  have H0 := Lib.hid (DrawBestShares_any A n c w hx)
  clear hx
  by_cases hs : 1048576 < n
  · go_enter Try.func8, Try.ntmps8
    go_wp2
    go_ret
    exact ⟨rfl, Below.refl _ _⟩
  · go_enter Try.func8, Try.ntmps8
    go_wp2_with fail
    refine H0.out.mono ?_
    rintro e w1 ⟨Av, k, cv, gg, xss, rfl, hsm, hown, hb⟩
    have HR := Lib.hid hown.rows
    have B1 := Lib.hid hb
    have LX := Lib.hid hown.rows.len
    clear hsm hown hb H0
    by_cases hv : VT xss
    · have HV := Lib.hid hv
      have HTV := Lib.hid (pb_true hv)
      have HBP := Lib.hid (best_is hv)
      have HTB := Lib.hid (pb_true (best_is hv))
      have HTP := Lib.hid (pb_true (best_is hv).ok)
      obtain ⟨U, D, hUD⟩ : ∃ U D, vF xss = (U, D) := ⟨_, _, rfl⟩
      have HUV := Lib.hid (wstV_eq _ hUD)
      have HPF := Lib.hid (show payF xss (bx xss) (by_ xss) = .agg #[.int .i64 U, .int .i64 D] by rw [pay_best (best_is hv), ← vF_yes hv]; exact wstV_eq _ hUD)
      have hz : ((xss.length : Int) == 0) = false := by have h1 := hv.n1; rw [beq_eq_false_iff_ne]; omega
      have HE1 := Lib.hid (eqI_self (bx xss))
      have HE2 := Lib.hid (eqI_self (by_ xss))
      clear hv hUD
      have HC := Lib.hid (BestShares_impl Av k cv xss w1 HR.out)
      go_wp2_with fail
      refine HC.out.mono ?_
      rintro e w2 hbs
      obtain ⟨A1, c1, A2, c2, rfl, i1, i2, hb⟩ := hbs.yes HV.out
      have HR_2 := Lib.hid (HR.out.keep (Keep.below hb))
      have B_2 := Lib.hid (below_up B1.out hb)
      have HX := Lib.hid i1
      have HY := Lib.hid i2
      clear hbs i1 i2 hb HC HR B1
      have HC := Lib.hid (BestShares_spec Av k cv xss w2 HR_2.out)
      go_wp2_with fail
      refine HC.out.mono ?_
      rintro e w3 hbs
      obtain ⟨A3, n3, c3, A4, n4, c4, rfl, i1, i2, hb⟩ := hbs.yes HV.out
      have HR_3 := Lib.hid (HR_2.out.keep (Keep.below hb))
      have HX_3 := Lib.hid (HX.out.keep (Keep.below hb))
      have HY_3 := Lib.hid (HY.out.keep (Keep.below hb))
      have B_3 := Lib.hid (below_up B_2.out hb)
      have HP := Lib.hid i1
      have HQ := Lib.hid i2
      clear hbs i1 i2 hb HC HR_2 HX HY B_2
      have HC := Lib.hid (HE1.out ▸ equalInts_any _ _ _ _ _ _ (bx xss) (bx xss) w3 HX_3.out HP.out)
      go_wp2_with fail
      refine HC.out.mono ?_
      rintro e w4 ⟨rfl, hq⟩
      have hb := hq.below (B := w3.heap.size)
      have HR_4 := Lib.hid (HR_3.out.keep (Keep.below hb))
      have HX_4 := Lib.hid (HX_3.out.keep (Keep.below hb))
      have HY_4 := Lib.hid (HY_3.out.keep (Keep.below hb))
      have HP_4 := Lib.hid (HP.out.keep (Keep.below hb))
      have HQ_4 := Lib.hid (HQ.out.keep (Keep.below hb))
      have B_4 := Lib.hid (below_up B_3.out hb)
      clear hb HC hq HR_3 HX_3 HY_3 HP HQ B_3
      have HC := Lib.hid (HE2.out ▸ equalInts_any _ _ _ _ _ _ (by_ xss) (by_ xss) w4 HY_4.out HQ_4.out)
      go_wp2_with fail
      refine HC.out.mono ?_
      rintro e w5 ⟨rfl, hq⟩
      have hb := hq.below (B := w4.heap.size)
      have HR_5 := Lib.hid (HR_4.out.keep (Keep.below hb))
      have HX_5 := Lib.hid (HX_4.out.keep (Keep.below hb))
      have HY_5 := Lib.hid (HY_4.out.keep (Keep.below hb))
      have HP_5 := Lib.hid (HP_4.out.keep (Keep.below hb))
      have HQ_5 := Lib.hid (HQ_4.out.keep (Keep.below hb))
      have B_5 := Lib.hid (below_up B_4.out hb)
      clear hb HC hq HR_4 HX_4 HY_4 HP_4 HQ_4 B_4
      clear HP_5
      clear HQ_5
      have HC := Lib.hid (PayOf_impl Av A1 A2 k cv _ c1 _ c2 xss (bx xss) (by_ xss) w5 HR_5.out HX_5.out HY_5.out)
      rw [HPF.out, HTP.out] at HC
      go_wp2_with fail
      refine HC.out.mono ?_
      rintro e w6 ⟨rfl, hb⟩
      have HR_6 := Lib.hid (HR_5.out.keep (Keep.below hb))
      have HX_6 := Lib.hid (HX_5.out.keep (Keep.below hb))
      have HY_6 := Lib.hid (HY_5.out.keep (Keep.below hb))
      have B_6 := Lib.hid (below_up B_5.out hb)
      clear hb HC HR_5 HX_5 HY_5 B_5
      have hal := below_alloc w6 (.cells #[.int .i64 U, .int .i64 D] 28)
      have HR_6b := Lib.hid (HR_6.out.keep (Keep.below hal))
      have HX_6b := Lib.hid (HX_6.out.keep (Keep.below hal))
      have HY_6b := Lib.hid (HY_6.out.keep (Keep.below hal))
      have B_6b := Lib.hid (below_up B_6.out hal)
      have P0 := Lib.hid (blk_cell (blk_new w6 28 #[.int .i64 U, .int .i64 D]) (i := 0) (v := .int .i64 U) rfl)
      have P1 := Lib.hid (blk_cell (blk_new w6 28 #[.int .i64 U, .int .i64 D]) (i := 1) (v := .int .i64 D) rfl)
      clear hal HR_6 HX_6 HY_6 B_6
      have HC := Lib.hid (ValueOf_impl Av k cv xss (w6.alloc (.cells #[.int .i64 U, .int .i64 D] 28)) HR_6b.out)
      rw [HUV.out, HTV.out] at HC
      go_wp2_with fail
      generalize w6.alloc (.cells #[.int .i64 U, .int .i64 D] 28) = w6a at *
      generalize w6.heap.size = h6a at *
      refine HC.out.mono ?_
      rintro e w7 ⟨rfl, hb⟩
      have HR_7 := Lib.hid (HR_6b.out.keep (Keep.below hb))
      have HX_7 := Lib.hid (HX_6b.out.keep (Keep.below hb))
      have HY_7 := Lib.hid (HY_6b.out.keep (Keep.below hb))
      have P0_7 := Lib.hid (Keep.below hb _ _ P0.out)
      have P1_7 := Lib.hid (Keep.below hb _ _ P1.out)
      have B_7 := Lib.hid (below_up B_6b.out hb)
      clear hb HC HR_6b HX_6b HY_6b P0 P1 B_6b
      have hal := below_alloc w7 (.cells #[.int .i64 U, .int .i64 D] 28)
      have HR_7b := Lib.hid (HR_7.out.keep (Keep.below hal))
      have HX_7b := Lib.hid (HX_7.out.keep (Keep.below hal))
      have HY_7b := Lib.hid (HY_7.out.keep (Keep.below hal))
      have P0_7b := Lib.hid (Keep.below hal _ _ P0_7.out)
      have P1_7b := Lib.hid (Keep.below hal _ _ P1_7.out)
      have B_7b := Lib.hid (below_up B_7.out hal)
      have V0 := Lib.hid (blk_cell (blk_new w7 28 #[.int .i64 U, .int .i64 D]) (i := 0) (v := .int .i64 U) rfl)
      have V1 := Lib.hid (blk_cell (blk_new w7 28 #[.int .i64 U, .int .i64 D]) (i := 1) (v := .int .i64 D) rfl)
      clear hal HR_7 HX_7 HY_7 P0_7 P1_7 B_7
      have HC := Lib.hid (AreBest_impl Av A1 A2 k cv _ c1 _ c2 xss (bx xss) (by_ xss) (w7.alloc (.cells #[.int .i64 U, .int .i64 D] 28)) HR_7b.out HX_7b.out HY_7b.out)
      rw [HTB.out] at HC
      go_wp2_with fail
      generalize w7.alloc (.cells #[.int .i64 U, .int .i64 D] 28) = w7a at *
      generalize w7.heap.size = h7a at *
      refine HC.out.mono ?_
      rintro e w8 ⟨rfl, hb⟩
      have HR_8 := Lib.hid (HR_7b.out.keep (Keep.below hb))
      have HX_8 := Lib.hid (HX_7b.out.keep (Keep.below hb))
      have HY_8 := Lib.hid (HY_7b.out.keep (Keep.below hb))
      have P0_8 := Lib.hid (Keep.below hb _ _ P0_7b.out)
      have P1_8 := Lib.hid (Keep.below hb _ _ P1_7b.out)
      have V0_8 := Lib.hid (Keep.below hb _ _ V0.out)
      have V1_8 := Lib.hid (Keep.below hb _ _ V1.out)
      have B_8 := Lib.hid (below_up B_7b.out hb)
      clear hb HC HR_7b HX_7b HY_7b P0_7b P1_7b V0 V1 B_7b
      have q_P0 := P0_8.out
      have q_P1 := P1_8.out
      have q_V0 := V0_8.out
      have q_V1 := V1_8.out
      go_wp2
      go_ret
      exact ⟨rfl, B_8.out⟩
    · have HV := Lib.hid hv
      have HE1 := Lib.hid (eqI_self [])
      clear hv
      have HC := Lib.hid (BestShares_impl Av k cv xss w1 HR.out)
      go_wp2_with fail
      refine HC.out.mono ?_
      rintro e w2 hbs
      obtain ⟨rfl, hb⟩ := hbs.no HV.out
      have HR_2 := Lib.hid (HR.out.keep (Keep.below hb))
      have B_2 := Lib.hid (below_up B1.out hb)
      have HX := Lib.hid (OwnI.nil 0 0 w2 0).ints
      clear hbs hb HC HR B1
      have HC := Lib.hid (BestShares_spec Av k cv xss w2 HR_2.out)
      go_wp2_with fail
      refine HC.out.mono ?_
      rintro e w3 hbs
      obtain ⟨A3, n3, c3, A4, n4, c4, rfl, i1, i2, hb⟩ := hbs.no HV.out
      have HR_3 := Lib.hid (HR_2.out.keep (Keep.below hb))
      have HX_3 := Lib.hid (HX.out.keep (Keep.below hb))
      have B_3 := Lib.hid (below_up B_2.out hb)
      have HP := Lib.hid i1
      have HQ := Lib.hid i2
      clear hbs i1 i2 hb HC HR_2 HX B_2
      have HC := Lib.hid (HE1.out ▸ equalInts_any _ _ _ _ _ _ [] [] w3 HX_3.out HP.out)
      go_wp2_with fail
      refine HC.out.mono ?_
      rintro e w4 ⟨rfl, hq⟩
      have hb := hq.below (B := w3.heap.size)
      have HR_4 := Lib.hid (HR_3.out.keep (Keep.below hb))
      have HX_4 := Lib.hid (HX_3.out.keep (Keep.below hb))
      have HP_4 := Lib.hid (HP.out.keep (Keep.below hb))
      have HQ_4 := Lib.hid (HQ.out.keep (Keep.below hb))
      have B_4 := Lib.hid (below_up B_3.out hb)
      clear hb HC hq HR_3 HX_3 HP HQ B_3
      have HC := Lib.hid (HE1.out ▸ equalInts_any _ _ _ _ _ _ [] [] w4 HX_4.out HQ_4.out)
      go_wp2_with fail
      refine HC.out.mono ?_
      rintro e w5 ⟨rfl, hq⟩
      have hb := hq.below (B := w4.heap.size)
      have HR_5 := Lib.hid (HR_4.out.keep (Keep.below hb))
      have HX_5 := Lib.hid (HX_4.out.keep (Keep.below hb))
      have HP_5 := Lib.hid (HP_4.out.keep (Keep.below hb))
      have HQ_5 := Lib.hid (HQ_4.out.keep (Keep.below hb))
      have B_5 := Lib.hid (below_up B_4.out hb)
      clear hb HC hq HR_4 HX_4 HP_4 HQ_4 B_4
      have HC := Lib.hid (HE1.out ▸ equalInts_any _ _ _ _ _ _ [] [] w5 HX_5.out HP_5.out)
      go_wp2_with fail
      refine HC.out.mono ?_
      rintro e w6 ⟨rfl, hq⟩
      have hb := hq.below (B := w5.heap.size)
      have HR_6 := Lib.hid (HR_5.out.keep (Keep.below hb))
      have HX_6 := Lib.hid (HX_5.out.keep (Keep.below hb))
      have HP_6 := Lib.hid (HP_5.out.keep (Keep.below hb))
      have HQ_6 := Lib.hid (HQ_5.out.keep (Keep.below hb))
      have B_6 := Lib.hid (below_up B_5.out hb)
      clear hb HC hq HR_5 HX_5 HP_5 HQ_5 B_5
      have HC := Lib.hid (HE1.out ▸ equalInts_any _ _ _ _ _ _ [] [] w6 HX_6.out HQ_6.out)
      go_wp2_with fail
      refine HC.out.mono ?_
      rintro e w7 ⟨rfl, hq⟩
      have hb := hq.below (B := w6.heap.size)
      have HR_7 := Lib.hid (HR_6.out.keep (Keep.below hb))
      have HX_7 := Lib.hid (HX_6.out.keep (Keep.below hb))
      have HP_7 := Lib.hid (HP_6.out.keep (Keep.below hb))
      have HQ_7 := Lib.hid (HQ_6.out.keep (Keep.below hb))
      have B_7 := Lib.hid (below_up B_6.out hb)
      clear hb HC hq HR_6 HX_6 HP_6 HQ_6 B_6
      go_wp2
      go_ret
      exact ⟨rfl, B_7.out⟩

theorem hFnBestShares_lifted (os : Os) (started : os.Started) (H : Type) (enc : TypeId × Value → H) :
    ReturnsInHanded {} Try.checked os 8 .any (Rows.fnBestSharesSpec.pre6 enc Try.prog Try.f8 Rows.fnBestSharesRow.domain false) (Rows.fnBestSharesSpec.post enc Try.prog Try.f8 false true false false) := by
  refine returnsInHanded_of_change_sized (C := Try.checked) Try.own started (by kernel_rfl) Try.func8
    (ChangeSpec.witness6 (enc := enc) (C := Try.checked) false ⟨#[], #[.slice none 0 0], []⟩ 8 (by kernel_rfl) (by kernel_rfl) (by kernel_rfl) (by kernel_rfl)) ?_
  intro W base args ds gs before hval0 hW _ hwt _
  have hval : ∀ (j : Nat) t v, Try.f8.params[j]? = some t → args[j]? = some v → Value.okWide Try.prog W .any base t v := hval0
  have hA : ∃ p, DataW.TrodAll enc Try.prog W 0 (fun _ => true) true Try.f8.params.toList args.toList ds p := by obtain ⟨p, q, hA0, _⟩ := hW; exact ⟨p, hA0⟩
  obtain ⟨p, hA⟩ := hA
  have hwt' := weights_arg hwt (j := 0) (t := 22) (by rw [Try.params8]; rfl) (d := ds.getD 0 .nil)
  rw [Try.params8] at hA hval
  obtain ⟨v0, d0, rfl, rfl, h0⟩ := trodAll_one hA
  obtain ⟨A, n, c, rfl, hx⟩ := open_bytes (hval 0 22 v0 rfl rfl) h0 (hwt' rfl)
  refine (fnBestShares_calls A n c W hx).mono fun e W' ⟨he, hb⟩ => ?_
  subst he
  exact ⟨_, rfl, law_post (F := Try.f8) rfl rfl (by rw [Try.params8]; simp only [List.mem_cons, List.not_mem_nil, or_false, forall_eq]; exact ⟨by kernel_rfl, of_decide_eq_true (by kernel_rfl)⟩) hW (fun h => by subst h; rfl) hb⟩

theorem hFnBestShares_holds : Rows.FnBestSharesSaid :=
  OpenClaim.holds_of_wide 8 Try.f8 rfl rfl rfl rfl rfl rfl rfl ⟨rfl, rfl, rfl, rfl, rfl⟩ rfl rfl rfl rfl rfl (by kernel_rfl) Try.func8
    (by unfold joinedFacts; simp only [Bool.and_eq_true]; (repeat' apply And.intro) <;> (first | (with_reducible exact prog_enters) | ((with_reducible refine prog_lifts ?_); rfl) | ((with_reducible refine prog_make ?_); rfl) | kernel_rfl))
    (of_decide_eq_true (by kernel_rfl)) (by unfold Func.isWrapper; first | (rw [if_pos (by decide +kernel)]; kernel_rfl) | (rw [if_neg (by decide +kernel)]; exact ⟨rfl, rfl⟩))
    (fun os started H enc _ => hFnBestShares_lifted os started H enc)

end Go.Proofs.Ytgnbmanlpppdoaa
