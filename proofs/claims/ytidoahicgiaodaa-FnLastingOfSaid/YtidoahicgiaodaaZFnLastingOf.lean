/- The law FnLastingOf holds: for every code, of the costs that are drawn, the program tells what lasts as the model does, what lasts is exactly what has the least tree, and it ascends. No condition. -/
import Derived.Test.YtidoahicgiaodaaQ13
namespace Go.Proofs.Ytidoahicgiaodaa
open Go.ChangeShapes Go.WideShapes Go.ChangeAt Go.RowKit Go.Deep

set_option maxRecDepth 100000 in
set_option maxHeartbeats 3200000 in
theorem fnLastingOf_calls (A : Option Addr) (n c : Nat) (w : World) (hx : Bytes w A n c) :
    Calls Try.prog 7 #[.slice A n c] w fun e w' => e = .returned (.bool true) ∧ Below w.heap.size w w' := by
  have hmx := hx.max
  have H0 := Lib.hid (DrawLastingOf_any A n c w hx)
  clear hx
  by_cases hs : 1048576 < n
  · go_enter Try.func7, Try.ntmps7
    go_wp2
    go_ret
    exact ⟨rfl, Below.refl _ _⟩
  · go_enter Try.func7, Try.ntmps7
    go_wp2_with fail
    refine H0.out.mono ?_
    rintro e w1 ⟨Av, k, cv, gg, xss, rfl, hsm, hown, hb⟩
    have HR := Lib.hid hown.rows
    have B1 := Lib.hid hb
    have LX := Lib.hid hown.rows.len
    have hmk := hown.rows.max
    clear hsm hown hb H0
    have HEQ := Lib.hid (show eqI (lasF xss) (lasF xss) = true by simp [eqI])
    by_cases hv : VC xss
    · have H9 := las_all hv
      have h4 := hv.n4
      clear hv
      rw [LX.out] at H9 h4
      have hlen := H9.1
      obtain ⟨k0, hk0, hg0, hT0⟩ := H9.2.1
      have HAL := Lib.hid H9.2.2.1
      have HAS := Lib.hid H9.2.2.2
      have HG0 := Lib.hid hg0
      have HT0 := Lib.hid hT0
      have hl0 : (((lasF xss).length : Int) == 0) = false := by rw [beq_eq_false_iff_ne]; omega
      clear H9 hg0 hT0
      have HC := Lib.hid (LastingOf_impl _ _ _ xss w1 HR.out)
      go_wp2_with fail
      refine HC.out.mono ?_
      rintro e w2 ⟨A2, n2, c2, g2_, rfl, rfl, ho, hb⟩
      have HR_2 := Lib.hid (HR.out.keep (Keep.below hb))
      have B_2 := Lib.hid (below_up B1.out hb)
      have HP := Lib.hid ho.ints
      clear ho
      clear hb HC HR B1
      have HC := Lib.hid (LastingOf_spec _ _ _ xss w2 HR_2.out)
      go_wp2_with fail
      refine HC.out.mono ?_
      rintro e w3 ⟨A3, n3, c3, g3_, rfl, rfl, ho, hb⟩
      have HR_3 := Lib.hid (HR_2.out.keep (Keep.below hb))
      have HP_3 := Lib.hid (HP.out.keep (Keep.below hb))
      have B_3 := Lib.hid (below_up B_2.out hb)
      have HQ_ := Lib.hid ho.ints
      clear ho
      clear hb HC HR_2 HP B_2
      have HC := Lib.hid (HEQ.out ▸ equalInts_any _ _ _ _ _ _ (lasF xss) (lasF xss) w3 HP_3.out HQ_.out)
      go_wp2_with fail
      refine HC.out.mono ?_
      rintro e w4 ⟨rfl, hq⟩
      have hb := hq.below (B := w3.heap.size)
      have HR_4 := Lib.hid (HR_3.out.keep (Keep.below hb))
      have HP_4 := Lib.hid (HP_3.out.keep (Keep.below hb))
      have HQ__4 := Lib.hid (HQ_.out.keep (Keep.below hb))
      have B_4 := Lib.hid (below_up B_3.out hb)
      clear hb HC hq HR_3 HP_3 HQ_ B_3
      clear HQ__4
      clear HEQ
      generalize lasF xss = ys at *
      generalize leC xss = LE at *
      go_wp2
      go_loopw [5] (fun j wr => ∃ i : Nat, i ≤ k ∧ j = .int .i64 i ∧ Hid (Below w4.heap.size w4 wr)) (fun j _ => k - (intOf j).toNat)
      case atStart => exact ⟨0, Nat.zero_le _, rfl, Lib.hid (Below.refl _ _)⟩
      case round =>
        obtain ⟨i, hi, rfl, HQ⟩ := hrel
        by_cases hlt : i < k
        · have HX := Lib.hid (HAL.out i hlt)
          have HC := Lib.hid (TreeTried_impl Av k cv xss (i : Int) wr (HR_4.out.keep (Keep.below HQ.out)) (by unfold Fit; omega))
          generalize TF xss (i : Int) = x at *
          go_wp2_with fail
          refine HC.out.mono ?_
          rintro e v1 ⟨rfl, hb⟩
          have HQ1 := Lib.hid (below_up HQ.out hb)
          clear hb HC HQ
          have HP1 := Lib.hid (HP_4.out.keep (Keep.below HQ1.out))
          obtain ⟨bO, oO, hA2, hcO⟩ := HP1.out.at_ hlen
          have HC0 := Lib.hid (hcO 0 hlen)
          replace HC0 : Hid (v1.cell? ⟨bO, oO, none⟩ = some (.int .i64 (gi ys 0))) := HC0
          clear hcO
          subst hA2
          have hc0 := HC0.out
          rw [HG0.out] at hc0
          have HC := Lib.hid (TreeTried_impl Av k cv xss (k0 : Int) v1 (HR_4.out.keep (Keep.below HQ1.out)) (by unfold Fit; omega))
          rw [HT0.out] at HC
          go_wp2_with fail
          refine HC.out.mono ?_
          rintro e v2 ⟨rfl, hb⟩
          have HQ2 := Lib.hid (below_up HQ1.out hb)
          clear hb HC HQ1 HC0 HP1
          have hlo : ¬ x < LE := by have := HX.out.1; omega
          have HC := Lib.hid (isIn_any _ _ _ ys (i : Int) v2 (HP_4.out.keep (Keep.below HQ2.out)))
          by_cases hxe : x = LE
          · have hx1 : (x == LE) = true := by rw [beq_iff_eq]; exact hxe
            rw [pb_true (HX.out.2.2 hxe)] at HC
            go_wp2_with fail
            refine HC.out.mono ?_
            rintro e v3 ⟨rfl, hq⟩
            have HQ3 := Lib.hid (below_quiet HQ2.out hq)
            clear hq HC HQ2
            go_wp2
            go_roundw
            case rel => exact ⟨i + 1, by omega, by go_num, HQ3⟩
            case measure => simp [intOf]; omega
          · have hx1 : (x == LE) = false := by rw [beq_eq_false_iff_ne]; exact hxe
            rw [pb_false (fun h => hxe (HX.out.2.1 h))] at HC
            go_wp2_with fail
            refine HC.out.mono ?_
            rintro e v3 ⟨rfl, hq⟩
            have HQ3 := Lib.hid (below_quiet HQ2.out hq)
            clear hq HC HQ2
            go_wp2
            go_roundw
            case rel => exact ⟨i + 1, by omega, by go_num, HQ3⟩
            case measure => simp [intOf]; omega
        · obtain rfl : i = k := by omega
          have HC := Lib.hid (ascends_any _ _ _ ys wr (HP_4.out.keep (Keep.below HQ.out)) HAS.out)
          have HQB := Lib.hid (below_up B_4.out HQ.out)
          go_wp2_with fail
          refine HC.out.mono ?_
          rintro e v2 ⟨rfl, hq⟩
          have HQ2 := Lib.hid (below_quiet HQB.out hq)
          clear hq HC
          go_wp2
          go_ret
          exact ⟨rfl, HQ2.out⟩
    · have hF : lasF xss = [] := by rw [lasF, if_neg (by rw [pb_false hv]; decide)]
      clear hv
      have hl0 : (((lasF xss).length : Int) == 0) = true := by rw [hF]; rfl
      clear hF
      have HC := Lib.hid (LastingOf_impl _ _ _ xss w1 HR.out)
      go_wp2_with fail
      refine HC.out.mono ?_
      rintro e w2 ⟨A2, n2, c2, g2_, rfl, rfl, ho, hb⟩
      have HR_2 := Lib.hid (HR.out.keep (Keep.below hb))
      have B_2 := Lib.hid (below_up B1.out hb)
      have HP := Lib.hid ho.ints
      clear ho
      clear hb HC HR B1
      have HC := Lib.hid (LastingOf_spec _ _ _ xss w2 HR_2.out)
      go_wp2_with fail
      refine HC.out.mono ?_
      rintro e w3 ⟨A3, n3, c3, g3_, rfl, rfl, ho, hb⟩
      have HR_3 := Lib.hid (HR_2.out.keep (Keep.below hb))
      have HP_3 := Lib.hid (HP.out.keep (Keep.below hb))
      have B_3 := Lib.hid (below_up B_2.out hb)
      have HQ_ := Lib.hid ho.ints
      clear ho
      clear hb HC HR_2 HP B_2
      have HC := Lib.hid (HEQ.out ▸ equalInts_any _ _ _ _ _ _ (lasF xss) (lasF xss) w3 HP_3.out HQ_.out)
      go_wp2_with fail
      refine HC.out.mono ?_
      rintro e w4 ⟨rfl, hq⟩
      have hb := hq.below (B := w3.heap.size)
      have HR_4 := Lib.hid (HR_3.out.keep (Keep.below hb))
      have HP_4 := Lib.hid (HP_3.out.keep (Keep.below hb))
      have HQ__4 := Lib.hid (HQ_.out.keep (Keep.below hb))
      have B_4 := Lib.hid (below_up B_3.out hb)
      clear hb HC hq HR_3 HP_3 HQ_ B_3
      clear HQ__4
      have HC := Lib.hid (LastingOf_spec _ _ _ xss w4 HR_4.out)
      go_wp2_with fail
      refine HC.out.mono ?_
      rintro e w5 ⟨A4, n4, c4, g4_, rfl, rfl, ho, hb⟩
      have HR_5 := Lib.hid (HR_4.out.keep (Keep.below hb))
      have HP_5 := Lib.hid (HP_4.out.keep (Keep.below hb))
      have B_5 := Lib.hid (below_up B_4.out hb)
      have HQ4 := Lib.hid ho.ints
      clear ho
      clear hb HC HR_4 HP_4 B_4
      have HC := Lib.hid (HEQ.out ▸ equalInts_any _ _ _ _ _ _ (lasF xss) (lasF xss) w5 HP_5.out HQ4.out)
      go_wp2_with fail
      refine HC.out.mono ?_
      rintro e w6 ⟨rfl, hq⟩
      have hb := hq.below (B := w5.heap.size)
      have HR_6 := Lib.hid (HR_5.out.keep (Keep.below hb))
      have HP_6 := Lib.hid (HP_5.out.keep (Keep.below hb))
      have HQ4_6 := Lib.hid (HQ4.out.keep (Keep.below hb))
      have B_6 := Lib.hid (below_up B_5.out hb)
      clear hb HC hq HR_5 HP_5 HQ4 B_5
      go_wp2
      go_ret
      exact ⟨rfl, B_6.out⟩

set_option maxRecDepth 100000 in
theorem hFnLastingOf_lifted (os : Os) (started : os.Started) (H : Type) (enc : TypeId × Value → H) :
    ReturnsInHanded {} Try.checked os 7 .any (Rows.fnLastingOfSpec.pre6 enc Try.prog Try.f7 Rows.fnLastingOfRow.domain false) (Rows.fnLastingOfSpec.post enc Try.prog Try.f7 false true false false) := by
  refine returnsInHanded_of_change_sized (C := Try.checked) Try.own started (by kernel_rfl) Try.func7
    (ChangeSpec.witness6 (enc := enc) (C := Try.checked) false ⟨#[], #[.slice none 0 0], []⟩ 8 (by kernel_rfl) (by kernel_rfl) (by kernel_rfl) (by kernel_rfl)) ?_
  intro W base args ds gs before hval0 hW _ hwt _
  have hval : ∀ (j : Nat) t v, Try.f7.params[j]? = some t → args[j]? = some v → Value.okWide Try.prog W .any base t v := hval0
  have hA : ∃ p, DataW.TrodAll enc Try.prog W 0 (fun _ => true) true Try.f7.params.toList args.toList ds p := by obtain ⟨p, q, hA0, _⟩ := hW; exact ⟨p, hA0⟩
  obtain ⟨p, hA⟩ := hA
  have hwt' := weights_arg hwt (j := 0) (t := 32) (by rw [Try.params7]; rfl) (d := ds.getD 0 .nil)
  rw [Try.params7] at hA hval
  obtain ⟨v0, d0, rfl, rfl, h0⟩ := trodAll_one hA
  obtain ⟨A, n, c, rfl, hx⟩ := open_bytes (hval 0 32 v0 rfl rfl) h0 (hwt' rfl)
  refine (fnLastingOf_calls A n c W hx).mono fun e W' ⟨he, hb⟩ => ?_
  subst he
  exact ⟨_, rfl, law_post (F := Try.f7) rfl rfl (by rw [Try.params7]; simp only [List.mem_cons, List.not_mem_nil, or_false, forall_eq]; exact ⟨by kernel_rfl, of_decide_eq_true (by kernel_rfl)⟩) hW (fun h => by subst h; rfl) hb⟩

theorem hFnLastingOf_holds : Rows.FnLastingOfSaid :=
  OpenClaim.holds_of_wide 7 Try.f7 rfl rfl rfl rfl rfl rfl rfl ⟨rfl, rfl, rfl, rfl, rfl⟩ rfl rfl rfl rfl rfl (by kernel_rfl) Try.func7
    (by unfold joinedFacts; simp only [Bool.and_eq_true]; (repeat' apply And.intro) <;> (first | (with_reducible exact prog_enters) | ((with_reducible refine prog_lifts ?_); rfl) | ((with_reducible refine prog_make ?_); rfl) | kernel_rfl))
    (of_decide_eq_true (by kernel_rfl)) (by unfold Func.isWrapper; first | (rw [if_pos (by decide +kernel)]; kernel_rfl) | (rw [if_neg (by decide +kernel)]; exact ⟨rfl, rfl⟩))
    (fun os started H enc _ => hFnLastingOf_lifted os started H enc)
