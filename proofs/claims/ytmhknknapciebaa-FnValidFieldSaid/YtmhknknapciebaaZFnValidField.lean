/- The law FnValidField holds: for every code, of what it draws, the program tells fields as the model does, and a field with rows as columns is one. No condition. -/
import Derived.Test.YtmhknknapciebaaQ9
namespace Go.Proofs.Ytmhknknapciebaa
open Go.ChangeShapes Go.WideShapes Go.ChangeAt Go.RowKit Go.Deep

set_option maxRecDepth 100000 in
set_option maxHeartbeats 3200000 in
theorem fnValidField_calls (A : Option Addr) (n c : Nat) (w : World) (hx : Bytes w A n c) :
    Calls Try.prog 7 #[.slice A n c] w fun e w' => e = .returned (.bool true) ∧ Below w.heap.size w w' := by
  have hmx := hx.max
  have H0 := Lib.hid (DrawValidField_any A n c w hx)
  clear hx
  by_cases hs : 1048576 < n
  · go_enter Try.func7, Try.ntmps7
    go_wp2
    go_ret
    exact ⟨rfl, Below.refl _ _⟩
  · go_enter Try.func7, Try.ntmps7
    go_wp2_with fail
    refine H0.out.mono ?_
    rintro e w1 ⟨Av, k, cv, gg, xss, rfl, hsm, hown, hb⟩
    have HS := Lib.hid hsm
    have HR := Lib.hid hown.rows
    have B1 := Lib.hid hb
    have LX := Lib.hid hown.rows.len
    clear hsm hown hb H0
    by_cases hv : VF xss
    · have hk : 0 < k := by rw [← LX.out]; exact hv.q.1.n1
      have HV := Lib.hid (pb_true hv)
      have HVQ := Lib.hid (pb_true hv.q)
      have HEV := Lib.hid (hv.q.even LX.out)
      have HVF := Lib.hid (pb_true (show VF (flip xss k k) from ⟨hv.q.flip LX.out, fun i j hi hj => by
        rw [flip_len] at hi hj
        rw [g2_flipT hi hj]
        exact hv.p j i (by rw [LX.out]; exact hj) (by rw [LX.out]; exact hi)⟩))
      clear hv
      have HC := Lib.hid (HV.out ▸ ValidField_impl _ _ _ _ w1 HR.out)
      go_wp2_with fail
      refine HC.out.mono ?_
      rintro e w2 ⟨rfl, hb⟩
      have HR_2 := Lib.hid (HR.out.keep (Keep.below hb))
      have B_2 := Lib.hid (below_up B1.out hb)
      clear hb HC HR B1
      have HC := Lib.hid (HV.out ▸ ValidField_spec _ _ _ _ w2 HR_2.out)
      go_wp2_with fail
      refine HC.out.mono ?_
      rintro e w3 ⟨rfl, hb⟩
      have HR_3 := Lib.hid (HR_2.out.keep (Keep.below hb))
      have B_3 := Lib.hid (below_up B_2.out hb)
      clear hb HC HR_2 B_2
      have HC := Lib.hid (flipped_any _ _ _ k xss w3 HR_3.out HS.out hk HEV.out)
      go_wp2_with fail
      refine HC.out.mono ?_
      rintro e w4 ⟨A2, n2, c2, g2_, rfl, hn2, hown, hb⟩
      have HR_4 := Lib.hid (HR_3.out.keep (Keep.below hb))
      have B_4 := Lib.hid (below_up B_3.out hb)
      have HF := Lib.hid hown.rows
      clear hown hn2
      clear hb HC HR_3 B_3
      have HC := Lib.hid (HVF.out ▸ ValidField_impl _ _ _ _ w4 HF.out)
      go_wp2_with fail
      refine HC.out.mono ?_
      rintro e w5 ⟨rfl, hb⟩
      have HR_5 := Lib.hid (HR_4.out.keep (Keep.below hb))
      have HF_5 := Lib.hid (HF.out.keep (Keep.below hb))
      have B_5 := Lib.hid (below_up B_4.out hb)
      clear hb HC HR_4 HF B_4
      have HC := Lib.hid (HVQ.out ▸ ValidSquare_impl _ _ _ _ w5 HR_5.out)
      go_wp2_with fail
      refine HC.out.mono ?_
      rintro e w6 ⟨rfl, hq⟩
      have hb := hq.below (B := w5.heap.size)
      have HR_6 := Lib.hid (HR_5.out.keep (Keep.below hb))
      have HF_6 := Lib.hid (HF_5.out.keep (Keep.below hb))
      have B_6 := Lib.hid (below_up B_5.out hb)
      clear hb HC hq HR_5 HF_5 B_5
      go_wp2
      go_ret
      exact ⟨rfl, B_6.out⟩
    · have HV := Lib.hid (pb_false hv)
      clear hv
      have HC := Lib.hid (HV.out ▸ ValidField_impl _ _ _ _ w1 HR.out)
      go_wp2_with fail
      refine HC.out.mono ?_
      rintro e w2 ⟨rfl, hb⟩
      have HR_2 := Lib.hid (HR.out.keep (Keep.below hb))
      have B_2 := Lib.hid (below_up B1.out hb)
      clear hb HC HR B1
      have HC := Lib.hid (HV.out ▸ ValidField_spec _ _ _ _ w2 HR_2.out)
      go_wp2_with fail
      refine HC.out.mono ?_
      rintro e w3 ⟨rfl, hb⟩
      have HR_3 := Lib.hid (HR_2.out.keep (Keep.below hb))
      have B_3 := Lib.hid (below_up B_2.out hb)
      clear hb HC HR_2 B_2
      have HC := Lib.hid (HV.out ▸ ValidField_spec _ _ _ _ w3 HR_3.out)
      go_wp2_with fail
      refine HC.out.mono ?_
      rintro e w4 ⟨rfl, hb⟩
      have HR_4 := Lib.hid (HR_3.out.keep (Keep.below hb))
      have B_4 := Lib.hid (below_up B_3.out hb)
      clear hb HC HR_3 B_3
      go_wp2
      go_ret
      exact ⟨rfl, B_4.out⟩

set_option maxRecDepth 100000 in
theorem hFnValidField_lifted (os : Os) (started : os.Started) (H : Type) (enc : TypeId × Value → H) :
    ReturnsInHanded {} Try.checked os 7 .any (Rows.fnValidFieldSpec.pre6 enc Try.prog Try.f7 Rows.fnValidFieldRow.domain false) (Rows.fnValidFieldSpec.post enc Try.prog Try.f7 false true false false) := by
  refine returnsInHanded_of_change_sized (C := Try.checked) Try.own started (by kernel_rfl) Try.func7
    (ChangeSpec.witness6 (enc := enc) (C := Try.checked) false ⟨#[], #[.slice none 0 0], []⟩ 8 (by kernel_rfl) (by kernel_rfl) (by kernel_rfl) (by kernel_rfl)) ?_
  intro W base args ds gs before hval0 hW _ hwt _
  have hval : ∀ (j : Nat) t v, Try.f7.params[j]? = some t → args[j]? = some v → Value.okWide Try.prog W .any base t v := hval0
  have hA : ∃ p, DataW.TrodAll enc Try.prog W 0 (fun _ => true) true Try.f7.params.toList args.toList ds p := by obtain ⟨p, q, hA0, _⟩ := hW; exact ⟨p, hA0⟩
  obtain ⟨p, hA⟩ := hA
  have hwt' := weights_arg hwt (j := 0) (t := 37) (by rw [Try.params7]; rfl) (d := ds.getD 0 .nil)
  rw [Try.params7] at hA hval
  obtain ⟨v0, d0, rfl, rfl, h0⟩ := trodAll_one hA
  obtain ⟨A, n, c, rfl, hx⟩ := open_bytes (hval 0 37 v0 rfl rfl) h0 (hwt' rfl)
  refine (fnValidField_calls A n c W hx).mono fun e W' ⟨he, hb⟩ => ?_
  subst he
  exact ⟨_, rfl, law_post (F := Try.f7) rfl rfl (by rw [Try.params7]; simp only [List.mem_cons, List.not_mem_nil, or_false, forall_eq]; exact ⟨by kernel_rfl, of_decide_eq_true (by kernel_rfl)⟩) hW (fun h => by subst h; rfl) hb⟩

theorem hFnValidField_holds : Rows.FnValidFieldSaid :=
  OpenClaim.holds_of_wide 7 Try.f7 rfl rfl rfl rfl rfl rfl rfl ⟨rfl, rfl, rfl, rfl, rfl⟩ rfl rfl rfl rfl rfl (by kernel_rfl) Try.func7
    (by unfold joinedFacts; simp only [Bool.and_eq_true]; (repeat' apply And.intro) <;> (first | (with_reducible exact prog_enters) | ((with_reducible refine prog_lifts ?_); rfl) | ((with_reducible refine prog_make ?_); rfl) | kernel_rfl))
    (of_decide_eq_true (by kernel_rfl)) (by unfold Func.isWrapper; first | (rw [if_pos (by decide +kernel)]; kernel_rfl) | (rw [if_neg (by decide +kernel)]; exact ⟨rfl, rfl⟩))
    (fun os started H enc _ => hFnValidField_lifted os started H enc)

end Go.Proofs.Ytmhknknapciebaa
