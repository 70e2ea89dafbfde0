/- The law FnValidSquare holds: for every code, of what it draws, the program tells squares as the model does, and a square with rows as columns is one. No condition. -/
import Derived.Test.YtmhknknapciebaaQ7
namespace Go.Proofs.Ytmhknknapciebaa
open Go.ChangeShapes Go.WideShapes Go.ChangeAt Go.RowKit Go.Deep

set_option maxRecDepth 100000 in
set_option maxHeartbeats 3200000 in
theorem fnValidSquare_calls (A : Option Addr) (n c : Nat) (w : World) (hx : Bytes w A n c) :
    Calls Try.prog 6 #[.slice A n c] w fun e w' => e = .returned (.bool true) ∧ Below w.heap.size w w' := by
  have hmx := hx.max
  have H0 := Lib.hid (DrawValidSquare_any A n c w hx)
  clear hx
  by_cases hs : 1048576 < n
  · go_enter Try.func6, Try.ntmps6
    go_wp2
    go_ret
    exact ⟨rfl, Below.refl _ _⟩
  · go_enter Try.func6, Try.ntmps6
    go_wp2_with fail
    refine H0.out.mono ?_
    rintro e w1 ⟨Av, k, cv, gg, xss, rfl, hsm, hown, hb⟩
    have HS := Lib.hid hsm
    have HR := Lib.hid hown.rows
    have B1 := Lib.hid hb
    have LX := Lib.hid hown.rows.len
    clear hsm hown hb H0
    by_cases hv : VQ xss
    · have hk : 0 < k := by rw [← LX.out]; exact hv.1.n1
      have HVQ := Lib.hid (pb_true hv)
      have HVF := Lib.hid (pb_true (hv.flip LX.out))
      have HEV := Lib.hid (hv.even LX.out)
      have HM := Lib.hid (hv.m LX.out)
      clear hv
      have HC := Lib.hid (HVQ.out ▸ ValidSquare_impl _ _ _ _ w1 HR.out)
      go_wp2_with fail
      refine HC.out.mono ?_
      rintro e w2 ⟨rfl, hq⟩
      have hb := hq.below (B := w1.heap.size)
      have HR_2 := Lib.hid (HR.out.keep (Keep.below hb))
      have B_2 := Lib.hid (below_up B1.out hb)
      clear hb HC hq HR B1
      have HC := Lib.hid (HVQ.out ▸ ValidSquare_spec _ _ _ _ w2 HR_2.out)
      go_wp2_with fail
      refine HC.out.mono ?_
      rintro e w3 ⟨rfl, hq⟩
      have hb := hq.below (B := w2.heap.size)
      have HR_3 := Lib.hid (HR_2.out.keep (Keep.below hb))
      have B_3 := Lib.hid (below_up B_2.out hb)
      clear hb HC hq HR_2 B_2
      have HC := Lib.hid (flipped_any _ _ _ k xss w3 HR_3.out HS.out hk HEV.out)
      go_wp2_with fail
      refine HC.out.mono ?_
      rintro e w4 ⟨A2, n2, c2, g2_, rfl, hn2, hown, hb⟩
      have HR_4 := Lib.hid (HR_3.out.keep (Keep.below hb))
      have B_4 := Lib.hid (below_up B_3.out hb)
      have HF := Lib.hid hown.rows
      clear hown hn2
      clear hb HC HR_3 B_3
      obtain ⟨b0, o0, rfl, hr0⟩ := HR_4.out.at_ hk
      obtain ⟨R0, c0, q0, -⟩ := hr0 0 hk
      rw [HM.out] at q0
      simp only [Nat.add_zero] at q0
      have HQ0 := Lib.hid q0
      clear hr0 q0
      have HC := Lib.hid (HVF.out ▸ ValidSquare_impl _ _ _ _ w4 HF.out)
      go_wp2_with fail
      refine HC.out.mono ?_
      rintro e w5 ⟨rfl, hq⟩
      have hb := hq.below (B := w4.heap.size)
      have HR_5 := Lib.hid (HR_4.out.keep (Keep.below hb))
      have HF_5 := Lib.hid (HF.out.keep (Keep.below hb))
      have HQ0_5 := Lib.hid (Keep.below hb _ _ HQ0.out)
      have B_5 := Lib.hid (below_up B_4.out hb)
      clear hb HC hq HR_4 HF HQ0 B_4
      have q_HQ0 := HQ0_5.out
      go_wp2
      go_ret
      exact ⟨rfl, B_5.out⟩
    · have HVQ := Lib.hid (pb_false hv)
      clear hv
      have HC := Lib.hid (HVQ.out ▸ ValidSquare_impl _ _ _ _ w1 HR.out)
      go_wp2_with fail
      refine HC.out.mono ?_
      rintro e w2 ⟨rfl, hq⟩
      have hb := hq.below (B := w1.heap.size)
      have HR_2 := Lib.hid (HR.out.keep (Keep.below hb))
      have B_2 := Lib.hid (below_up B1.out hb)
      clear hb HC hq HR B1
      have HC := Lib.hid (HVQ.out ▸ ValidSquare_spec _ _ _ _ w2 HR_2.out)
      go_wp2_with fail
      refine HC.out.mono ?_
      rintro e w3 ⟨rfl, hq⟩
      have hb := hq.below (B := w2.heap.size)
      have HR_3 := Lib.hid (HR_2.out.keep (Keep.below hb))
      have B_3 := Lib.hid (below_up B_2.out hb)
      clear hb HC hq HR_2 B_2
      have HC := Lib.hid (HVQ.out ▸ ValidSquare_spec _ _ _ _ w3 HR_3.out)
      go_wp2_with fail
      refine HC.out.mono ?_
      rintro e w4 ⟨rfl, hq⟩
      have hb := hq.below (B := w3.heap.size)
      have HR_4 := Lib.hid (HR_3.out.keep (Keep.below hb))
      have B_4 := Lib.hid (below_up B_3.out hb)
      clear hb HC hq HR_3 B_3
      go_wp2
      go_ret
      exact ⟨rfl, B_4.out⟩

set_option maxRecDepth 100000 in
theorem hFnValidSquare_lifted (os : Os) (started : os.Started) (H : Type) (enc : TypeId × Value → H) :
    ReturnsInHanded {} Try.checked os 6 .any (Rows.fnValidSquareSpec.pre6 enc Try.prog Try.f6 Rows.fnValidSquareRow.domain false) (Rows.fnValidSquareSpec.post enc Try.prog Try.f6 false true false false) := by
  refine returnsInHanded_of_change_sized (C := Try.checked) Try.own started (by kernel_rfl) Try.func6
    (ChangeSpec.witness6 (enc := enc) (C := Try.checked) false ⟨#[], #[.slice none 0 0], []⟩ 8 (by kernel_rfl) (by kernel_rfl) (by kernel_rfl) (by kernel_rfl)) ?_
  intro W base args ds gs before hval0 hW _ hwt _
  have hval : ∀ (j : Nat) t v, Try.f6.params[j]? = some t → args[j]? = some v → Value.okWide Try.prog W .any base t v := hval0
  have hA : ∃ p, DataW.TrodAll enc Try.prog W 0 (fun _ => true) true Try.f6.params.toList args.toList ds p := by obtain ⟨p, q, hA0, _⟩ := hW; exact ⟨p, hA0⟩
  obtain ⟨p, hA⟩ := hA
  have hwt' := weights_arg hwt (j := 0) (t := 37) (by rw [Try.params6]; rfl) (d := ds.getD 0 .nil)
  rw [Try.params6] at hA hval
  obtain ⟨v0, d0, rfl, rfl, h0⟩ := trodAll_one hA
  obtain ⟨A, n, c, rfl, hx⟩ := open_bytes (hval 0 37 v0 rfl rfl) h0 (hwt' rfl)
  refine (fnValidSquare_calls A n c W hx).mono fun e W' ⟨he, hb⟩ => ?_
  subst he
  exact ⟨_, rfl, law_post (F := Try.f6) rfl rfl (by rw [Try.params6]; simp only [List.mem_cons, List.not_mem_nil, or_false, forall_eq]; exact ⟨by kernel_rfl, of_decide_eq_true (by kernel_rfl)⟩) hW (fun h => by subst h; rfl) hb⟩

theorem hFnValidSquare_holds : Rows.FnValidSquareSaid :=
  OpenClaim.holds_of_wide 6 Try.f6 rfl rfl rfl rfl rfl rfl rfl ⟨rfl, rfl, rfl, rfl, rfl⟩ rfl rfl rfl rfl rfl (by kernel_rfl) Try.func6
    (by unfold joinedFacts; simp only [Bool.and_eq_true]; (repeat' apply And.intro) <;> (first | (with_reducible exact prog_enters) | ((with_reducible refine prog_lifts ?_); rfl) | ((with_reducible refine prog_make ?_); rfl) | kernel_rfl))
    (of_decide_eq_true (by kernel_rfl)) (by unfold Func.isWrapper; first | (rw [if_pos (by decide +kernel)]; kernel_rfl) | (rw [if_neg (by decide +kernel)]; exact ⟨rfl, rfl⟩))
    (fun os started H enc _ => hFnValidSquare_lifted os started H enc)

end Go.Proofs.Ytmhknknapciebaa
