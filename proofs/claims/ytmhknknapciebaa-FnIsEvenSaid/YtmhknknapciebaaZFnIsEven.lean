/- The law FnIsEven holds: for every code, of what it draws, the program tells even tables as the model does, and just those that are the same with rows as columns. No condition. -/
import Derived.Test.YtmhknknapciebaaQ7
namespace Go.Proofs.Ytmhknknapciebaa
open Go.ChangeShapes Go.WideShapes Go.ChangeAt Go.RowKit Go.Deep

set_option maxRecDepth 100000 in
set_option maxHeartbeats 3200000 in
theorem fnIsEven_calls (A : Option Addr) (n c : Nat) (w : World) (hx : Bytes w A n c) :
    Calls Try.prog 8 #[.slice A n c] w fun e w' => e = .returned (.bool true) ∧ Below w.heap.size w w' := by
  have hmx := hx.max
  have H0 := Lib.hid (DrawIsEven_any A n c w hx)
  clear hx
  by_cases hs : 1048576 < n
  · go_enter Try.func8, Try.ntmps8
    go_wp2
    go_ret
    exact ⟨rfl, Below.refl _ _⟩
  · go_enter Try.func8, Try.ntmps8
    go_wp2_with fail
    refine H0.out.mono ?_
    rintro e w1 ⟨Av, k, cv, gg, xss, rfl, hsm, hown, hb⟩
    have HS := Lib.hid hsm
    have HR := Lib.hid hown.rows
    have B1 := Lib.hid hb
    have LX := Lib.hid hown.rows.len
    clear hsm hown hb H0
    by_cases hv : VQ xss
    · have hk : 0 < k := by rw [← LX.out]; exact hv.1.n1
      have HVQ := Lib.hid (pb_true hv)
      have HEV := Lib.hid (hv.even LX.out)
      have HEQ := Lib.hid (show eqRR (flip xss k k) xss = pb (EvP xss) by unfold eqRR; rw [Bool.eq_iff_iff, decide_eq_true_iff, pb_iff, hv.evenP LX.out])
      clear hv
      cases hE : pb (EvP xss)
      · have HE := Lib.hid hE
        rw [hE] at HEQ
        clear hE
        have HC := Lib.hid (HE.out ▸ IsEven_impl _ _ _ _ w1 HR.out)
        go_wp2_with fail
        refine HC.out.mono ?_
        rintro e w2 ⟨rfl, hb⟩
        have HR_2 := Lib.hid (HR.out.keep (Keep.below hb))
        have B_2 := Lib.hid (below_up B1.out hb)
        clear hb HC HR B1
        have HC := Lib.hid (HE.out ▸ IsEven_spec _ _ _ _ w2 HR_2.out)
        go_wp2_with fail
        refine HC.out.mono ?_
        rintro e w3 ⟨rfl, hb⟩
        have HR_3 := Lib.hid (HR_2.out.keep (Keep.below hb))
        have B_3 := Lib.hid (below_up B_2.out hb)
        clear hb HC HR_2 B_2
        have HC := Lib.hid (HVQ.out ▸ ValidSquare_impl _ _ _ _ w3 HR_3.out)
        go_wp2_with fail
        refine HC.out.mono ?_
        rintro e w4 ⟨rfl, hq⟩
        have hb := hq.below (B := w3.heap.size)
        have HR_4 := Lib.hid (HR_3.out.keep (Keep.below hb))
        have B_4 := Lib.hid (below_up B_3.out hb)
        clear hb HC hq HR_3 B_3
        have HC := Lib.hid (flipped_any _ _ _ k xss w4 HR_4.out HS.out hk HEV.out)
        go_wp2_with fail
        refine HC.out.mono ?_
        rintro e w5 ⟨A2, n2, c2, g2_, rfl, hn2, hown, hb⟩
        have HR_5 := Lib.hid (HR_4.out.keep (Keep.below hb))
        have B_5 := Lib.hid (below_up B_4.out hb)
        have HF := Lib.hid hown.rows
        clear hown hn2
        clear hb HC HR_4 B_4
        have HC := Lib.hid (HEQ.out ▸ equalRows_any _ _ _ _ _ _ (flip xss k k) xss w5 HF.out HR_5.out)
        go_wp2_with fail
        refine HC.out.mono ?_
        rintro e w6 ⟨rfl, hq⟩
        have hb := hq.below (B := w5.heap.size)
        have HR_6 := Lib.hid (HR_5.out.keep (Keep.below hb))
        have HF_6 := Lib.hid (HF.out.keep (Keep.below hb))
        have B_6 := Lib.hid (below_up B_5.out hb)
        clear hb HC hq HR_5 HF B_5
        go_wp2
        go_ret
        exact ⟨rfl, B_6.out⟩
      · have HE := Lib.hid hE
        rw [hE] at HEQ
        clear hE
        have HC := Lib.hid (HE.out ▸ IsEven_impl _ _ _ _ w1 HR.out)
        go_wp2_with fail
        refine HC.out.mono ?_
        rintro e w2 ⟨rfl, hb⟩
        have HR_2 := Lib.hid (HR.out.keep (Keep.below hb))
        have B_2 := Lib.hid (below_up B1.out hb)
        clear hb HC HR B1
        have HC := Lib.hid (HE.out ▸ IsEven_spec _ _ _ _ w2 HR_2.out)
        go_wp2_with fail
        refine HC.out.mono ?_
        rintro e w3 ⟨rfl, hb⟩
        have HR_3 := Lib.hid (HR_2.out.keep (Keep.below hb))
        have B_3 := Lib.hid (below_up B_2.out hb)
        clear hb HC HR_2 B_2
        have HC := Lib.hid (HVQ.out ▸ ValidSquare_impl _ _ _ _ w3 HR_3.out)
        go_wp2_with fail
        refine HC.out.mono ?_
        rintro e w4 ⟨rfl, hq⟩
        have hb := hq.below (B := w3.heap.size)
        have HR_4 := Lib.hid (HR_3.out.keep (Keep.below hb))
        have B_4 := Lib.hid (below_up B_3.out hb)
        clear hb HC hq HR_3 B_3
        have HC := Lib.hid (flipped_any _ _ _ k xss w4 HR_4.out HS.out hk HEV.out)
        go_wp2_with fail
        refine HC.out.mono ?_
        rintro e w5 ⟨A2, n2, c2, g2_, rfl, hn2, hown, hb⟩
        have HR_5 := Lib.hid (HR_4.out.keep (Keep.below hb))
        have B_5 := Lib.hid (below_up B_4.out hb)
        have HF := Lib.hid hown.rows
        clear hown hn2
        clear hb HC HR_4 B_4
        have HC := Lib.hid (HEQ.out ▸ equalRows_any _ _ _ _ _ _ (flip xss k k) xss w5 HF.out HR_5.out)
        go_wp2_with fail
        refine HC.out.mono ?_
        rintro e w6 ⟨rfl, hq⟩
        have hb := hq.below (B := w5.heap.size)
        have HR_6 := Lib.hid (HR_5.out.keep (Keep.below hb))
        have HF_6 := Lib.hid (HF.out.keep (Keep.below hb))
        have B_6 := Lib.hid (below_up B_5.out hb)
        clear hb HC hq HR_5 HF B_5
        go_wp2
        go_ret
        exact ⟨rfl, B_6.out⟩
    · have HVQ := Lib.hid (pb_false hv)
      have HE := Lib.hid (pb_false (p := EvP xss) (fun h => hv h.q))
      clear hv
      have HC := Lib.hid (HE.out ▸ IsEven_impl _ _ _ _ w1 HR.out)
      go_wp2_with fail
      refine HC.out.mono ?_
      rintro e w2 ⟨rfl, hb⟩
      have HR_2 := Lib.hid (HR.out.keep (Keep.below hb))
      have B_2 := Lib.hid (below_up B1.out hb)
      clear hb HC HR B1
      have HC := Lib.hid (HE.out ▸ IsEven_spec _ _ _ _ w2 HR_2.out)
      go_wp2_with fail
      refine HC.out.mono ?_
      rintro e w3 ⟨rfl, hb⟩
      have HR_3 := Lib.hid (HR_2.out.keep (Keep.below hb))
      have B_3 := Lib.hid (below_up B_2.out hb)
      clear hb HC HR_2 B_2
      have HC := Lib.hid (HVQ.out ▸ ValidSquare_impl _ _ _ _ w3 HR_3.out)
      go_wp2_with fail
      refine HC.out.mono ?_
      rintro e w4 ⟨rfl, hq⟩
      have hb := hq.below (B := w3.heap.size)
      have HR_4 := Lib.hid (HR_3.out.keep (Keep.below hb))
      have B_4 := Lib.hid (below_up B_3.out hb)
      clear hb HC hq HR_3 B_3
      have HC := Lib.hid (HE.out ▸ IsEven_spec _ _ _ _ w4 HR_4.out)
      go_wp2_with fail
      refine HC.out.mono ?_
      rintro e w5 ⟨rfl, hb⟩
      have HR_5 := Lib.hid (HR_4.out.keep (Keep.below hb))
      have B_5 := Lib.hid (below_up B_4.out hb)
      clear hb HC HR_4 B_4
      go_wp2
      go_ret
      exact ⟨rfl, B_5.out⟩

set_option maxRecDepth 100000 in
theorem hFnIsEven_lifted (os : Os) (started : os.Started) (H : Type) (enc : TypeId × Value → H) :
    ReturnsInHanded {} Try.checked os 8 .any (Rows.fnIsEvenSpec.pre6 enc Try.prog Try.f8 Rows.fnIsEvenRow.domain false) (Rows.fnIsEvenSpec.post enc Try.prog Try.f8 false true false false) := by
  refine returnsInHanded_of_change_sized (C := Try.checked) Try.own started (by kernel_rfl) Try.func8
    (ChangeSpec.witness6 (enc := enc) (C := Try.checked) false ⟨#[], #[.slice none 0 0], []⟩ 8 (by kernel_rfl) (by kernel_rfl) (by kernel_rfl) (by kernel_rfl)) ?_
  intro W base args ds gs before hval0 hW _ hwt _
  have hval : ∀ (j : Nat) t v, Try.f8.params[j]? = some t → args[j]? = some v → Value.okWide Try.prog W .any base t v := hval0
  have hA : ∃ p, DataW.TrodAll enc Try.prog W 0 (fun _ => true) true Try.f8.params.toList args.toList ds p := by obtain ⟨p, q, hA0, _⟩ := hW; exact ⟨p, hA0⟩
  obtain ⟨p, hA⟩ := hA
  have hwt' := weights_arg hwt (j := 0) (t := 37) (by rw [Try.params8]; rfl) (d := ds.getD 0 .nil)
  rw [Try.params8] at hA hval
  obtain ⟨v0, d0, rfl, rfl, h0⟩ := trodAll_one hA
  obtain ⟨A, n, c, rfl, hx⟩ := open_bytes (hval 0 37 v0 rfl rfl) h0 (hwt' rfl)
  refine (fnIsEven_calls A n c W hx).mono fun e W' ⟨he, hb⟩ => ?_
  subst he
  exact ⟨_, rfl, law_post (F := Try.f8) rfl rfl (by rw [Try.params8]; simp only [List.mem_cons, List.not_mem_nil, or_false, forall_eq]; exact ⟨by kernel_rfl, of_decide_eq_true (by kernel_rfl)⟩) hW (fun h => by subst h; rfl) hb⟩

theorem hFnIsEven_holds : Rows.FnIsEvenSaid :=
  OpenClaim.holds_of_wide 8 Try.f8 rfl rfl rfl rfl rfl rfl rfl ⟨rfl, rfl, rfl, rfl, rfl⟩ rfl rfl rfl rfl rfl (by kernel_rfl) Try.func8
    (by unfold joinedFacts; simp only [Bool.and_eq_true]; (repeat' apply And.intro) <;> (first | (with_reducible exact prog_enters) | ((with_reducible refine prog_lifts ?_); rfl) | ((with_reducible refine prog_make ?_); rfl) | kernel_rfl))
    (of_decide_eq_true (by kernel_rfl)) (by unfold Func.isWrapper; first | (rw [if_pos (by decide +kernel)]; kernel_rfl) | (rw [if_neg (by decide +kernel)]; exact ⟨rfl, rfl⟩))
    (fun os started H enc _ => hFnIsEven_lifted os started H enc)

end Go.Proofs.Ytmhknknapciebaa
