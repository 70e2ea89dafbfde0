/- The law FnValidTable. -/
import Derived.Test.YtnonbefeomnbpaaQ5
namespace Go.Proofs.Ytnonbefeomnbpaa
open Go.ChangeShapes Go.WideShapes Go.ChangeAt Go.RowKit Go.Deep

set_option maxHeartbeats 1000000 in
theorem fnValidTable_calls (A : Option Addr) (n c : Nat) (w : World) (hx : Bytes w A n c) :
    Calls Try.prog 3 #[.slice A n c] w fun e w' => e = .returned (.bool true) ∧ Below w.heap.size w w' := by
  have hmx := hx.max
  have H0 := Lib.hid (DrawValidTable_any A n c w hx)
  clear hx
  by_cases hs : 1048576 < n
  · go_enter Try.func3, Try.ntmps3
    go_wp2
    go_ret
    exact ⟨rfl, Below.refl _ _⟩
  · go_enter Try.func3, Try.ntmps3
    go_wp2_with fail
    refine H0.out.mono ?_
    rintro e w1 ⟨Av, k, cv, gg, xss, rfl, hsm, hown, hb⟩
    have HS := Lib.hid hsm
    have H1 := Lib.hid hown.rows
    have B1 := Lib.hid hb
    have LX := Lib.hid hown.rows.len
    clear hsm hown hb H0
    by_cases hv : VT xss
    · have hk : 0 < k := by rw [← LX.out]; exact hv.n1
      go_wp2_with fail
      refine (pb_true hv ▸ ValidTable_impl _ _ _ _ _ H1.out).mono ?_
      rintro e w2 ⟨rfl, hq⟩
      have H2 := Lib.hid (H1.out.keep (Keep.quiet hq))
      have B2 := Lib.hid (below_up B1.out hq.below)
      clear hq H1 B1
      go_wp2_with fail
      refine (pb_true hv ▸ ValidTable_spec _ _ _ _ _ H2.out).mono ?_
      rintro e w3 ⟨rfl, hq⟩
      have H3 := Lib.hid (H2.out.keep (Keep.quiet hq))
      have B3 := Lib.hid (below_up B2.out hq.below)
      clear hq H2 B2
      go_wp2_with fail
      refine (flipped_any _ _ _ _ _ _ H3.out HS.out hk hv.even).mono ?_
      rintro e w4 ⟨A2, n2, c2, g2, rfl, hn2, hown, hb⟩
      have HF := Lib.hid hown.rows
      have H4 := Lib.hid (H3.out.keep (Keep.below hb))
      have B4 := Lib.hid (below_up B3.out hb)
      have HVF := Lib.hid (show VT (flip xss k (gr xss 0).length) by rw [← LX.out]; exact hv.flip)
      clear hown hb H3 B3 hn2
      go_wp2_with fail
      refine (pb_true HVF.out ▸ ValidTable_impl _ _ _ _ _ HF.out).mono ?_
      rintro e w5 ⟨rfl, hq⟩
      have H5 := Lib.hid (H4.out.keep (Keep.quiet hq))
      have B5 := Lib.hid (below_up B4.out hq.below)
      clear hq H4 B4 HF
      go_wp2_with fail
      refine (minusOf_any _ _ _ _ _ H5.out HS.out).mono ?_
      rintro e w6 ⟨A3, n3, c3, g3, rfl, hn3, hown, hb⟩
      have HM := Lib.hid hown.rows
      have B6 := Lib.hid (below_up B5.out hb)
      have HVM := Lib.hid hv.minus
      clear hown hb H5 B5 hn3
      go_wp2_with fail
      refine (pb_true HVM.out ▸ ValidTable_impl _ _ _ _ _ HM.out).mono ?_
      rintro e w7 ⟨rfl, hq⟩
      have B7 := Lib.hid (below_up B6.out hq.below)
      clear hq B6 HM
      go_wp2
      go_ret
      exact ⟨rfl, B7.out⟩
    · go_wp2_with fail
      refine (pb_false hv ▸ ValidTable_impl _ _ _ _ _ H1.out).mono ?_
      rintro e w2 ⟨rfl, hq⟩
      have H2 := Lib.hid (H1.out.keep (Keep.quiet hq))
      have B2 := Lib.hid (below_up B1.out hq.below)
      clear hq H1 B1
      go_wp2_with fail
      refine (pb_false hv ▸ ValidTable_spec _ _ _ _ _ H2.out).mono ?_
      rintro e w3 ⟨rfl, hq⟩
      have H3 := Lib.hid (H2.out.keep (Keep.quiet hq))
      have B3 := Lib.hid (below_up B2.out hq.below)
      clear hq H2 B2
      go_wp2_with fail
      refine (pb_false hv ▸ ValidTable_spec _ _ _ _ _ H3.out).mono ?_
      rintro e w4 ⟨rfl, hq⟩
      have B4 := Lib.hid (below_up B3.out hq.below)
      clear hq H3 B3
      go_wp2
      go_ret
      exact ⟨rfl, B4.out⟩

theorem hFnValidTable_lifted (os : Os) (started : os.Started) (H : Type) (enc : TypeId × Value → H) :
    ReturnsInHanded {} Try.checked os 3 .any (Rows.fnValidTableSpec.pre6 enc Try.prog Try.f3 Rows.fnValidTableRow.domain false) (Rows.fnValidTableSpec.post enc Try.prog Try.f3 false true false false) := by
  refine returnsInHanded_of_change_sized (C := Try.checked) Try.own started (by kernel_rfl) Try.func3
    (ChangeSpec.witness6 (enc := enc) (C := Try.checked) false ⟨#[], #[.slice none 0 0], []⟩ 8 (by kernel_rfl) (by kernel_rfl) (by kernel_rfl) (by kernel_rfl)) ?_
  intro W base args ds gs before hval0 hW _ hwt _
  have hval : ∀ (j : Nat) t v, Try.f3.params[j]? = some t → args[j]? = some v → Value.okWide Try.prog W .any base t v := hval0
  have hA : ∃ p, DataW.TrodAll enc Try.prog W 0 (fun _ => true) true Try.f3.params.toList args.toList ds p := by obtain ⟨p, q, hA0, _⟩ := hW; exact ⟨p, hA0⟩
  obtain ⟨p, hA⟩ := hA
  have hwt' := weights_arg hwt (j := 0) (t := 22) (by rw [Try.params3]; rfl) (d := ds.getD 0 .nil)
  rw [Try.params3] at hA hval
  obtain ⟨v0, d0, rfl, rfl, h0⟩ := trodAll_one hA
  obtain ⟨A, n, c, rfl, hx⟩ := open_bytes (hval 0 22 v0 rfl rfl) h0 (hwt' rfl)
  refine (fnValidTable_calls A n c W hx).mono fun e W' ⟨he, hb⟩ => ?_
  subst he
  exact ⟨_, rfl, law_post (F := Try.f3) rfl rfl (by rw [Try.params3]; simp only [List.mem_cons, List.not_mem_nil, or_false, forall_eq]; exact ⟨by kernel_rfl, of_decide_eq_true (by kernel_rfl)⟩) hW (fun h => by subst h; rfl) hb⟩

theorem hFnValidTable_holds : Rows.FnValidTableSaid :=
  OpenClaim.holds_of_wide 3 Try.f3 rfl rfl rfl rfl rfl rfl rfl ⟨rfl, rfl, rfl, rfl, rfl⟩ rfl rfl rfl rfl rfl (by kernel_rfl) Try.func3
    (by unfold joinedFacts; simp only [Bool.and_eq_true]; (repeat' apply And.intro) <;> (first | (with_reducible exact prog_enters) | ((with_reducible refine prog_lifts ?_); rfl) | ((with_reducible refine prog_make ?_); rfl) | kernel_rfl))
    (of_decide_eq_true (by kernel_rfl)) (by unfold Func.isWrapper; first | (rw [if_pos (by decide +kernel)]; kernel_rfl) | (rw [if_neg (by decide +kernel)]; exact ⟨rfl, rfl⟩))
    (fun os started H enc _ => hFnValidTable_lifted os started H enc)

end Go.Proofs.Ytnonbefeomnbpaa
