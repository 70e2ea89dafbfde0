/- The law FnExactValidTable holds: for every [][]int the program's ValidTable answers as the model's, and leaves the argument as it was. No condition. -/
import Derived.Test.YtnonbefeomnbpaaQ5
namespace Go.Proofs.Ytnonbefeomnbpaa
open Go.ChangeShapes Go.WideShapes Go.ChangeAt Go.RowKit Go.Deep

set_option maxHeartbeats 1000000 in
theorem exValidTable_calls (A : Option Addr) (n c : Nat) (a : List (List Int)) (w : World) (hx : IntRows w A n c a) :
    Calls Try.prog 7 #[.slice A n c] w fun e w' => e = .returned (.bool true) ∧ Below w.heap.size w w' := by
  have HX := Lib.hid hx
  clear hx
  by_cases hs : szRR 1048576 a < 0
  · go_enter Try.func7, Try.ntmps7
    go_wp2_with fail
    refine (szIntSS_any _ _ _ _ _ _ HX.out (by omega) (by omega)).mono ?_
    rintro e w1 ⟨rfl, hq⟩
    go_wp2
    go_ret
    exact ⟨rfl, hq.below⟩
  · go_enter Try.func7, Try.ntmps7
    go_wp2_with fail
    refine (szIntSS_any _ _ _ _ _ _ HX.out (by omega) (by omega)).mono ?_
    rintro e w1 ⟨rfl, hq⟩
    have H1 := Lib.hid (HX.out.keep (Keep.quiet hq))
    have B1 : Below w.heap.size w w1 := hq.below
    clear hq
    go_wp2_with fail
    refine (toIntSS_any _ _ _ _ _ H1.out).mono ?_
    rintro e w2 ⟨rfl, hown, hb, -⟩
    have H2 := Lib.hid (H1.out.keep (Keep.below hb))
    have B2 := B1.trans (hb.mono B1.size)
    have O2 := Lib.hid hown.rows
    clear hb hown H1 B1
    go_wp2_with fail
    refine (ValidTable_spec _ _ _ _ _ O2.out).mono ?_
    rintro e w3 ⟨rfl, hq⟩
    have H3 := Lib.hid (H2.out.keep (Keep.quiet hq))
    have B3 := B2.trans hq.below
    clear hq H2 B2 O2
    go_wp2_with fail
    refine (toIntSS_any _ _ _ _ _ H3.out).mono ?_
    rintro e w4 ⟨rfl, hown, hb, -⟩
    have H4 := Lib.hid (H3.out.keep (Keep.below hb))
    have B4 := B3.trans (hb.mono B3.size)
    have O4 := Lib.hid hown.rows
    clear hb hown H3 B3
    go_wp2_with fail
    refine (ValidTable_impl _ _ _ _ _ O4.out).mono ?_
    rintro e w5 ⟨rfl, hq⟩
    have H5 := Lib.hid (H4.out.keep (Keep.quiet hq))
    have O5 := Lib.hid (O4.out.keep (Keep.quiet hq))
    have B5 := B4.trans hq.below
    clear hq H4 B4 O4
    go_wp2_with fail
    refine (toIntSS_any _ _ _ _ _ H5.out).mono ?_
    rintro e w6 ⟨rfl, hown, hb, -⟩
    have O6 := Lib.hid (O5.out.keep (Keep.below hb))
    have B6 := B5.trans (hb.mono B5.size)
    have P6 := Lib.hid hown.rows
    clear hb hown H5 B5 O5
    go_wp2_with fail
    have heq := (eqIntSS_any _ _ _ _ _ _ _ _ _ O6.out P6.out)
    rw [show eqRR a a = true by simp [eqRR]] at heq
    refine heq.mono ?_
    rintro e w7 ⟨rfl, hq⟩
    have B7 := B6.trans hq.below
    clear hq B6 heq
    go_wp2
    go_ret
    exact ⟨rfl, B7⟩

theorem hFnExactValidTable_lifted (os : Os) (started : os.Started) (H : Type) (enc : TypeId × Value → H) :
    ReturnsInHanded {} Try.checked os 7 .any (Rows.fnExactValidTableSpec.pre6 enc Try.prog Try.f7 Rows.fnExactValidTableRow.domain false) (Rows.fnExactValidTableSpec.post enc Try.prog Try.f7 false true false false) := by
  refine returnsInHanded_of_change_sized (C := Try.checked) Try.own started (by kernel_rfl) Try.func7
    (ChangeSpec.witness6 (enc := enc) (C := Try.checked) false ⟨#[], #[.slice none 0 0], []⟩ 8 (by kernel_rfl) (by kernel_rfl) (by kernel_rfl) (by kernel_rfl)) ?_
  intro W base args ds gs before hval0 hW _ hwt _
  have hval : ∀ (j : Nat) t v, Try.f7.params[j]? = some t → args[j]? = some v → Value.okWide Try.prog W .any base t v := hval0
  have hA : ∃ p, DataW.TrodAll enc Try.prog W 0 (fun _ => true) true Try.f7.params.toList args.toList ds p := by obtain ⟨p, q, hA0, _⟩ := hW; exact ⟨p, hA0⟩
  obtain ⟨p, hA⟩ := hA
  have hwt' := weights_arg hwt (j := 0) (t := 23) (by rw [Try.params7]; rfl) (d := ds.getD 0 .nil)
  rw [Try.params7] at hA hval
  obtain ⟨v0, d0, rfl, rfl, h0⟩ := trodAll_one hA
  obtain ⟨A, n, c, a, rfl, hx⟩ := open_rows (hval 0 23 v0 rfl rfl) h0 (hwt' rfl)
  refine (exValidTable_calls A n c a W hx).mono fun e W' ⟨he, hb⟩ => ?_
  subst he
  exact ⟨_, rfl, law_post (F := Try.f7) rfl rfl (by rw [Try.params7]; simp only [List.mem_cons, List.not_mem_nil, or_false, forall_eq]; exact ⟨by kernel_rfl, of_decide_eq_true (by kernel_rfl)⟩) hW (fun h => by subst h; rfl) hb⟩

theorem hFnExactValidTable_holds : Rows.FnExactValidTableSaid :=
  OpenClaim.holds_of_wide 7 Try.f7 rfl rfl rfl rfl rfl rfl rfl ⟨rfl, rfl, rfl, rfl, rfl⟩ rfl rfl rfl rfl rfl (by kernel_rfl) Try.func7
    (by unfold joinedFacts; simp only [Bool.and_eq_true]; (repeat' apply And.intro) <;> (first | (with_reducible exact prog_enters) | ((with_reducible refine prog_lifts ?_); rfl) | ((with_reducible refine prog_make ?_); rfl) | kernel_rfl))
    (of_decide_eq_true (by kernel_rfl)) (by unfold Func.isWrapper; first | (rw [if_pos (by decide +kernel)]; kernel_rfl) | (rw [if_neg (by decide +kernel)]; exact ⟨rfl, rfl⟩))
    (fun os started H enc _ => hFnExactValidTable_lifted os started H enc)

end Go.Proofs.Ytnonbefeomnbpaa
