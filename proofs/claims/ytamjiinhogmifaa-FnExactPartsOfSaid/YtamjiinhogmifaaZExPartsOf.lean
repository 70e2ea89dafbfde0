/- The law FnExactPartsOf holds: for every number the program's PartsOf answers as the model's, and its answer owns its memory. No condition. -/
import Derived.Test.YtamjiinhogmifaaQ10
namespace Go.Proofs.Ytamjiinhogmifaa
open Go.ChangeShapes Go.WideShapes Go.ChangeAt Go.RowKit Go.Deep

set_option maxRecDepth 100000 in
set_option maxHeartbeats 3200000 in
theorem exPartsOf_calls (k0 : Int) (w : World) (hk0 : Fit k0) :
    Calls Try.prog 7 #[.int .i64 k0] w fun e w' => e = .returned (.bool true) ∧ Below w.heap.size w w' := by
  have K0 := Lib.hid hk0
  obtain ⟨k0l, k0h⟩ := hk0
  have Z0 := Lib.hid (Below.refl w.heap.size w)
  have HE := Lib.hid (show eqRR (ptV k0) (ptV k0) = true by simp [eqRR])
  have hof : offs (ptV k0) (ptV k0).length ≤ 1000000 := pt_offs k0
  have hof0 : 0 ≤ offs (ptV k0) (ptV k0).length := offs_ge _ _
  go_enter Try.func7, Try.ntmps7
  have HC := Lib.hid (PartsOf_spec _ w K0.out)
  go_wp2_with fail
  refine HC.out.mono ?_
  rintro e w1 ⟨As, ns, cs, gs, rfl, hns, hos, hb⟩
  have Z_1 := Lib.hid (below_up Z0.out hb)
  subst hns
  have T := Lib.hid hos.rows
  clear hos
  clear hb HC Z0
  have BB := Lib.hid Z_1.out
  have ZB := Lib.hid (Below.refl w1.heap.size w1)
  clear Z_1 
  have HGG := Lib.hid ZB.out.size
  have HC := Lib.hid (PartsOf_impl _ w1 K0.out)
  go_wp2_with fail
  refine HC.out.mono ?_
  rintro e w2 ⟨Ag, ng, cg, gg, rfl, hng, hog, hb⟩
  subst hng
  have Z_2 := Lib.hid (below_up ZB.out hb)
  have P := Lib.hid hog
  clear hog hb HC ZB
  have HC := Lib.hid (HE.out ▸ eqIntSS_any _ _ _ _ _ _ (ptV k0) (ptV k0) w2 P.out.rows (T.out.keep (Keep.below Z_2.out)))
  go_wp2_with fail
  refine HC.out.mono ?_
  rintro e w3 ⟨rfl, hq⟩
  have hb := hq.below (B := w2.heap.size)
  have P_3 := Lib.hid (P.out.below hb)
  have Z_3 := Lib.hid (below_up Z_2.out hb)
  clear hb HC hq P Z_2
  have hkk : ¬ (1 < 0) := by omega
  have HC := Lib.hid (markIntSS_any _ _ _ _ _ _ (ptV k0) 1 w3 P_3.out (by omega) (by omega))
  go_wp2_with fail
  refine HC.out.mono ?_
  rintro e w4 ⟨rfl, ho, hm⟩
  have P_4 := Lib.hid (ho)
  have Z_4 := Lib.hid (Touch.below Z_3.out hm (by have := HGG.out; omega))
  clear HC ho hm P_3 Z_3
  have HC := Lib.hid (heldIntSS_any _ _ _ (ptV k0) 1 w4 P_4.out.rows (by omega) (by omega))
  go_wp2_with fail
  refine HC.out.mono ?_
  rintro e w5 ⟨rfl, hq⟩
  have hb := hq.below (B := w4.heap.size)
  have P_5 := Lib.hid (P_4.out.below hb)
  have Z_5 := Lib.hid (below_up Z_4.out hb)
  clear hb HC hq P_4 Z_4
  have hp : ¬ (1 + offs (ptV k0) (ptV k0).length < 0) := by omega
  clear hp
  have HC := Lib.hid (PartsOf_impl _ w5 K0.out)
  go_wp2_with fail
  refine HC.out.mono ?_
  rintro e w6 ⟨Ah, nh, ch, gh, rfl, hnh, hoh, hb⟩
  have P_6 := Lib.hid (P_5.out.below hb)
  have Z_6 := Lib.hid (below_up Z_5.out hb)
  subst hnh
  have Q := Lib.hid hoh.rows
  clear hoh
  clear hb HC P_5 Z_5
  have HC := Lib.hid (HE.out ▸ eqIntSS_any _ _ _ _ _ _ (ptV k0) (ptV k0) w6 Q.out (T.out.keep (Keep.below Z_6.out)))
  go_wp2_with fail
  refine HC.out.mono ?_
  rintro e w7 ⟨rfl, hq⟩
  have hb := hq.below (B := w6.heap.size)
  have P_7 := Lib.hid (P_6.out.below hb)
  have Q_7 := Lib.hid (Q.out.keep (Keep.below hb))
  have Z_7 := Lib.hid (below_up Z_6.out hb)
  clear hb HC hq P_6 Q Z_6
  clear Q_7
  have HC := Lib.hid (heldIntSS_any _ _ _ (ptV k0) 1 w7 P_7.out.rows (by omega) (by omega))
  go_wp2_with fail
  refine HC.out.mono ?_
  rintro e w8 ⟨rfl, hq⟩
  have hb := hq.below (B := w7.heap.size)
  have P_8 := Lib.hid (P_7.out.below hb)
  have Z_8 := Lib.hid (below_up Z_7.out hb)
  clear hb HC hq P_7 Z_7
  have hp : ¬ (1 + offs (ptV k0) (ptV k0).length < 0) := by omega
  go_wp2
  go_ret
  exact ⟨rfl, below_up BB.out Z_8.out⟩


set_option maxRecDepth 100000 in
theorem hFnExactPartsOf_lifted (os : Os) (started : os.Started) (H : Type) (enc : TypeId × Value → H) :
    ReturnsInHanded {} Try.checked os 7 .any (Rows.fnExactPartsOfSpec.pre6 enc Try.prog Try.f7 Rows.fnExactPartsOfRow.domain false) (Rows.fnExactPartsOfSpec.post enc Try.prog Try.f7 false true false false) := by
  refine returnsInHanded_of_change_sized (C := Try.checked) Try.own started (by kernel_rfl) Try.func7
    (ChangeSpec.witness6 (enc := enc) (C := Try.checked) false ⟨#[], #[.int .i64 0], []⟩ 8 (by kernel_rfl) (by kernel_rfl) (by kernel_rfl) (by kernel_rfl)) ?_
  intro W base args ds gs before hval0 hW _ hwt _
  have hval : ∀ (j : Nat) t v, Try.f7.params[j]? = some t → args[j]? = some v → Value.okWide Try.prog W .any base t v := hval0
  have hA : ∃ p, DataW.TrodAll enc Try.prog W 0 (fun _ => true) true Try.f7.params.toList args.toList ds p := by obtain ⟨p, q, hA0, _⟩ := hW; exact ⟨p, hA0⟩
  obtain ⟨p, hA⟩ := hA
  rw [Try.params7] at hA hval
  obtain ⟨v0, d0, rfl, rfl, h0⟩ := trodAll_one hA
  obtain ⟨k0, rfl, hk0⟩ := open_num (hval 0 3 v0 rfl rfl) h0
  refine (exPartsOf_calls k0 W hk0).mono fun e W' ⟨he, hb⟩ => ?_
  subst he
  exact ⟨_, rfl, law_post (F := Try.f7) rfl rfl (by rw [Try.params7]; intro t ht; simp only [List.mem_cons, List.not_mem_nil, or_false] at ht; rcases ht with rfl <;> exact ⟨by kernel_rfl, of_decide_eq_true (by kernel_rfl)⟩) hW (fun h => by subst h; rfl) hb⟩

theorem hFnExactPartsOf_holds : Rows.FnExactPartsOfSaid :=
  OpenClaim.holds_of_wide 7 Try.f7 rfl rfl rfl rfl rfl rfl rfl ⟨rfl, rfl, rfl, rfl, rfl⟩ rfl rfl rfl rfl rfl (by kernel_rfl) Try.func7
    (by unfold joinedFacts; simp only [Bool.and_eq_true]; (repeat' apply And.intro) <;> (first | (with_reducible exact prog_enters) | ((with_reducible refine prog_lifts ?_); rfl) | ((with_reducible refine prog_make ?_); rfl) | kernel_rfl))
    (of_decide_eq_true (by kernel_rfl)) (by unfold Func.isWrapper; first | (rw [if_pos (by decide +kernel)]; kernel_rfl) | (rw [if_neg (by decide +kernel)]; exact ⟨rfl, rfl⟩))
    (fun os started H enc _ => hFnExactPartsOf_lifted os started H enc)

end Go.Proofs.Ytamjiinhogmifaa
