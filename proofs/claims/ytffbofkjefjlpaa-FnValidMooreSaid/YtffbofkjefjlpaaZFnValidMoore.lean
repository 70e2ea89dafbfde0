/- The law FnValidMoore holds: for all bytes a machine of one state with the first act of a valid machine is valid, and the program's ValidMoore answers as the model's. No condition. -/
import Derived.Test.YtffbofkjefjlpaaQ5
namespace Go.Proofs.Ytffbofkjefjlpaa
open Go.ChangeShapes Go.WideShapes Go.ChangeAt Go.RowKit Go.Deep

set_option maxRecDepth 100000 in
set_option maxHeartbeats 3200000 in
theorem fnValidMoore_calls (A : Option Addr) (n c : Nat) (w : World) (hx : Bytes w A n c) :
    Calls Try.prog 9 #[.slice A n c] w fun e w' => e = .returned (.bool true) ∧ Below w.heap.size w w' := by
  have hmx := hx.max
  have H0 := Lib.hid (DrawValidMoore_any A n c w hx)
  clear hx
  by_cases hs : 1048576 < n
  · go_enter Try.func9, Try.ntmps9
    go_wp2
    go_ret
    exact ⟨rfl, Below.refl _ _⟩
  · go_enter Try.func9, Try.ntmps9
    go_wp2_with fail
    refine H0.out.mono ?_
    rintro e w1 ⟨A1, c1, B1, d1, xs, ys, k, rfl, hx, hy, hk1, hk4, hb⟩
    have HM := Lib.hid (MX.start 28 hx hy)
    have B1_ := Lib.hid (below_up hb (below_alloc w1 (.cells #[.slice A1 k c1, .slice B1 k d1] 28)))
    have HL := Lib.hid hx.len
    clear hx hy hb H0
    by_cases hv : VM xs ys
    · have H1 := Lib.hid (pb_true hv ▸ ValidMoore_impl _ _ _ _ _ _ _ _ _ HM.out.rx HM.out.ry)
      have HA := Lib.hid (hv.act 0 (by rw [HL.out]; omega))
      have HVO := Lib.hid (VM_one (hv.act 0 (by rw [HL.out]; omega)))
      have c0 := HM.out.c0
      have c1_ := HM.out.c1
      go_wp2_with fail
      clear c0 c1_
      generalize w1.alloc (.cells #[.slice A1 k c1, .slice B1 k d1] 28) = W1 at *
      refine H1.out.mono ?_
      rintro e w2 ⟨rfl, hb⟩
      have HM2 := Lib.hid (HM.out.up hb)
      have B2_ := Lib.hid (below_up B1_.out hb)
      clear hb HM B1_ H1
      have H2 := Lib.hid (pb_true hv ▸ ValidMoore_spec _ _ _ _ _ _ _ _ _ HM2.out.rx HM2.out.ry)
      have c0 := HM2.out.c0
      have c1_ := HM2.out.c1
      go_wp2_with fail
      clear c0 c1_
      refine H2.out.mono ?_
      rintro e w3 ⟨rfl, hb⟩
      have HM3 := Lib.hid (HM2.out.up hb)
      have B3_ := Lib.hid (below_up B2_.out hb)
      clear hb HM2 B2_ H2
      obtain ⟨b, o, rfl, hc⟩ := HM3.out.rx.at_ (by omega)
      have cc := hc 0 (by omega)
      simp only [Nat.add_zero] at cc
      have c0 := HM3.out.c0
      have hk0 : (0 : Int) < (k : Int) := by omega
      have hk0' : 0 < k := by omega
      obtain ⟨l1, l2, l3⟩ := lit_one w3 (gi xs 0) (by have := HA.out; unfold InR at this; omega)
      have H3 := Lib.hid (pb_true HVO.out ▸ ValidMoore_impl _ _ _ _ _ _ _ _ _ l1 l2)
      have B4_ := Lib.hid (below_up B3_.out l3)
      clear hc l1 l2 l3
      generalize gi xs 0 = x0 at *
      go_wp2_with fail
      clear c0 cc
      refine H3.out.mono ?_
      rintro e w4 ⟨rfl, hb⟩
      have B5_ := Lib.hid (below_up B4_.out hb)
      clear hb H3 B4_
      go_wp2
      go_ret
      exact ⟨rfl, B5_.out⟩
    · have H1 := Lib.hid (pb_false hv ▸ ValidMoore_impl _ _ _ _ _ _ _ _ _ HM.out.rx HM.out.ry)
      have c0 := HM.out.c0
      have c1_ := HM.out.c1
      go_wp2_with fail
      clear c0 c1_
      generalize w1.alloc (.cells #[.slice A1 k c1, .slice B1 k d1] 28) = W1 at *
      refine H1.out.mono ?_
      rintro e w2 ⟨rfl, hb⟩
      have HM2 := Lib.hid (HM.out.up hb)
      have B2_ := Lib.hid (below_up B1_.out hb)
      clear hb HM B1_ H1
      have H2 := Lib.hid (pb_false hv ▸ ValidMoore_spec _ _ _ _ _ _ _ _ _ HM2.out.rx HM2.out.ry)
      have c0 := HM2.out.c0
      have c1_ := HM2.out.c1
      go_wp2_with fail
      clear c0 c1_
      refine H2.out.mono ?_
      rintro e w3 ⟨rfl, hb⟩
      have HM3 := Lib.hid (HM2.out.up hb)
      have B3_ := Lib.hid (below_up B2_.out hb)
      clear hb HM2 B2_ H2
      have H3 := Lib.hid (pb_false hv ▸ ValidMoore_spec _ _ _ _ _ _ _ _ _ HM3.out.rx HM3.out.ry)
      have c0 := HM3.out.c0
      have c1_ := HM3.out.c1
      go_wp2_with fail
      clear c0 c1_
      refine H3.out.mono ?_
      rintro e w4 ⟨rfl, hb⟩
      have B4_ := Lib.hid (below_up B3_.out hb)
      clear hb H3 B3_
      go_wp2
      go_ret
      exact ⟨rfl, B4_.out⟩

set_option maxRecDepth 100000 in
theorem hFnValidMoore_lifted (os : Os) (started : os.Started) (H : Type) (enc : TypeId × Value → H) :
    ReturnsInHanded {} Try.checked os 9 .any (Rows.fnValidMooreSpec.pre6 enc Try.prog Try.f9 Rows.fnValidMooreRow.domain false) (Rows.fnValidMooreSpec.post enc Try.prog Try.f9 false true false false) := by
  refine returnsInHanded_of_change_sized (C := Try.checked) Try.own started (by kernel_rfl) Try.func9
    (ChangeSpec.witness6 (enc := enc) (C := Try.checked) false ⟨#[], #[.slice none 0 0], []⟩ 8 (by kernel_rfl) (by kernel_rfl) (by kernel_rfl) (by kernel_rfl)) ?_
  intro W base args ds gs before hval0 hW _ hwt _
  have hval : ∀ (j : Nat) t v, Try.f9.params[j]? = some t → args[j]? = some v → Value.okWide Try.prog W .any base t v := hval0
  have hA : ∃ p, DataW.TrodAll enc Try.prog W 0 (fun _ => true) true Try.f9.params.toList args.toList ds p := by obtain ⟨p, q, hA0, _⟩ := hW; exact ⟨p, hA0⟩
  obtain ⟨p, hA⟩ := hA
  have hwt' := weights_arg hwt (j := 0) (t := 49) (by rw [Try.params9]; rfl) (d := ds.getD 0 .nil)
  rw [Try.params9] at hA hval
  obtain ⟨v0, d0, rfl, rfl, h0⟩ := trodAll_one hA
  obtain ⟨A, n, c, rfl, hx⟩ := open_bytes (hval 0 49 v0 rfl rfl) h0 (hwt' rfl)
  refine (fnValidMoore_calls A n c W hx).mono fun e W' ⟨he, hb⟩ => ?_
  subst he
  exact ⟨_, rfl, law_post (F := Try.f9) rfl rfl (by rw [Try.params9]; simp only [List.mem_cons, List.not_mem_nil, or_false, forall_eq]; exact ⟨by kernel_rfl, of_decide_eq_true (by kernel_rfl)⟩) hW (fun h => by subst h; rfl) hb⟩

theorem hFnValidMoore_holds : Rows.FnValidMooreSaid :=
  OpenClaim.holds_of_wide 9 Try.f9 rfl rfl rfl rfl rfl rfl rfl ⟨rfl, rfl, rfl, rfl, rfl⟩ rfl rfl rfl rfl rfl (by kernel_rfl) Try.func9
    (by unfold joinedFacts; simp only [Bool.and_eq_true]; (repeat' apply And.intro) <;> (first | (with_reducible exact prog_enters) | ((with_reducible refine prog_lifts ?_); rfl) | ((with_reducible refine prog_make ?_); rfl) | kernel_rfl))
    (of_decide_eq_true (by kernel_rfl)) (by unfold Func.isWrapper; first | (rw [if_pos (by decide +kernel)]; kernel_rfl) | (rw [if_neg (by decide +kernel)]; exact ⟨rfl, rfl⟩))
    (fun os started H enc _ => hFnValidMoore_lifted os started H enc)

end Go.Proofs.Ytffbofkjefjlpaa
