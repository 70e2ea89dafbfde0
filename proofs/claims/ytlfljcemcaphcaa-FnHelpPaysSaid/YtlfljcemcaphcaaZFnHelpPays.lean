/- The law FnHelpPays holds: of what is drawn the program tells whether help pays as the model does, and where it does it does with more gain and with less cost, and without gain it does not. No condition. -/
import Derived.Test.YtlfljcemcaphcaaQ8
namespace Go.Proofs.Ytlfljcemcaphcaa
open Go.ChangeShapes Go.WideShapes Go.ChangeAt Go.RowKit Go.Deep

/-- More gain, less cost, no gain. -/
theorem HOk.more {f : List (List Int)} {i j s t : Int} (h : HOk f i j s t) : 0 < t ∧ (t ≠ 1000 → HOk f i j s (t + 1)) ∧ (s ≠ 0 → HOk f i j (s - 1) t) ∧ ¬ HOk f i j s 0 := by
  have b1 := kK_bd f i.toNat i.toNat
  have b2 := kK_bd f i.toNat j.toNat
  obtain ⟨c0, c1⟩ := h.hc
  obtain ⟨g0, g1⟩ := h.hg
  have hlt := h.lt
  have hs : 0 * s ≤ kK f i.toNat i.toNat * s := Int.mul_le_mul_of_nonneg_right b1.1 c0
  have ht : 0 < t := by
    apply Classical.byContradiction
    intro hn
    have e : t = 0 := by omega
    rw [e, Int.mul_zero] at hlt
    omega
  refine ⟨ht, fun hne => ⟨h.k, h.hc, ⟨by omega, by omega⟩, ?_⟩, fun hne => ⟨h.k, ⟨by omega, by omega⟩, h.hg, ?_⟩, fun k => ?_⟩
  · rw [Int.mul_add, Int.mul_one]; omega
  · rw [Int.mul_sub, Int.mul_one]; omega
  · have := k.lt
    rw [Int.mul_zero] at this
    omega

set_option maxRecDepth 100000 in
set_option maxHeartbeats 6400000 in
theorem fnHelpPays_calls (A : Option Addr) (n c : Nat) (w : World) (hx : Bytes w A n c) :
    Calls Try.prog 10 #[.slice A n c] w fun e w' => e = .returned (.bool true) ∧ Below w.heap.size w w' := by
  have hmx := hx.max
  have H0 := Lib.hid (DrawHelpPays_any A n c w hx)
  clear hx
  by_cases hs : 1048576 < n
  · go_enter Try.func10, Try.ntmps10
    go_wp2
    go_ret
    exact ⟨rfl, Below.refl _ _⟩
  · go_enter Try.func10, Try.ntmps10
    go_wp2_with fail
    refine H0.out.mono ?_
    rintro e w1 ⟨Av, k, cv, xss, i, j, s, t, rfl, hbd, hr, hb⟩
    obtain ⟨⟨i0, i1⟩, ⟨j0, j1, hk6⟩, ⟨s0, s1⟩, ⟨t0, t1⟩⟩ := hbd
    have HB := Lib.hid hb
    have HX := Lib.hid hr
    have hm := hr.max
    have HLN := Lib.hid hr.len
    have FI : Fit i := ⟨by omega, by omega⟩
    have FJ : Fit j := ⟨by omega, by omega⟩
    have FS : Fit s := ⟨by omega, by omega⟩
    have FT : Fit t := ⟨by omega, by omega⟩
    have HFI := Lib.hid (And.intro FI (And.intro FJ (And.intro FS FT)))
    clear hr hb H0 FI FJ FS FT
    by_cases hv : HOk xss i j s t
    · have HPB := Lib.hid (pb_true hv)
      obtain ⟨ht, hm1, hm2, hm3⟩ := hv.more
      have hg1 := hv.hg.2
      have HP3 := Lib.hid (fun W (hx : IntRows W Av k cv xss) => pb_false hm3 ▸ HelpPays_impl _ _ _ xss i j s 0 W hx HFI.out.1 HFI.out.2.1 HFI.out.2.2.1 ⟨by omega, by omega⟩)
      have HP1 : Hid (t ≠ 1000 → ∀ W, IntRows W Av k cv xss → Calls Try.prog 24 #[.slice Av k cv, .int .i64 i, .int .i64 j, .int .i64 s, .int .i64 (t + 1)] W (Ret (.bool true) W)) := Lib.hid (fun hne W hx => pb_true (hm1 hne) ▸ HelpPays_impl _ _ _ xss i j s (t + 1) W hx HFI.out.1 HFI.out.2.1 HFI.out.2.2.1 ⟨by omega, by omega⟩)
      have HP2 : Hid (s ≠ 0 → ∀ W, IntRows W Av k cv xss → Calls Try.prog 24 #[.slice Av k cv, .int .i64 i, .int .i64 j, .int .i64 (s - 1), .int .i64 t] W (Ret (.bool true) W)) := Lib.hid (fun hne W hx => pb_true (hm2 hne) ▸ HelpPays_impl _ _ _ xss i j (s - 1) t W hx HFI.out.1 HFI.out.2.1 ⟨by omega, by omega⟩ HFI.out.2.2.2)
      clear hv hm1 hm2 hm3
      go_wp2_with fail
      refine (HPB.out ▸ HelpPays_impl _ _ _ xss i j s t w1 HX.out HFI.out.1 HFI.out.2.1 HFI.out.2.2.1 HFI.out.2.2.2).mono ?_
      rintro e w2 ⟨rfl, hb⟩
      have HB := Lib.hid (below_up HB.out hb)
      have HX := Lib.hid (HX.out.keep (Keep.below hb))
      clear hb
      go_wp2_with fail
      refine (HPB.out ▸ HelpPays_spec _ _ _ xss i j s t w2 HX.out HFI.out.1 HFI.out.2.1 HFI.out.2.2.1 HFI.out.2.2.2).mono ?_
      rintro e w3 ⟨rfl, hb⟩
      have HB := Lib.hid (below_up HB.out hb)
      have HX := Lib.hid (HX.out.keep (Keep.below hb))
      clear hb
      by_cases e1 : t = 1000
      · subst e1
        by_cases e2 : s = 0
        · subst e2
          go_wp2_with fail
          refine (HP3.out w3 HX.out).mono ?_
          rintro e w4 ⟨rfl, hb⟩
          have HB := Lib.hid (below_up HB.out hb)
          have HX := Lib.hid (HX.out.keep (Keep.below hb))
          clear hb
          go_wp2
          go_ret
          exact ⟨rfl, HB.out⟩
        · have e2' : (s == 0) = false := by simp only [beq_eq_false_iff_ne, ne_eq]; exact e2
          go_wp2_with fail
          refine (HP2.out e2 w3 HX.out).mono ?_
          rintro e w4 ⟨rfl, hb⟩
          have HB := Lib.hid (below_up HB.out hb)
          have HX := Lib.hid (HX.out.keep (Keep.below hb))
          clear hb
          go_wp2_with fail
          refine (HP3.out w4 HX.out).mono ?_
          rintro e w5 ⟨rfl, hb⟩
          have HB := Lib.hid (below_up HB.out hb)
          have HX := Lib.hid (HX.out.keep (Keep.below hb))
          clear hb
          go_wp2
          go_ret
          exact ⟨rfl, HB.out⟩
      · have e1' : (t == 1000) = false := by simp only [beq_eq_false_iff_ne, ne_eq]; exact e1
        by_cases e2 : s = 0
        · subst e2
          go_wp2_with fail
          refine (HP1.out e1 w3 HX.out).mono ?_
          rintro e w4 ⟨rfl, hb⟩
          have HB := Lib.hid (below_up HB.out hb)
          have HX := Lib.hid (HX.out.keep (Keep.below hb))
          clear hb
          go_wp2_with fail
          refine (HP3.out w4 HX.out).mono ?_
          rintro e w5 ⟨rfl, hb⟩
          have HB := Lib.hid (below_up HB.out hb)
          have HX := Lib.hid (HX.out.keep (Keep.below hb))
          clear hb
          go_wp2
          go_ret
          exact ⟨rfl, HB.out⟩
        · have e2' : (s == 0) = false := by simp only [beq_eq_false_iff_ne, ne_eq]; exact e2
          go_wp2_with fail
          refine (HP1.out e1 w3 HX.out).mono ?_
          rintro e w4 ⟨rfl, hb⟩
          have HB := Lib.hid (below_up HB.out hb)
          have HX := Lib.hid (HX.out.keep (Keep.below hb))
          clear hb
          go_wp2_with fail
          refine (HP2.out e2 w4 HX.out).mono ?_
          rintro e w5 ⟨rfl, hb⟩
          have HB := Lib.hid (below_up HB.out hb)
          have HX := Lib.hid (HX.out.keep (Keep.below hb))
          clear hb
          go_wp2_with fail
          refine (HP3.out w5 HX.out).mono ?_
          rintro e w6 ⟨rfl, hb⟩
          have HB := Lib.hid (below_up HB.out hb)
          have HX := Lib.hid (HX.out.keep (Keep.below hb))
          clear hb
          go_wp2
          go_ret
          exact ⟨rfl, HB.out⟩
    · have HPB := Lib.hid (pb_false hv)
      clear hv
      go_wp2_with fail
      refine (HPB.out ▸ HelpPays_impl _ _ _ xss i j s t w1 HX.out HFI.out.1 HFI.out.2.1 HFI.out.2.2.1 HFI.out.2.2.2).mono ?_
      rintro e w2 ⟨rfl, hb⟩
      have HB := Lib.hid (below_up HB.out hb)
      have HX := Lib.hid (HX.out.keep (Keep.below hb))
      clear hb
      go_wp2_with fail
      refine (HPB.out ▸ HelpPays_spec _ _ _ xss i j s t w2 HX.out HFI.out.1 HFI.out.2.1 HFI.out.2.2.1 HFI.out.2.2.2).mono ?_
      rintro e w3 ⟨rfl, hb⟩
      have HB := Lib.hid (below_up HB.out hb)
      have HX := Lib.hid (HX.out.keep (Keep.below hb))
      clear hb
      go_wp2_with fail
      refine (HPB.out ▸ HelpPays_spec _ _ _ xss i j s t w3 HX.out HFI.out.1 HFI.out.2.1 HFI.out.2.2.1 HFI.out.2.2.2).mono ?_
      rintro e w4 ⟨rfl, hb⟩
      have HB := Lib.hid (below_up HB.out hb)
      have HX := Lib.hid (HX.out.keep (Keep.below hb))
      clear hb
      go_wp2
      go_ret
      exact ⟨rfl, HB.out⟩

set_option maxRecDepth 100000 in
theorem hFnHelpPays_lifted (os : Os) (started : os.Started) (H : Type) (enc : TypeId × Value → H) :
    ReturnsInHanded {} Try.checked os 10 .any (Rows.fnHelpPaysSpec.pre6 enc Try.prog Try.f10 Rows.fnHelpPaysRow.domain false) (Rows.fnHelpPaysSpec.post enc Try.prog Try.f10 false true false false) := by
  refine returnsInHanded_of_change_sized (C := Try.checked) Try.own started (by kernel_rfl) Try.func10
    (ChangeSpec.witness6 (enc := enc) (C := Try.checked) false ⟨#[], #[.slice none 0 0], []⟩ 8 (by kernel_rfl) (by kernel_rfl) (by kernel_rfl) (by kernel_rfl)) ?_
  intro W base args ds gs before hval0 hW _ hwt _
  have hval : ∀ (j : Nat) t v, Try.f10.params[j]? = some t → args[j]? = some v → Value.okWide Try.prog W .any base t v := hval0
  have hA : ∃ p, DataW.TrodAll enc Try.prog W 0 (fun _ => true) true Try.f10.params.toList args.toList ds p := by obtain ⟨p, q, hA0, _⟩ := hW; exact ⟨p, hA0⟩
  obtain ⟨p, hA⟩ := hA
  have hwt' := weights_arg hwt (j := 0) (t := 38) (by rw [Try.params10]; rfl) (d := ds.getD 0 .nil)
  rw [Try.params10] at hA hval
  obtain ⟨v0, d0, rfl, rfl, h0⟩ := trodAll_one hA
  obtain ⟨A, n, c, rfl, hx⟩ := open_bytes (hval 0 38 v0 rfl rfl) h0 (hwt' rfl)
  refine (fnHelpPays_calls A n c W hx).mono fun e W' ⟨he, hb⟩ => ?_
  subst he
  exact ⟨_, rfl, law_post (F := Try.f10) rfl rfl (by rw [Try.params10]; simp only [List.mem_cons, List.not_mem_nil, or_false, forall_eq]; exact ⟨by kernel_rfl, of_decide_eq_true (by kernel_rfl)⟩) hW (fun h => by subst h; rfl) hb⟩

theorem hFnHelpPays_holds : Rows.FnHelpPaysSaid :=
  OpenClaim.holds_of_wide 10 Try.f10 rfl rfl rfl rfl rfl rfl rfl ⟨rfl, rfl, rfl, rfl, rfl⟩ rfl rfl rfl rfl rfl (by kernel_rfl) Try.func10
    (by unfold joinedFacts; simp only [Bool.and_eq_true]; (repeat' apply And.intro) <;> (first | (with_reducible exact prog_enters) | ((with_reducible refine prog_lifts ?_); rfl) | ((with_reducible refine prog_make ?_); rfl) | kernel_rfl))
    (of_decide_eq_true (by kernel_rfl)) (by unfold Func.isWrapper; first | (rw [if_pos (by decide +kernel)]; kernel_rfl) | (rw [if_neg (by decide +kernel)]; exact ⟨rfl, rfl⟩))
    (fun os started H enc _ => hFnHelpPays_lifted os started H enc)

end Go.Proofs.Ytlfljcemcaphcaa
