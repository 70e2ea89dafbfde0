/- The law FnValidParts holds: for every code, of the numbers that it draws, the program tells whether they are sizes of kinds as the model does, and sizes of kinds are one of all sizes of their sum. No condition. -/
import Derived.Test.YtamjiinhogmifaaQ11
namespace Go.Proofs.Ytamjiinhogmifaa
open Go.ChangeShapes Go.WideShapes Go.ChangeAt Go.RowKit Go.Deep

set_option maxRecDepth 100000 in
set_option maxHeartbeats 3200000 in
theorem fnValidParts_calls (A : Option Addr) (n c : Nat) (w : World) (hx : Bytes w A n c) :
    Calls Try.prog 4 #[.slice A n c] w fun e w' => e = .returned (.bool true) ∧ Below w.heap.size w w' := by
  have hmx := hx.max
  have H0 := Lib.hid (DrawValidParts_any A n c w hx)
  clear hx
  by_cases hs : 1048576 < n
  · go_enter Try.func4, Try.ntmps4
    go_wp2
    go_ret
    exact ⟨rfl, Below.refl _ _⟩
  · go_enter Try.func4, Try.ntmps4
    go_wp2_with fail
    refine H0.out.mono ?_
    rintro e w1 ⟨Av, cv, gg, xs, rfl, hd, hl8, hown, hb⟩
    have X := Lib.hid hown.ints
    have B1 := Lib.hid hb
    have HCI := Lib.hid (fun W h => ValidParts_impl Av xs.length cv xs W h)
    have HCS := Lib.hid (fun W h => ValidParts_spec Av xs.length cv xs W h)
    clear hown hb H0
    by_cases hv : VPt xs
    · rw [pb_true hv] at HCI HCS
      obtain ⟨m, hm1, hm7, htot, hmem⟩ := hd.all hv
      have HT := Lib.hid (fun W h => htot ▸ total_any Av xs.length cv xs W h hv.so)
      have HP := Lib.hid (fun W => PartsOf_impl m W (by unfold Fit; omega))
      rw [pt_yes (by unfold InR; omega)] at HP
      have HM := Lib.hid (pb_true hmem)
      clear hd hv htot hmem
      generalize hN : xs.length = N at *
      clear hN
      generalize pts 7 m m = list at *
      have HC := Lib.hid (HCI.out w1 X.out)
      go_wp2_with fail
      refine HC.out.mono ?_
      rintro e w2 ⟨rfl, hb⟩
      have X_2 := Lib.hid (X.out.keep (Keep.below hb))
      have B_2 := Lib.hid (below_up B1.out hb)
      clear hb HC X B1
      have HC := Lib.hid (HCS.out w2 X_2.out)
      go_wp2_with fail
      refine HC.out.mono ?_
      rintro e w3 ⟨rfl, hb⟩
      have X_3 := Lib.hid (X_2.out.keep (Keep.below hb))
      have B_3 := Lib.hid (below_up B_2.out hb)
      clear hb HC X_2 B_2
      have HC := Lib.hid (HT.out w3 X_3.out)
      go_wp2_with fail
      refine HC.out.mono ?_
      rintro e w4 ⟨rfl, hq⟩
      have hb := hq.below (B := w3.heap.size)
      have X_4 := Lib.hid (X_3.out.keep (Keep.below hb))
      have B_4 := Lib.hid (below_up B_3.out hb)
      clear hb HC hq X_3 B_3
      have HC := Lib.hid (HP.out w4)
      go_wp2_with fail
      refine HC.out.mono ?_
      rintro e w5 ⟨Al, nl, cl, gl, rfl, hnl, ho, hb⟩
      have X_5 := Lib.hid (X_4.out.keep (Keep.below hb))
      have B_5 := Lib.hid (below_up B_4.out hb)
      subst hnl
      have L := Lib.hid ho.rows
      clear ho
      clear hb HC X_4 B_4
      have HC := Lib.hid (HM.out ▸ inRows_any _ _ _ _ _ _ list xs w5 L.out X_5.out)
      go_wp2_with fail
      refine HC.out.mono ?_
      rintro e w6 ⟨rfl, hq⟩
      have hb := hq.below (B := w5.heap.size)
      have X_6 := Lib.hid (X_5.out.keep (Keep.below hb))
      have L_6 := Lib.hid (L.out.keep (Keep.below hb))
      have B_6 := Lib.hid (below_up B_5.out hb)
      clear hb HC hq X_5 L B_5
      go_wp2
      go_ret
      exact ⟨rfl, B_6.out⟩
    · rw [pb_false hv] at HCI HCS
      clear hd hv
      generalize hN : xs.length = N at *
      clear hN
      have HC := Lib.hid (HCI.out w1 X.out)
      go_wp2_with fail
      refine HC.out.mono ?_
      rintro e w2 ⟨rfl, hb⟩
      have X_2 := Lib.hid (X.out.keep (Keep.below hb))
      have B_2 := Lib.hid (below_up B1.out hb)
      clear hb HC X B1
      have HC := Lib.hid (HCS.out w2 X_2.out)
      go_wp2_with fail
      refine HC.out.mono ?_
      rintro e w3 ⟨rfl, hb⟩
      have X_3 := Lib.hid (X_2.out.keep (Keep.below hb))
      have B_3 := Lib.hid (below_up B_2.out hb)
      clear hb HC X_2 B_2
      have HC := Lib.hid (HCS.out w3 X_3.out)
      go_wp2_with fail
      refine HC.out.mono ?_
      rintro e w4 ⟨rfl, hb⟩
      have X_4 := Lib.hid (X_3.out.keep (Keep.below hb))
      have B_4 := Lib.hid (below_up B_3.out hb)
      clear hb HC X_3 B_3
      go_wp2
      go_ret
      exact ⟨rfl, B_4.out⟩

set_option maxRecDepth 100000 in
theorem hFnValidParts_lifted (os : Os) (started : os.Started) (H : Type) (enc : TypeId × Value → H) :
    ReturnsInHanded {} Try.checked os 4 .any (Rows.fnValidPartsSpec.pre6 enc Try.prog Try.f4 Rows.fnValidPartsRow.domain false) (Rows.fnValidPartsSpec.post enc Try.prog Try.f4 false true false false) := by
  refine returnsInHanded_of_change_sized (C := Try.checked) Try.own started (by kernel_rfl) Try.func4
    (ChangeSpec.witness6 (enc := enc) (C := Try.checked) false ⟨#[], #[.slice none 0 0], []⟩ 8 (by kernel_rfl) (by kernel_rfl) (by kernel_rfl) (by kernel_rfl)) ?_
  intro W base args ds gs before hval0 hW _ hwt _
  have hval : ∀ (j : Nat) t v, Try.f4.params[j]? = some t → args[j]? = some v → Value.okWide Try.prog W .any base t v := hval0
  have hA : ∃ p, DataW.TrodAll enc Try.prog W 0 (fun _ => true) true Try.f4.params.toList args.toList ds p := by obtain ⟨p, q, hA0, _⟩ := hW; exact ⟨p, hA0⟩
  obtain ⟨p, hA⟩ := hA
  have hwt' := weights_arg hwt (j := 0) (t := 22) (by rw [Try.params4]; rfl) (d := ds.getD 0 .nil)
  rw [Try.params4] at hA hval
  obtain ⟨v0, d0, rfl, rfl, h0⟩ := trodAll_one hA
  obtain ⟨A, n, c, rfl, hx⟩ := open_bytes (hval 0 22 v0 rfl rfl) h0 (hwt' rfl)
  refine (fnValidParts_calls A n c W hx).mono fun e W' ⟨he, hb⟩ => ?_
  subst he
  exact ⟨_, rfl, law_post (F := Try.f4) rfl rfl (by rw [Try.params4]; simp only [List.mem_cons, List.not_mem_nil, or_false, forall_eq]; exact ⟨by kernel_rfl, of_decide_eq_true (by kernel_rfl)⟩) hW (fun h => by subst h; rfl) hb⟩

theorem hFnValidParts_holds : Rows.FnValidPartsSaid :=
  OpenClaim.holds_of_wide 4 Try.f4 rfl rfl rfl rfl rfl rfl rfl ⟨rfl, rfl, rfl, rfl, rfl⟩ rfl rfl rfl rfl rfl (by kernel_rfl) Try.func4
    (by unfold joinedFacts; simp only [Bool.and_eq_true]; (repeat' apply And.intro) <;> (first | (with_reducible exact prog_enters) | ((with_reducible refine prog_lifts ?_); rfl) | ((with_reducible refine prog_make ?_); rfl) | kernel_rfl))
    (of_decide_eq_true (by kernel_rfl)) (by unfold Func.isWrapper; first | (rw [if_pos (by decide +kernel)]; kernel_rfl) | (rw [if_neg (by decide +kernel)]; exact ⟨rfl, rfl⟩))
    (fun os started H enc _ => hFnValidParts_lifted os started H enc)

end Go.Proofs.Ytamjiinhogmifaa
