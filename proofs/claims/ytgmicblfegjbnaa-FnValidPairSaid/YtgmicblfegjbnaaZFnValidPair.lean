/- The law FnValidPair holds: for every code, of what it draws, the program tells pairs as the model does, and a pair is a field, with both strategies exchanged, too. No condition. -/
import Derived.Test.YtgmicblfegjbnaaQ10
namespace Go.Proofs.Ytgmicblfegjbnaa
open Go.ChangeShapes Go.WideShapes Go.ChangeAt Go.RowKit Go.Deep

set_option maxRecDepth 100000 in
set_option maxHeartbeats 3200000 in
theorem fnValidPair_calls (A : Option Addr) (n c : Nat) (w : World) (hx : Bytes w A n c) :
    Calls Try.prog 9 #[.slice A n c] w fun e w' => e = .returned (.bool true) ∧ Below w.heap.size w w' := by
  have hmx := hx.max
  have H0 := Lib.hid (DrawValidPair_any A n c w hx)
  clear hx
  by_cases hs : 1048576 < n
  · go_enter Try.func9, Try.ntmps9
    go_wp2
    go_ret
    exact ⟨rfl, Below.refl _ _⟩
  · go_enter Try.func9, Try.ntmps9
    go_wp2_with fail
    refine H0.out.mono ?_
    rintro e w1 ⟨Av, k, cv, gg, xss, rfl, hsm, hown, hb⟩
    have HR := Lib.hid hown.rows
    have B1 := Lib.hid hb
    clear hsm hown hb H0
    by_cases hv : VP xss
    · have HV := Lib.hid (pb_true hv)
      have HVF := Lib.hid (pb_true hv.1)
      have HFL := Lib.hid (fun A n c W h => pb_true (VP.flp hv) ▸ ValidPair_impl A n c (flp xss) W h)
      have hcr : CR xss 2 := ⟨hv, by omega, by omega⟩
      obtain ⟨b, o, rb, ro, cc, rfl, rfl, tab⟩ := hcr.tab HR.out
      have HT := Lib.hid tab
      have bx := hv.bd (i := 0) (j := 0) (by omega) (by omega)
      have by_ := hv.bd (i := 0) (j := 1) (by omega) (by omega)
      have bz := hv.bd (i := 1) (j := 0) (by omega) (by omega)
      have bt := hv.bd (i := 1) (j := 1) (by omega) (by omega)
      unfold flp at HFL
      generalize hgx : g2 xss 0 0 = x at *
      generalize hgy : g2 xss 0 1 = y at *
      generalize hgz : g2 xss 1 0 = z at *
      generalize hgt : g2 xss 1 1 = t at *
      have HXY := Lib.hid (And.intro hgx (And.intro hgy (And.intro hgz hgt)))
      clear hgx hgy hgz hgt
      clear tab hcr hv
      have HC := Lib.hid (HV.out ▸ ValidPair_impl _ _ _ xss w1 HR.out)
      go_wp2_with fail
      refine HC.out.mono ?_
      rintro e w2 ⟨rfl, hb⟩
      have HR_2 := Lib.hid (HR.out.keep (Keep.below hb))
      have HT_2 := Lib.hid (HT.out.keep (Keep.below hb))
      have B_2 := Lib.hid (below_up B1.out hb)
      clear hb HC HR HT B1
      have HC := Lib.hid (HV.out ▸ ValidPair_spec _ _ _ xss w2 HR_2.out)
      go_wp2_with fail
      refine HC.out.mono ?_
      rintro e w3 ⟨rfl, hb⟩
      have HR_3 := Lib.hid (HR_2.out.keep (Keep.below hb))
      have HT_3 := Lib.hid (HT_2.out.keep (Keep.below hb))
      have B_3 := Lib.hid (below_up B_2.out hb)
      clear hb HC HR_2 HT_2 B_2
      have HS0 := Lib.hid (show (w3.cell? ⟨b, o, none⟩ = some (.slice (some ⟨rb 0, ro 0, none⟩) 2 (cc 0)) ∧ w3.cell? ⟨b, o + 1, none⟩ = some (.slice (some ⟨rb 1, ro 1, none⟩) 2 (cc 1))) ∧ (w3.cell? ⟨rb 0, ro 0, none⟩ = some (.int .i64 x) ∧ w3.cell? ⟨rb 0, ro 0 + 1, none⟩ = some (.int .i64 y)) ∧ (w3.cell? ⟨rb 1, ro 1, none⟩ = some (.int .i64 z) ∧ w3.cell? ⟨rb 1, ro 1 + 1, none⟩ = some (.int .i64 t)) from by
        have h0 := HT_3.out.row 0 (by omega)
        have h1 := HT_3.out.row 1 (by omega)
        have h2 := HT_3.out.cell 0 0 (by omega) (by omega)
        have h3 := HT_3.out.cell 0 1 (by omega) (by omega)
        have h4 := HT_3.out.cell 1 0 (by omega) (by omega)
        have h5 := HT_3.out.cell 1 1 (by omega) (by omega)
        simp only [Nat.add_zero, HXY.out.1, HXY.out.2.1, HXY.out.2.2.1, HXY.out.2.2.2] at h0 h2 h3 h4 h5
        exact ⟨⟨h0, h1⟩, ⟨h2, h3⟩, h4, h5⟩)
      have HRD := Lib.hid (show IntRows w3.drew _ _ _ xss from HR_3.out.keep (Keep.drewN _ 1))
      have q1 := HS0.out.1.1
      have q2 := HS0.out.1.2
      have q3 := HS0.out.2.1.1
      have q4 := HS0.out.2.1.2
      have q5 := HS0.out.2.2.1
      have q6 := HS0.out.2.2.2
      go_wp2
      go_region_held3 (fun W => (W.cell? ⟨b, o, none⟩ = some (.slice (some ⟨rb 0, ro 0, none⟩) 2 (cc 0)) ∧ W.cell? ⟨b, o + 1, none⟩ = some (.slice (some ⟨rb 1, ro 1, none⟩) 2 (cc 1))) ∧ (W.cell? ⟨rb 0, ro 0, none⟩ = some (.int .i64 x) ∧ W.cell? ⟨rb 0, ro 0 + 1, none⟩ = some (.int .i64 y)) ∧ (W.cell? ⟨rb 1, ro 1, none⟩ = some (.int .i64 z) ∧ W.cell? ⟨rb 1, ro 1 + 1, none⟩ = some (.int .i64 t)))
        (first | exact S2.out | exact S1.out | exact HS0.out | go_keep)
        (first
        | (go_at_call 30; (with_reducible refine (HVF.out ▸ ValidField_impl _ _ _ xss _ HRD.out).mono ?_); rintro e v1 ⟨rfl, hb⟩; have S1 := Lib.hid (And.intro (And.intro (Keep.below hb _ _ HS0.out.1.1) (Keep.below hb _ _ HS0.out.1.2)) (And.intro (And.intro (Keep.below hb _ _ HS0.out.2.1.1) (Keep.below hb _ _ HS0.out.2.1.2)) (And.intro (Keep.below hb _ _ HS0.out.2.2.1) (Keep.below hb _ _ HS0.out.2.2.2)))); have D1 := Lib.hid (below_up B_3.out.drew hb); clear hb)
        | (go_at_call 16; (with_reducible refine (HFL.out _ _ _ _ (lit2_rows v1 (by omega) (by omega) (by omega) (by omega))).mono ?_); rintro e v2 ⟨rfl, hb⟩; have D_v2 := Lib.hid (below_up (below_up D1.out (lit2_up v1 _ _ _)) hb); have S2 := Lib.hid (And.intro (And.intro (Keep.below (below_up (lit2_up _ _ _ _) hb) _ _ S1.out.1.1) (Keep.below (below_up (lit2_up _ _ _ _) hb) _ _ S1.out.1.2)) (And.intro (And.intro (Keep.below (below_up (lit2_up _ _ _ _) hb) _ _ S1.out.2.1.1) (Keep.below (below_up (lit2_up _ _ _ _) hb) _ _ S1.out.2.1.2)) (And.intro (Keep.below (below_up (lit2_up _ _ _ _) hb) _ _ S1.out.2.2.1) (Keep.below (below_up (lit2_up _ _ _ _) hb) _ _ S1.out.2.2.2)))); clear hb)
        | (go_at_call 16; (with_reducible refine (HFL.out _ _ _ _ (lit2_rowsB v1 (by omega) (by omega) (by omega) (by omega))).mono ?_); rintro e v2 ⟨rfl, hb⟩; have D_v2 := Lib.hid (below_up (below_up D1.out (lit2_up v1 _ _ _)) hb); have S2 := Lib.hid (And.intro (And.intro (Keep.below (below_up (lit2_up _ _ _ _) hb) _ _ S1.out.1.1) (Keep.below (below_up (lit2_up _ _ _ _) hb) _ _ S1.out.1.2)) (And.intro (And.intro (Keep.below (below_up (lit2_up _ _ _ _) hb) _ _ S1.out.2.1.1) (Keep.below (below_up (lit2_up _ _ _ _) hb) _ _ S1.out.2.1.2)) (And.intro (Keep.below (below_up (lit2_up _ _ _ _) hb) _ _ S1.out.2.2.1) (Keep.below (below_up (lit2_up _ _ _ _) hb) _ _ S1.out.2.2.2)))); clear hb))
      all_goals
        clear q1 q2 q3 q4 q5 q6
        go_wp2
        go_ret
        exact ⟨rfl, D_v2.out⟩
    · have HV := Lib.hid (pb_false hv)
      clear hv
      have HC := Lib.hid (HV.out ▸ ValidPair_impl _ _ _ xss w1 HR.out)
      go_wp2_with fail
      refine HC.out.mono ?_
      rintro e w2 ⟨rfl, hb⟩
      have HR_2 := Lib.hid (HR.out.keep (Keep.below hb))
      have B_2 := Lib.hid (below_up B1.out hb)
      clear hb HC HR B1
      have HC := Lib.hid (HV.out ▸ ValidPair_spec _ _ _ xss w2 HR_2.out)
      go_wp2_with fail
      refine HC.out.mono ?_
      rintro e w3 ⟨rfl, hb⟩
      have HR_3 := Lib.hid (HR_2.out.keep (Keep.below hb))
      have B_3 := Lib.hid (below_up B_2.out hb)
      clear hb HC HR_2 B_2
      have HC := Lib.hid (HV.out ▸ ValidPair_spec _ _ _ xss w3 HR_3.out)
      go_wp2_with fail
      refine HC.out.mono ?_
      rintro e w4 ⟨rfl, hb⟩
      have HR_4 := Lib.hid (HR_3.out.keep (Keep.below hb))
      have B_4 := Lib.hid (below_up B_3.out hb)
      clear hb HC HR_3 B_3
      go_wp2
      go_ret
      exact ⟨rfl, B_4.out⟩

set_option maxRecDepth 100000 in
theorem hFnValidPair_lifted (os : Os) (started : os.Started) (H : Type) (enc : TypeId × Value → H) :
    ReturnsInHanded {} Try.checked os 9 .any (Rows.fnValidPairSpec.pre6 enc Try.prog Try.f9 Rows.fnValidPairRow.domain false) (Rows.fnValidPairSpec.post enc Try.prog Try.f9 false true false false) := by
  refine returnsInHanded_of_change_sized (C := Try.checked) Try.own started (by kernel_rfl) Try.func9
    (ChangeSpec.witness6 (enc := enc) (C := Try.checked) false ⟨#[], #[.slice none 0 0], []⟩ 8 (by kernel_rfl) (by kernel_rfl) (by kernel_rfl) (by kernel_rfl)) ?_
  intro W base args ds gs before hval0 hW _ hwt _
  have hval : ∀ (j : Nat) t v, Try.f9.params[j]? = some t → args[j]? = some v → Value.okWide Try.prog W .any base t v := hval0
  have hA : ∃ p, DataW.TrodAll enc Try.prog W 0 (fun _ => true) true Try.f9.params.toList args.toList ds p := by obtain ⟨p, q, hA0, _⟩ := hW; exact ⟨p, hA0⟩
  obtain ⟨p, hA⟩ := hA
  have hwt' := weights_arg hwt (j := 0) (t := 41) (by rw [Try.params9]; rfl) (d := ds.getD 0 .nil)
  rw [Try.params9] at hA hval
  obtain ⟨v0, d0, rfl, rfl, h0⟩ := trodAll_one hA
  obtain ⟨A, n, c, rfl, hx⟩ := open_bytes (hval 0 41 v0 rfl rfl) h0 (hwt' rfl)
  refine (fnValidPair_calls A n c W hx).mono fun e W' ⟨he, hb⟩ => ?_
  subst he
  exact ⟨_, rfl, law_post (F := Try.f9) rfl rfl (by rw [Try.params9]; simp only [List.mem_cons, List.not_mem_nil, or_false, forall_eq]; exact ⟨by kernel_rfl, of_decide_eq_true (by kernel_rfl)⟩) hW (fun h => by subst h; rfl) hb⟩

theorem hFnValidPair_holds : Rows.FnValidPairSaid :=
  OpenClaim.holds_of_wide 9 Try.f9 rfl rfl rfl rfl rfl rfl rfl ⟨rfl, rfl, rfl, rfl, rfl⟩ rfl rfl rfl rfl rfl (by kernel_rfl) Try.func9
    (by unfold joinedFacts; simp only [Bool.and_eq_true]; (repeat' apply And.intro) <;> (first | (with_reducible exact prog_enters) | ((with_reducible refine prog_lifts ?_); rfl) | ((with_reducible refine prog_make ?_); rfl) | kernel_rfl))
    (of_decide_eq_true (by kernel_rfl)) (by unfold Func.isWrapper; first | (rw [if_pos (by decide +kernel)]; kernel_rfl) | (rw [if_neg (by decide +kernel)]; exact ⟨rfl, rfl⟩))
    (fun os started H enc _ => hFnValidPair_lifted os started H enc)

end Go.Proofs.Ytgmicblfegjbnaa
