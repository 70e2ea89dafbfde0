/- The law FnPaysAt holds: for every code, of what it draws, the program tells pays as the model does, of both strategies exchanged, and of the others, it is them exchanged, and together with as many as each they are what all have against all others. No condition. -/
import Derived.Test.YthkndijcjpineaaQ10
namespace Go.Proofs.Ythkndijcjpineaa
open Go.ChangeShapes Go.WideShapes Go.ChangeAt Go.RowKit Go.Deep

set_option maxRecDepth 100000 in
set_option maxHeartbeats 3200000 in
theorem fnPaysAt_calls (A : Option Addr) (n c : Nat) (w : World) (hx : Bytes w A n c) :
    Calls Try.prog 10 #[.slice A n c] w fun e w' => e = .returned (.bool true) ∧ Below w.heap.size w w' := by
  have hmx := hx.max
  have H0 := Lib.hid (DrawPaysAt_any A n c w hx)
  clear hx
  by_cases hs : 1048576 < n
  · go_enter Try.func10, Try.ntmps10
    go_wp2
    go_ret
    exact ⟨rfl, Below.refl _ _⟩
  · go_enter Try.func10, Try.ntmps10
    go_wp2_with fail
    refine H0.out.mono ?_
    rintro e w1 ⟨Av, l, cv, gg, xss, n, i, rfl, ⟨n1, n2⟩, ⟨i1, i2⟩, hsm, hown, hb⟩
    have HR := Lib.hid hown.rows
    have B1 := Lib.hid hb
    clear hsm hown hb H0
    by_cases hv : PQ xss n i
    · obtain ⟨n, rfl, hcr⟩ := hv.1.nat
      obtain ⟨i, rfl⟩ : ∃ j : Nat, i = j := ⟨i.toNat, by have := hv.2; unfold InR at this; omega⟩
      have h1 : 1 ≤ i := by have := hv.2; unfold InR at this; omega
      have h2 : i < n := by have := hv.2; unfold InR at this; omega
      have hn6 := hcr.n6
      obtain ⟨b, o, rb, ro, cc, rfl, rfl, tab⟩ := hcr.tab HR.out
      have HT := Lib.hid tab
      have HPA := Lib.hid (pa_yes hcr h1 h2)
      have hni : ((n - i : Nat) : Int) = (n : Int) - (i : Int) := by omega
      have HFL := Lib.hid (fun A l c W h => PaysAt_impl A l c (flp xss) n ((n : Int) - (i : Int)) W h ⟨by omega, by omega⟩ ⟨by omega, by omega⟩)
      rw [← hni, (hcr.pa_flp h1 h2).1, (hcr.pa_flp h1 h2).2, hni] at HFL
      have bp := hcr.pf h1 h2
      have bq := hcr.pg h1 h2
      have hall := pay_all xss n i
      have bx := hcr.p.bd (i := 0) (j := 0) (by omega) (by omega)
      have by_ := hcr.p.bd (i := 0) (j := 1) (by omega) (by omega)
      have bz := hcr.p.bd (i := 1) (j := 0) (by omega) (by omega)
      have bt := hcr.p.bd (i := 1) (j := 1) (by omega) (by omega)
      unfold flp at HFL
      generalize pfA xss n i = P at *
      generalize pgA xss n i = Q at *
      generalize hgx : g2 xss 0 0 = x at *
      generalize hgy : g2 xss 0 1 = y at *
      generalize hgz : g2 xss 1 0 = z at *
      generalize hgt : g2 xss 1 1 = t at *
      have HXY := Lib.hid (And.intro hgx (And.intro hgy (And.intro hgz hgt)))
      clear hgx hgy hgz hgt
      clear tab hcr hv hni
      have hA := mulbd (x := (i : Int)) (y := (i : Int) - 1) (A := 6) (B := 6) (by omega) (by omega)
      have hB := mulbd (x := (i : Int)) (y := (n : Int) - (i : Int)) (A := 6) (B := 6) (by omega) (by omega)
      have hC := mulbd (x := (n : Int) - (i : Int)) (y := (n : Int) - (i : Int) - 1) (A := 6) (B := 6) (by omega) (by omega)
      have hD := mulbd (x := (i : Int)) (y := P) (A := 6) (B := 45) (by omega) (by omega)
      have hE := mulbd (x := (n : Int) - (i : Int)) (y := Q) (A := 6) (B := 45) (by omega) (by omega)
      have hA2 := mulbd (x := (i : Int) * ((i : Int) - 1)) (y := x) (A := 36) (B := 9) (by omega) (by omega)
      have hB2 := mulbd (x := (i : Int) * ((n : Int) - (i : Int))) (y := y + z) (A := 36) (B := 18) (by omega) (by omega)
      have hC2 := mulbd (x := ((n : Int) - (i : Int)) * ((n : Int) - (i : Int) - 1)) (y := t) (A := 36) (B := 9) (by omega) (by omega)
      have HALL := Lib.hid (And.intro hall (And.intro hA (And.intro hB (And.intro hC (And.intro hD (And.intro hE (And.intro hA2 (And.intro hB2 hC2))))))))
      clear hall hA hB hC hD hE hA2 hB2 hC2
      have gP : ¬ P < 0 := by omega
      have HC := Lib.hid (HPA.out.1 ▸ HPA.out.2 ▸ PaysAt_impl _ _ _ xss n i w1 HR.out ⟨by omega, by omega⟩ ⟨by omega, by omega⟩)
      go_wp2_with fail
      refine HC.out.mono ?_
      rintro e w2 ⟨rfl, hb⟩
      have HR_2 := Lib.hid (HR.out.keep (Keep.below hb))
      have HT_2 := Lib.hid (HT.out.keep (Keep.below hb))
      have B_2 := Lib.hid (below_up B1.out hb)
      clear hb HC HR HT B1
      have HC := Lib.hid (HPA.out.1 ▸ HPA.out.2 ▸ PaysAt_spec _ _ _ xss n i w2 HR_2.out ⟨by omega, by omega⟩ ⟨by omega, by omega⟩)
      go_wp2_with fail
      refine HC.out.mono ?_
      rintro e w3 ⟨rfl, hb⟩
      have HR_3 := Lib.hid (HR_2.out.keep (Keep.below hb))
      have HT_3 := Lib.hid (HT_2.out.keep (Keep.below hb))
      have B_3 := Lib.hid (below_up B_2.out hb)
      clear hb HC HR_2 HT_2 B_2
      have HS0 := Lib.hid (show (w3.cell? ⟨b, o, none⟩ = some (.slice (some ⟨rb 0, ro 0, none⟩) 2 (cc 0)) ∧ w3.cell? ⟨b, o + 1, none⟩ = some (.slice (some ⟨rb 1, ro 1, none⟩) 2 (cc 1))) ∧ (w3.cell? ⟨rb 0, ro 0, none⟩ = some (.int .i64 x) ∧ w3.cell? ⟨rb 0, ro 0 + 1, none⟩ = some (.int .i64 y)) ∧ (w3.cell? ⟨rb 1, ro 1, none⟩ = some (.int .i64 z) ∧ w3.cell? ⟨rb 1, ro 1 + 1, none⟩ = some (.int .i64 t)) from by
        have h0 := HT_3.out.row 0 (by omega)
        have h1 := HT_3.out.row 1 (by omega)
        have h2 := HT_3.out.cell 0 0 (by omega) (by omega)
        have h3 := HT_3.out.cell 0 1 (by omega) (by omega)
        have h4 := HT_3.out.cell 1 0 (by omega) (by omega)
        have h5 := HT_3.out.cell 1 1 (by omega) (by omega)
        simp only [Nat.add_zero, HXY.out.1, HXY.out.2.1, HXY.out.2.2.1, HXY.out.2.2.2] at h0 h2 h3 h4 h5
        exact ⟨⟨h0, h1⟩, ⟨h2, h3⟩, h4, h5⟩)
      have q1 := HS0.out.1.1
      have q2 := HS0.out.1.2
      have q3 := HS0.out.2.1.1
      have q4 := HS0.out.2.1.2
      have q5 := HS0.out.2.2.1
      have q6 := HS0.out.2.2.2
      have hws : IntKind.i64.wrap ((n : Int) - (i : Int)) = (n : Int) - (i : Int) := wrap_in64 (by omega)
      go_wp2
      skip
      go_region_held3 (fun W => (W.cell? ⟨b, o, none⟩ = some (.slice (some ⟨rb 0, ro 0, none⟩) 2 (cc 0)) ∧ W.cell? ⟨b, o + 1, none⟩ = some (.slice (some ⟨rb 1, ro 1, none⟩) 2 (cc 1))) ∧ (W.cell? ⟨rb 0, ro 0, none⟩ = some (.int .i64 x) ∧ W.cell? ⟨rb 0, ro 0 + 1, none⟩ = some (.int .i64 y)) ∧ (W.cell? ⟨rb 1, ro 1, none⟩ = some (.int .i64 z) ∧ W.cell? ⟨rb 1, ro 1 + 1, none⟩ = some (.int .i64 t)))
        (first | exact HS2.out | exact HS0.out | exact And.intro (And.intro (keep_al3 _ _ _ _  _ _ HS0.out.1.1) (keep_al3 _ _ _ _  _ _ HS0.out.1.2)) (And.intro (And.intro (keep_al3 _ _ _ _  _ _ HS0.out.2.1.1) (keep_al3 _ _ _ _  _ _ HS0.out.2.1.2)) (And.intro (keep_al3 _ _ _ _  _ _ HS0.out.2.2.1) (keep_al3 _ _ _ _  _ _ HS0.out.2.2.2))) | exact And.intro (And.intro (keep_al2 _ _ _  _ _ HS0.out.1.1) (keep_al2 _ _ _  _ _ HS0.out.1.2)) (And.intro (And.intro (keep_al2 _ _ _  _ _ HS0.out.2.1.1) (keep_al2 _ _ _  _ _ HS0.out.2.1.2)) (And.intro (keep_al2 _ _ _  _ _ HS0.out.2.2.1) (keep_al2 _ _ _  _ _ HS0.out.2.2.2))) | exact And.intro (And.intro (keep_al1 _ _  _ _ HS0.out.1.1) (keep_al1 _ _  _ _ HS0.out.1.2)) (And.intro (And.intro (keep_al1 _ _  _ _ HS0.out.2.1.1) (keep_al1 _ _  _ _ HS0.out.2.1.2)) (And.intro (keep_al1 _ _  _ _ HS0.out.2.2.1) (keep_al1 _ _  _ _ HS0.out.2.2.2))) | go_keep)
        (first
        | (go_at_call 19; (with_reducible refine (HFL.out _ _ _ _ (lit2_rowsD w3 (by omega) (by omega) (by omega) (by omega))).mono ?_); rintro e v2 ⟨rfl, hb⟩; have D_v2 := Lib.hid (below_up (below_up B_3.out (lit2_upD w3 _ _ _)) hb); have HS2 := Lib.hid (And.intro (And.intro (Keep.below (below_up (lit2_upD _ _ _ _) hb) _ _ HS0.out.1.1) (Keep.below (below_up (lit2_upD _ _ _ _) hb) _ _ HS0.out.1.2)) (And.intro (And.intro (Keep.below (below_up (lit2_upD _ _ _ _) hb) _ _ HS0.out.2.1.1) (Keep.below (below_up (lit2_upD _ _ _ _) hb) _ _ HS0.out.2.1.2)) (And.intro (Keep.below (below_up (lit2_upD _ _ _ _) hb) _ _ HS0.out.2.2.1) (Keep.below (below_up (lit2_upD _ _ _ _) hb) _ _ HS0.out.2.2.2)))); clear hb)
        | (go_at_call 19; (with_reducible refine (HFL.out _ _ _ _ (lit2_rowsBD w3 (by omega) (by omega) (by omega) (by omega))).mono ?_); rintro e v2 ⟨rfl, hb⟩; have D_v2 := Lib.hid (below_up (below_up B_3.out (lit2_upD w3 _ _ _)) hb); have HS2 := Lib.hid (And.intro (And.intro (Keep.below (below_up (lit2_upD _ _ _ _) hb) _ _ HS0.out.1.1) (Keep.below (below_up (lit2_upD _ _ _ _) hb) _ _ HS0.out.1.2)) (And.intro (And.intro (Keep.below (below_up (lit2_upD _ _ _ _) hb) _ _ HS0.out.2.1.1) (Keep.below (below_up (lit2_upD _ _ _ _) hb) _ _ HS0.out.2.1.2)) (And.intro (Keep.below (below_up (lit2_upD _ _ _ _) hb) _ _ HS0.out.2.2.1) (Keep.below (below_up (lit2_upD _ _ _ _) hb) _ _ HS0.out.2.2.2)))); clear hb))
      all_goals
        clear q1 q2 q3 q4 q5 q6
        clear hws
        have q1 := HS2.out.1.1
        have q2 := HS2.out.1.2
        have q3 := HS2.out.2.1.1
        have q4 := HS2.out.2.1.2
        have q5 := HS2.out.2.2.1
        have q6 := HS2.out.2.2.2
        obtain ⟨hall, ⟨a1, a2⟩, ⟨a3, a4⟩, ⟨a5, a6⟩, ⟨a7, a8⟩, ⟨a9, a10⟩, ⟨a11, a12⟩, ⟨a13, a14⟩, a15, a16⟩ := HALL.out
        have HEQ : ((i : Int) * P + ((n : Int) - (i : Int)) * Q == (i : Int) * ((i : Int) - 1) * x + (i : Int) * ((n : Int) - (i : Int)) * (y + z) + ((n : Int) - (i : Int)) * ((n : Int) - (i : Int) - 1) * t) = true := by rw [hall]; simp
        clear hall
        go_wp2
        go_region
        all_goals go_wp2
        all_goals go_ret
        all_goals exact ⟨by first | rfl | (simp; done), by first | exact D_v2.out | exact D_v2.out.drew⟩
    · have HNO := Lib.hid (pa_no hv)
      clear hv
      have HC := Lib.hid (HNO.out.1 ▸ HNO.out.2 ▸ PaysAt_impl _ _ _ xss n i w1 HR.out ⟨by omega, by omega⟩ ⟨by omega, by omega⟩)
      go_wp2_with fail
      refine HC.out.mono ?_
      rintro e w2 ⟨rfl, hb⟩
      have HR_2 := Lib.hid (HR.out.keep (Keep.below hb))
      have B_2 := Lib.hid (below_up B1.out hb)
      clear hb HC HR B1
      have HC := Lib.hid (HNO.out.1 ▸ HNO.out.2 ▸ PaysAt_spec _ _ _ xss n i w2 HR_2.out ⟨by omega, by omega⟩ ⟨by omega, by omega⟩)
      go_wp2_with fail
      refine HC.out.mono ?_
      rintro e w3 ⟨rfl, hb⟩
      have HR_3 := Lib.hid (HR_2.out.keep (Keep.below hb))
      have B_3 := Lib.hid (below_up B_2.out hb)
      clear hb HC HR_2 B_2
      go_wp2
      go_ret
      exact ⟨rfl, B_3.out⟩

set_option maxRecDepth 100000 in
theorem hFnPaysAt_lifted (os : Os) (started : os.Started) (H : Type) (enc : TypeId × Value → H) :
    ReturnsInHanded {} Try.checked os 10 .any (Rows.fnPaysAtSpec.pre6 enc Try.prog Try.f10 Rows.fnPaysAtRow.domain false) (Rows.fnPaysAtSpec.post enc Try.prog Try.f10 false true false false) := by
  refine returnsInHanded_of_change_sized (C := Try.checked) Try.own started (by kernel_rfl) Try.func10
    (ChangeSpec.witness6 (enc := enc) (C := Try.checked) false ⟨#[], #[.slice none 0 0], []⟩ 8 (by kernel_rfl) (by kernel_rfl) (by kernel_rfl) (by kernel_rfl)) ?_
  intro W base args ds gs before hval0 hW _ hwt _
  have hval : ∀ (j : Nat) t v, Try.f10.params[j]? = some t → args[j]? = some v → Value.okWide Try.prog W .any base t v := hval0
  have hA : ∃ p, DataW.TrodAll enc Try.prog W 0 (fun _ => true) true Try.f10.params.toList args.toList ds p := by obtain ⟨p, q, hA0, _⟩ := hW; exact ⟨p, hA0⟩
  obtain ⟨p, hA⟩ := hA
  have hwt' := weights_arg hwt (j := 0) (t := 41) (by rw [Try.params10]; rfl) (d := ds.getD 0 .nil)
  rw [Try.params10] at hA hval
  obtain ⟨v0, d0, rfl, rfl, h0⟩ := trodAll_one hA
  obtain ⟨A, n, c, rfl, hx⟩ := open_bytes (hval 0 41 v0 rfl rfl) h0 (hwt' rfl)
  refine (fnPaysAt_calls A n c W hx).mono fun e W' ⟨he, hb⟩ => ?_
  subst he
  exact ⟨_, rfl, law_post (F := Try.f10) rfl rfl (by rw [Try.params10]; simp only [List.mem_cons, List.not_mem_nil, or_false, forall_eq]; exact ⟨by kernel_rfl, of_decide_eq_true (by kernel_rfl)⟩) hW (fun h => by subst h; rfl) hb⟩

theorem hFnPaysAt_holds : Rows.FnPaysAtSaid :=
  OpenClaim.holds_of_wide 10 Try.f10 rfl rfl rfl rfl rfl rfl rfl ⟨rfl, rfl, rfl, rfl, rfl⟩ rfl rfl rfl rfl rfl (by kernel_rfl) Try.func10
    (by unfold joinedFacts; simp only [Bool.and_eq_true]; (repeat' apply And.intro) <;> (first | (with_reducible exact prog_enters) | ((with_reducible refine prog_lifts ?_); rfl) | ((with_reducible refine prog_make ?_); rfl) | kernel_rfl))
    (of_decide_eq_true (by kernel_rfl)) (by unfold Func.isWrapper; first | (rw [if_pos (by decide +kernel)]; kernel_rfl) | (rw [if_neg (by decide +kernel)]; exact ⟨rfl, rfl⟩))
    (fun os started H enc _ => hFnPaysAt_lifted os started H enc)

end Go.Proofs.Ythkndijcjpineaa
