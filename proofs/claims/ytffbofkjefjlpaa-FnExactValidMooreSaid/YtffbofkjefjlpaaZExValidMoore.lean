/- The law FnExactValidMoore holds: for every machine (and every struct of these fields that is none) the program's ValidMoore answers as the model's, and leaves the argument as it was. No condition. -/
import Derived.Test.YtffbofkjefjlpaaQ4
namespace Go.Proofs.Ytffbofkjefjlpaa
open Go.ChangeShapes Go.WideShapes Go.ChangeAt Go.RowKit Go.Deep

set_option maxRecDepth 100000 in
set_option maxHeartbeats 1600000 in
theorem exValidMoore_calls (A B : Option Addr) (n c m d : Nat) (xs : List Int) (ys : List (List Int)) (w : World) (hx : Ints w A n c xs) (hy : IntRows w B m d ys) :
    Calls Try.prog 3 #[.agg #[.slice A n c, .slice B m d]] w (Ret (.bool true) w) := by
  have hmx := hx.max
  have HG := Lib.hid (MX.start 25 hx hy)
  have HB := Lib.hid (below_alloc w (.cells #[.slice A n c, .slice B m d] 25))
  clear hx hy
  go_enter Try.func3, Try.ntmps3
  go_wp2_with fail
  generalize w.alloc (.cells #[.slice A n c, .slice B m d] 25) = W0 at *
  refine (szMoore_any _ _ _ _ _ _ _ _ _ hmx HG.out.ry (by omega) (by omega)).mono ?_
  rintro e w1 ⟨rfl, hb⟩
  have H1 := Lib.hid (HG.out.up hb)
  have B1 := Lib.hid (below_up HB.out hb)
  have a0 := H1.out.c0
  have a1 := H1.out.c1
  clear hb HG HB
  by_cases hs : szM 1048576 n ys < 0
  · go_wp2
    go_ret
    exact ⟨rfl, B1.out⟩
  go_wp2_with fail
  refine (toMoore_any _ _ _ _ _ _ _ _ _ H1.out.rx H1.out.ry).mono ?_
  rintro e w2 ⟨g1, g2, mid, rfl, o1, o2, hb, -⟩
  have H2 := Lib.hid (H1.out.up hb)
  have B2 := Lib.hid (below_up B1.out hb)
  have O1 := Lib.hid o1.ints
  have O2 := Lib.hid o2.rows
  clear hb H1 o1 o2 a0 a1 B1
  go_wp2_with fail
  refine (ValidMoore_spec _ _ _ _ _ _ _ _ _ O1.out O2.out).mono ?_
  rintro e w3 ⟨rfl, hb⟩
  have H3 := Lib.hid (H2.out.up hb)
  have B3 := Lib.hid (below_up B2.out hb)
  have a0 := H3.out.c0
  have a1 := H3.out.c1
  clear hb H2 O1 O2 B2
  go_wp2_with fail
  refine (toMoore_any _ _ _ _ _ _ _ _ _ H3.out.rx H3.out.ry).mono ?_
  rintro e w4 ⟨g3, g4, mid, rfl, o1, o2, hb, hm1, hm2⟩
  have H4 := Lib.hid (H3.out.up hb)
  have B4 := Lib.hid (below_up B3.out hb)
  have O1 := Lib.hid o1
  have O2 := Lib.hid o2
  clear hb H3 o1 o2 a0 a1 B3
  go_wp2_with fail
  have hba := below_alloc w4 (.cells #[.slice (some ⟨g3, 0, none⟩) n n, .slice (some ⟨g4, 0, none⟩) m m] 28)
  have H5 := Lib.hid (H4.out.up hba)
  have B5 := Lib.hid (below_up B4.out hba)
  have X5 := Lib.hid (XM.start O1.out O2.out hm1 hm2 (Nat.le_refl _))
  clear H4 O1 O2 hba B4
  generalize w4.alloc (.cells #[.slice (some ⟨g3, 0, none⟩) n n, .slice (some ⟨g4, 0, none⟩) m m] 28) = W5 at *
  generalize w4.heap.size = g at *
  refine (ValidMoore_impl _ _ _ _ _ _ _ _ _ X5.out.mx.rx X5.out.mx.ry).mono ?_
  rintro e w6 ⟨rfl, hb⟩
  have H6 := Lib.hid (H5.out.up hb)
  have B6 := Lib.hid (below_up B5.out hb)
  have X6 := Lib.hid (X5.out.up hb)
  have a0 := H6.out.c0
  have a1 := H6.out.c1
  have x0 := X6.out.c0
  have x1 := X6.out.c1
  clear hb H5 X5 B5
  go_wp2_with fail
  have H7 := Lib.hid (H6.out.up ((Below.refl _ _).drew))
  have B7 := Lib.hid (below_up B6.out ((Below.refl _ _).drew))
  have X7 := Lib.hid (X6.out.up ((Below.refl _ _).drew))
  clear H6 X6 B6
  go_region_with (first
    | (go_at_call 15; refine (toMoore_any _ _ _ _ _ _ xs ys _ ?_ ?_).mono ?_; exact H7.out.rx; exact H7.out.ry; rintro e w8 ⟨g5, g6, mid2, rfl, o1, o2, hb, -⟩; have B8 := Lib.hid (below_up B7.out hb); have X8 := Lib.hid (X7.out.up hb); have O1 := Lib.hid o1.ints; have O2 := Lib.hid o2.rows; have a0 := X8.out.c0; have a1 := X8.out.c1; clear hb H7 X7 o1 o2 B7)
    | (go_at_call 17; refine ((eqM_refl xs ys) ▸ eqMoore_any _ _ _ _ _ _ _ _ _ _ _ _ xs xs ys ys _ ?_ ?_ ?_ ?_).mono ?_; exact X8.out.mx.rx; exact X8.out.mx.ry; exact O1.out; exact O2.out; rintro e w9 ⟨rfl, hb⟩; have B9 := Lib.hid (below_up B8.out hb); clear hb B8 X8 O1 O2))
  all_goals
    go_wp2
    go_ret
    exact ⟨rfl, B9.out⟩

set_option maxRecDepth 100000 in
theorem hFnExactValidMoore_lifted (os : Os) (started : os.Started) (H : Type) (enc : TypeId × Value → H) :
    ReturnsInHanded {} Try.checked os 3 .any (Rows.fnExactValidMooreSpec.pre6 enc Try.prog Try.f3 Rows.fnExactValidMooreRow.domain false) (Rows.fnExactValidMooreSpec.post enc Try.prog Try.f3 false true false false) := by
  refine returnsInHanded_of_change_sized (C := Try.checked) Try.own started (by kernel_rfl) Try.func3
    (ChangeSpec.witness6 (enc := enc) (C := Try.checked) false ⟨#[], #[.agg #[.slice none 0 0, .slice none 0 0]], []⟩ 8 (by kernel_rfl) (by kernel_rfl) (by kernel_rfl) (by kernel_rfl)) ?_
  intro W base args ds gs before hval0 hW _ hwt _
  have hval : ∀ (j : Nat) t v, Try.f3.params[j]? = some t → args[j]? = some v → Value.okWide Try.prog W .any base t v := hval0
  have hA : ∃ p, DataW.TrodAll enc Try.prog W 0 (fun _ => true) true Try.f3.params.toList args.toList ds p := by obtain ⟨p, q, hA0, _⟩ := hW; exact ⟨p, hA0⟩
  obtain ⟨p, hA⟩ := hA
  have hwt0 := weights_arg hwt (j := 0) (t := 25) (by rw [Try.params3]; rfl) (d := ds.getD 0 .nil)
  rw [Try.params3] at hA hval
  obtain ⟨v0, d0, rfl, rfl, h0⟩ := trodAll_one hA
  obtain ⟨A0, n0, c0, xs0, B0, m0, e0, ys0, rfl, hx0, hy0⟩ := open_moore (hval 0 25 v0 rfl rfl) h0 (hwt0 rfl)
  refine (exValidMoore_calls A0 B0 n0 c0 m0 e0 xs0 ys0 W hx0 hy0).mono fun e W' ⟨he, hb⟩ => ?_
  subst he
  exact ⟨_, rfl, law_post (F := Try.f3) rfl rfl (by rw [Try.params3]; intro t ht; simp only [List.mem_cons, List.not_mem_nil, or_false] at ht; rcases ht with rfl <;> exact ⟨by kernel_rfl, of_decide_eq_true (by kernel_rfl)⟩) hW (fun h => by subst h; rfl) hb⟩

theorem hFnExactValidMoore_holds : Rows.FnExactValidMooreSaid :=
  OpenClaim.holds_of_wide 3 Try.f3 rfl rfl rfl rfl rfl rfl rfl ⟨rfl, rfl, rfl, rfl, rfl⟩ rfl rfl rfl rfl rfl (by kernel_rfl) Try.func3
    (by unfold joinedFacts; simp only [Bool.and_eq_true]; (repeat' apply And.intro) <;> (first | (with_reducible exact prog_enters) | ((with_reducible refine prog_lifts ?_); rfl) | ((with_reducible refine prog_make ?_); rfl) | kernel_rfl))
    (of_decide_eq_true (by kernel_rfl)) (by unfold Func.isWrapper; first | (rw [if_pos (by decide +kernel)]; kernel_rfl) | (rw [if_neg (by decide +kernel)]; exact ⟨rfl, rfl⟩))
    (fun os started H enc _ => hFnExactValidMoore_lifted os started H enc)

end Go.Proofs.Ytffbofkjefjlpaa
