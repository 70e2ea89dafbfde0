/- The law FnExactEndsAlways holds: for every game the program's EndsAlways answers as the model's, and leaves the argument as it was. No condition. -/
import Derived.Test.YtjmfkodbilknlaaQ11
namespace Go.Proofs.Ytjmfkodbilknlaa
open Go.ChangeShapes Go.WideShapes Go.ChangeAt Go.RowKit Go.Deep

set_option maxHeartbeats 1000000 in
theorem exEndsAlways_calls (A B : Option Addr) (n c m d : Nat) (xs ys : List (List Int)) (w : World) (hx : IntRows w A n c xs) (hy : IntRows w B m d ys) :
    Calls Try.prog 6 #[.agg #[.slice A n c, .slice B m d]] w (Ret (.bool true) w) := by
  have HG := Lib.hid (GS.start hx hy)
  clear hx hy
  go_enter Try.func6, Try.ntmps6
  go_wp2_with fail
  generalize w.alloc (.cells #[.slice A n c, .slice B m d] 40) = W0 at *
  refine (szGame_any _ _ _ _ _ _ _ _ _ _ HG.out.rx HG.out.ry (by omega) (by omega)).mono ?_
  rintro e w1 ⟨rfl, hb⟩
  have H1 := Lib.hid (HG.out.up hb)
  have a0 := H1.out.c0
  have a1 := H1.out.c1
  clear hb HG
  by_cases hs : szG 1048576 xs ys < 0
  · go_wp2
    go_ret
    exact ⟨rfl, H1.out.below⟩
  go_wp2_with fail
  refine (toGame_any _ _ _ _ _ _ _ _ _ H1.out.rx H1.out.ry).mono ?_
  rintro e w2 ⟨g1, g2, mid, rfl, o1, o2, hb, -⟩
  have H2 := Lib.hid (H1.out.up hb)
  have O1 := Lib.hid o1.rows
  have O2 := Lib.hid o2.rows
  clear hb H1 o1 o2 a0 a1
  go_wp2_with fail
  refine (EndsAlways_spec _ _ _ _ _ _ _ _ _ O1.out O2.out).mono ?_
  rintro e w3 ⟨rfl, hb⟩
  have H3 := Lib.hid (H2.out.up hb)
  have a0 := H3.out.c0
  have a1 := H3.out.c1
  clear hb H2 O1 O2
  go_wp2_with fail
  refine (toGame_any _ _ _ _ _ _ _ _ _ H3.out.rx H3.out.ry).mono ?_
  rintro e w4 ⟨g3, g4, mid, rfl, o1, o2, hb, hm1, hm2⟩
  have H4 := Lib.hid (H3.out.up hb)
  have O1 := Lib.hid o1
  have O2 := Lib.hid o2
  clear hb H3 o1 o2 a0 a1
  go_wp2_with fail
  have H5 := Lib.hid (H4.out.up (below_alloc _ (.cells #[.slice (some ⟨g3, 0, none⟩) n n, .slice (some ⟨g4, 0, none⟩) m m] 43)))
  have X5 := Lib.hid (XS.start O1.out O2.out hm1 hm2 (Nat.le_refl _))
  clear H4 O1 O2
  generalize w4.alloc (.cells #[.slice (some ⟨g3, 0, none⟩) n n, .slice (some ⟨g4, 0, none⟩) m m] 43) = W5 at *
  generalize w4.heap.size = g at *
  refine (EndsAlways_impl _ _ _ _ _ _ _ _ _ X5.out.rows.1 X5.out.rows.2).mono ?_
  rintro e w6 ⟨rfl, hb⟩
  have H6 := Lib.hid (H5.out.up hb)
  have X6 := Lib.hid (X5.out.up hb)
  have a0 := H6.out.c0
  have a1 := H6.out.c1
  have x0 := X6.out.c0
  have x1 := X6.out.c1
  clear hb H5 X5
  go_wp2_with fail
  have H7 := Lib.hid (H6.out.up ((Below.refl _ _).drew))
  have X7 := Lib.hid (X6.out.up ((Below.refl _ _).drew))
  clear H6 X6
  go_region_with (first
    | (go_at_call 24; refine (toGame_any _ _ _ _ _ _ xs ys _ ?_ ?_).mono ?_; exact H7.out.rx; exact H7.out.ry; rintro e w8 ⟨g5, g6, mid2, rfl, o1, o2, hb, -⟩; have H8 := Lib.hid (H7.out.up hb); have X8 := Lib.hid (X7.out.up hb); have O1 := Lib.hid o1.rows; have O2 := Lib.hid o2.rows; have a0 := X8.out.c0; have a1 := X8.out.c1; clear hb H7 X7 o1 o2)
    | (go_at_call 26; refine ((eqG_refl xs ys) ▸ eqGame_any _ _ _ _ _ _ _ _ _ _ _ _ xs ys xs ys _ ?_ ?_ ?_ ?_).mono ?_; exact X8.out.rows.1; exact X8.out.rows.2; exact O1.out; exact O2.out; rintro e w9 ⟨rfl, hb⟩; have H9 := Lib.hid (H8.out.up hb); clear hb H8 X8 O1 O2))
  all_goals
    go_wp2
    go_ret
    exact ⟨rfl, H9.out.below⟩

set_option maxRecDepth 100000 in
theorem hFnExactEndsAlways_lifted (os : Os) (started : os.Started) (H : Type) (enc : TypeId × Value → H) :
    ReturnsInHanded {} Try.checked os 6 .any (Rows.fnExactEndsAlwaysSpec.pre6 enc Try.prog Try.f6 Rows.fnExactEndsAlwaysRow.domain false) (Rows.fnExactEndsAlwaysSpec.post enc Try.prog Try.f6 false true false false) := by
  refine returnsInHanded_of_change_sized (C := Try.checked) Try.own started (by kernel_rfl) Try.func6
    (ChangeSpec.witness6 (enc := enc) (C := Try.checked) false ⟨#[], #[.agg #[.slice none 0 0, .slice none 0 0]], []⟩ 8 (by kernel_rfl) (by kernel_rfl) (by kernel_rfl) (by kernel_rfl)) ?_
  intro W base args ds gs before hval0 hW _ hwt _
  have hval : ∀ (j : Nat) t v, Try.f6.params[j]? = some t → args[j]? = some v → Value.okWide Try.prog W .any base t v := hval0
  have hA : ∃ p, DataW.TrodAll enc Try.prog W 0 (fun _ => true) true Try.f6.params.toList args.toList ds p := by obtain ⟨p, q, hA0, _⟩ := hW; exact ⟨p, hA0⟩
  obtain ⟨p, hA⟩ := hA
  have hwt' := weights_arg hwt (j := 0) (t := 40) (by rw [Try.params6]; rfl) (d := ds.getD 0 .nil)
  rw [Try.params6] at hA hval
  obtain ⟨v0, d0, rfl, rfl, h0⟩ := trodAll_one hA
  obtain ⟨A, n, c, xs, B, m, d, ys, rfl, hx, hy⟩ := open_game (hval 0 40 v0 rfl rfl) h0 (hwt' rfl)
  refine (exEndsAlways_calls A B n c m d xs ys W hx hy).mono fun e W' ⟨he, hb⟩ => ?_
  subst he
  exact ⟨_, rfl, law_post (F := Try.f6) rfl rfl (by rw [Try.params6]; simp only [List.mem_cons, List.not_mem_nil, or_false, forall_eq]; exact ⟨by kernel_rfl, of_decide_eq_true (by kernel_rfl)⟩) hW (fun h => by subst h; rfl) hb⟩

theorem hFnExactEndsAlways_holds : Rows.FnExactEndsAlwaysSaid :=
  OpenClaim.holds_of_wide 6 Try.f6 rfl rfl rfl rfl rfl rfl rfl ⟨rfl, rfl, rfl, rfl, rfl⟩ rfl rfl rfl rfl rfl (by kernel_rfl) Try.func6
    (by unfold joinedFacts; simp only [Bool.and_eq_true]; (repeat' apply And.intro) <;> (first | (with_reducible exact prog_enters) | ((with_reducible refine prog_lifts ?_); rfl) | ((with_reducible refine prog_make ?_); rfl) | kernel_rfl))
    (of_decide_eq_true (by kernel_rfl)) (by unfold Func.isWrapper; first | (rw [if_pos (by decide +kernel)]; kernel_rfl) | (rw [if_neg (by decide +kernel)]; exact ⟨rfl, rfl⟩))
    (fun os started H enc _ => hFnExactEndsAlways_lifted os started H enc)

end Go.Proofs.Ytjmfkodbilknlaa
