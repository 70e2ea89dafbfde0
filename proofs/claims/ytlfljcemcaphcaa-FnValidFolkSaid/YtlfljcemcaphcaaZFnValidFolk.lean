/- The law FnValidFolk holds: of the people that are drawn the program tells whether they are valid as the model does, and people without the last one are people. No condition. -/
import Derived.Test.YtlfljcemcaphcaaQ8
namespace Go.Proofs.Ytlfljcemcaphcaa
open Go.ChangeShapes Go.WideShapes Go.ChangeAt Go.RowKit Go.Deep

theorem IntRows.front {w : World} {A : Option Addr} {n c k : Nat} {xss : List (List Int)} (h : IntRows w A n c xss) (hk : k ≤ n) : IntRows w A k c (xss.take k) := by
  have hl := h.len
  refine ⟨by rw [List.length_take]; omega, Nat.le_trans hk h.cap, Nat.le_trans hk h.max, fun h0 => ?_⟩
  obtain ⟨b, o, e, hc⟩ := h.at_ (by omega)
  refine ⟨b, o, e, fun j hj => ?_⟩
  have e1 : gr (xss.take k) j = gr xss j := by rw [gr_get (by rw [List.length_take]; omega), gr_get (by omega), List.getElem_take]
  rw [e1]
  exact hc j (by omega)
theorem VPe.front {f : List (List Int)} (v : VPe f) {k : Nat} (h1 : 1 ≤ k) (hk : k ≤ f.length) : VPe (f.take k) := by
  have n6 := v.n6
  have hl : (f.take k).length = k := by rw [List.length_take]; omega
  refine ⟨by rw [hl]; exact h1, by rw [hl]; omega, fun i hi => ?_⟩
  rw [hl] at hi
  have e1 : gr (f.take k) i = gr f i := by rw [gr_get (by rw [hl]; exact hi), gr_get (by omega), List.getElem_take]
  unfold PRow
  rw [e1]
  exact v.rows i (by omega)

set_option maxRecDepth 100000 in
set_option maxHeartbeats 3200000 in
theorem fnValidFolk_calls (A : Option Addr) (n c : Nat) (w : World) (hx : Bytes w A n c) :
    Calls Try.prog 8 #[.slice A n c] w fun e w' => e = .returned (.bool true) ∧ Below w.heap.size w w' := by
  have hmx := hx.max
  have H0 := Lib.hid (DrawValidFolk_any A n c w hx)
  clear hx
  by_cases hs : 1048576 < n
  · go_enter Try.func8, Try.ntmps8
    go_wp2
    go_ret
    exact ⟨rfl, Below.refl _ _⟩
  · go_enter Try.func8, Try.ntmps8
    go_wp2_with fail
    refine H0.out.mono ?_
    rintro e w1 ⟨Av, k, cv, xss, rfl, hr, hb⟩
    have HB := Lib.hid hb
    have HX := Lib.hid hr
    have hm := hr.max
    have HLN := Lib.hid hr.len
    clear hr hb H0
    by_cases hv : VPe xss
    · have hk1 : 1 ≤ k := by rw [← HLN.out]; exact hv.n1
      obtain ⟨i, rfl⟩ : ∃ i, k = i + 1 := ⟨k - 1, by omega⟩
      have HV := Lib.hid hv
      have HPB := Lib.hid (pb_true hv)
      clear hv
      go_wp2_with fail
      refine (HPB.out ▸ ValidFolk_impl _ _ _ xss w1 HX.out).mono ?_
      rintro e w2 ⟨rfl, hq⟩
      have hb := hq.below (B := w1.heap.size)
      have HB := Lib.hid (below_up HB.out hb)
      have HX := Lib.hid (HX.out.keep (Keep.below hb))
      clear hb hq
      go_wp2_with fail
      refine (HPB.out ▸ ValidFolk_spec _ _ _ xss w2 HX.out).mono ?_
      rintro e w3 ⟨rfl, hq⟩
      have hb := hq.below (B := w2.heap.size)
      have HB := Lib.hid (below_up HB.out hb)
      have HX := Lib.hid (HX.out.keep (Keep.below hb))
      clear hb hq
      by_cases hi : i = 0
      · subst hi
        go_wp2
        go_ret
        exact ⟨rfl, HB.out⟩
      · have hi' : (((i + 1 : Nat) : Int) == 1) = false := by simp; omega
        have hi2 : ((i : Int) + 1 == 1) = false := by simp; omega
        have HC := Lib.hid ((pb_true (HV.out.front (k := i) (by omega) (by rw [HLN.out]; omega))) ▸ ValidFolk_impl _ _ _ (xss.take i) w3 (HX.out.front (k := i) (by omega)))
        have hcap := HX.out.cap
        go_wp2_with fail
        refine HC.out.mono ?_
        rintro e w4 ⟨rfl, hq⟩
        have HB := Lib.hid (below_quiet HB.out hq)
        clear hq HC
        go_wp2
        go_ret
        exact ⟨rfl, HB.out⟩
    · have HPB := Lib.hid (pb_false hv)
      clear hv
      go_wp2_with fail
      refine (HPB.out ▸ ValidFolk_impl _ _ _ xss w1 HX.out).mono ?_
      rintro e w2 ⟨rfl, hq⟩
      have hb := hq.below (B := w1.heap.size)
      have HB := Lib.hid (below_up HB.out hb)
      have HX := Lib.hid (HX.out.keep (Keep.below hb))
      clear hb hq
      go_wp2_with fail
      refine (HPB.out ▸ ValidFolk_spec _ _ _ xss w2 HX.out).mono ?_
      rintro e w3 ⟨rfl, hq⟩
      have hb := hq.below (B := w2.heap.size)
      have HB := Lib.hid (below_up HB.out hb)
      have HX := Lib.hid (HX.out.keep (Keep.below hb))
      clear hb hq
      go_wp2_with fail
      refine (HPB.out ▸ ValidFolk_spec _ _ _ xss w3 HX.out).mono ?_
      rintro e w4 ⟨rfl, hq⟩
      have hb := hq.below (B := w3.heap.size)
      have HB := Lib.hid (below_up HB.out hb)
      have HX := Lib.hid (HX.out.keep (Keep.below hb))
      clear hb hq
      go_wp2
      go_ret
      exact ⟨rfl, HB.out⟩

set_option maxRecDepth 100000 in
theorem hFnValidFolk_lifted (os : Os) (started : os.Started) (H : Type) (enc : TypeId × Value → H) :
    ReturnsInHanded {} Try.checked os 8 .any (Rows.fnValidFolkSpec.pre6 enc Try.prog Try.f8 Rows.fnValidFolkRow.domain false) (Rows.fnValidFolkSpec.post enc Try.prog Try.f8 false true false false) := by
  refine returnsInHanded_of_change_sized (C := Try.checked) Try.own started (by kernel_rfl) Try.func8
    (ChangeSpec.witness6 (enc := enc) (C := Try.checked) false ⟨#[], #[.slice none 0 0], []⟩ 8 (by kernel_rfl) (by kernel_rfl) (by kernel_rfl) (by kernel_rfl)) ?_
  intro W base args ds gs before hval0 hW _ hwt _
  have hval : ∀ (j : Nat) t v, Try.f8.params[j]? = some t → args[j]? = some v → Value.okWide Try.prog W .any base t v := hval0
  have hA : ∃ p, DataW.TrodAll enc Try.prog W 0 (fun _ => true) true Try.f8.params.toList args.toList ds p := by obtain ⟨p, q, hA0, _⟩ := hW; exact ⟨p, hA0⟩
  obtain ⟨p, hA⟩ := hA
  have hwt' := weights_arg hwt (j := 0) (t := 38) (by rw [Try.params8]; rfl) (d := ds.getD 0 .nil)
  rw [Try.params8] at hA hval
  obtain ⟨v0, d0, rfl, rfl, h0⟩ := trodAll_one hA
  obtain ⟨A, n, c, rfl, hx⟩ := open_bytes (hval 0 38 v0 rfl rfl) h0 (hwt' rfl)
  refine (fnValidFolk_calls A n c W hx).mono fun e W' ⟨he, hb⟩ => ?_
  subst he
  exact ⟨_, rfl, law_post (F := Try.f8) rfl rfl (by rw [Try.params8]; simp only [List.mem_cons, List.not_mem_nil, or_false, forall_eq]; exact ⟨by kernel_rfl, of_decide_eq_true (by kernel_rfl)⟩) hW (fun h => by subst h; rfl) hb⟩

theorem hFnValidFolk_holds : Rows.FnValidFolkSaid :=
  OpenClaim.holds_of_wide 8 Try.f8 rfl rfl rfl rfl rfl rfl rfl ⟨rfl, rfl, rfl, rfl, rfl⟩ rfl rfl rfl rfl rfl (by kernel_rfl) Try.func8
    (by unfold joinedFacts; simp only [Bool.and_eq_true]; (repeat' apply And.intro) <;> (first | (with_reducible exact prog_enters) | ((with_reducible refine prog_lifts ?_); rfl) | ((with_reducible refine prog_make ?_); rfl) | kernel_rfl))
    (of_decide_eq_true (by kernel_rfl)) (by unfold Func.isWrapper; first | (rw [if_pos (by decide +kernel)]; kernel_rfl) | (rw [if_neg (by decide +kernel)]; exact ⟨rfl, rfl⟩))
    (fun os started H enc _ => hFnValidFolk_lifted os started H enc)

end Go.Proofs.Ytlfljcemcaphcaa
