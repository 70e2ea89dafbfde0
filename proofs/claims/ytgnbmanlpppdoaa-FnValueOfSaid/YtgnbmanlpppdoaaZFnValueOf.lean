/- The law FnValueOf holds: for every code, of the table that it draws, the program's ValueOf answers as the model's, and of the table as the second player has it, the same with the other sign. No condition. -/
import Derived.Test.YtgnbmanlpppdoaaQ8
namespace Go.Proofs.Ytgnbmanlpppdoaa
open Go.ChangeShapes Go.WideShapes Go.ChangeAt Go.RowKit Go.Deep

set_option maxRecDepth 100000 in
set_option maxHeartbeats 2000000 in
theorem fnValueOf_calls (A : Option Addr) (n c : Nat) (w : World) (hx : Bytes w A n c) :
    Calls Try.prog 6 #[.slice A n c] w fun e w' => e = .returned (.bool true) ∧ Below w.heap.size w w' := by
  have hmx := hx.max
  have H0 := Lib.hid (DrawValueOf_any A n c w hx)
  clear hx
  by_cases hs : 1048576 < n
  · go_enter Try.func6, Try.ntmps6
    go_wp2
    go_ret
    exact ⟨rfl, Below.refl _ _⟩
  · go_enter Try.func6, Try.ntmps6
    go_wp2_with fail
    refine H0.out.mono ?_
    rintro e w1 ⟨Av, k, cv, gg, xss, rfl, hsm, hown, hb⟩
    have HS := Lib.hid hsm
    have H1 := Lib.hid hown.rows
    have B1 := Lib.hid hb
    have LX := Lib.hid hown.rows.len
    clear hsm hown hb H0
    obtain ⟨U, D, hUD⟩ : ∃ U D, vF xss = (U, D) := ⟨_, _, rfl⟩
    have HUD := Lib.hid hUD
    have HUV := Lib.hid (wstV_eq _ hUD)
    clear hUD
    have HC := Lib.hid (ValueOf_impl Av k cv xss w1 H1.out)
    have HC2 := Lib.hid (fun W (q : Keep w1 W) => ValueOf_spec Av k cv xss W (H1.out.keep q))
    rw [HUV.out] at HC HC2
    by_cases hv : VT xss
    · rw [pb_true hv] at HC HC2
      have HV := Lib.hid hv
      have hk : 0 < k := by rw [← LX.out]; exact hv.n1
      have hbd := vF_bd hv
      rw [HUD.out] at hbd
      obtain ⟨⟨u1, u2⟩, d1, d2⟩ := hbd
      have HNV := Lib.hid (wstV_eq _ (show vF (ntab xss) = (-U, D) by rw [vF_ntab hv, HUD.out]))
      have HVN := Lib.hid (pb_true hv.ntab)
      clear hv
      go_wp2_with fail
      refine HC.out.mono ?_
      rintro e w2 ⟨rfl, hb⟩
      have HK2 := Lib.hid (Keep.below hb)
      have B2 := Lib.hid (below_up B1.out hb)
      clear hb HC B1
      have hal := below_alloc w2 (.cells #[.int .i64 U, .int .i64 D] 28)
      have F1 := Lib.hid (blk_new w2 28 #[.int .i64 U, .int .i64 D])
      have B3 := Lib.hid (below_up B2.out hal)
      have HK3 := Lib.hid (Keep.trans HK2.out (Keep.below hal))
      clear hal B2 HK2
      have q0 := blk_cell F1.out (i := 0) (v := .int .i64 U) rfl
      have q1 := blk_cell F1.out (i := 1) (v := .int .i64 D) rfl
      go_wp2_with fail
      generalize w2.alloc (.cells #[.int .i64 U, .int .i64 D] 28) = w3 at *
      generalize w2.heap.size = h1 at *
      refine (HC2.out _ HK3.out).mono ?_
      rintro e w4 ⟨rfl, hb⟩
      have HK4 := Lib.hid (Keep.trans HK3.out (Keep.below hb))
      have B4 := Lib.hid (below_up B3.out hb)
      have F2 := Lib.hid (blk_below F1.out hb)
      clear hb HC2 B3 HK3 q0 q1 F1
      have hal := below_alloc w4 (.cells #[.int .i64 U, .int .i64 D] 28)
      have G1 := Lib.hid (blk_new w4 28 #[.int .i64 U, .int .i64 D])
      have F3 := Lib.hid (blk_below F2.out hal)
      have B5 := Lib.hid (below_up B4.out hal)
      have HK5 := Lib.hid (Keep.trans HK4.out (Keep.below hal))
      clear hal B4 HK4 F2
      have q0 := blk_cell F3.out (i := 0) (v := .int .i64 U) rfl
      have q1 := blk_cell F3.out (i := 1) (v := .int .i64 D) rfl
      have q2 := blk_cell G1.out (i := 0) (v := .int .i64 U) rfl
      have q3 := blk_cell G1.out (i := 1) (v := .int .i64 D) rfl
      have HF := Lib.hid (fun W (q : Keep w1 W) => flipped_any Av k cv (gr xss 0).length xss W (H1.out.keep q) HS.out hk HV.out.even)
      go_wp2_with fail
      generalize w4.alloc (.cells #[.int .i64 U, .int .i64 D] 28) = w5 at *
      generalize w4.heap.size = h2 at *
      refine (HF.out _ HK5.out).mono ?_
      rintro e w6 ⟨A2, n2, c2, g2, rfl, hn2, ho, hb⟩
      rw [← LX.out] at ho
      have H6 := Lib.hid ho.rows
      have B6 := Lib.hid (below_up B5.out hb)
      have F6 := Lib.hid (blk_below F3.out hb)
      clear hn2 ho hb HF B5 HK5 F3 G1 q0 q1 q2 q3
      have HC := Lib.hid (minusOf_any A2 n2 c2 _ w6 H6.out (small_ntab HV.out))
      go_wp2_with fail
      refine HC.out.mono ?_
      rintro e w7 ⟨A3, n3, c3, g3, rfl, hn3, ho, hb⟩
      have H7 := Lib.hid (show IntRows w7 A3 n3 c3 (ntab xss) from ho.rows)
      have B7 := Lib.hid (below_up B6.out hb)
      have F7 := Lib.hid (blk_below F6.out hb)
      clear hn3 ho hb HC B6 H6 F6
      have HC := Lib.hid (ValueOf_impl A3 n3 c3 (ntab xss) w7 H7.out)
      rw [HNV.out, HVN.out] at HC
      go_wp2_with fail
      refine HC.out.mono ?_
      rintro e w8 ⟨rfl, hb⟩
      have B8 := Lib.hid (below_up B7.out hb)
      have F8 := Lib.hid (blk_below F7.out hb)
      clear hb HC B7 H7 F7
      have hal := below_alloc w8 (.cells #[.int .i64 (-U), .int .i64 D] 28)
      have G1 := Lib.hid (blk_new w8 28 #[.int .i64 (-U), .int .i64 D])
      have F9 := Lib.hid (blk_below F8.out hal)
      have B9 := Lib.hid (below_up B8.out hal)
      clear hal B8 F8
      have q0 := blk_cell F9.out (i := 0) (v := .int .i64 U) rfl
      have q1 := blk_cell F9.out (i := 1) (v := .int .i64 D) rfl
      have q2 := blk_cell G1.out (i := 0) (v := .int .i64 (-U)) rfl
      have q3 := blk_cell G1.out (i := 1) (v := .int .i64 D) rfl
      go_wp2
      go_ret
      exact ⟨rfl, B9.out⟩
    · rw [pb_false hv] at HC HC2
      clear hv
      go_wp2_with fail
      refine HC.out.mono ?_
      rintro e w2 ⟨rfl, hb⟩
      have HK2 := Lib.hid (Keep.below hb)
      have B2 := Lib.hid (below_up B1.out hb)
      clear hb HC B1
      have hal := below_alloc w2 (.cells #[.int .i64 U, .int .i64 D] 28)
      have F1 := Lib.hid (blk_new w2 28 #[.int .i64 U, .int .i64 D])
      have B3 := Lib.hid (below_up B2.out hal)
      have HK3 := Lib.hid (Keep.trans HK2.out (Keep.below hal))
      clear hal B2 HK2
      have q0 := blk_cell F1.out (i := 0) (v := .int .i64 U) rfl
      have q1 := blk_cell F1.out (i := 1) (v := .int .i64 D) rfl
      go_wp2_with fail
      generalize w2.alloc (.cells #[.int .i64 U, .int .i64 D] 28) = w3 at *
      generalize w2.heap.size = h1 at *
      refine (HC2.out _ HK3.out).mono ?_
      rintro e w4 ⟨rfl, hb⟩
      have B4 := Lib.hid (below_up B3.out hb)
      have F2 := Lib.hid (blk_below F1.out hb)
      clear hb HC2 B3 HK3 q0 q1 F1
      have hal := below_alloc w4 (.cells #[.int .i64 U, .int .i64 D] 28)
      have G1 := Lib.hid (blk_new w4 28 #[.int .i64 U, .int .i64 D])
      have F3 := Lib.hid (blk_below F2.out hal)
      have B5 := Lib.hid (below_up B4.out hal)
      clear hal B4 F2
      have q0 := blk_cell F3.out (i := 0) (v := .int .i64 U) rfl
      have q1 := blk_cell F3.out (i := 1) (v := .int .i64 D) rfl
      have q2 := blk_cell G1.out (i := 0) (v := .int .i64 U) rfl
      have q3 := blk_cell G1.out (i := 1) (v := .int .i64 D) rfl
      go_wp2
      go_ret
      exact ⟨rfl, B5.out⟩

theorem hFnValueOf_lifted (os : Os) (started : os.Started) (H : Type) (enc : TypeId × Value → H) :
    ReturnsInHanded {} Try.checked os 6 .any (Rows.fnValueOfSpec.pre6 enc Try.prog Try.f6 Rows.fnValueOfRow.domain false) (Rows.fnValueOfSpec.post enc Try.prog Try.f6 false true false false) := by
  refine returnsInHanded_of_change_sized (C := Try.checked) Try.own started (by kernel_rfl) Try.func6
    (ChangeSpec.witness6 (enc := enc) (C := Try.checked) false ⟨#[], #[.slice none 0 0], []⟩ 8 (by kernel_rfl) (by kernel_rfl) (by kernel_rfl) (by kernel_rfl)) ?_
  intro W base args ds gs before hval0 hW _ hwt _
  have hval : ∀ (j : Nat) t v, Try.f6.params[j]? = some t → args[j]? = some v → Value.okWide Try.prog W .any base t v := hval0
  have hA : ∃ p, DataW.TrodAll enc Try.prog W 0 (fun _ => true) true Try.f6.params.toList args.toList ds p := by obtain ⟨p, q, hA0, _⟩ := hW; exact ⟨p, hA0⟩
  obtain ⟨p, hA⟩ := hA
  have hwt' := weights_arg hwt (j := 0) (t := 22) (by rw [Try.params6]; rfl) (d := ds.getD 0 .nil)
  rw [Try.params6] at hA hval
  obtain ⟨v0, d0, rfl, rfl, h0⟩ := trodAll_one hA
  obtain ⟨A, n, c, rfl, hx⟩ := open_bytes (hval 0 22 v0 rfl rfl) h0 (hwt' rfl)
  refine (fnValueOf_calls A n c W hx).mono fun e W' ⟨he, hb⟩ => ?_
  subst he
  exact ⟨_, rfl, law_post (F := Try.f6) rfl rfl (by rw [Try.params6]; simp only [List.mem_cons, List.not_mem_nil, or_false, forall_eq]; exact ⟨by kernel_rfl, of_decide_eq_true (by kernel_rfl)⟩) hW (fun h => by subst h; rfl) hb⟩

theorem hFnValueOf_holds : Rows.FnValueOfSaid :=
  OpenClaim.holds_of_wide 6 Try.f6 rfl rfl rfl rfl rfl rfl rfl ⟨rfl, rfl, rfl, rfl, rfl⟩ rfl rfl rfl rfl rfl (by kernel_rfl) Try.func6
    (by unfold joinedFacts; simp only [Bool.and_eq_true]; (repeat' apply And.intro) <;> (first | (with_reducible exact prog_enters) | ((with_reducible refine prog_lifts ?_); rfl) | ((with_reducible refine prog_make ?_); rfl) | kernel_rfl))
    (of_decide_eq_true (by kernel_rfl)) (by unfold Func.isWrapper; first | (rw [if_pos (by decide +kernel)]; kernel_rfl) | (rw [if_neg (by decide +kernel)]; exact ⟨rfl, rfl⟩))
    (fun os started H enc _ => hFnValueOf_lifted os started H enc)

end Go.Proofs.Ytgnbmanlpppdoaa
