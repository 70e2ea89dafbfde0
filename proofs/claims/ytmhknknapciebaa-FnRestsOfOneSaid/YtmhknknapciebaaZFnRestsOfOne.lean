/- The law FnRestsOfOne holds: for every code, of what it draws, the program tells rests as the model does, and one strategy alone rests exactly if it twice is one of the pure rests of two who play the table. No condition. -/
import Derived.Test.YtmhknknapciebaaQ10
namespace Go.Proofs.Ytmhknknapciebaa
open Go.ChangeShapes Go.WideShapes Go.ChangeAt Go.RowKit Go.Deep

set_option maxRecDepth 100000 in
set_option maxHeartbeats 3200000 in
theorem fnRestsOfOne_calls (A : Option Addr) (n c : Nat) (w : World) (hx : Bytes w A n c) :
    Calls Try.prog 11 #[.slice A n c] w fun e w' => e = .returned (.bool true) ∧ Below w.heap.size w w' := by
  have hmx := hx.max
  have H0 := Lib.hid (DrawIsRest_any A n c w hx)
  clear hx
  by_cases hs : 1048576 < n
  · go_enter Try.func11, Try.ntmps11
    go_wp2
    go_ret
    exact ⟨rfl, Below.refl _ _⟩
  · go_enter Try.func11, Try.ntmps11
    go_wp2_with fail
    refine H0.out.mono ?_
    rintro e w1 ⟨Av, k, cv, gg, xss, Bv, m, cb, ys, rfl, hsm, hown, hi, hb⟩
    have HS := Lib.hid hsm
    have HR := Lib.hid hown.rows
    have HY := Lib.hid hi
    have B1 := Lib.hid hb
    have LX := Lib.hid hown.rows.len
    have LY := Lib.hid hi.len
    clear hsm hown hi hb H0
    have hbe : ∀ b : Bool, (b != b) = false := by simp
    have HBE := Lib.hid hbe
    clear hbe
    generalize hgr : pb (RQ xss ys) = rr
    have HGR := Lib.hid hgr
    have hrr := HBE.out rr
    clear hgr
    by_cases hv : VQ xss
    · have hk : 0 < k := by rw [← LX.out]; exact hv.1.n1
      have hk3 : k ≤ 3 := by rw [← LX.out]; exact hv.1.n3
      have HVQ := Lib.hid (pb_true hv)
      have HEV := Lib.hid (hv.even LX.out)
      have HONE := Lib.hid (fun i (hi : i < k) => rest_pair hv LX.out hi)
      clear hv
      have HC := Lib.hid (HGR.out ▸ IsRest_impl _ _ _ xss _ _ _ ys w1 HR.out HY.out)
      go_wp2_with fail
      refine HC.out.mono ?_
      rintro e w2 ⟨rfl, hb⟩
      have HR_2 := Lib.hid (HR.out.keep (Keep.below hb))
      have HY_2 := Lib.hid (HY.out.keep (Keep.below hb))
      have B_2 := Lib.hid (below_up B1.out hb)
      clear hb HC HR HY B1
      have HC := Lib.hid (HGR.out ▸ IsRest_spec _ _ _ xss _ _ _ ys w2 HR_2.out HY_2.out)
      go_wp2_with fail
      refine HC.out.mono ?_
      rintro e w3 ⟨rfl, hb⟩
      have HR_3 := Lib.hid (HR_2.out.keep (Keep.below hb))
      have HY_3 := Lib.hid (HY_2.out.keep (Keep.below hb))
      have B_3 := Lib.hid (below_up B_2.out hb)
      clear hb HC HR_2 HY_2 B_2
      have HC := Lib.hid (HVQ.out ▸ ValidSquare_impl _ _ _ _ w3 HR_3.out)
      go_wp2_with fail
      refine HC.out.mono ?_
      rintro e w4 ⟨rfl, hq⟩
      have hb := hq.below (B := w3.heap.size)
      have HR_4 := Lib.hid (HR_3.out.keep (Keep.below hb))
      have HY_4 := Lib.hid (HY_3.out.keep (Keep.below hb))
      have B_4 := Lib.hid (below_up B_3.out hb)
      clear hb HC hq HR_3 HY_3 B_3
      have HC := Lib.hid (flipped_any _ _ _ k xss w4 HR_4.out HS.out hk HEV.out)
      go_wp2_with fail
      refine HC.out.mono ?_
      rintro e w5 ⟨A6, n6, c6, g6_, rfl, hn6, hown, hb⟩
      have HR_5 := Lib.hid (HR_4.out.keep (Keep.below hb))
      have HY_5 := Lib.hid (HY_4.out.keep (Keep.below hb))
      have B_5 := Lib.hid (below_up B_4.out hb)
      have HF := Lib.hid hown.rows
      clear hown hn6
      clear hb HC HR_4 HY_4 B_4
      have HC := Lib.hid (PureRests_impl _ A6 k cv n6 c6 xss (flip xss k k) w5 HR_5.out HF.out)
      go_wp2_with fail
      refine HC.out.mono ?_
      rintro e w6 ⟨Ar, nr, cr, gR, rfl, rfl, ho, hb⟩
      have HR_6 := Lib.hid (HR_5.out.keep (Keep.below hb))
      have HY_6 := Lib.hid (HY_5.out.keep (Keep.below hb))
      have HF_6 := Lib.hid (HF.out.keep (Keep.below hb))
      have B_6 := Lib.hid (below_up B_5.out hb)
      have HPR := Lib.hid ho.rows
      clear ho
      clear hb HC HR_5 HY_5 HF B_5
      clear HF_6
      have hpl := pureR_le xss (flip xss k k)
      generalize pureR xss (flip xss k k) = ps at *
      go_wp2
      go_loopw [6] (fun j wr => ∃ i : Nat, i ≤ k ∧ j = .int .i64 i ∧ Hid (Below w6.heap.size w6 wr)) (fun j _ => k - (intOf j).toNat)
      case atStart => exact ⟨0, Nat.zero_le _, rfl, Lib.hid (Below.refl _ _)⟩
      case round =>
        obtain ⟨i, hi, rfl, HQ⟩ := hrel
        by_cases hlt : i < k
        · have HC := Lib.hid (onlyOne_any k i wr (by omega) hlt)
          go_wp2_with fail
          refine HC.out.mono ?_
          rintro e v1 ⟨rfl, ho, hb⟩
          have HQ1 := Lib.hid (below_up HQ.out hb)
          have HO1 := Lib.hid ho.ints
          clear ho hb HC HQ
          have HC := Lib.hid (IsRest_impl _ _ _ xss _ _ _ (onl k i) v1 (HR_6.out.keep (Keep.below HQ1.out)) HO1.out)
          rw [show pb (RQ xss (onl k i)) = pb ([(i : Int), (i : Int)] ∈ ps) from pb_congr (HONE.out i hlt)] at HC
          generalize hgb : pb ([(i : Int), (i : Int)] ∈ ps) = bb at *
          have HGB := Lib.hid hgb
          have hne := HBE.out bb
          clear hgb
          go_wp2_with fail
          refine HC.out.mono ?_
          rintro e v2 ⟨rfl, hb⟩
          have HQ2 := Lib.hid (below_up HQ1.out hb)
          clear hb HC HQ1 HO1
          have HTW := Lib.hid (show Ints (v2.alloc (.cells #[.int .i64 (i : Int), .int .i64 (i : Int)] 3)) (some ⟨v2.heap.size, 0, none⟩) 2 2 [(i : Int), (i : Int)] from Ints.two v2 i i)
          have HQ3 := Lib.hid (below_up HQ2.out (below_alloc v2 (.cells #[.int .i64 (i : Int), .int .i64 (i : Int)] 3)))
          have HC := Lib.hid (HGB.out ▸ inRows_any _ _ _ _ _ _ ps [(i : Int), (i : Int)] _ (HPR.out.keep (Keep.below HQ3.out)) HTW.out)
          go_wp2_with fail
          refine HC.out.mono ?_
          rintro e v4 ⟨rfl, hq⟩
          have HQ4 := Lib.hid (below_quiet HQ3.out hq)
          clear hq HC HQ3 HQ2 HTW
          go_wp2
          go_roundw
          case rel => exact ⟨i + 1, by omega, by go_num, HQ4⟩
          case measure => simp [intOf]; omega
        · obtain rfl : i = k := by omega
          have HQB := Lib.hid (below_up B_6.out HQ.out)
          go_wp2
          go_ret
          exact ⟨rfl, HQB.out⟩
    · have HVQ := Lib.hid (pb_false hv)
      clear hv
      have HC := Lib.hid (HGR.out ▸ IsRest_impl _ _ _ xss _ _ _ ys w1 HR.out HY.out)
      go_wp2_with fail
      refine HC.out.mono ?_
      rintro e w2 ⟨rfl, hb⟩
      have HR_2 := Lib.hid (HR.out.keep (Keep.below hb))
      have HY_2 := Lib.hid (HY.out.keep (Keep.below hb))
      have B_2 := Lib.hid (below_up B1.out hb)
      clear hb HC HR HY B1
      have HC := Lib.hid (HGR.out ▸ IsRest_spec _ _ _ xss _ _ _ ys w2 HR_2.out HY_2.out)
      go_wp2_with fail
      refine HC.out.mono ?_
      rintro e w3 ⟨rfl, hb⟩
      have HR_3 := Lib.hid (HR_2.out.keep (Keep.below hb))
      have HY_3 := Lib.hid (HY_2.out.keep (Keep.below hb))
      have B_3 := Lib.hid (below_up B_2.out hb)
      clear hb HC HR_2 HY_2 B_2
      have HC := Lib.hid (HVQ.out ▸ ValidSquare_impl _ _ _ _ w3 HR_3.out)
      go_wp2_with fail
      refine HC.out.mono ?_
      rintro e w4 ⟨rfl, hq⟩
      have hb := hq.below (B := w3.heap.size)
      have HR_4 := Lib.hid (HR_3.out.keep (Keep.below hb))
      have HY_4 := Lib.hid (HY_3.out.keep (Keep.below hb))
      have B_4 := Lib.hid (below_up B_3.out hb)
      clear hb HC hq HR_3 HY_3 B_3
      go_wp2
      go_ret
      exact ⟨rfl, B_4.out⟩

set_option maxRecDepth 100000 in
theorem hFnRestsOfOne_lifted (os : Os) (started : os.Started) (H : Type) (enc : TypeId × Value → H) :
    ReturnsInHanded {} Try.checked os 11 .any (Rows.fnRestsOfOneSpec.pre6 enc Try.prog Try.f11 Rows.fnRestsOfOneRow.domain false) (Rows.fnRestsOfOneSpec.post enc Try.prog Try.f11 false true false false) := by
  refine returnsInHanded_of_change_sized (C := Try.checked) Try.own started (by kernel_rfl) Try.func11
    (ChangeSpec.witness6 (enc := enc) (C := Try.checked) false ⟨#[], #[.slice none 0 0], []⟩ 8 (by kernel_rfl) (by kernel_rfl) (by kernel_rfl) (by kernel_rfl)) ?_
  intro W base args ds gs before hval0 hW _ hwt _
  have hval : ∀ (j : Nat) t v, Try.f11.params[j]? = some t → args[j]? = some v → Value.okWide Try.prog W .any base t v := hval0
  have hA : ∃ p, DataW.TrodAll enc Try.prog W 0 (fun _ => true) true Try.f11.params.toList args.toList ds p := by obtain ⟨p, q, hA0, _⟩ := hW; exact ⟨p, hA0⟩
  obtain ⟨p, hA⟩ := hA
  have hwt' := weights_arg hwt (j := 0) (t := 37) (by rw [Try.params11]; rfl) (d := ds.getD 0 .nil)
  rw [Try.params11] at hA hval
  obtain ⟨v0, d0, rfl, rfl, h0⟩ := trodAll_one hA
  obtain ⟨A, n, c, rfl, hx⟩ := open_bytes (hval 0 37 v0 rfl rfl) h0 (hwt' rfl)
  refine (fnRestsOfOne_calls A n c W hx).mono fun e W' ⟨he, hb⟩ => ?_
  subst he
  exact ⟨_, rfl, law_post (F := Try.f11) rfl rfl (by rw [Try.params11]; simp only [List.mem_cons, List.not_mem_nil, or_false, forall_eq]; exact ⟨by kernel_rfl, of_decide_eq_true (by kernel_rfl)⟩) hW (fun h => by subst h; rfl) hb⟩

theorem hFnRestsOfOne_holds : Rows.FnRestsOfOneSaid :=
  OpenClaim.holds_of_wide 11 Try.f11 rfl rfl rfl rfl rfl rfl rfl ⟨rfl, rfl, rfl, rfl, rfl⟩ rfl rfl rfl rfl rfl (by kernel_rfl) Try.func11
    (by unfold joinedFacts; simp only [Bool.and_eq_true]; (repeat' apply And.intro) <;> (first | (with_reducible exact prog_enters) | ((with_reducible refine prog_lifts ?_); rfl) | ((with_reducible refine prog_make ?_); rfl) | kernel_rfl))
    (of_decide_eq_true (by kernel_rfl)) (by unfold Func.isWrapper; first | (rw [if_pos (by decide +kernel)]; kernel_rfl) | (rw [if_neg (by decide +kernel)]; exact ⟨rfl, rfl⟩))
    (fun os started H enc _ => hFnRestsOfOne_lifted os started H enc)

end Go.Proofs.Ytmhknknapciebaa
