/- The law FnRestsOn holds: for every code, of what it draws, the program tells the rests as the model does, each of them rests, and each strategy alone is one of them exactly if it rests. No condition. -/
import Derived.Test.YtmhknknapciebaaQ10
namespace Go.Proofs.Ytmhknknapciebaa
open Go.ChangeShapes Go.WideShapes Go.ChangeAt Go.RowKit Go.Deep

set_option maxRecDepth 100000 in
set_option maxHeartbeats 3200000 in
theorem fnRestsOn_calls (A : Option Addr) (n c : Nat) (w : World) (hx : Bytes w A n c) :
    Calls Try.prog 10 #[.slice A n c] w fun e w' => e = .returned (.bool true) ∧ Below w.heap.size w w' := by
  have hmx := hx.max
  have H0 := Lib.hid (DrawRestsOn_any A n c w hx)
  clear hx
  by_cases hs : 1048576 < n
  · go_enter Try.func10, Try.ntmps10
    go_wp2
    go_ret
    exact ⟨rfl, Below.refl _ _⟩
  · go_enter Try.func10, Try.ntmps10
    go_wp2_with fail
    refine H0.out.mono ?_
    rintro e w1 ⟨Av, k, cv, gg, xss, rfl, hsm, hown, hb⟩
    have HS := Lib.hid hsm
    have HR := Lib.hid hown.rows
    have B1 := Lib.hid hb
    have LX := Lib.hid hown.rows.len
    clear hsm hown hb H0
    have HEQ := Lib.hid (show eqRR (resF xss) (resF xss) = true by simp [eqRR])
    have HRL := Lib.hid (resF_len xss)
    by_cases hv : VQ xss
    · have hk : 0 < k := by rw [← LX.out]; exact hv.1.n1
      have hk3 : k ≤ 3 := by rw [← LX.out]; exact hv.1.n3
      have HVQ := Lib.hid (pb_true hv)
      have HRT := Lib.hid (fun q (hq : q < (resF xss).length) => resF_rest (gr_mem hq))
      have HONE := Lib.hid (fun i (hi : i < k) => show RQ xss (onl k i) ↔ onl k i ∈ resF xss by have := rest_one hv (i := i) (by rw [LX.out]; exact hi); rw [LX.out] at this; exact this)
      clear hv
      have HC := Lib.hid (RestsOn_impl _ _ _ xss w1 HR.out)
      go_wp2_with fail
      refine HC.out.mono ?_
      rintro e w2 ⟨A2, n2, c2, g2_, rfl, rfl, ho, hb⟩
      have HR_2 := Lib.hid (HR.out.keep (Keep.below hb))
      have B_2 := Lib.hid (below_up B1.out hb)
      have HP := Lib.hid ho.rows
      clear ho
      clear hb HC HR B1
      have HC := Lib.hid (RestsOn_spec _ _ _ xss w2 HR_2.out)
      go_wp2_with fail
      refine HC.out.mono ?_
      rintro e w3 ⟨A3, n3, c3, g3_, rfl, rfl, ho, hb⟩
      have HR_3 := Lib.hid (HR_2.out.keep (Keep.below hb))
      have HP_3 := Lib.hid (HP.out.keep (Keep.below hb))
      have B_3 := Lib.hid (below_up B_2.out hb)
      have HQ_ := Lib.hid ho.rows
      clear ho
      clear hb HC HR_2 HP B_2
      have HC := Lib.hid (HEQ.out ▸ equalRows_any _ _ _ _ _ _ (resF xss) (resF xss) w3 HP_3.out HQ_.out)
      go_wp2_with fail
      refine HC.out.mono ?_
      rintro e w4 ⟨rfl, hq⟩
      have hb := hq.below (B := w3.heap.size)
      have HR_4 := Lib.hid (HR_3.out.keep (Keep.below hb))
      have HP_4 := Lib.hid (HP_3.out.keep (Keep.below hb))
      have HQ__4 := Lib.hid (HQ_.out.keep (Keep.below hb))
      have B_4 := Lib.hid (below_up B_3.out hb)
      clear hb HC hq HR_3 HP_3 HQ_ B_3
      clear HQ__4
      have HC := Lib.hid (HVQ.out ▸ ValidSquare_impl _ _ _ _ w4 HR_4.out)
      go_wp2_with fail
      refine HC.out.mono ?_
      rintro e w5 ⟨rfl, hq⟩
      have hb := hq.below (B := w4.heap.size)
      have HR_5 := Lib.hid (HR_4.out.keep (Keep.below hb))
      have HP_5 := Lib.hid (HP_4.out.keep (Keep.below hb))
      have B_5 := Lib.hid (below_up B_4.out hb)
      clear hb HC hq HR_4 HP_4 B_4
      have hrl := HRL.out
      generalize resF xss = rs at *
      go_wp2
      go_loopw [5] (fun j wr => ∃ q : Nat, q ≤ rs.length ∧ j = .int .i64 q ∧ Hid (Below w5.heap.size w5 wr)) (fun j _ => rs.length - (intOf j).toNat)
      case atStart => exact ⟨0, Nat.zero_le _, rfl, Lib.hid (Below.refl _ _)⟩
      case round =>
        obtain ⟨q, hq, rfl, HQ⟩ := hrel
        by_cases hlt : q < rs.length
        · obtain ⟨rb', ro', rfl, hc⟩ := (HP_5.out.keep (Keep.below HQ.out)).at_ (by omega)
          obtain ⟨R, cR, c1, hR⟩ := hc q hlt
          have HC := Lib.hid (pb_true (HRT.out q hlt).1 ▸ IsRest_impl _ _ _ xss R _ cR (gr rs q) wr (HR_5.out.keep (Keep.below HQ.out)) hR)
          clear hc hR
          go_wp2_with fail
          refine HC.out.mono ?_
          rintro e v1 ⟨rfl, hb⟩
          have HQ1 := Lib.hid (below_up HQ.out hb)
          clear hb HC HQ c1
          go_wp2
          go_roundw
          case rel => exact ⟨q + 1, by omega, by go_num, HQ1⟩
          case measure => simp [intOf]; omega
        · obtain rfl : q = rs.length := by omega
          have hq' := HQ.out
          clear HRT HQ
          have HR_r := Lib.hid (HR_5.out.keep (Keep.below hq'))
          have HP_r := Lib.hid (HP_5.out.keep (Keep.below hq'))
          have B_r := Lib.hid (below_up B_5.out hq')
          clear hq' HR_5 HP_5 B_5
          generalize wr = wb at *
          go_wp2
          go_loopw [6] (fun j wr => ∃ i : Nat, i ≤ k ∧ j = .int .i64 i ∧ Hid (Below wb.heap.size wb wr)) (fun j _ => k - (intOf j).toNat)
          case atStart => exact ⟨0, Nat.zero_le _, rfl, Lib.hid (Below.refl _ _)⟩
          case round =>
            obtain ⟨i, hi, rfl, HQ⟩ := hrel
            by_cases hlt : i < k
            · have HC := Lib.hid (onlyOne_any k i wr (by omega) hlt)
              go_wp2_with fail
              refine HC.out.mono ?_
              rintro e v1 ⟨rfl, ho, hb⟩
              have HQ1 := Lib.hid (below_up HQ.out hb)
              have HO1 := Lib.hid ho.ints
              clear ho hb HC HQ
              have HC := Lib.hid (IsRest_impl _ _ _ xss _ _ _ (onl k i) v1 (HR_r.out.keep (Keep.below HQ1.out)) HO1.out)
              rw [show pb (RQ xss (onl k i)) = pb (onl k i ∈ rs) from pb_congr (HONE.out i hlt)] at HC
              generalize hgb : pb (onl k i ∈ rs) = bb at *
              have HGB := Lib.hid hgb
              have hne : (bb != bb) = false := by simp
              clear hgb
              go_wp2_with fail
              refine HC.out.mono ?_
              rintro e v2 ⟨rfl, hb⟩
              have HQ2 := Lib.hid (below_up HQ1.out hb)
              clear hb HC HQ1 HO1
              have HC := Lib.hid (onlyOne_any k i v2 (by omega) hlt)
              go_wp2_with fail
              refine HC.out.mono ?_
              rintro e v3 ⟨rfl, ho, hb⟩
              have HQ3 := Lib.hid (below_up HQ2.out hb)
              have HO3 := Lib.hid ho.ints
              clear ho hb HC HQ2
              have HC := Lib.hid (inRows_any _ _ _ _ _ _ rs (onl k i) v3 (HP_r.out.keep (Keep.below HQ3.out)) HO3.out)
              rw [HGB.out] at HC
              go_wp2_with fail
              refine HC.out.mono ?_
              rintro e v4 ⟨rfl, hq⟩
              have HQ4 := Lib.hid (below_up HQ3.out hq.below)
              clear hq HC HQ3 HO3
              go_wp2
              go_roundw
              case rel => exact ⟨i + 1, by omega, by go_num, HQ4⟩
              case measure => simp [intOf]; omega
            · obtain rfl : i = k := by omega
              have HQB := Lib.hid (below_up B_r.out HQ.out)
              go_wp2
              go_ret
              exact ⟨rfl, HQB.out⟩
    · have HVQ := Lib.hid (pb_false hv)
      clear hv
      have HC := Lib.hid (RestsOn_impl _ _ _ xss w1 HR.out)
      go_wp2_with fail
      refine HC.out.mono ?_
      rintro e w2 ⟨A2, n2, c2, g2_, rfl, rfl, ho, hb⟩
      have HR_2 := Lib.hid (HR.out.keep (Keep.below hb))
      have B_2 := Lib.hid (below_up B1.out hb)
      have HP := Lib.hid ho.rows
      clear ho
      clear hb HC HR B1
      have HC := Lib.hid (RestsOn_spec _ _ _ xss w2 HR_2.out)
      go_wp2_with fail
      refine HC.out.mono ?_
      rintro e w3 ⟨A3, n3, c3, g3_, rfl, rfl, ho, hb⟩
      have HR_3 := Lib.hid (HR_2.out.keep (Keep.below hb))
      have HP_3 := Lib.hid (HP.out.keep (Keep.below hb))
      have B_3 := Lib.hid (below_up B_2.out hb)
      have HQ_ := Lib.hid ho.rows
      clear ho
      clear hb HC HR_2 HP B_2
      have HC := Lib.hid (HEQ.out ▸ equalRows_any _ _ _ _ _ _ (resF xss) (resF xss) w3 HP_3.out HQ_.out)
      go_wp2_with fail
      refine HC.out.mono ?_
      rintro e w4 ⟨rfl, hq⟩
      have hb := hq.below (B := w3.heap.size)
      have HR_4 := Lib.hid (HR_3.out.keep (Keep.below hb))
      have HP_4 := Lib.hid (HP_3.out.keep (Keep.below hb))
      have HQ__4 := Lib.hid (HQ_.out.keep (Keep.below hb))
      have B_4 := Lib.hid (below_up B_3.out hb)
      clear hb HC hq HR_3 HP_3 HQ_ B_3
      clear HQ__4
      have HC := Lib.hid (HVQ.out ▸ ValidSquare_impl _ _ _ _ w4 HR_4.out)
      go_wp2_with fail
      refine HC.out.mono ?_
      rintro e w5 ⟨rfl, hq⟩
      have hb := hq.below (B := w4.heap.size)
      have HR_5 := Lib.hid (HR_4.out.keep (Keep.below hb))
      have HP_5 := Lib.hid (HP_4.out.keep (Keep.below hb))
      have B_5 := Lib.hid (below_up B_4.out hb)
      clear hb HC hq HR_4 HP_4 B_4
      have HC := Lib.hid (RestsOn_spec _ _ _ xss w5 HR_5.out)
      go_wp2_with fail
      refine HC.out.mono ?_
      rintro e w6 ⟨A3, n3, c3, g3_, rfl, rfl, ho, hb⟩
      have HR_6 := Lib.hid (HR_5.out.keep (Keep.below hb))
      have HP_6 := Lib.hid (HP_5.out.keep (Keep.below hb))
      have B_6 := Lib.hid (below_up B_5.out hb)
      have HQ_ := Lib.hid ho.rows
      clear ho
      clear hb HC HR_5 HP_5 B_5
      have HC := Lib.hid (HEQ.out ▸ equalRows_any _ _ _ _ _ _ (resF xss) (resF xss) w6 HP_6.out HQ_.out)
      go_wp2_with fail
      refine HC.out.mono ?_
      rintro e w7 ⟨rfl, hq⟩
      have hb := hq.below (B := w6.heap.size)
      have HR_7 := Lib.hid (HR_6.out.keep (Keep.below hb))
      have HP_7 := Lib.hid (HP_6.out.keep (Keep.below hb))
      have HQ__7 := Lib.hid (HQ_.out.keep (Keep.below hb))
      have B_7 := Lib.hid (below_up B_6.out hb)
      clear hb HC hq HR_6 HP_6 HQ_ B_6
      go_wp2
      go_ret
      exact ⟨rfl, B_7.out⟩

set_option maxRecDepth 100000 in
theorem hFnRestsOn_lifted (os : Os) (started : os.Started) (H : Type) (enc : TypeId × Value → H) :
    ReturnsInHanded {} Try.checked os 10 .any (Rows.fnRestsOnSpec.pre6 enc Try.prog Try.f10 Rows.fnRestsOnRow.domain false) (Rows.fnRestsOnSpec.post enc Try.prog Try.f10 false true false false) := by
  refine returnsInHanded_of_change_sized (C := Try.checked) Try.own started (by kernel_rfl) Try.func10
    (ChangeSpec.witness6 (enc := enc) (C := Try.checked) false ⟨#[], #[.slice none 0 0], []⟩ 8 (by kernel_rfl) (by kernel_rfl) (by kernel_rfl) (by kernel_rfl)) ?_
  intro W base args ds gs before hval0 hW _ hwt _
  have hval : ∀ (j : Nat) t v, Try.f10.params[j]? = some t → args[j]? = some v → Value.okWide Try.prog W .any base t v := hval0
  have hA : ∃ p, DataW.TrodAll enc Try.prog W 0 (fun _ => true) true Try.f10.params.toList args.toList ds p := by obtain ⟨p, q, hA0, _⟩ := hW; exact ⟨p, hA0⟩
  obtain ⟨p, hA⟩ := hA
  have hwt' := weights_arg hwt (j := 0) (t := 37) (by rw [Try.params10]; rfl) (d := ds.getD 0 .nil)
  rw [Try.params10] at hA hval
  obtain ⟨v0, d0, rfl, rfl, h0⟩ := trodAll_one hA
  obtain ⟨A, n, c, rfl, hx⟩ := open_bytes (hval 0 37 v0 rfl rfl) h0 (hwt' rfl)
  refine (fnRestsOn_calls A n c W hx).mono fun e W' ⟨he, hb⟩ => ?_
  subst he
  exact ⟨_, rfl, law_post (F := Try.f10) rfl rfl (by rw [Try.params10]; simp only [List.mem_cons, List.not_mem_nil, or_false, forall_eq]; exact ⟨by kernel_rfl, of_decide_eq_true (by kernel_rfl)⟩) hW (fun h => by subst h; rfl) hb⟩

theorem hFnRestsOn_holds : Rows.FnRestsOnSaid :=
  OpenClaim.holds_of_wide 10 Try.f10 rfl rfl rfl rfl rfl rfl rfl ⟨rfl, rfl, rfl, rfl, rfl⟩ rfl rfl rfl rfl rfl (by kernel_rfl) Try.func10
    (by unfold joinedFacts; simp only [Bool.and_eq_true]; (repeat' apply And.intro) <;> (first | (with_reducible exact prog_enters) | ((with_reducible refine prog_lifts ?_); rfl) | ((with_reducible refine prog_make ?_); rfl) | kernel_rfl))
    (of_decide_eq_true (by kernel_rfl)) (by unfold Func.isWrapper; first | (rw [if_pos (by decide +kernel)]; kernel_rfl) | (rw [if_neg (by decide +kernel)]; exact ⟨rfl, rfl⟩))
    (fun os started H enc _ => hFnRestsOn_lifted os started H enc)

end Go.Proofs.Ytmhknknapciebaa
