/- The law FnStableOf holds: for every code, of what it draws, the program tells the stable strategies as the model does, ascending, each of them alone rests, and it is stable just if its barrier against each other one is more than 0. No condition. -/
import Derived.Test.YtoekpbcdgmejcaaQ10
namespace Go.Proofs.Ytoekpbcdgmejcaa
open Go.ChangeShapes Go.WideShapes Go.ChangeAt Go.RowKit Go.Deep

set_option maxRecDepth 100000 in
set_option maxHeartbeats 3200000 in
theorem fnStableOf_calls (A : Option Addr) (n c : Nat) (w : World) (hx : Bytes w A n c) :
    Calls Try.prog 4 #[.slice A n c] w fun e w' => e = .returned (.bool true) ∧ Below w.heap.size w w' := by
  have hmx := hx.max
  have H0 := Lib.hid (DrawStableOf_any A n c w hx)
  clear hx
  by_cases hs : 1048576 < n
  · go_enter Try.func4, Try.ntmps4
    go_wp2
    go_ret
    exact ⟨rfl, Below.refl _ _⟩
  · go_enter Try.func4, Try.ntmps4
    go_wp2_with fail
    refine H0.out.mono ?_
    rintro e w1 ⟨Av, k, cv, gg, xss, rfl, hsm, hown, hb⟩
    have HS := Lib.hid hsm
    have HR := Lib.hid hown.rows
    have B1 := Lib.hid hb
    have LX := Lib.hid hown.rows.len
    clear hsm hown hb H0
    have HEQ := Lib.hid (show eqI (stF xss) (stF xss) = true by simp [eqI])
    have HAS := Lib.hid (stF_asc xss)
    have hsl := stF_len xss
    by_cases hv : VQ xss
    · have hk : 0 < k := by rw [← LX.out]; exact hv.1.n1
      have hk3 : k ≤ 3 := by rw [← LX.out]; exact hv.1.n3
      have HVQ := Lib.hid (pb_true hv)
      have HBO := Lib.hid (fun i j (hi : i < k) (hj : j < k) => bok_iff hv LX.out hi hj)
      have HSI := Lib.hid (fun (i j : Nat) (h : BOk xss (i : Int) (j : Int)) => barF_sign h)
      have HIN := Lib.hid (fun i (hi : i < k) => isin_st hv LX.out hi)
      have HRE := Lib.hid (fun i (hi : i < k) (h : StP xss i k) => show RQ xss (onl k i) by have := st_rest hv (i := i) (by rw [LX.out]; exact hi) (by rw [LX.out]; exact h); rw [LX.out] at this; exact this)
      clear hv
      have HC := Lib.hid (StableOf_impl _ _ _ xss w1 HR.out)
      go_wp2_with fail
      refine HC.out.mono ?_
      rintro e w2 ⟨A2, n2, c2, g2_, rfl, rfl, ho, hb⟩
      have HR_2 := Lib.hid (HR.out.keep (Keep.below hb))
      have B_2 := Lib.hid (below_up B1.out hb)
      have HP := Lib.hid ho.ints
      clear ho
      clear hb HC HR B1
      have HC := Lib.hid (StableOf_spec _ _ _ xss w2 HR_2.out)
      go_wp2_with fail
      refine HC.out.mono ?_
      rintro e w3 ⟨A3, n3, c3, g3_, rfl, rfl, ho, hb⟩
      have HR_3 := Lib.hid (HR_2.out.keep (Keep.below hb))
      have HP_3 := Lib.hid (HP.out.keep (Keep.below hb))
      have B_3 := Lib.hid (below_up B_2.out hb)
      have HQ_ := Lib.hid ho.ints
      clear ho
      clear hb HC HR_2 HP B_2
      have HC := Lib.hid (HEQ.out ▸ equalInts_any _ _ _ _ _ _ (stF xss) (stF xss) w3 HP_3.out HQ_.out)
      go_wp2_with fail
      refine HC.out.mono ?_
      rintro e w4 ⟨rfl, hq⟩
      have hb := hq.below (B := w3.heap.size)
      have HR_4 := Lib.hid (HR_3.out.keep (Keep.below hb))
      have HP_4 := Lib.hid (HP_3.out.keep (Keep.below hb))
      have HQ__4 := Lib.hid (HQ_.out.keep (Keep.below hb))
      have B_4 := Lib.hid (below_up B_3.out hb)
      clear hb HC hq HR_3 HP_3 HQ_ B_3
      clear HQ__4
      have HC := Lib.hid (HVQ.out ▸ ValidSquare_impl _ _ _ _ w4 HR_4.out)
      go_wp2_with fail
      refine HC.out.mono ?_
      rintro e w5 ⟨rfl, hq⟩
      have hb := hq.below (B := w4.heap.size)
      have HR_5 := Lib.hid (HR_4.out.keep (Keep.below hb))
      have HP_5 := Lib.hid (HP_4.out.keep (Keep.below hb))
      have B_5 := Lib.hid (below_up B_4.out hb)
      clear hb HC hq HR_4 HP_4 B_4
      generalize stF xss = ys at *
      go_wp2
      go_loopw [5] (fun j wr => ∃ i : Nat, i ≤ k ∧ j = .int .i64 i ∧ Hid (Below w5.heap.size w5 wr)) (fun j _ => k - (intOf j).toNat)
      case atStart => exact ⟨0, Nat.zero_le _, rfl, Lib.hid (Below.refl _ _)⟩
      case round =>
        obtain ⟨i, hi, rfl, HQ⟩ := hrel
        by_cases hlt : i < k
        · have HR0 := Lib.hid (HR_5.out.keep (Keep.below HQ.out))
          have HP0 := Lib.hid (HP_5.out.keep (Keep.below HQ.out))
          generalize wr = W0 at *
          go_wp2
          go_loopw [6, 7] (fun al j wi => ∃ (l : Nat) (bb : Bool), l ≤ k ∧ j = .int .i64 l ∧ al = .bool bb ∧ Hid (pb (StP xss i l) = bb) ∧ Hid (Below W0.heap.size W0 wi)) (fun _ j _ => k - (intOf j).toNat)
          case atStart => exact ⟨0, true, Nat.zero_le _, rfl, rfl, Lib.hid (pb_true (StP.zero xss i)), Lib.hid (Below.refl _ _)⟩
          case round =>
            obtain ⟨l, bb, hl, rfl, rfl, HB, HQI⟩ := hrel
            by_cases hll : l < k
            · have HC := Lib.hid (BarrierOf_impl _ _ _ xss (i : Int) (l : Int) wr (HR0.out.keep (Keep.below HQI.out)) ⟨by omega, by omega⟩ ⟨by omega, by omega⟩)
              by_cases hil : i = l
              · obtain ⟨U, D, hf⟩ := barF_form xss (i : Int) (l : Int)
                rw [hf, pb_false (p := BOk xss (i : Int) (l : Int)) (fun h => (HBO.out i l hlt hll).1 h hil)] at HC
                have HN := Lib.hid (show pb (StP xss i (l + 1)) = bb by rw [← HB.out]; exact pb_congr ⟨fun h => (StP.succ.1 h).1, fun h => StP.succ.2 ⟨h, .inl hil⟩⟩)
                clear hf hil HB
                go_wp2_with fail
                refine HC.out.mono ?_
                rintro e w2 ⟨rfl, hb⟩
                have HQ2 := Lib.hid (below_up (below_up HQI.out hb) (below_alloc w2 (.cells #[.int .i64 U, .int .i64 D] 37)))
                clear hb HC HQI
                go_wp2
                go_roundw
                case rel => exact ⟨l + 1, bb, by omega, by go_num, rfl, HN, HQ2⟩
                case measure => simp [intOf]; omega
              · have hbo := (HBO.out i l hlt hll).2 hil
                obtain ⟨U, D, hf, hs⟩ := HSI.out i l hbo
                rw [hf, pb_true hbo] at HC
                clear hf hbo
                by_cases hh : HoldP xss i l
                · have hu : (U == 0) = false := by rw [beq_eq_false_iff_ne]; exact fun e => hs.1 e hh
                  have HN := Lib.hid (show pb (StP xss i (l + 1)) = bb by rw [← HB.out]; exact pb_congr ⟨fun h => (StP.succ.1 h).1, fun h => StP.succ.2 ⟨h, .inr hh⟩⟩)
                  clear hs hh hil HB
                  go_wp2_with fail
                  refine HC.out.mono ?_
                  rintro e w2 ⟨rfl, hb⟩
                  have HQ2 := Lib.hid (below_up (below_up HQI.out hb) (below_alloc w2 (.cells #[.int .i64 U, .int .i64 D] 37)))
                  clear hb HC HQI
                  go_wp2
                  go_roundw
                  case rel => exact ⟨l + 1, bb, by omega, by go_num, rfl, HN, HQ2⟩
                  case measure => simp [intOf]; omega
                · have hu : (U == 0) = true := by rw [beq_iff_eq]; exact hs.2 hh
                  have HN := Lib.hid (pb_false (p := StP xss i (l + 1)) (fun h => (StP.succ.1 h).2.elim hil hh))
                  clear hs hh hil HB
                  go_wp2_with fail
                  refine HC.out.mono ?_
                  rintro e w2 ⟨rfl, hb⟩
                  have HQ2 := Lib.hid (below_up (below_up HQI.out hb) (below_alloc w2 (.cells #[.int .i64 U, .int .i64 D] 37)))
                  clear hb HC HQI
                  go_wp2
                  go_roundw
                  case rel => exact ⟨l + 1, false, by omega, by go_num, rfl, HN, HQ2⟩
                  case measure => simp [intOf]; omega
            · obtain rfl : l = k := by omega
              have HQ1 := Lib.hid (below_up HQ.out HQI.out)
              have HC := Lib.hid (isIn_any _ _ _ ys (i : Int) wr (HP0.out.keep (Keep.below HQI.out)))
              rw [show pb (HasN ys (i : Int)) = pb (StP xss i l) from pb_congr (HIN.out i hlt), HB.out] at HC
              have hne : (bb != bb) = false := by simp
              cases bb
              · clear HB hne
                go_wp2_with fail
                refine HC.out.mono ?_
                rintro e w2 ⟨rfl, hq⟩
                have HQ2 := Lib.hid (below_quiet HQ1.out hq)
                clear hq HC HQ1 HQI
                go_wp2
                go_roundw
                case rel => exact ⟨i + 1, by omega, by go_num, HQ2⟩
                case measure => simp [intOf]; omega
              · have HRQ := Lib.hid (pb_true (HRE.out i hlt (pb_iff.1 HB.out)))
                clear HB hne
                go_wp2_with fail
                refine HC.out.mono ?_
                rintro e w2 ⟨rfl, hq⟩
                have HQ2 := Lib.hid (below_quiet HQ1.out hq)
                have HK2 := Lib.hid (below_quiet HQI.out hq)
                clear hq HC HQ1 HQI
                have HC := Lib.hid (onlyOne_any l i w2 (by omega) hlt)
                go_wp2_with fail
                refine HC.out.mono ?_
                rintro e w3 ⟨rfl, ho, hb⟩
                have HQ3 := Lib.hid (below_up HQ2.out hb)
                have HK3 := Lib.hid (below_up HK2.out hb)
                have HO := Lib.hid ho.ints
                clear ho hb HC HQ2 HK2
                have HC := Lib.hid (HRQ.out ▸ IsRest_impl _ _ _ xss _ _ _ (onl l i) w3 (HR0.out.keep (Keep.below HK3.out)) HO.out)
                go_wp2_with fail
                refine HC.out.mono ?_
                rintro e w4 ⟨rfl, hb⟩
                have HQ4 := Lib.hid (below_up HQ3.out hb)
                clear hb HC HQ3 HK3 HO
                go_wp2
                go_roundw
                case rel => exact ⟨i + 1, by omega, by go_num, HQ4⟩
                case measure => simp [intOf]; omega
        · obtain rfl : i = k := by omega
          have HC := Lib.hid (ascends_any _ _ _ ys wr (HP_5.out.keep (Keep.below HQ.out)) HAS.out)
          have HQB := Lib.hid (below_up B_5.out HQ.out)
          go_wp2_with fail
          refine HC.out.mono ?_
          rintro e w2 ⟨rfl, hq⟩
          have HQ2 := Lib.hid (below_quiet HQB.out hq)
          clear hq HC
          go_wp2
          go_ret
          exact ⟨rfl, HQ2.out⟩
    · have HVQ := Lib.hid (pb_false hv)
      clear hv
      have HC := Lib.hid (StableOf_impl _ _ _ xss w1 HR.out)
      go_wp2_with fail
      refine HC.out.mono ?_
      rintro e w2 ⟨A2, n2, c2, g2_, rfl, rfl, ho, hb⟩
      have HR_2 := Lib.hid (HR.out.keep (Keep.below hb))
      have B_2 := Lib.hid (below_up B1.out hb)
      have HP := Lib.hid ho.ints
      clear ho
      clear hb HC HR B1
      have HC := Lib.hid (StableOf_spec _ _ _ xss w2 HR_2.out)
      go_wp2_with fail
      refine HC.out.mono ?_
      rintro e w3 ⟨A3, n3, c3, g3_, rfl, rfl, ho, hb⟩
      have HR_3 := Lib.hid (HR_2.out.keep (Keep.below hb))
      have HP_3 := Lib.hid (HP.out.keep (Keep.below hb))
      have B_3 := Lib.hid (below_up B_2.out hb)
      have HQ_ := Lib.hid ho.ints
      clear ho
      clear hb HC HR_2 HP B_2
      have HC := Lib.hid (HEQ.out ▸ equalInts_any _ _ _ _ _ _ (stF xss) (stF xss) w3 HP_3.out HQ_.out)
      go_wp2_with fail
      refine HC.out.mono ?_
      rintro e w4 ⟨rfl, hq⟩
      have hb := hq.below (B := w3.heap.size)
      have HR_4 := Lib.hid (HR_3.out.keep (Keep.below hb))
      have HP_4 := Lib.hid (HP_3.out.keep (Keep.below hb))
      have HQ__4 := Lib.hid (HQ_.out.keep (Keep.below hb))
      have B_4 := Lib.hid (below_up B_3.out hb)
      clear hb HC hq HR_3 HP_3 HQ_ B_3
      clear HQ__4
      have HC := Lib.hid (HVQ.out ▸ ValidSquare_impl _ _ _ _ w4 HR_4.out)
      go_wp2_with fail
      refine HC.out.mono ?_
      rintro e w5 ⟨rfl, hq⟩
      have hb := hq.below (B := w4.heap.size)
      have HR_5 := Lib.hid (HR_4.out.keep (Keep.below hb))
      have HP_5 := Lib.hid (HP_4.out.keep (Keep.below hb))
      have B_5 := Lib.hid (below_up B_4.out hb)
      clear hb HC hq HR_4 HP_4 B_4
      have HC := Lib.hid (StableOf_spec _ _ _ xss w5 HR_5.out)
      go_wp2_with fail
      refine HC.out.mono ?_
      rintro e w6 ⟨A3, n3, c3, g3_, rfl, rfl, ho, hb⟩
      have HR_6 := Lib.hid (HR_5.out.keep (Keep.below hb))
      have HP_6 := Lib.hid (HP_5.out.keep (Keep.below hb))
      have B_6 := Lib.hid (below_up B_5.out hb)
      have HQ_ := Lib.hid ho.ints
      clear ho
      clear hb HC HR_5 HP_5 B_5
      have HC := Lib.hid (HEQ.out ▸ equalInts_any _ _ _ _ _ _ (stF xss) (stF xss) w6 HP_6.out HQ_.out)
      go_wp2_with fail
      refine HC.out.mono ?_
      rintro e w7 ⟨rfl, hq⟩
      have hb := hq.below (B := w6.heap.size)
      have HR_7 := Lib.hid (HR_6.out.keep (Keep.below hb))
      have HP_7 := Lib.hid (HP_6.out.keep (Keep.below hb))
      have HQ__7 := Lib.hid (HQ_.out.keep (Keep.below hb))
      have B_7 := Lib.hid (below_up B_6.out hb)
      clear hb HC hq HR_6 HP_6 HQ_ B_6
      go_wp2
      go_ret
      exact ⟨rfl, B_7.out⟩

set_option maxRecDepth 100000 in
theorem hFnStableOf_lifted (os : Os) (started : os.Started) (H : Type) (enc : TypeId × Value → H) :
    ReturnsInHanded {} Try.checked os 4 .any (Rows.fnStableOfSpec.pre6 enc Try.prog Try.f4 Rows.fnStableOfRow.domain false) (Rows.fnStableOfSpec.post enc Try.prog Try.f4 false true false false) := by
  refine returnsInHanded_of_change_sized (C := Try.checked) Try.own started (by kernel_rfl) Try.func4
    (ChangeSpec.witness6 (enc := enc) (C := Try.checked) false ⟨#[], #[.slice none 0 0], []⟩ 8 (by kernel_rfl) (by kernel_rfl) (by kernel_rfl) (by kernel_rfl)) ?_
  intro W base args ds gs before hval0 hW _ hwt _
  have hval : ∀ (j : Nat) t v, Try.f4.params[j]? = some t → args[j]? = some v → Value.okWide Try.prog W .any base t v := hval0
  have hA : ∃ p, DataW.TrodAll enc Try.prog W 0 (fun _ => true) true Try.f4.params.toList args.toList ds p := by obtain ⟨p, q, hA0, _⟩ := hW; exact ⟨p, hA0⟩
  obtain ⟨p, hA⟩ := hA
  have hwt' := weights_arg hwt (j := 0) (t := 22) (by rw [Try.params4]; rfl) (d := ds.getD 0 .nil)
  rw [Try.params4] at hA hval
  obtain ⟨v0, d0, rfl, rfl, h0⟩ := trodAll_one hA
  obtain ⟨A, n, c, rfl, hx⟩ := open_bytes (hval 0 22 v0 rfl rfl) h0 (hwt' rfl)
  refine (fnStableOf_calls A n c W hx).mono fun e W' ⟨he, hb⟩ => ?_
  subst he
  exact ⟨_, rfl, law_post (F := Try.f4) rfl rfl (by rw [Try.params4]; simp only [List.mem_cons, List.not_mem_nil, or_false, forall_eq]; exact ⟨by kernel_rfl, of_decide_eq_true (by kernel_rfl)⟩) hW (fun h => by subst h; rfl) hb⟩

theorem hFnStableOf_holds : Rows.FnStableOfSaid :=
  OpenClaim.holds_of_wide 4 Try.f4 rfl rfl rfl rfl rfl rfl rfl ⟨rfl, rfl, rfl, rfl, rfl⟩ rfl rfl rfl rfl rfl (by kernel_rfl) Try.func4
    (by unfold joinedFacts; simp only [Bool.and_eq_true]; (repeat' apply And.intro) <;> (first | (with_reducible exact prog_enters) | ((with_reducible refine prog_lifts ?_); rfl) | ((with_reducible refine prog_make ?_); rfl) | kernel_rfl))
    (of_decide_eq_true (by kernel_rfl)) (by unfold Func.isWrapper; first | (rw [if_pos (by decide +kernel)]; kernel_rfl) | (rw [if_neg (by decide +kernel)]; exact ⟨rfl, rfl⟩))
    (fun os started H enc _ => hFnStableOf_lifted os started H enc)

end Go.Proofs.Ytoekpbcdgmejcaa
