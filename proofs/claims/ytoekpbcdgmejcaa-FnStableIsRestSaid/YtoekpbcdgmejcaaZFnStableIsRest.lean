/- The law FnStableIsRest holds: for every code, of what it draws, the program tells the stable strategies as the model does, and each of them, alone, is one of the rests, and twice one of the pure rests of two who play the table. No condition. -/
import Derived.Test.YtoekpbcdgmejcaaQ10
import Derived.Deep.RegionHeld3
namespace Go.Proofs.Ytoekpbcdgmejcaa
open Go.ChangeShapes Go.WideShapes Go.ChangeAt Go.RowKit Go.Deep

set_option maxRecDepth 100000 in
set_option maxHeartbeats 3200000 in
theorem fnStableIsRest_calls (A : Option Addr) (n c : Nat) (w : World) (hx : Bytes w A n c) :
    Calls Try.prog 3 #[.slice A n c] w fun e w' => e = .returned (.bool true) ∧ Below w.heap.size w w' := by
  have hmx := hx.max
  have H0 := Lib.hid (DrawStableOf_any A n c w hx)
  clear hx
  by_cases hs : 1048576 < n
  · go_enter Try.func3, Try.ntmps3
    go_wp2
    go_ret
    exact ⟨rfl, Below.refl _ _⟩
  · go_enter Try.func3, Try.ntmps3
    go_wp2_with fail
    refine H0.out.mono ?_
    rintro e w1 ⟨Av, k, cv, gg, xss, rfl, hsm, hown, hb⟩
    have HS := Lib.hid hsm
    have HR := Lib.hid hown.rows
    have B1 := Lib.hid hb
    have LX := Lib.hid hown.rows.len
    clear hsm hown hb H0
    have HEQ := Lib.hid (show eqI (stF xss) (stF xss) = true by simp [eqI])
    have HRL := Lib.hid (resF_len xss)
    have hsl := stF_len xss
    have HC := Lib.hid (StableOf_impl _ _ _ xss w1 HR.out)
    go_wp2_with fail
    refine HC.out.mono ?_
    rintro e w2 ⟨A2, n2, c2, g2_, rfl, rfl, ho, hb⟩
    have HR_2 := Lib.hid (HR.out.keep (Keep.below hb))
    have B_2 := Lib.hid (below_up B1.out hb)
    have HP := Lib.hid ho.ints
    clear ho
    clear hb HC HR B1
    have HC := Lib.hid (StableOf_spec _ _ _ xss w2 HR_2.out)
    go_wp2_with fail
    refine HC.out.mono ?_
    rintro e w3 ⟨A3, n3, c3, g3_, rfl, rfl, ho, hb⟩
    have HR_3 := Lib.hid (HR_2.out.keep (Keep.below hb))
    have HP_3 := Lib.hid (HP.out.keep (Keep.below hb))
    have B_3 := Lib.hid (below_up B_2.out hb)
    have HQ_ := Lib.hid ho.ints
    clear ho
    clear hb HC HR_2 HP B_2
    have HC := Lib.hid (HEQ.out ▸ equalInts_any _ _ _ _ _ _ (stF xss) (stF xss) w3 HP_3.out HQ_.out)
    go_wp2_with fail
    refine HC.out.mono ?_
    rintro e w4 ⟨rfl, hq⟩
    have hb := hq.below (B := w3.heap.size)
    have HR_4 := Lib.hid (HR_3.out.keep (Keep.below hb))
    have HP_4 := Lib.hid (HP_3.out.keep (Keep.below hb))
    have HQ__4 := Lib.hid (HQ_.out.keep (Keep.below hb))
    have B_4 := Lib.hid (below_up B_3.out hb)
    clear hb HC hq HR_3 HP_3 HQ_ B_3
    clear HP_4
    clear HQ__4
    have HC := Lib.hid (StableOf_impl _ _ _ xss w4 HR_4.out)
    go_wp2_with fail
    refine HC.out.mono ?_
    rintro e w5 ⟨A4, n4, c4, g4_, rfl, rfl, ho, hb⟩
    have HR_5 := Lib.hid (HR_4.out.keep (Keep.below hb))
    have B_5 := Lib.hid (below_up B_4.out hb)
    have HI := Lib.hid ho.ints
    clear ho
    clear hb HC HR_4 B_4
    by_cases h0 : (stF xss).length = 0
    · have h0' : (((stF xss).length : Int) == 0) = true := by rw [beq_iff_eq]; omega
      have H0_ := Lib.hid h0
      clear h0
      go_wp2
      go_ret
      exact ⟨rfl, B_5.out⟩
    have h0' : (((stF xss).length : Int) == 0) = false := by rw [beq_eq_false_iff_ne]; omega
    have hv : VQ xss := by
      apply Classical.byContradiction; intro hn
      apply h0; unfold stF; rw [if_neg (by rw [pb_false hn]; decide)]; rfl
    have hk : 0 < k := by rw [← LX.out]; exact hv.1.n1
    have hk3 : k ≤ 3 := by rw [← LX.out]; exact hv.1.n3
    have HEV := Lib.hid (hv.even LX.out)
    have HST := Lib.hid (fun q (hq : q < (stF xss).length) => show ∃ i, i < k ∧ gi (stF xss) q = (i : Int) ∧ onl k i ∈ resF xss ∧ [(i : Int), (i : Int)] ∈ pureR xss (flip xss k k) by
      obtain ⟨i, hi, hs, e⟩ := stF_at hv hq
      have h1 := (rest_one hv hi).1 (st_rest hv hi hs)
      have h2 := st_pair hv hi hs
      rw [LX.out] at hi h1 h2
      exact ⟨i, hi, e, h1, h2⟩)
    clear hv h0
    have HC := Lib.hid (RestsOn_impl _ _ _ xss w5 HR_5.out)
    go_wp2_with fail
    refine HC.out.mono ?_
    rintro e w6 ⟨A5, n5, c5, g5_, rfl, rfl, ho, hb⟩
    have HR_6 := Lib.hid (HR_5.out.keep (Keep.below hb))
    have HI_6 := Lib.hid (HI.out.keep (Keep.below hb))
    have B_6 := Lib.hid (below_up B_5.out hb)
    have HRR := Lib.hid ho.rows
    clear ho
    clear hb HC HR_5 HI B_5
    have HC := Lib.hid (flipped_any _ _ _ k xss w6 HR_6.out HS.out hk HEV.out)
    go_wp2_with fail
    refine HC.out.mono ?_
    rintro e w7 ⟨A6, n6, c6, g6_, rfl, hn6, hown, hb⟩
    have HR_7 := Lib.hid (HR_6.out.keep (Keep.below hb))
    have HI_7 := Lib.hid (HI_6.out.keep (Keep.below hb))
    have HRR_7 := Lib.hid (HRR.out.keep (Keep.below hb))
    have B_7 := Lib.hid (below_up B_6.out hb)
    have HF := Lib.hid hown.rows
    clear hown hn6
    clear hb HC HR_6 HI_6 HRR B_6
    have HC := Lib.hid (PureRests_impl _ A6 k cv n6 c6 xss (flip xss k k) w7 HR_7.out HF.out)
    go_wp2_with fail
    refine HC.out.mono ?_
    rintro e w8 ⟨Ar, nr, cr, gR, rfl, rfl, ho, hb⟩
    have HR_8 := Lib.hid (HR_7.out.keep (Keep.below hb))
    have HI_8 := Lib.hid (HI_7.out.keep (Keep.below hb))
    have HRR_8 := Lib.hid (HRR_7.out.keep (Keep.below hb))
    have HF_8 := Lib.hid (HF.out.keep (Keep.below hb))
    have B_8 := Lib.hid (below_up B_7.out hb)
    have HPR := Lib.hid ho.rows
    clear ho
    clear hb HC HR_7 HI_7 HRR_7 HF B_7
    clear HF_8
    have hpl : (pureR xss (flip xss k k)).length ≤ 9 := pureR_len
    have hrl := HRL.out
    generalize pureR xss (flip xss k k) = ps at *
    generalize resF xss = rs at *
    generalize stF xss = ys at *
    go_wp2
    go_loopw [7] (fun j wr => ∃ q : Nat, q ≤ ys.length ∧ j = .int .i64 q ∧ Hid (Below w8.heap.size w8 wr)) (fun j _ => ys.length - (intOf j).toNat)
    case atStart => exact ⟨0, Nat.zero_le _, rfl, Lib.hid (Below.refl _ _)⟩
    case round =>
      obtain ⟨q, hq, rfl, HQ⟩ := hrel
      by_cases hlt : q < ys.length
      · obtain ⟨i, hi, hgi, hm1, hm2⟩ := HST.out q hlt
        obtain ⟨b, o, rfl, hc⟩ := (HI_8.out.keep (Keep.below HQ.out)).at_ (by omega)
        have c1 := hc q hlt
        rw [hgi] at c1
        have HC1 := Lib.hid c1
        have HK0 := Lib.hid (show Keep wr wr.drew from Keep.drewN wr 1)
        have HRK := Lib.hid (HRR_8.out.keep (Keep.below HQ.out))
        have HPK := Lib.hid (HPR.out.keep (Keep.below HQ.out))
        have HP1 := Lib.hid (pb_true hm1)
        have HP2 := Lib.hid (pb_true hm2)
        have hqi : (q : Int) < (ys.length : Int) := by omega
        clear hc hgi hm1 hm2
        go_wp2
        go_region_held3 (fun W => W.cell? ⟨b, o + q, none⟩ = some (.int .i64 i)) (first | exact S3.out | exact S2.out | exact S1.out | exact HC1.out | go_keep)
          (first
          | (go_at_call 19; (with_reducible refine (onlyOne_any k i _ (by omega) hi).mono ?_); rintro e v1 ⟨rfl, ho, hb⟩; have HO := Lib.hid (show Ints v1 (some ⟨wr.heap.size, 0, none⟩) k k (onl k i) from ho.ints); have S1 := Lib.hid (Keep.below hb _ _ HC1.out); have D1 := Lib.hid (below_up HQ.out.drew hb); have K1 := Lib.hid (Keep.trans HK0.out (Keep.below hb)); clear ho hb)
          | (go_at_call 18; (with_reducible refine (HP1.out ▸ inRows_any _ _ _ _ _ _ rs (onl k i) _ (HRK.out.keep K1.out) HO.out).mono ?_); rintro e v2 ⟨rfl, hq⟩; have hb := hq.below (B := v1.heap.size); have S2 := Lib.hid (Keep.below hb _ _ S1.out); have D2 := Lib.hid (below_up D1.out hb); have K2 := Lib.hid (Keep.trans K1.out (Keep.below hb)); have HTW := Lib.hid (show Ints (v2.alloc (.cells #[.int .i64 (i : Int), .int .i64 (i : Int)] 3)) (some ⟨v2.heap.size, 0, none⟩) 2 2 [(i : Int), (i : Int)] from Ints.two v2 i i); have HBW := Lib.hid (below_alloc v2 (.cells #[.int .i64 (i : Int), .int .i64 (i : Int)] 3)); clear hq hb)
          | (go_at_call 18; (with_reducible refine (HP2.out ▸ inRows_any _ _ _ _ _ _ ps [(i : Int), (i : Int)] _ (HPK.out.keep (Keep.trans K2.out (Keep.below HBW.out))) HTW.out).mono ?_); rintro e v3 ⟨rfl, hq⟩; have hb := hq.below (B := v2.heap.size); have S3 := Lib.hid (Keep.quiet hq _ _ (Keep.below HBW.out _ _ S2.out)); have D3 := Lib.hid (below_up D2.out (below_quiet HBW.out hq)); clear hq hb))
        all_goals
          go_wp2
          go_roundw
          case rel => exact ⟨q + 1, by omega, by go_num, D3⟩
          case measure => simp [intOf]; omega
      · obtain rfl : q = ys.length := by omega
        have HQB := Lib.hid (below_up B_8.out HQ.out)
        go_wp2
        go_ret
        exact ⟨rfl, HQB.out⟩

set_option maxRecDepth 100000 in
theorem hFnStableIsRest_lifted (os : Os) (started : os.Started) (H : Type) (enc : TypeId × Value → H) :
    ReturnsInHanded {} Try.checked os 3 .any (Rows.fnStableIsRestSpec.pre6 enc Try.prog Try.f3 Rows.fnStableIsRestRow.domain false) (Rows.fnStableIsRestSpec.post enc Try.prog Try.f3 false true false false) := by
  refine returnsInHanded_of_change_sized (C := Try.checked) Try.own started (by kernel_rfl) Try.func3
    (ChangeSpec.witness6 (enc := enc) (C := Try.checked) false ⟨#[], #[.slice none 0 0], []⟩ 8 (by kernel_rfl) (by kernel_rfl) (by kernel_rfl) (by kernel_rfl)) ?_
  intro W base args ds gs before hval0 hW _ hwt _
  have hval : ∀ (j : Nat) t v, Try.f3.params[j]? = some t → args[j]? = some v → Value.okWide Try.prog W .any base t v := hval0
  have hA : ∃ p, DataW.TrodAll enc Try.prog W 0 (fun _ => true) true Try.f3.params.toList args.toList ds p := by obtain ⟨p, q, hA0, _⟩ := hW; exact ⟨p, hA0⟩
  obtain ⟨p, hA⟩ := hA
  have hwt' := weights_arg hwt (j := 0) (t := 22) (by rw [Try.params3]; rfl) (d := ds.getD 0 .nil)
  rw [Try.params3] at hA hval
  obtain ⟨v0, d0, rfl, rfl, h0⟩ := trodAll_one hA
  obtain ⟨A, n, c, rfl, hx⟩ := open_bytes (hval 0 22 v0 rfl rfl) h0 (hwt' rfl)
  refine (fnStableIsRest_calls A n c W hx).mono fun e W' ⟨he, hb⟩ => ?_
  subst he
  exact ⟨_, rfl, law_post (F := Try.f3) rfl rfl (by rw [Try.params3]; simp only [List.mem_cons, List.not_mem_nil, or_false, forall_eq]; exact ⟨by kernel_rfl, of_decide_eq_true (by kernel_rfl)⟩) hW (fun h => by subst h; rfl) hb⟩

theorem hFnStableIsRest_holds : Rows.FnStableIsRestSaid :=
  OpenClaim.holds_of_wide 3 Try.f3 rfl rfl rfl rfl rfl rfl rfl ⟨rfl, rfl, rfl, rfl, rfl⟩ rfl rfl rfl rfl rfl (by kernel_rfl) Try.func3
    (by unfold joinedFacts; simp only [Bool.and_eq_true]; (repeat' apply And.intro) <;> (first | (with_reducible exact prog_enters) | ((with_reducible refine prog_lifts ?_); rfl) | ((with_reducible refine prog_make ?_); rfl) | kernel_rfl))
    (of_decide_eq_true (by kernel_rfl)) (by unfold Func.isWrapper; first | (rw [if_pos (by decide +kernel)]; kernel_rfl) | (rw [if_neg (by decide +kernel)]; exact ⟨rfl, rfl⟩))
    (fun os started H enc _ => hFnStableIsRest_lifted os started H enc)

end Go.Proofs.Ytoekpbcdgmejcaa
