/- The law FnPureRests holds: whatever the bytes, of the game that is drawn from them the program's rests are just the pairs of which replies are none, and with both players exchanged they are turned. No condition. -/
import Derived.Test.YtnonbefeomnbpaaQ11
import Derived.Deep.RegionHeld3
namespace Go.Proofs.Ytnonbefeomnbpaa
open Go.ChangeShapes Go.WideShapes Go.ChangeAt Go.RowKit Go.Deep

/-- What the loops know: the game, and both lists of rests. -/
structure PRw (w : World) (h : Nat) (Aa : Option Addr) (na ca : Nat) (xa : List (List Int)) (Ab : Option Addr) (nb cb : Nat) (xb : List (List Int)) (Ao : Option Addr) (no co : Nat) (ro : List (List Int)) (Ak : Option Addr) (nk ck : Nat) (rk : List (List Int)) (W : World) : Prop where
  gw : GW w h Aa na ca xa Ab nb cb xb W
  ro : IntRows W Ao no co ro
  rk : IntRows W Ak nk ck rk
theorem PRw.up {w h Aa na ca xa Ab nb cb xb Ao no co ro Ak nk ck rk W W'} (o : PRw w h Aa na ca xa Ab nb cb xb Ao no co ro Ak nk ck rk W) (k : Below W.heap.size W W') : PRw w h Aa na ca xa Ab nb cb xb Ao no co ro Ak nk ck rk W' :=
  ⟨o.gw.up k, o.ro.keep (Keep.below k), o.rk.keep (Keep.below k)⟩

set_option maxRecDepth 100000 in
set_option maxHeartbeats 1600000 in
theorem fnPureRests_calls (A : Option Addr) (n c : Nat) (w : World) (hx : Bytes w A n c) :
    Calls Try.prog 5 #[.slice A n c] w fun e w' => e = .returned (.bool true) ∧ Below w.heap.size w w' := by
  have hmx := hx.max
  have H0 := Lib.hid (DrawPureRests_any A n c w hx)
  clear hx
  by_cases hs : 1048576 < n
  · go_enter Try.func5, Try.ntmps5
    go_wp2
    go_ret
    exact ⟨rfl, Below.refl _ _⟩
  go_enter Try.func5, Try.ntmps5
  go_wp2_with fail
  refine H0.out.mono ?_
  rintro e w1 ⟨Aa, na, ca, xa, Ab, nb, cb, xb, rfl, sa, sb, ra, rb, hb⟩
  have HSA := Lib.hid sa
  have HSB := Lib.hid sb
  have HLA := Lib.hid ra.len
  have HLB := Lib.hid rb.len
  have HG := Lib.hid (GW.start hb ra rb)
  clear sa sb ra rb hb H0
  have c0 := HG.out.cells.1
  have c1 := HG.out.cells.2
  have HC := Lib.hid (PureRests_impl Aa Ab na ca nb cb xa xb _ HG.out.ra HG.out.rb)
  go_wp2_with fail
  generalize w1.alloc (.cells #[.slice Aa na ca, .slice Ab nb cb] 29) = W1 at *
  generalize w1.heap.size = h at *
  refine HC.out.mono ?_
  rintro e w2 ⟨Ao, _, co, go, rfl, rfl, oo, hb⟩
  have HG2 := Lib.hid (HG.out.up hb)
  have HO2 := Lib.hid oo.rows
  clear hb HC HG c0 c1 oo
  have c0 := HG2.out.cells.1
  have c1 := HG2.out.cells.2
  have HC := Lib.hid (PureRests_spec Aa Ab na ca nb cb xa xb _ HG2.out.ra HG2.out.rb)
  go_wp2_with fail
  refine HC.out.mono ?_
  rintro e w3 ⟨Au, _, cu, gu, rfl, rfl, ou, hb⟩
  have HG3 := Lib.hid (HG2.out.up hb)
  have HO3 := Lib.hid (HO2.out.keep (Keep.below hb))
  have HU3 := Lib.hid ou.rows
  clear hb HC HG2 HO2 c0 c1 ou
  have HEQ := Lib.hid (show eqRR (pureR xa xb) (pureR xa xb) = true by simp [eqRR])
  have HC := Lib.hid (HEQ.out ▸ equalRows_any _ _ _ _ _ _ _ _ _ HO3.out HU3.out)
  go_wp2_with fail
  refine HC.out.mono ?_
  rintro e w4 ⟨rfl, hq⟩
  have HG4 := Lib.hid (HG3.out.up hq.below)
  have HO4 := Lib.hid (HO3.out.keep (Keep.quiet hq))
  clear hq HC HG3 HO3 HU3
  have c0 := HG4.out.cells.1
  have c1 := HG4.out.cells.2
  by_cases hv : VG xa xb
  · have HV := Lib.hid hv
    have HC := Lib.hid (pb_true hv ▸ ValidGame_impl Aa Ab na ca nb cb xa xb _ HG4.out.ra HG4.out.rb)
    have HVF := Lib.hid hv.flip2
    have HFL := Lib.hid (pureR_flip_len hv)
    clear hv
    go_wp2_with fail
    refine HC.out.mono ?_
    rintro e w5 ⟨rfl, hb⟩
    have HE := Lib.hid ((HG4.out.up hb).up ((Below.refl _ _).drew))
    have HO5 := Lib.hid ((HO4.out.keep (Keep.below hb)).keep (Keep.drewN w5 1))
    clear hb HC HG4 HO4 c0 c1
    have HFB := Lib.hid (fun W (r : IntRows W Ab nb cb xb) => flipped_any Ab nb cb (gr xb 0).length xb W r HSB.out (by have := HLB.out; have := HV.out.tb.n1; omega) HV.out.tb.even)
    have HFA := Lib.hid (fun W (r : IntRows W Aa na ca xa) => flipped_any Aa na ca (gr xa 0).length xa W r HSA.out (by have := HLA.out; have := HV.out.ta.n1; omega) HV.out.ta.even)
    rw [HLB.out, HLA.out] at HVF HFL
    go_wp2_with fail
    go_region_held3 (fun W => W.cell? ⟨h, 0, none⟩ = some (.slice Aa na ca) ∧ W.cell? ⟨h, 1, none⟩ = some (.slice Ab nb cb)) (first | exact HM.out.gw.cells | exact HK.out.cells | exact HF.out.cells | exact HE.out.cells)
      (first
      | (go_at_call 17; refine (HFB.out _ HE.out.rb).mono ?_; rintro e w8 ⟨A2, n2, c2, g2_, rfl, hn2, ho, hb⟩; have HF := Lib.hid (HE.out.up hb); have HO8 := Lib.hid (HO5.out.keep (Keep.below hb)); have R2 := Lib.hid ho.rows; clear hn2 ho hb HE HO5)
      | (go_at_call 17; refine (HFA.out _ HF.out.ra).mono ?_; rintro e w9 ⟨A3, n3, c3, g3, rfl, hn3, ho, hb⟩; have HK := Lib.hid (HF.out.up hb); have HO9 := Lib.hid (HO8.out.keep (Keep.below hb)); have R3 := Lib.hid ho.rows; have R4 := Lib.hid (R2.out.keep (Keep.below hb)); clear hn3 ho hb HF R2 HO8)
      | (go_at_call 23; refine (PureRests_impl A2 A3 n2 c2 n3 c3 _ _ _ R4.out R3.out).mono ?_; rintro e w10 ⟨Ak, _, ck, gk, rfl, rfl, ok, hb⟩; have HM := Lib.hid (PRw.mk (HK.out.up hb) (HO9.out.keep (Keep.below hb)) ok.rows); clear hb HK HO9 R3 R4 ok))
    have hn1 := HV.out.ta.n1
    have hn3_ := HV.out.ta.n3
    have hm1 := HV.out.ta.m1
    have hm3_ := HV.out.ta.m3
    rw [HLA.out] at hn1 hn3_
    have HRI : Hid (∀ i j, i < na → j < (gr xa 0).length → (([(i : Int), (j : Int)] ∈ pureR xa xb) ↔ RestAt xa xb na (gr xa 0).length i j)) := Lib.hid (fun i j hi hj => by rw [pureR_mem HV.out (by rw [HLA.out]; exact hi) hj, HLA.out])
    have HRP : Hid (∀ i j : Nat, i < na → j < (gr xa 0).length → (repF xa xb i j = [] ↔ RestAt xa xb na (gr xa 0).length i j)) := Lib.hid (fun i j hi hj => by rw [repF_rest HV.out (by rw [HLA.out]; exact hi) hj, HLA.out])
    have HRK : Hid (∀ i j, i < na → j < (gr xa 0).length → (([(j : Int), (i : Int)] ∈ pureR (flip xb nb (gr xb 0).length) (flip xa na (gr xa 0).length)) ↔ RestAt xa xb na (gr xa 0).length i j)) := Lib.hid (fun i j hi hj => by
      have e1 : nb = na := by rw [← HLA.out, ← HLB.out]; exact HV.out.n.symm
      have e2 := HV.out.m
      have h1 := HV.out.tb.m1
      have hl : (flip xb nb (gr xb 0).length).length = (gr xa 0).length := by rw [flip_len]; exact e2.symm
      have hl0 : (gr (flip xb nb (gr xb 0).length) 0).length = na := by rw [gr_flip h1]; simp [e1]
      rw [pureR_mem HVF.out (by rw [hl]; exact hj) (by rw [hl0]; exact hi), hl, hl0, e1, ← e2]
      exact rest_flip hi hj)
    generalize pureR (flip xb nb (gr xb 0).length) (flip xa na (gr xa 0).length) = rk at *
    generalize hmm : (gr xa 0).length = m at *
    have HMM := Lib.hid hmm
    clear hmm
    generalize pureR xa xb = ro at *
    clear HFA HFB HVF HEQ
    go_wp2
    obtain ⟨W0, hW0⟩ : ∃ W0, W0 = w10 := ⟨_, rfl⟩
    go_loopw [6] (fun s wr => ∃ i : Nat, i ≤ na ∧ s = .int .i64 i ∧ Hid (PRw w h Aa na ca xa Ab nb cb xb Ao ro.length co ro Ak rk.length ck rk wr)) (fun s _ => na - (intOf s).toNat)
    case atStart => exact ⟨0, Nat.zero_le _, rfl, by first | exact HM | exact Lib.hid (HM.out.up (Quiet.below ⟨_, rfl⟩))⟩
    case round =>
      clear HM hW0
      obtain ⟨i, hi, rfl, HM⟩ := hrel
      have c0 := HM.out.gw.cells.1
      by_cases hin : i < na
      · go_wp2
        clear c0
        go_loopw [7] (fun s wj => ∃ j : Nat, j ≤ m ∧ s = .int .i64 j ∧ Hid (PRw w h Aa na ca xa Ab nb cb xb Ao ro.length co ro Ak rk.length ck rk wj)) (fun s _ => m - (intOf s).toNat)
        case atStart => exact ⟨0, Nat.zero_le _, rfl, HM⟩
        case round =>
          clear HM
          obtain ⟨j, hj, rfl, HM⟩ := hrel
          have c0 := HM.out.gw.cells.1
          have c1 := HM.out.gw.cells.2
          obtain ⟨bA, oA, hAa, hcA⟩ := HM.out.gw.ra.at_ (by omega)
          obtain ⟨R0, cc0, r0, -⟩ := hcA 0 (by omega)
          rw [hAa] at c0
          have HAA := Lib.hid hAa
          rw [HMM.out] at r0
          simp only [Nat.add_zero] at r0
          clear hcA hAa
          by_cases hjm : j < m
          · have HI := Lib.hid (Ints.two wr (i : Int) (j : Int))
            have HM2 := Lib.hid (HM.out.up (below_alloc wr (.cells #[iv (i : Int), iv (j : Int)] 3)))
            by_cases hr : RestAt xa xb na m i j
            · have HE0 := Lib.hid ((HRP.out i j hin hjm).2 hr)
              have HC := Lib.hid (pb_true ((HRI.out i j hin hjm).2 hr) ▸ inRows_any Ao _ _ co _ _ ro [(i : Int), (j : Int)] _ HM2.out.ro HI.out)
              have HKM := Lib.hid (pb_true ((HRK.out i j hin hjm).2 hr))
              clear HI
              go_wp2_with fail
              refine HC.out.mono ?_
              rintro e w5 ⟨rfl, hq⟩
              have HM3 := Lib.hid (HM2.out.up hq.below)
              clear hq HC HM2 HM c0 c1 r0
              have c0 := HM3.out.gw.cells.1
              have c1 := HM3.out.gw.cells.2
              have HC := Lib.hid (HE0.out ▸ ReplyMoves_impl Aa Ab na ca nb cb xa xb (i : Int) (j : Int) _ HM3.out.gw.ra HM3.out.gw.rb (by unfold Fit; omega) (by unfold Fit; omega))
              go_wp2_with fail
              refine HC.out.mono ?_
              rintro e w6 ⟨Am, nm, cm, gm, rfl, hnm, -, hb⟩
              simp only [List.length_nil] at hnm
              subst hnm
              have HM4 := Lib.hid (HM3.out.up hb)
              clear hb HC HM3 c0 c1
              have HI := Lib.hid (Ints.two w6 (j : Int) (i : Int))
              have HM5 := Lib.hid (HM4.out.up (below_alloc w6 (.cells #[iv (j : Int), iv (i : Int)] 3)))
              have HC := Lib.hid (HKM.out ▸ inRows_any Ak _ _ ck _ _ rk [(j : Int), (i : Int)] _ HM5.out.rk HI.out)
              clear HI HM4
              go_wp2_with fail
              refine HC.out.mono ?_
              rintro e w7 ⟨rfl, hq⟩
              have HM6 := Lib.hid (HM5.out.up hq.below)
              clear hq HC HM5
              go_wp2
              go_roundw
              case rel => exact ⟨j + 1, by omega, by go_num, HM6⟩
              case measure => simp [intOf]; omega
            · have HE0 := Lib.hid (fun e => hr ((HRP.out i j hin hjm).1 e))
              have HC := Lib.hid (pb_false (fun e => hr ((HRI.out i j hin hjm).1 e)) ▸ inRows_any Ao _ _ co _ _ ro [(i : Int), (j : Int)] _ HM2.out.ro HI.out)
              have HKM := Lib.hid (pb_false (fun e => hr ((HRK.out i j hin hjm).1 e)))
              clear HI
              go_wp2_with fail
              refine HC.out.mono ?_
              rintro e w5 ⟨rfl, hq⟩
              have HM3 := Lib.hid (HM2.out.up hq.below)
              clear hq HC HM2 HM c0 c1 r0
              have c0 := HM3.out.gw.cells.1
              have c1 := HM3.out.gw.cells.2
              have HC := Lib.hid (ReplyMoves_impl Aa Ab na ca nb cb xa xb (i : Int) (j : Int) _ HM3.out.gw.ra HM3.out.gw.rb (by unfold Fit; omega) (by unfold Fit; omega))
              go_wp2_with fail
              refine HC.out.mono ?_
              rintro e w6 ⟨Am, nm, cm, gm, rfl, hnm, hom, hb⟩
              have hnm1 : ((nm : Int) == 0) = false := by
                rw [beq_eq_false_iff_ne]
                intro e0
                exact HE0.out (List.eq_nil_of_length_eq_zero (by omega))
              have hmx := hom.rows.max
              have HM4 := Lib.hid (HM3.out.up hb)
              clear hb HC HM3 c0 c1 hnm hom
              have HI := Lib.hid (Ints.two w6 (j : Int) (i : Int))
              have HM5 := Lib.hid (HM4.out.up (below_alloc w6 (.cells #[iv (j : Int), iv (i : Int)] 3)))
              have HC := Lib.hid (HKM.out ▸ inRows_any Ak _ _ ck _ _ rk [(j : Int), (i : Int)] _ HM5.out.rk HI.out)
              clear HI HM4
              go_wp2_with fail
              refine HC.out.mono ?_
              rintro e w7 ⟨rfl, hq⟩
              have HM6 := Lib.hid (HM5.out.up hq.below)
              clear hq HC HM5
              go_wp2
              go_roundw
              case rel => exact ⟨j + 1, by omega, by go_num, HM6⟩
              case measure => simp [intOf]; omega
          · go_wp2
            go_roundw
            case rel => exact ⟨i + 1, by omega, by go_num, HM⟩
            case measure => simp [intOf]; omega
      · have hfl : ((ro.length : Int) == (rk.length : Int)) = true := by rw [HFL.out]; simp
        go_wp2
        go_ret
        exact ⟨rfl, HM.out.gw.below⟩
  · have HP0 := Lib.hid (show pureR xa xb = [] by rw [pureR, pb_false hv]; rfl)
    have HC := Lib.hid (pb_false hv ▸ ValidGame_impl Aa Ab na ca nb cb xa xb _ HG4.out.ra HG4.out.rb)
    clear hv
    go_wp2_with fail
    refine HC.out.mono ?_
    rintro e w5 ⟨rfl, hb⟩
    have HG5 := Lib.hid (HG4.out.up hb)
    have HO5 := Lib.hid (HO4.out.keep (Keep.below hb))
    clear hb HC HG4 HO4 c0 c1
    have c0 := HG5.out.cells.1
    have c1 := HG5.out.cells.2
    have HC := Lib.hid (PureRests_spec Aa Ab na ca nb cb xa xb _ HG5.out.ra HG5.out.rb)
    go_wp2_with fail
    refine HC.out.mono ?_
    rintro e w6 ⟨Av, _, cv, gv, rfl, rfl, ov, hb⟩
    have HG6 := Lib.hid (HG5.out.up hb)
    have HO6 := Lib.hid (HO5.out.keep (Keep.below hb))
    have HU6 := Lib.hid ov.rows
    clear hb HC HG5 HO5 c0 c1 ov
    have HC := Lib.hid (HEQ.out ▸ equalRows_any _ _ _ _ _ _ _ _ _ HO6.out HU6.out)
    go_wp2_with fail
    refine HC.out.mono ?_
    rintro e w7 ⟨rfl, hq⟩
    have HG7 := Lib.hid (HG6.out.up hq.below)
    clear hq HC HG6 HO6 HU6
    go_wp2
    go_ret
    exact ⟨rfl, HG7.out.below⟩

set_option maxRecDepth 100000 in
theorem hFnPureRests_lifted (os : Os) (started : os.Started) (H : Type) (enc : TypeId × Value → H) :
    ReturnsInHanded {} Try.checked os 5 .any (Rows.fnPureRestsSpec.pre6 enc Try.prog Try.f5 Rows.fnPureRestsRow.domain false) (Rows.fnPureRestsSpec.post enc Try.prog Try.f5 false true false false) := by
  refine returnsInHanded_of_change_sized (C := Try.checked) Try.own started (by kernel_rfl) Try.func5
    (ChangeSpec.witness6 (enc := enc) (C := Try.checked) false ⟨#[], #[.slice none 0 0], []⟩ 8 (by kernel_rfl) (by kernel_rfl) (by kernel_rfl) (by kernel_rfl)) ?_
  intro W base args ds gs before hval0 hW _ hwt _
  have hval : ∀ (j : Nat) t v, Try.f5.params[j]? = some t → args[j]? = some v → Value.okWide Try.prog W .any base t v := hval0
  have hA : ∃ p, DataW.TrodAll enc Try.prog W 0 (fun _ => true) true Try.f5.params.toList args.toList ds p := by obtain ⟨p, q, hA0, _⟩ := hW; exact ⟨p, hA0⟩
  obtain ⟨p, hA⟩ := hA
  have hwt' := weights_arg hwt (j := 0) (t := 22) (by rw [Try.params5]; rfl) (d := ds.getD 0 .nil)
  rw [Try.params5] at hA hval
  obtain ⟨v0, d0, rfl, rfl, h0⟩ := trodAll_one hA
  obtain ⟨A, n, c, rfl, hx⟩ := open_bytes (hval 0 22 v0 rfl rfl) h0 (hwt' rfl)
  refine (fnPureRests_calls A n c W hx).mono fun e W' ⟨he, hb⟩ => ?_
  subst he
  exact ⟨_, rfl, law_post (F := Try.f5) rfl rfl (by rw [Try.params5]; simp only [List.mem_cons, List.not_mem_nil, or_false, forall_eq]; exact ⟨by kernel_rfl, of_decide_eq_true (by kernel_rfl)⟩) hW (fun h => by subst h; rfl) hb⟩

theorem hFnPureRests_holds : Rows.FnPureRestsSaid :=
  OpenClaim.holds_of_wide 5 Try.f5 rfl rfl rfl rfl rfl rfl rfl ⟨rfl, rfl, rfl, rfl, rfl⟩ rfl rfl rfl rfl rfl (by kernel_rfl) Try.func5
    (by unfold joinedFacts; simp only [Bool.and_eq_true]; (repeat' apply And.intro) <;> (first | (with_reducible exact prog_enters) | ((with_reducible refine prog_lifts ?_); rfl) | ((with_reducible refine prog_make ?_); rfl) | kernel_rfl))
    (of_decide_eq_true (by kernel_rfl)) (by unfold Func.isWrapper; first | (rw [if_pos (by decide +kernel)]; kernel_rfl) | (rw [if_neg (by decide +kernel)]; exact ⟨rfl, rfl⟩))
    (fun os started H enc _ => hFnPureRests_lifted os started H enc)

end Go.Proofs.Ytnonbefeomnbpaa
