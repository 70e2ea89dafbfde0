/- The law FnEvenHasPotential holds: whatever the bytes, of two who play the table that is drawn from them, if it is even, the program's potential is the table less its first number. No condition. -/
import Derived.Test.YtbpjblefmammcaaQ9
namespace Go.Proofs.Ytbpjblefmammcaa
open Go.ChangeShapes Go.WideShapes Go.ChangeAt Go.RowKit Go.Deep

set_option maxRecDepth 100000 in
set_option maxHeartbeats 3200000 in
theorem fnEvenHasPotential_calls (A : Option Addr) (n c : Nat) (w : World) (hx : Bytes w A n c) :
    Calls Try.prog 9 #[.slice A n c] w fun e w' => e = .returned (.bool true) ∧ Below w.heap.size w w' := by
  have hmx := hx.max
  have H0 := Lib.hid (DrawIsEven_any A n c w hx)
  clear hx
  by_cases hs : 1048576 < n
  · go_enter Try.func9, Try.ntmps9
    go_wp2
    go_ret
    exact ⟨rfl, Below.refl _ _⟩
  go_enter Try.func9, Try.ntmps9
  go_wp2_with fail
  refine H0.out.mono ?_
  rintro e w1 ⟨Av, k, cv, gg, a, rfl, hsm, hown, hb⟩
  have HS := Lib.hid hsm
  have HR1 := Lib.hid hown.rows
  have B1 := Lib.hid hb
  have LX := Lib.hid hown.rows.len
  clear hsm hown hb H0
  by_cases hev : EvP a
  · have HE := Lib.hid hev
    have hk : 0 < k := by rw [← LX.out]; exact hev.q.1.n1
    have hk3 : k ≤ 3 := by rw [← LX.out]; exact hev.q.1.n3
    have HEV := Lib.hid (hev.q.even LX.out)
    have HPF := Lib.hid (show potF a (flip a k k) = potT a (flip a k k) k k ∧ pb (PotP a (flip a k k)) = true by
      have h := ev_pot hev
      rw [LX.out] at h
      rw [potF_yes h, pb_true h, hev.q.m rfl, LX.out]; exact ⟨rfl, rfl⟩)
    have HNM : Hid (∀ i j, i < k → j < k → pC a (flip a k k) i j = g2 a i j - g2 a 0 0) := Lib.hid (fun i j hi hj => by
      have h := ev_num hev (i := i) (j := j) (by rw [LX.out]; exact hi) (by rw [LX.out]; exact hj)
      rw [LX.out] at h; exact h)
    have HBD : Hid (∀ i j, i < k → j < k → -9 ≤ g2 a i j ∧ g2 a i j ≤ 9) := Lib.hid (fun i j hi hj => hev.q.1.bd (by rw [LX.out]; exact hi) (by rw [hev.q.m rfl, LX.out]; exact hj))
    have HLN : Hid (∀ i, i < k → (gr a i).length = k) := Lib.hid (fun i hi => by rw [(hev.q.1.rows i (by rw [LX.out]; exact hi)).1, hev.q.m rfl, LX.out])
    clear hev
    have HC := Lib.hid (pb_true HE.out ▸ IsEven_impl _ _ _ _ w1 HR1.out)
    go_wp2_with fail
    refine HC.out.mono ?_
    rintro e w2 ⟨rfl, hb⟩
    have HR2 := Lib.hid (HR1.out.keep (Keep.below hb))
    have B2 := Lib.hid (below_up B1.out hb)
    clear hb HC HR1 B1
    have HC := Lib.hid (pb_true HE.out ▸ IsEven_spec _ _ _ _ w2 HR2.out)
    go_wp2_with fail
    refine HC.out.mono ?_
    rintro e w3 ⟨rfl, hb⟩
    have HR3 := Lib.hid (HR2.out.keep (Keep.below hb))
    have B3 := Lib.hid (below_up B2.out hb)
    clear hb HC HR2 B2
    have HC := Lib.hid (pb_true HE.out ▸ IsEven_impl _ _ _ _ w3 HR3.out)
    go_wp2_with fail
    refine HC.out.mono ?_
    rintro e w4 ⟨rfl, hb⟩
    have HR4 := Lib.hid (HR3.out.keep (Keep.below hb))
    have B4 := Lib.hid (below_up B3.out hb)
    clear hb HC HR3 B3
    have HC := Lib.hid (flipped_any _ _ _ k a w4 HR4.out HS.out hk HEV.out)
    go_wp2_with fail
    refine HC.out.mono ?_
    rintro e w5 ⟨A2, n2, c2, g2_, rfl, hn2, hown, hb⟩
    have HR5 := Lib.hid (HR4.out.keep (Keep.below hb))
    have B5 := Lib.hid (below_up B4.out hb)
    have HF := Lib.hid hown.rows
    clear hown hn2 hb HC HR4 B4
    have HC := Lib.hid (HPF.out.1 ▸ HPF.out.2 ▸ PotentialOf_impl _ _ _ _ _ _ a (flip a k k) w5 HR5.out HF.out)
    go_wp2_with fail
    refine HC.out.mono ?_
    rintro e w6 ⟨Ap, np, cp, gp, rfl, hnp, hown, hb⟩
    have HR6 := Lib.hid (HR5.out.keep (Keep.below hb))
    have B6 := Lib.hid (below_up B5.out hb)
    have HP := Lib.hid hown.rows
    rw [potT_len] at hnp
    subst hnp
    clear hown hb HC HR5 B5 HF
    have HRQ := Lib.hid (fun W (q : Quiet w6 W) => HR6.out.keep (Keep.quiet q))
    have HPQ := Lib.hid (fun W (q : Quiet w6 W) => HP.out.keep (Keep.quiet q))
    clear HR6 HP
    go_wp2
    go_loopw [6] (fun i_ wr => ∃ i : Nat, i ≤ np ∧ i_ = .int .i64 i ∧ Quiet w6 wr) (fun i_ _ => np - (intOf i_).toNat)
    case atStart => exact ⟨0, Nat.zero_le _, rfl, Quiet.refl _⟩
    case round =>
      obtain ⟨i, hi, rfl, hq⟩ := hrel
      have HQ := Lib.hid hq
      clear hq
      by_cases hin : i < np
      · obtain ⟨wA, hwA⟩ : ∃ wA, wA = wr := ⟨_, rfl⟩
        subst hwA
        go_wp2
        go_loopw [7] (fun j_ wr => ∃ j : Nat, j ≤ np ∧ j_ = .int .i64 j ∧ Quiet w6 wr) (fun j_ _ => np - (intOf j_).toNat)
        case atStart => exact ⟨0, Nat.zero_le _, rfl, HQ.out⟩
        case round =>
          clear HQ
          obtain ⟨j, hj, rfl, hq⟩ := hrel
          have HQ := Lib.hid hq
          clear hq
          by_cases hjn : j < np
          · obtain ⟨ba, oa, rfl, hca⟩ := (HRQ.out _ HQ.out).at_ (by omega)
            obtain ⟨Ri, ci, ri, hRi⟩ := hca i hin
            obtain ⟨R0, c0_, r0, hR0⟩ := hca 0 (by omega)
            obtain ⟨bp, op, rfl, hcp⟩ := (HPQ.out _ HQ.out).at_ (by omega)
            obtain ⟨Si, di, si, hSi⟩ := hcp i hin
            rw [gr_potT hin, potR_len] at si hSi
            rw [HLN.out i hin] at ri hRi
            rw [HLN.out 0 (by omega)] at r0 hR0
            obtain ⟨b1, o1, rfl, hc1⟩ := hRi.at_ (by omega)
            obtain ⟨b2, o2, rfl, hc2⟩ := hR0.at_ (by omega)
            obtain ⟨b3, o3, rfl, hc3⟩ := hSi.at_ (by omega)
            have aij := hc1 j hjn
            have a00 := hc2 0 (by omega)
            have pij := hc3 j hjn
            rw [gi_potR hjn, HNM.out i j hin hjn] at pij
            replace aij : wr.cell? ⟨b1, o1 + j, none⟩ = some (.int .i64 (g2 a i j)) := aij
            replace a00 : wr.cell? ⟨b2, o2, none⟩ = some (.int .i64 (g2 a 0 0)) := a00
            simp only [Nat.add_zero] at r0
            have z1 := HBD.out i j hin hjn
            have z2 := HBD.out 0 0 (by omega) (by omega)
            obtain ⟨x, hx⟩ : ∃ x, x = g2 a i j - g2 a 0 0 := ⟨_, rfl⟩
            have hw1 : IntKind.i64.wrap (g2 a i j - g2 a 0 0) = x := by rw [hx]; exact wrap_in64 (by omega)
            rw [← hx] at pij
            have hne : (x != x) = false := by simp
            have hii : (i : Int) < (np : Int) := by omega
            have hji : (j : Int) < (np : Int) := by omega
            have h0 : 0 < np := by omega
            have h0' : (0 : Int) < (np : Int) := by omega
            have HQM := Lib.hid (fun m => HQ.out.trans ⟨m, rfl⟩)
            clear hca hcp hRi hR0 hSi hc1 hc2 hc3 z1 z2 hx
            generalize g2 a i j = y at *
            generalize g2 a 0 0 = z at *
            go_wp2
            go_quiet (fail)
            clear aij a00 pij ri r0 si hw1
            go_wp2
            go_roundw
            case rel => exact ⟨j + 1, by omega, by go_num, HQM.out _⟩
            case measure => simp [intOf]; omega
          · obtain rfl : np = j := by omega
            go_wp2
            go_roundw
            case rel => exact ⟨i + 1, by omega, by go_num, HQ.out⟩
            case measure => simp [intOf]; omega
      · obtain rfl : np = i := by omega
        have HB := Lib.hid (B6.out.trans HQ.out.below)
        go_wp2
        go_ret
        exact ⟨rfl, HB.out⟩
  · have HE := Lib.hid hev
    clear hev
    have HC := Lib.hid (pb_false HE.out ▸ IsEven_impl _ _ _ _ w1 HR1.out)
    go_wp2_with fail
    refine HC.out.mono ?_
    rintro e w2 ⟨rfl, hb⟩
    have HR2 := Lib.hid (HR1.out.keep (Keep.below hb))
    have B2 := Lib.hid (below_up B1.out hb)
    clear hb HC HR1 B1
    have HC := Lib.hid (pb_false HE.out ▸ IsEven_spec _ _ _ _ w2 HR2.out)
    go_wp2_with fail
    refine HC.out.mono ?_
    rintro e w3 ⟨rfl, hb⟩
    have HR3 := Lib.hid (HR2.out.keep (Keep.below hb))
    have B3 := Lib.hid (below_up B2.out hb)
    clear hb HC HR2 B2
    have HC := Lib.hid (pb_false HE.out ▸ IsEven_impl _ _ _ _ w3 HR3.out)
    go_wp2_with fail
    refine HC.out.mono ?_
    rintro e w4 ⟨rfl, hb⟩
    have HR4 := Lib.hid (HR3.out.keep (Keep.below hb))
    have B4 := Lib.hid (below_up B3.out hb)
    clear hb HC HR3 B3
    go_wp2
    go_ret
    exact ⟨rfl, B4.out⟩

set_option maxRecDepth 100000 in
theorem hFnEvenHasPotential_lifted (os : Os) (started : os.Started) (H : Type) (enc : TypeId × Value → H) :
    ReturnsInHanded {} Try.checked os 9 .any (Rows.fnEvenHasPotentialSpec.pre6 enc Try.prog Try.f9 Rows.fnEvenHasPotentialRow.domain false) (Rows.fnEvenHasPotentialSpec.post enc Try.prog Try.f9 false true false false) := by
  refine returnsInHanded_of_change_sized (C := Try.checked) Try.own started (by kernel_rfl) Try.func9
    (ChangeSpec.witness6 (enc := enc) (C := Try.checked) false ⟨#[], #[.slice none 0 0], []⟩ 8 (by kernel_rfl) (by kernel_rfl) (by kernel_rfl) (by kernel_rfl)) ?_
  intro W base args ds gs before hval0 hW _ hwt _
  have hval : ∀ (j : Nat) t v, Try.f9.params[j]? = some t → args[j]? = some v → Value.okWide Try.prog W .any base t v := hval0
  have hA : ∃ p, DataW.TrodAll enc Try.prog W 0 (fun _ => true) true Try.f9.params.toList args.toList ds p := by obtain ⟨p, q, hA0, _⟩ := hW; exact ⟨p, hA0⟩
  obtain ⟨p, hA⟩ := hA
  have hwt' := weights_arg hwt (j := 0) (t := 36) (by rw [Try.params9]; rfl) (d := ds.getD 0 .nil)
  rw [Try.params9] at hA hval
  obtain ⟨v0, d0, rfl, rfl, h0⟩ := trodAll_one hA
  obtain ⟨A, n, c, rfl, hx⟩ := open_bytes (hval 0 36 v0 rfl rfl) h0 (hwt' rfl)
  refine (fnEvenHasPotential_calls A n c W hx).mono fun e W' ⟨he, hb⟩ => ?_
  subst he
  exact ⟨_, rfl, law_post (F := Try.f9) rfl rfl (by rw [Try.params9]; simp only [List.mem_cons, List.not_mem_nil, or_false, forall_eq]; exact ⟨by kernel_rfl, of_decide_eq_true (by kernel_rfl)⟩) hW (fun h => by subst h; rfl) hb⟩

theorem hFnEvenHasPotential_holds : Rows.FnEvenHasPotentialSaid :=
  OpenClaim.holds_of_wide 9 Try.f9 rfl rfl rfl rfl rfl rfl rfl ⟨rfl, rfl, rfl, rfl, rfl⟩ rfl rfl rfl rfl rfl (by kernel_rfl) Try.func9
    (by unfold joinedFacts; simp only [Bool.and_eq_true]; (repeat' apply And.intro) <;> (first | (with_reducible exact prog_enters) | ((with_reducible refine prog_lifts ?_); rfl) | ((with_reducible refine prog_make ?_); rfl) | kernel_rfl))
    (of_decide_eq_true (by kernel_rfl)) (by unfold Func.isWrapper; first | (rw [if_pos (by decide +kernel)]; kernel_rfl) | (rw [if_neg (by decide +kernel)]; exact ⟨rfl, rfl⟩))
    (fun os started H enc _ => hFnEvenHasPotential_lifted os started H enc)

end Go.Proofs.Ytbpjblefmammcaa
