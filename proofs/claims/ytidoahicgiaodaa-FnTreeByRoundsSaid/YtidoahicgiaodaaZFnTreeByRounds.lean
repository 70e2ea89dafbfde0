/- The law FnTreeByRounds holds: for every code, of the costs and the state that are drawn, the least tree by rounds is the model's, at least the cheapest ways out of the other states, at most the ways straight to the root, and the one that is tried. No condition. -/
import Derived.Test.YtidoahicgiaodaaQ13
namespace Go.Proofs.Ytidoahicgiaodaa
open Go.ChangeShapes Go.WideShapes Go.ChangeAt Go.RowKit Go.Deep

set_option maxRecDepth 100000 in
set_option maxHeartbeats 3200000 in
theorem fnTreeByRounds_calls (A : Option Addr) (n c : Nat) (w : World) (hx : Bytes w A n c) :
    Calls Try.prog 6 #[.slice A n c] w fun e w' => e = .returned (.bool true) ∧ Below w.heap.size w w' := by
  have hmx := hx.max
  have H0 := Lib.hid (DrawTreeByRounds_any A n c w hx)
  clear hx
  by_cases hs : 1048576 < n
  · go_enter Try.func6, Try.ntmps6
    go_wp2
    go_ret
    exact ⟨rfl, Below.refl _ _⟩
  · go_enter Try.func6, Try.ntmps6
    go_wp2_with fail
    refine H0.out.mono ?_
    rintro e w1 ⟨Av, k, cv, gg, xss, root, rfl, hsm, hown, hri, hb⟩
    have HS := Lib.hid hsm
    have HR := Lib.hid hown.rows
    have B1 := Lib.hid hb
    have LX := Lib.hid hown.rows.len
    have hmk := hown.rows.max
    have HFR := Lib.hid (show Fit root by unfold Fit; omega)
    clear hsm hown hb H0
    have HC := Lib.hid (TreeByRounds_impl _ _ _ _ root w1 HR.out HFR.out)
    go_wp2_with fail
    refine HC.out.mono ?_
    rintro e w2 ⟨rfl, hb⟩
    have HR_2 := Lib.hid (HR.out.keep (Keep.below hb))
    have B_2 := Lib.hid (below_up B1.out hb)
    clear hb HC HR B1
    have HC := Lib.hid (TreeByRounds_spec _ _ _ _ root w2 HR_2.out HFR.out)
    go_wp2_with fail
    refine HC.out.mono ?_
    rintro e w3 ⟨rfl, hb⟩
    have HR_3 := Lib.hid (HR_2.out.keep (Keep.below hb))
    have B_3 := Lib.hid (below_up B_2.out hb)
    clear hb HC HR_2 B_2
    have hbne : (TF xss root != TF xss root) = false := by simp
    by_cases hv : VC xss ∧ Blw xss.length root
    · obtain ⟨r, rfl⟩ : ∃ r : Nat, root = r := ⟨root.toNat, by have := hv.2.1; omega⟩
      have hrk : r < xss.length := by have := hv.2.2; omega
      have HV := Lib.hid hv.1
      have h4 := hv.1.n4
      have hbd := TF_bd hv.1 hrk
      have HLO := Lib.hid (lo_TF hv.1 hrk)
      have HHI := Lib.hid (TF_hi hv.1 hrk)
      have HRX := Lib.hid hrk
      rw [LX.out] at h4 HLO HHI hrk
      clear hv
      have HCT := Lib.hid (fun W (h : IntRows W Av k cv xss) => TreeTried_impl Av k cv xss (r : Int) W h HFR.out)
      generalize hT : TF xss (r : Int) = T at *
      clear hT
      have hT0 : ¬ T < 0 := by omega
      go_wp2
      go_loopw [6, 7, 8] (fun lo hi i_ wr => ∃ m : Nat, m ≤ k ∧ i_ = .int .i64 m ∧ lo = .int .i64 (loS xss r k m) ∧ hi = .int .i64 (hiS xss r m) ∧ Quiet w3 wr) (fun _ _ i_ _ => k - (intOf i_).toNat)
      case atStart => exact ⟨0, Nat.zero_le _, rfl, rfl, rfl, Quiet.refl _⟩
      case round =>
        obtain ⟨m, hm, rfl, rfl, rfl, q, rfl⟩ := hrel
        have hl1 := loS_bd HV.out (r := r) m (by rw [LX.out]; exact hm)
        have hl2 := hiS_bd HV.out HRX.out m (by rw [LX.out]; exact hm)
        rw [LX.out] at hl1
        have HSL : Hid (loS xss r k (m + 1) = if m = r then loS xss r k m else loS xss r k m + bF xss m k) := Lib.hid rfl
        have HSH : Hid (hiS xss r (m + 1) = if m = r then hiS xss r m else hiS xss r m + g2 xss m r) := Lib.hid rfl
        have HLM := Lib.hid (show m = k → loS xss r k m ≤ T from fun e => by rw [e]; exact HLO.out)
        have HHM := Lib.hid (show m = k → T ≤ hiS xss r m from fun e => by rw [e]; exact HHI.out)
        generalize loS xss r k m = LO at *
        generalize hiS xss r m = HI at *
        by_cases hmk : m < k
        · by_cases hmr : m = r
          · have hmr' : ((m : Int) == (r : Int)) = true := by simp [hmr]
            rw [if_pos hmr] at HSL HSH
            clear hmr
            go_wp2
            go_roundw
            case rel => exact ⟨m + 1, by omega, by go_num, by rw [HSL.out], by rw [HSH.out], by first | exact ⟨_, rfl⟩ | exact Quiet.two _ _ _⟩
            case measure => simp [intOf]; omega
          · have hmr' : ((m : Int) == (r : Int)) = false := by rw [beq_eq_false_iff_ne]; omega
            rw [if_neg hmr] at HSL HSH
            clear hmr
            obtain ⟨b, oo, rfl, hc⟩ := HR_3.out.at_ (by omega)
            obtain ⟨R, cc, c1, hR⟩ := hc m hmk
            have hlen := (HV.out.rows m (by rw [LX.out]; exact hmk)).1
            rw [LX.out] at hlen
            rw [hlen] at c1 hR
            obtain ⟨b2, o2, rfl, hc2⟩ := hR.at_ (by omega)
            have HC2 := Lib.hid hc2
            have cr := hc2 r hrk
            have hgr := HV.out.cell (i := m) (j := r) (by rw [LX.out]; exact hmk) HRX.out
            replace cr : w3.cell? ⟨b2, o2 + r, none⟩ = some (.int .i64 (g2 xss m r)) := cr
            have HMX := Lib.hid (show m < xss.length by rw [LX.out]; exact hmk)
            clear hc hR hlen hc2
            go_wp2
            go_loopw [9, 10] (fun bs j_ wi => ∃ j : Nat, j ≤ k ∧ j_ = .int .i64 j ∧ bs = .int .i64 (bF xss m j) ∧ Quiet w3 wi) (fun _ j_ _ => k - (intOf j_).toNat)
            case atStart => exact ⟨0, Nat.zero_le _, rfl, rfl, by first | exact ⟨_, rfl⟩ | exact Quiet.two _ _ _⟩
            case round =>
              obtain ⟨j, hj, rfl, rfl, q2, rfl⟩ := hrel
              have hb1 := bF_bd HV.out HMX.out j (by rw [LX.out]; exact hj)
              by_cases hjk : j < k
              · have HSB : Hid (bF xss m (j + 1) = if j = m then bF xss m j else if g2 xss m j < bF xss m j then g2 xss m j else bF xss m j) := Lib.hid rfl
                have hcj := HC2.out j hjk
                replace hcj : w3.cell? ⟨b2, o2 + j, none⟩ = some (.int .i64 (g2 xss m j)) := hcj
                generalize bF xss m j = BS at *
                by_cases hjm : j = m
                · have hjm' : ((j : Int) != (m : Int)) = false := by simp [hjm]
                  rw [if_pos hjm] at HSB
                  clear hjm
                  go_wp2
                  go_roundw
                  case rel => exact ⟨j + 1, by omega, by go_num, by rw [HSB.out], by first | exact ⟨_, rfl⟩ | exact Quiet.two _ _ _⟩
                  case measure => simp [intOf]; omega
                · have hjm' : ((j : Int) != (m : Int)) = true := by simp only [bne_iff_ne, ne_eq]; omega
                  rw [if_neg hjm] at HSB
                  clear hjm
                  generalize g2 xss m j = x at *
                  by_cases hx : x < BS
                  · rw [if_pos hx] at HSB
                    go_wp2
                    go_roundw
                    case rel => exact ⟨j + 1, by omega, by go_num, by rw [HSB.out], by first | exact ⟨_, rfl⟩ | exact Quiet.two _ _ _⟩
                    case measure => simp [intOf]; omega
                  · rw [if_neg hx] at HSB
                    go_wp2
                    go_roundw
                    case rel => exact ⟨j + 1, by omega, by go_num, by rw [HSB.out], by first | exact ⟨_, rfl⟩ | exact Quiet.two _ _ _⟩
                    case measure => simp [intOf]; omega
              · obtain rfl : j = k := by omega
                generalize bF xss m j = BS at *
                generalize g2 xss m r = GR at *
                go_wp2
                go_roundw
                case rel => exact ⟨m + 1, by omega, by go_num, by rw [HSL.out], by rw [HSH.out], by first | exact ⟨_, rfl⟩ | exact Quiet.two _ _ _⟩
                case measure => simp [intOf]; omega
        · obtain rfl : m = k := by omega
          have d1 : decide (LO ≤ T) = true := by have := HLM.out rfl; simpa using this
          have d2 : decide (T ≤ HI) = true := by have := HHM.out rfl; simpa using this
          have hb := Quiet.below (B := w3.heap.size) (w := w3) (w' := w3.drewN q) ⟨q, rfl⟩
          have HC := Lib.hid (HCT.out _ (HR_3.out.keep (Keep.below hb)))
          have B4 := Lib.hid (below_up B_3.out hb)
          clear hb HLO HHI
          go_wp2_with fail
          refine HC.out.mono ?_
          rintro e w4 ⟨rfl, hb⟩
          have B5 := Lib.hid (below_up B4.out hb)
          clear hb HC
          go_wp2
          go_ret
          exact ⟨rfl, B5.out⟩
    · have hT := TF_no hv
      clear hv
      have HC := Lib.hid (TreeByRounds_spec _ _ _ _ root w3 HR_3.out HFR.out)
      rw [hT] at HC hbne
      rw [hT]
      go_wp2_with fail
      refine HC.out.mono ?_
      rintro e w4 ⟨rfl, hb⟩
      have B4 := Lib.hid (below_up B_3.out hb)
      clear hb HC
      go_wp2
      go_ret
      exact ⟨rfl, B4.out⟩

set_option maxRecDepth 100000 in
theorem hFnTreeByRounds_lifted (os : Os) (started : os.Started) (H : Type) (enc : TypeId × Value → H) :
    ReturnsInHanded {} Try.checked os 6 .any (Rows.fnTreeByRoundsSpec.pre6 enc Try.prog Try.f6 Rows.fnTreeByRoundsRow.domain false) (Rows.fnTreeByRoundsSpec.post enc Try.prog Try.f6 false true false false) := by
  refine returnsInHanded_of_change_sized (C := Try.checked) Try.own started (by kernel_rfl) Try.func6
    (ChangeSpec.witness6 (enc := enc) (C := Try.checked) false ⟨#[], #[.slice none 0 0], []⟩ 8 (by kernel_rfl) (by kernel_rfl) (by kernel_rfl) (by kernel_rfl)) ?_
  intro W base args ds gs before hval0 hW _ hwt _
  have hval : ∀ (j : Nat) t v, Try.f6.params[j]? = some t → args[j]? = some v → Value.okWide Try.prog W .any base t v := hval0
  have hA : ∃ p, DataW.TrodAll enc Try.prog W 0 (fun _ => true) true Try.f6.params.toList args.toList ds p := by obtain ⟨p, q, hA0, _⟩ := hW; exact ⟨p, hA0⟩
  obtain ⟨p, hA⟩ := hA
  have hwt' := weights_arg hwt (j := 0) (t := 32) (by rw [Try.params6]; rfl) (d := ds.getD 0 .nil)
  rw [Try.params6] at hA hval
  obtain ⟨v0, d0, rfl, rfl, h0⟩ := trodAll_one hA
  obtain ⟨A, n, c, rfl, hx⟩ := open_bytes (hval 0 32 v0 rfl rfl) h0 (hwt' rfl)
  refine (fnTreeByRounds_calls A n c W hx).mono fun e W' ⟨he, hb⟩ => ?_
  subst he
  exact ⟨_, rfl, law_post (F := Try.f6) rfl rfl (by rw [Try.params6]; simp only [List.mem_cons, List.not_mem_nil, or_false, forall_eq]; exact ⟨by kernel_rfl, of_decide_eq_true (by kernel_rfl)⟩) hW (fun h => by subst h; rfl) hb⟩

theorem hFnTreeByRounds_holds : Rows.FnTreeByRoundsSaid :=
  OpenClaim.holds_of_wide 6 Try.f6 rfl rfl rfl rfl rfl rfl rfl ⟨rfl, rfl, rfl, rfl, rfl⟩ rfl rfl rfl rfl rfl (by kernel_rfl) Try.func6
    (by unfold joinedFacts; simp only [Bool.and_eq_true]; (repeat' apply And.intro) <;> (first | (with_reducible exact prog_enters) | ((with_reducible refine prog_lifts ?_); rfl) | ((with_reducible refine prog_make ?_); rfl) | kernel_rfl))
    (of_decide_eq_true (by kernel_rfl)) (by unfold Func.isWrapper; first | (rw [if_pos (by decide +kernel)]; kernel_rfl) | (rw [if_neg (by decide +kernel)]; exact ⟨rfl, rfl⟩))
    (fun os started H enc _ => hFnTreeByRounds_lifted os started H enc)

end Go.Proofs.Ytidoahicgiaodaa
