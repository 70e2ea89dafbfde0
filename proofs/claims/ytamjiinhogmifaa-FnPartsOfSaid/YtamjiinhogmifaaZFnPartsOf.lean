/- The law FnPartsOf holds: for every code, of the number that it draws, the program tells all sizes of kinds as the model does, each with the sum, none twice, each one sizes of kinds; the first one is one kind, and the last one all of their own. No condition. -/
import Derived.Test.YtamjiinhogmifaaQ11
namespace Go.Proofs.Ytamjiinhogmifaa
open Go.ChangeShapes Go.WideShapes Go.ChangeAt Go.RowKit Go.Deep

set_option maxRecDepth 100000 in
set_option maxHeartbeats 3200000 in
theorem fnPartsOf_calls (A : Option Addr) (n c : Nat) (w : World) (hx : Bytes w A n c) :
    Calls Try.prog 3 #[.slice A n c] w fun e w' => e = .returned (.bool true) ∧ Below w.heap.size w w' := by
  have hmx := hx.max
  have H0 := Lib.hid (DrawPartsOf_any A n c w hx)
  clear hx
  by_cases hs : 1048576 < n
  · go_enter Try.func3, Try.ntmps3
    go_wp2
    go_ret
    exact ⟨rfl, Below.refl _ _⟩
  · go_enter Try.func3, Try.ntmps3
    go_wp2_with fail
    refine H0.out.mono ?_
    rintro e w1 ⟨n, rfl, ⟨n1, n2⟩, hb⟩
    have B1 := Lib.hid hb
    clear hb H0
    have HCI := Lib.hid (fun W => PartsOf_impl n W (by unfold Fit; omega))
    have HCS := Lib.hid (fun W => PartsOf_spec n W (by unfold Fit; omega))
    by_cases hn : InR n 1 7
    · obtain ⟨n, rfl⟩ : ∃ k : Nat, n = (k : Int) := ⟨n.toNat, by omega⟩
      rw [pt_yes hn] at HCI HCS
      have HF := Lib.hid (pts_facts (n := n) (by unfold InR at hn; omega) (by unfold InR at hn; omega))
      clear hn
      generalize pts 7 n n = list at *
      have hl0 := HF.out.pos
      have hl40 := HF.out.le
      have HE := Lib.hid (show eqRR list list = true by simp [eqRR])
      have HC := Lib.hid (HCI.out w1)
      go_wp2_with fail
      refine HC.out.mono ?_
      rintro e w2 ⟨Ag, ng, cg, gg, rfl, hng, ho, hb⟩
      have B_2 := Lib.hid (below_up B1.out hb)
      subst hng
      have X := Lib.hid ho.rows
      clear ho
      obtain ⟨b, o, rfl, _⟩ := X.out.at_ (by omega)
      clear hb HC B1
      have HC := Lib.hid (HCS.out w2)
      go_wp2_with fail
      refine HC.out.mono ?_
      rintro e w3 ⟨As, ns, cs, gs, rfl, hns, ho, hb⟩
      have X_3 := Lib.hid (X.out.keep (Keep.below hb))
      have B_3 := Lib.hid (below_up B_2.out hb)
      subst hns
      have S := Lib.hid ho.rows
      clear ho
      clear hb HC X B_2
      have hl1 : ((list.length : Int) == 0) = false := beq_eq_false_iff_ne.2 (by omega)
      have HC := Lib.hid (HE.out ▸ equalRows_any _ _ _ _ _ _ list list w3 X_3.out S.out)
      go_wp2_with fail
      refine HC.out.mono ?_
      rintro e w4 ⟨rfl, hq⟩
      have hb := hq.below (B := w3.heap.size)
      have X_4 := Lib.hid (X_3.out.keep (Keep.below hb))
      have S_4 := Lib.hid (S.out.keep (Keep.below hb))
      have B_4 := Lib.hid (below_up B_3.out hb)
      clear hb HC hq X_3 S B_3
      clear S_4
      go_wp2
      clear HCI HCS
      go_loopw [5] (fun i wr => ∃ k : Nat, k ≤ list.length ∧ i = .int .i64 k ∧ Hid (Below w4.heap.size w4 wr)) (fun i _ => list.length - (intOf i).toNat)
      case atStart => exact ⟨0, Nat.zero_le _, rfl, Lib.hid (Below.refl _ _)⟩
      case round =>
        obtain ⟨k, hk, rfl, HB⟩ := hrel
        have XR := Lib.hid (X_4.out.keep (Keep.below HB.out))
        by_cases hlt : k < list.length
        · obtain ⟨R, cc, c1, hR⟩ := XR.out.cell hlt
          have SX := Lib.hid c1
          have HRI := Lib.hid hR
          have HV := Lib.hid (HF.out.ok k hlt)
          have HSU := Lib.hid (HF.out.sum k hlt)
          have HON := Lib.hid (pb_false (HF.out.once k hlt))
          have HCV := Lib.hid (fun W h => pb_true (HF.out.ok k hlt) ▸ ValidParts_impl R (gr list k).length cc (gr list k) W h)
          have hkc : k ≤ cg := by have := XR.out.cap; omega
          have hkci : (k : Int) ≤ (cg : Int) := by omega
          have HK0 : Hid (Keep wr wr.drew) := Lib.hid (Keep.drewN wr 1)
          have HBD : Hid (Below wr.heap.size wr wr.drew) := Lib.hid (Quiet.below ⟨1, rfl⟩)
          clear c1 hR
          generalize gr list k = row at *
          generalize row.length = m at *
          go_wp2
          go_region_held3 (fun W => W.cell? ⟨b, o + k, none⟩ = some (.slice R m cc)) (first | exact SX3.out | exact SX2.out | exact SX1.out | exact SX.out | go_keep)
            (first
            | (go_at_call 17; (with_reducible refine (HSU.out ▸ total_any _ _ _ row _ (HRI.out.keep HK0.out) HV.out.so).mono ?_); rintro e v1 ⟨rfl, hq⟩; have D1 := Lib.hid (HK0.out.trans (Keep.quiet hq)); have SX1 := Lib.hid (D1.out _ _ SX.out); have U1 := Lib.hid (below_quiet HBD.out hq); clear hq)
            | (go_at_call 18; (with_reducible refine (HCV.out _ (HRI.out.keep D1.out)).mono ?_); rintro e v2 ⟨rfl, hb⟩; have D2 := Lib.hid (D1.out.trans (Keep.below hb)); have SX2 := Lib.hid (D2.out _ _ SX.out); have U2 := Lib.hid (below_up U1.out hb); clear hb)
            | (go_at_call 19; (with_reducible refine (HON.out ▸ inRows_any _ _ _ _ _ _ (list.take k) row _ ((XR.out.take hk).keep D2.out) (HRI.out.keep D2.out)).mono ?_); rintro e v3 ⟨rfl, hq⟩; have SX3 := Lib.hid ((D2.out.trans (Keep.quiet hq)) _ _ SX.out); have U3 := Lib.hid (below_quiet U2.out hq); clear hq)
            | fail)
          all_goals
            go_wp2
            go_roundw
            case rel => exact ⟨k + 1, by omega, by go_num, Lib.hid (below_up HB.out U3.out)⟩
            case measure => simp [intOf]; omega
        · obtain rfl : k = list.length := by omega
          obtain ⟨R0, cc0, c0, hR0⟩ := XR.out.cell (k := 0) hl0
          have hh0 := HF.out.head0
          obtain ⟨b2, o2, rfl, hc2⟩ := hR0.at_ hh0
          have d0 := hc2 0 hh0
          rw [HF.out.head] at d0
          obtain ⟨l, hl⟩ : ∃ l, list.length = l + 1 := ⟨list.length - 1, by omega⟩
          obtain ⟨R1, cc1, c1, hR1⟩ := XR.out.cell (k := l) (by omega)
          have hla := HF.out.last
          rw [show list.length - 1 = l by omega] at hla
          rw [hla] at c1
          have hil : (list.length : Int) - 1 = (l : Int) := by omega
          have hil2 : l < list.length := by omega
          have BF := Lib.hid (below_up B_4.out HB.out)
          have BG := Lib.hid BF.out
          simp only [Nat.add_zero] at c0 d0
          clear hc2 hR0 hR1 hla
          generalize (gr list 0).length = m0 at *
          generalize list.length = L at *
          subst hl
          go_wp2
          go_ret
          exact ⟨rfl, BG.out⟩
    · rw [pt_no hn] at HCI HCS
      clear hn
      have HE := Lib.hid (show eqRR [] [] = true by simp [eqRR])
      have HC := Lib.hid (HCI.out w1)
      go_wp2_with fail
      refine HC.out.mono ?_
      rintro e w2 ⟨Ag, ng, cg, gg, rfl, hng, ho, hb⟩
      have B_2 := Lib.hid (below_up B1.out hb)
      subst hng
      have X := Lib.hid ho.rows
      clear ho
      clear hb HC B1
      have HC := Lib.hid (HCS.out w2)
      go_wp2_with fail
      refine HC.out.mono ?_
      rintro e w3 ⟨As, ns, cs, gs, rfl, hns, ho, hb⟩
      have X_3 := Lib.hid (X.out.keep (Keep.below hb))
      have B_3 := Lib.hid (below_up B_2.out hb)
      subst hns
      have S := Lib.hid ho.rows
      clear ho
      clear hb HC X B_2
      have HC := Lib.hid (HE.out ▸ equalRows_any _ _ _ _ _ _ [] [] w3 X_3.out S.out)
      go_wp2_with fail
      refine HC.out.mono ?_
      rintro e w4 ⟨rfl, hq⟩
      have hb := hq.below (B := w3.heap.size)
      have X_4 := Lib.hid (X_3.out.keep (Keep.below hb))
      have S_4 := Lib.hid (S.out.keep (Keep.below hb))
      have B_4 := Lib.hid (below_up B_3.out hb)
      clear hb HC hq X_3 S B_3
      clear S_4
      have HC := Lib.hid (HCS.out w4)
      go_wp2_with fail
      refine HC.out.mono ?_
      rintro e w5 ⟨Av, nv, cv, gv, rfl, hnv, ho, hb⟩
      have X_5 := Lib.hid (X_4.out.keep (Keep.below hb))
      have B_5 := Lib.hid (below_up B_4.out hb)
      subst hnv
      have T := Lib.hid ho.rows
      clear ho
      clear hb HC X_4 B_4
      have HC := Lib.hid (HE.out ▸ equalRows_any _ _ _ _ _ _ [] [] w5 X_5.out T.out)
      go_wp2_with fail
      refine HC.out.mono ?_
      rintro e w6 ⟨rfl, hq⟩
      have hb := hq.below (B := w5.heap.size)
      have X_6 := Lib.hid (X_5.out.keep (Keep.below hb))
      have T_6 := Lib.hid (T.out.keep (Keep.below hb))
      have B_6 := Lib.hid (below_up B_5.out hb)
      clear hb HC hq X_5 T B_5
      go_wp2
      go_ret
      exact ⟨rfl, B_6.out⟩

set_option maxRecDepth 100000 in
theorem hFnPartsOf_lifted (os : Os) (started : os.Started) (H : Type) (enc : TypeId × Value → H) :
    ReturnsInHanded {} Try.checked os 3 .any (Rows.fnPartsOfSpec.pre6 enc Try.prog Try.f3 Rows.fnPartsOfRow.domain false) (Rows.fnPartsOfSpec.post enc Try.prog Try.f3 false true false false) := by
  refine returnsInHanded_of_change_sized (C := Try.checked) Try.own started (by kernel_rfl) Try.func3
    (ChangeSpec.witness6 (enc := enc) (C := Try.checked) false ⟨#[], #[.slice none 0 0], []⟩ 8 (by kernel_rfl) (by kernel_rfl) (by kernel_rfl) (by kernel_rfl)) ?_
  intro W base args ds gs before hval0 hW _ hwt _
  have hval : ∀ (j : Nat) t v, Try.f3.params[j]? = some t → args[j]? = some v → Value.okWide Try.prog W .any base t v := hval0
  have hA : ∃ p, DataW.TrodAll enc Try.prog W 0 (fun _ => true) true Try.f3.params.toList args.toList ds p := by obtain ⟨p, q, hA0, _⟩ := hW; exact ⟨p, hA0⟩
  obtain ⟨p, hA⟩ := hA
  have hwt' := weights_arg hwt (j := 0) (t := 22) (by rw [Try.params3]; rfl) (d := ds.getD 0 .nil)
  rw [Try.params3] at hA hval
  obtain ⟨v0, d0, rfl, rfl, h0⟩ := trodAll_one hA
  obtain ⟨A, n, c, rfl, hx⟩ := open_bytes (hval 0 22 v0 rfl rfl) h0 (hwt' rfl)
  refine (fnPartsOf_calls A n c W hx).mono fun e W' ⟨he, hb⟩ => ?_
  subst he
  exact ⟨_, rfl, law_post (F := Try.f3) rfl rfl (by rw [Try.params3]; simp only [List.mem_cons, List.not_mem_nil, or_false, forall_eq]; exact ⟨by kernel_rfl, of_decide_eq_true (by kernel_rfl)⟩) hW (fun h => by subst h; rfl) hb⟩

theorem hFnPartsOf_holds : Rows.FnPartsOfSaid :=
  OpenClaim.holds_of_wide 3 Try.f3 rfl rfl rfl rfl rfl rfl rfl ⟨rfl, rfl, rfl, rfl, rfl⟩ rfl rfl rfl rfl rfl (by kernel_rfl) Try.func3
    (by unfold joinedFacts; simp only [Bool.and_eq_true]; (repeat' apply And.intro) <;> (first | (with_reducible exact prog_enters) | ((with_reducible refine prog_lifts ?_); rfl) | ((with_reducible refine prog_make ?_); rfl) | kernel_rfl))
    (of_decide_eq_true (by kernel_rfl)) (by unfold Func.isWrapper; first | (rw [if_pos (by decide +kernel)]; kernel_rfl) | (rw [if_neg (by decide +kernel)]; exact ⟨rfl, rfl⟩))
    (fun os started H enc _ => hFnPartsOf_lifted os started H enc)

end Go.Proofs.Ytamjiinhogmifaa
