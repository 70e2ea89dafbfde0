/- The law FnNextShares holds: for every code, of what it draws, the program tells the next shares as the model does, they are there just where there are shares, and are the shares times their growth. No condition. -/
import Derived.Test.YtoekpbcdgmejcaaQ10
import Derived.Deep.RegionHeld3
namespace Go.Proofs.Ytoekpbcdgmejcaa
open Go.ChangeShapes Go.WideShapes Go.ChangeAt Go.RowKit Go.Deep

set_option maxRecDepth 100000 in
set_option maxHeartbeats 3200000 in
theorem fnNextShares_calls (A : Option Addr) (n c : Nat) (w : World) (hx : Bytes w A n c) :
    Calls Try.prog 6 #[.slice A n c] w fun e w' => e = .returned (.bool true) ∧ Below w.heap.size w w' := by
  have hmx := hx.max
  have H0 := Lib.hid (DrawNextShares_any A n c w hx)
  clear hx
  by_cases hs : 1048576 < n
  · go_enter Try.func6, Try.ntmps6
    go_wp2
    go_ret
    exact ⟨rfl, Below.refl _ _⟩
  · go_enter Try.func6, Try.ntmps6
    go_wp2_with fail
    refine H0.out.mono ?_
    rintro e w1 ⟨Av, k, cv, gg, xss, Bv, m, cb, ys, rfl, hsm, hown, hi, hb⟩
    have HS := Lib.hid hsm
    have HR := Lib.hid hown.rows
    have HY := Lib.hid hi
    have B1 := Lib.hid hb
    have LX := Lib.hid hown.rows.len
    have LY := Lib.hid hi.len
    clear hsm hown hi hb H0
    have HEQ := Lib.hid (show eqI (nsF xss ys) (nsF xss ys) = true by simp [eqI])
    have hnl := nsF_le xss ys
    have HC := Lib.hid (NextShares_impl _ _ _ xss _ _ _ ys w1 HR.out HY.out)
    go_wp2_with fail
    refine HC.out.mono ?_
    rintro e w2 ⟨A2, n2, c2, g2_, rfl, rfl, ho, hb⟩
    have HR_2 := Lib.hid (HR.out.keep (Keep.below hb))
    have HY_2 := Lib.hid (HY.out.keep (Keep.below hb))
    have B_2 := Lib.hid (below_up B1.out hb)
    have HP := Lib.hid ho.ints
    clear ho
    clear hb HC HR HY B1
    have HC := Lib.hid (NextShares_spec _ _ _ xss _ _ _ ys w2 HR_2.out HY_2.out)
    go_wp2_with fail
    refine HC.out.mono ?_
    rintro e w3 ⟨A3, n3, c3, g3_, rfl, rfl, ho, hb⟩
    have HR_3 := Lib.hid (HR_2.out.keep (Keep.below hb))
    have HY_3 := Lib.hid (HY_2.out.keep (Keep.below hb))
    have HP_3 := Lib.hid (HP.out.keep (Keep.below hb))
    have B_3 := Lib.hid (below_up B_2.out hb)
    have HQ_ := Lib.hid ho.ints
    clear ho
    clear hb HC HR_2 HY_2 HP B_2
    have HC := Lib.hid (HEQ.out ▸ equalInts_any _ _ _ _ _ _ (nsF xss ys) (nsF xss ys) w3 HP_3.out HQ_.out)
    go_wp2_with fail
    refine HC.out.mono ?_
    rintro e w4 ⟨rfl, hq⟩
    have hb := hq.below (B := w3.heap.size)
    have HR_4 := Lib.hid (HR_3.out.keep (Keep.below hb))
    have HY_4 := Lib.hid (HY_3.out.keep (Keep.below hb))
    have HP_4 := Lib.hid (HP_3.out.keep (Keep.below hb))
    have HQ__4 := Lib.hid (HQ_.out.keep (Keep.below hb))
    have B_4 := Lib.hid (below_up B_3.out hb)
    clear hb HC hq HR_3 HY_3 HP_3 HQ_ B_3
    clear HQ__4
    by_cases h0 : (nsF xss ys).length = 0
    · have h0' : (((nsF xss ys).length : Int) == 0) = true := by rw [beq_iff_eq]; omega
      have H0_ := Lib.hid h0
      clear h0
      have HC := Lib.hid (NextShares_spec _ _ _ xss _ _ _ ys w4 HR_4.out HY_4.out)
      go_wp2_with fail
      refine HC.out.mono ?_
      rintro e w5 ⟨A3, n3, c3, g3_, rfl, rfl, ho, hb⟩
      have HR_5 := Lib.hid (HR_4.out.keep (Keep.below hb))
      have HY_5 := Lib.hid (HY_4.out.keep (Keep.below hb))
      have HP_5 := Lib.hid (HP_4.out.keep (Keep.below hb))
      have B_5 := Lib.hid (below_up B_4.out hb)
      have HQ_ := Lib.hid ho.ints
      clear ho
      clear hb HC HR_4 HY_4 HP_4 B_4
      have HC := Lib.hid (HEQ.out ▸ equalInts_any _ _ _ _ _ _ (nsF xss ys) (nsF xss ys) w5 HP_5.out HQ_.out)
      go_wp2_with fail
      refine HC.out.mono ?_
      rintro e w6 ⟨rfl, hq⟩
      have hb := hq.below (B := w5.heap.size)
      have HR_6 := Lib.hid (HR_5.out.keep (Keep.below hb))
      have HY_6 := Lib.hid (HY_5.out.keep (Keep.below hb))
      have HP_6 := Lib.hid (HP_5.out.keep (Keep.below hb))
      have HQ__6 := Lib.hid (HQ_.out.keep (Keep.below hb))
      have B_6 := Lib.hid (below_up B_5.out hb)
      clear hb HC hq HR_5 HY_5 HP_5 HQ_ B_5
      go_wp2
      go_ret
      exact ⟨rfl, B_6.out⟩
    have h0' : (((nsF xss ys).length : Int) == 0) = false := by rw [beq_eq_false_iff_ne]; omega
    have hf : VF xss ∧ VS ys xss.length := by
      apply Classical.byContradiction; intro hn
      apply h0; rw [nsF_no hn]; rfl
    have hv := hf.1.q
    have hk : 0 < k := by rw [← LX.out]; exact hv.1.n1
    have hk3 : k ≤ 3 := by rw [← LX.out]; exact hv.1.n3
    have hfs : FS xss ys k := FS.of LX.out hf.1 (by have := hf.2; rw [LX.out] at this; exact this)
    have hmk : m = k := by rw [← LY.out]; exact hfs.xl
    subst hmk
    have HGF := Lib.hid (grF_yes hfs)
    have HGL := Lib.hid (grL_len xss ys m m)
    have HLL := Lib.hid (show (nsF xss ys).length = m by obtain ⟨_, _, h, _⟩ := Mean.ns_key hfs; exact h)
    have HNF := Lib.hid (fun i (hi : i < m) => next_frac hfs hi)
    have HNP := Lib.hid (fun i (hi : i < m) => next_pos hfs hi)
    have HGI := Lib.hid (fun i (hi : i < m) => gi_grL xss ys m (k := m) hi)
    have HGB := Lib.hid (fun i (hi : i < m) => And.intro (hfs.gu hi) hfs.gp)
    have HXB := Lib.hid hfs.x
    have HBDN := Lib.hid (ns_bd hfs)
    have HSX := Lib.hid (hfs.s.sumOk (by omega))
    have HSL := Lib.hid (SumOk.of_small (xs := nsF xss ys) (B := 27000000) (by omega) (fun j hj => by have := HBDN.out j (by rw [← HLL.out]; exact hj); omega) (by omega))
    have htx := hfs.s.bd (by omega)
    have HTL := Lib.hid (HSL.out.sm (k := (nsF xss ys).length) (Nat.le_refl _))
    clear hv hf h0 hfs hnl
    have HC := Lib.hid (GrowthOf_impl _ _ _ xss _ _ _ ys w4 HR_4.out HY_4.out)
    go_wp2_with fail
    refine HC.out.mono ?_
    rintro e w5 ⟨A8, n8, c8, g8, rfl, hl8, ho, hb⟩
    have HR_5 := Lib.hid (HR_4.out.keep (Keep.below hb))
    have HY_5 := Lib.hid (HY_4.out.keep (Keep.below hb))
    have HP_5 := Lib.hid (HP_4.out.keep (Keep.below hb))
    have B_5 := Lib.hid (below_up B_4.out hb)
    have HFR := Lib.hid ho.frs
    clear ho
    clear hb HC HR_4 HY_4 HP_4 B_4
    rw [HGF.out] at HFR hl8
    obtain rfl : n8 = m := by have := HGL.out; omega
    clear hl8
    obtain ⟨bg, og, rfl, hcg⟩ := HFR.out.at_ hk
    have HCG := Lib.hid hcg
    clear hcg HFR
    obtain ⟨by_, oy, rfl, hcy⟩ := HY_5.out.at_ hk
    have HCY := Lib.hid hcy
    clear hcy
    have HPI := Lib.hid (show Ints w5 A2 n8 c2 (nsF xss ys) from by have h := HP_5.out; rw [HLL.out] at h; exact h)
    rw [HLL.out]
    obtain ⟨bl, ol, rfl, hcl⟩ := HPI.out.at_ hk
    have HCL := Lib.hid hcl
    have HBX := Lib.hid B_5.out
    clear hcl B_5
    generalize hL : nsF xss ys = L at *
    clear hL
    obtain ⟨t1, t2⟩ := htx
    go_wp2
    go_loopw [7] (fun j wr => ∃ i : Nat, i ≤ n8 ∧ j = .int .i64 i ∧ Hid (Below w5.heap.size w5 wr)) (fun j _ => n8 - (intOf j).toNat)
    case atStart => exact ⟨0, Nat.zero_le _, rfl, Lib.hid (Below.refl _ _)⟩
    case round =>
      obtain ⟨i, hi, rfl, HQ⟩ := hrel
      by_cases hlt : i < n8
      · have c1 := Keep.below HQ.out _ _ (HCY.out i hlt)
        have c2' := Keep.below HQ.out _ _ (HCL.out i hlt)
        have c3 := Keep.below HQ.out _ _ (HCG.out (i * 2) (by omega))
        have c4 := (show wr.cell? ⟨bg, og + i * 2 + 1, none⟩ = some (.int .i64 (gi (grL xss ys n8 n8) (i * 2 + 1))) from Keep.below HQ.out _ _ (HCG.out (i * 2 + 1) (by omega)))
        rw [(HGI.out i hlt).1] at c3
        rw [(HGI.out i hlt).2] at c4
        obtain ⟨e1, e2, hTp⟩ := HNF.out i hlt
        have hpos := HNP.out i hlt
        have hgb := HGB.out i hlt
        have hxb := HXB.out i hlt
        have hlb := HBDN.out i hlt
        have htl : tot L ≤ 1000000000000000 := by have := HTL.out; unfold tot; omega
        have b1 := frU_bd (u := gi ys i) (d := tot ys) (B := 1000) (by omega) (by omega)
        have b2 := frD_bd (u := gi ys i) (d := tot ys) (B := 3000) (by omega) (by omega)
        have b3 := frU_bd (u := gU xss ys n8 i) (d := gP xss ys n8) (B := 81000000) (by omega) (by omega)
        have b4 := frD_bd (u := gU xss ys n8 i) (d := gP xss ys n8) (B := 81000000) (by omega) (by omega)
        have HT1 := Lib.hid (fun W (k : Keep wr W) => total_any (some ⟨bl, ol, none⟩) n8 c2 L W ((HPI.out.keep (Keep.below HQ.out)).keep k) HSL.out)
        have HT2 := Lib.hid (fun W (k : Keep wr W) => total_any (some ⟨by_, oy, none⟩) n8 cb ys W ((HY_5.out.keep (Keep.below HQ.out)).keep k) HSX.out)
        have HF1 := Lib.hid (fun W => show Calls Try.prog 34 #[.int .i64 (gi L i), .int .i64 (tot L)] W (Ret (.agg #[.int .i64 (frU (gi L i) (tot L)), .int .i64 (frD (gi L i) (tot L))]) W) from fracOfG_any (gi L i) (tot L) W (by unfold Big; omega) (by unfold Big; omega) (by omega))
        have HF2 := Lib.hid (fun W => show Calls Try.prog 34 #[.int .i64 (gi ys i), .int .i64 (tot ys)] W (Ret (.agg #[.int .i64 (frU (gi ys i) (tot ys)), .int .i64 (frD (gi ys i) (tot ys))]) W) from fracOfG_any (gi ys i) (tot ys) W (by unfold Big; omega) (by unfold Big; omega) (by omega))
        have HF3 := Lib.hid (fun W => show Calls Try.prog 36 #[.agg #[.int .i64 (frU (gi ys i) (tot ys)), .int .i64 (frD (gi ys i) (tot ys))], .agg #[.int .i64 (frU (gU xss ys n8 i) (gP xss ys n8)), .int .i64 (frD (gU xss ys n8 i) (gP xss ys n8))]] W
            (Ret (.agg #[.int .i64 (frU (gi L i) (tot L)), .int .i64 (frD (gi L i) (tot L))]) W) from by
          rw [e1, e2]
          exact timesOfG_any _ _ _ _ W (by omega) (by omega) (by omega) (by omega))
        clear e1 e2 hgb hxb hlb htl b1 b2 b3 b4 hTp
        generalize frU (gi L i) (tot L) = x1 at *
        generalize frD (gi L i) (tot L) = x2 at *
        generalize frU (gi ys i) (tot ys) = y1 at *
        generalize frD (gi ys i) (tot ys) = y2 at *
        generalize frU (gU xss ys n8 i) (gP xss ys n8) = z1 at *
        generalize frD (gU xss ys n8 i) (gP xss ys n8) = z2 at *
        generalize tot L = TL at *
        generalize tot ys = TY at *
        generalize gi L i = l at *
        generalize gi ys i = y at *
        have hcs : (decide (0 < y) = true ∧ decide (0 < l) = true) ∨ (decide (0 < y) = false ∧ decide (0 < l) = false) := by
          by_cases hp : 0 < y
          · exact .inl ⟨decide_eq_true hp, decide_eq_true (hpos.1 hp)⟩
          · exact .inr ⟨decide_eq_false hp, decide_eq_false (fun h => hp (hpos.2 h))⟩
        have HKA := Lib.hid (And.intro (And.intro c1 c2') (And.intro c3 c4))
        have HK0 := Lib.hid (show Keep wr wr.drew from Keep.drewN wr 1)
        have hin : (i : Int) < (n8 : Int) := by omega
        clear hpos
        rcases hcs with ⟨hd1, hd2⟩ | ⟨hd1, hd2⟩
        all_goals
          go_wp2
          go_region_held3 (fun W => (W.cell? ⟨by_, oy + i, none⟩ = some (.int .i64 y) ∧ W.cell? ⟨bl, ol + i, none⟩ = some (.int .i64 l)) ∧ (W.cell? ⟨bg, og + i * 2, none⟩ = some (.int .i64 z1) ∧ W.cell? ⟨bg, og + i * 2 + 1, none⟩ = some (.int .i64 z2)))
            (first | exact S5.out | exact S4.out | exact S3.out | exact S2.out | exact S1.out | exact HKA.out | go_keep)
            (first
            | (go_at_call 35; (with_reducible refine (HT1.out _ HK0.out).mono ?_); rintro e v1 ⟨rfl, hq⟩; have hb := hq.below (B := wr.drew.heap.size); have S1 := Lib.hid (And.intro (And.intro (Keep.below hb _ _ HKA.out.1.1) (Keep.below hb _ _ HKA.out.1.2)) (And.intro (Keep.below hb _ _ HKA.out.2.1) (Keep.below hb _ _ HKA.out.2.2))); have D1 := Lib.hid (below_quiet HQ.out.drew hq); have K1 := Lib.hid (Keep.trans HK0.out (Keep.quiet hq)); clear hq hb)
            | (go_at_call 34; (with_reducible refine (HF1.out _).mono ?_); rintro e v2 ⟨rfl, hb⟩; have S2 := Lib.hid (And.intro (And.intro (Keep.below hb _ _ S1.out.1.1) (Keep.below hb _ _ S1.out.1.2)) (And.intro (Keep.below hb _ _ S1.out.2.1) (Keep.below hb _ _ S1.out.2.2))); have D2 := Lib.hid (below_up D1.out hb); have K2 := Lib.hid (Keep.trans K1.out (Keep.below hb)); clear hb)
            | (go_at_call 35; (with_reducible refine (HT2.out _ K2.out).mono ?_); rintro e v3 ⟨rfl, hq⟩; have hb := hq.below (B := v2.heap.size); have S3 := Lib.hid (And.intro (And.intro (Keep.below hb _ _ S2.out.1.1) (Keep.below hb _ _ S2.out.1.2)) (And.intro (Keep.below hb _ _ S2.out.2.1) (Keep.below hb _ _ S2.out.2.2))); have D3 := Lib.hid (below_quiet D2.out hq); clear hq hb)
            | (go_at_call 34; (with_reducible refine (HF2.out _).mono ?_); rintro e v4 ⟨rfl, hb⟩; have S4 := Lib.hid (And.intro (And.intro (Keep.below hb _ _ S3.out.1.1) (Keep.below hb _ _ S3.out.1.2)) (And.intro (Keep.below hb _ _ S3.out.2.1) (Keep.below hb _ _ S3.out.2.2))); have D4 := Lib.hid (below_up D3.out hb); clear hb)
            | (go_at_call 36; (with_reducible refine (HF3.out _).mono ?_); rintro e v5 ⟨rfl, hb⟩; have S5 := Lib.hid (And.intro (And.intro (Keep.below hb _ _ S4.out.1.1) (Keep.below hb _ _ S4.out.1.2)) (And.intro (Keep.below hb _ _ S4.out.2.1) (Keep.below hb _ _ S4.out.2.2))); have D5 := Lib.hid (below_up D4.out hb); clear hb))
          all_goals
            clear c1 c2' c3 c4
            go_wp2
            go_roundw
            case rel => exact ⟨i + 1, by omega, by go_num, D5⟩
            case measure => simp [intOf]; omega
      · obtain rfl : i = n8 := by omega
        have HQB := Lib.hid (below_up HBX.out HQ.out)
        have hee : ((i : Int) == (i : Int)) = true := by simp
        go_wp2
        go_ret
        first
        | exact ⟨rfl, HQB.out⟩
        | exact ⟨ret_bool hee, HQB.out⟩

set_option maxRecDepth 100000 in
theorem hFnNextShares_lifted (os : Os) (started : os.Started) (H : Type) (enc : TypeId × Value → H) :
    ReturnsInHanded {} Try.checked os 6 .any (Rows.fnNextSharesSpec.pre6 enc Try.prog Try.f6 Rows.fnNextSharesRow.domain false) (Rows.fnNextSharesSpec.post enc Try.prog Try.f6 false true false false) := by
  refine returnsInHanded_of_change_sized (C := Try.checked) Try.own started (by kernel_rfl) Try.func6
    (ChangeSpec.witness6 (enc := enc) (C := Try.checked) false ⟨#[], #[.slice none 0 0], []⟩ 8 (by kernel_rfl) (by kernel_rfl) (by kernel_rfl) (by kernel_rfl)) ?_
  intro W base args ds gs before hval0 hW _ hwt _
  have hval : ∀ (j : Nat) t v, Try.f6.params[j]? = some t → args[j]? = some v → Value.okWide Try.prog W .any base t v := hval0
  have hA : ∃ p, DataW.TrodAll enc Try.prog W 0 (fun _ => true) true Try.f6.params.toList args.toList ds p := by obtain ⟨p, q, hA0, _⟩ := hW; exact ⟨p, hA0⟩
  obtain ⟨p, hA⟩ := hA
  have hwt' := weights_arg hwt (j := 0) (t := 22) (by rw [Try.params6]; rfl) (d := ds.getD 0 .nil)
  rw [Try.params6] at hA hval
  obtain ⟨v0, d0, rfl, rfl, h0⟩ := trodAll_one hA
  obtain ⟨A, n, c, rfl, hx⟩ := open_bytes (hval 0 22 v0 rfl rfl) h0 (hwt' rfl)
  refine (fnNextShares_calls A n c W hx).mono fun e W' ⟨he, hb⟩ => ?_
  subst he
  exact ⟨_, rfl, law_post (F := Try.f6) rfl rfl (by rw [Try.params6]; simp only [List.mem_cons, List.not_mem_nil, or_false, forall_eq]; exact ⟨by kernel_rfl, of_decide_eq_true (by kernel_rfl)⟩) hW (fun h => by subst h; rfl) hb⟩

theorem hFnNextShares_holds : Rows.FnNextSharesSaid :=
  OpenClaim.holds_of_wide 6 Try.f6 rfl rfl rfl rfl rfl rfl rfl ⟨rfl, rfl, rfl, rfl, rfl⟩ rfl rfl rfl rfl rfl (by kernel_rfl) Try.func6
    (by unfold joinedFacts; simp only [Bool.and_eq_true]; (repeat' apply And.intro) <;> (first | (with_reducible exact prog_enters) | ((with_reducible refine prog_lifts ?_); rfl) | ((with_reducible refine prog_make ?_); rfl) | kernel_rfl))
    (of_decide_eq_true (by kernel_rfl)) (by unfold Func.isWrapper; first | (rw [if_pos (by decide +kernel)]; kernel_rfl) | (rw [if_neg (by decide +kernel)]; exact ⟨rfl, rfl⟩))
    (fun os started H enc _ => hFnNextShares_lifted os started H enc)

end Go.Proofs.Ytoekpbcdgmejcaa
