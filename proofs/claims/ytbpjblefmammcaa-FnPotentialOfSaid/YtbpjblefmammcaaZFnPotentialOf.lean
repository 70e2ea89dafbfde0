/- The law FnPotentialOf holds: whatever the bytes, of the game that is drawn from them the program's potential is the model's, is there exactly if rounds are 0, its steps are those of both players, and then replies end and there is a rest. No condition. -/
import Derived.Test.YtbpjblefmammcaaQ12
namespace Go.Proofs.Ytbpjblefmammcaa
open Go.ChangeShapes Go.WideShapes Go.ChangeAt Go.RowKit Go.Deep

/-- What the loops know: the game in its box, and the potential. -/
structure QF (p : GP) (w : World) (h : Nat) (Ap : Option Addr) (cp : Nat) (xs ys : List (List Int)) (W : World) : Prop where
  c0 : W.cell? ⟨h, 0, none⟩ = some (.slice (some ⟨p.ba, p.oa, none⟩) p.n p.c)
  c1 : W.cell? ⟨h, 1, none⟩ = some (.slice (some ⟨p.bb, p.ob, none⟩) p.n p.d)
  gv : GV p W xs ys
  pr : IntRows W Ap p.n cp (potT xs ys p.m p.n)
  bl : Below w.heap.size w W
theorem QF.qu {p w h Ap cp xs ys W W'} (o : QF p w h Ap cp xs ys W) (q : Quiet W W') : QF p w h Ap cp xs ys W' := by
  obtain ⟨n, rfl⟩ := q
  exact ⟨o.c0, o.c1, o.gv.keep (Keep.drewN _ _), o.pr.keep (Keep.drewN _ _), below_drewN o.bl n⟩

set_option maxRecDepth 100000 in
set_option maxHeartbeats 6400000 in
theorem fnPotentialOf_calls (A : Option Addr) (n c : Nat) (w : World) (hx : Bytes w A n c) :
    Calls Try.prog 8 #[.slice A n c] w fun e w' => e = .returned (.bool true) ∧ Below w.heap.size w w' := by
  have hmx := hx.max
  have H0 := Lib.hid (DrawPotentialOf_any A n c w hx)
  clear hx
  by_cases hs : 1048576 < n
  · go_enter Try.func8, Try.ntmps8
    go_wp2
    go_ret
    exact ⟨rfl, Below.refl _ _⟩
  go_enter Try.func8, Try.ntmps8
  go_wp2_with fail
  refine H0.out.mono ?_
  rintro e w1 ⟨Aa, na, ca, xa, Ab, nb, cb, xb, rfl, sa, sb, ra, rb, hb⟩
  have HG := Lib.hid (GW.start hb ra rb)
  clear sa sb ra rb hb H0
  have c0 := HG.out.cells.1
  have c1 := HG.out.cells.2
  by_cases hp : PotP xa xb
  · have HPP := Lib.hid hp
    have HC := Lib.hid (pb_true hp ▸ PotentialOf_impl Aa Ab na ca nb cb xa xb _ HG.out.ra HG.out.rb)
    clear hp
    go_wp2_with fail
    generalize w1.alloc (.cells #[.slice Aa na ca, .slice Ab nb cb] 29) = W1 at *
    generalize w1.heap.size = h at *
    refine HC.out.mono ?_
    rintro e w3 ⟨Ap, np, cp, gp, rfl, hnp, oo, hb⟩
    have HG2 := Lib.hid (HG.out.up hb)
    have HP2 := Lib.hid oo.rows
    have HNP := Lib.hid hnp
    clear hb HC HG c0 c1 oo hnp
    have c0 := HG2.out.cells.1
    have c1 := HG2.out.cells.2
    have HC := Lib.hid (pb_true HPP.out ▸ PotentialOf_spec Aa Ab na ca nb cb xa xb _ HG2.out.ra HG2.out.rb)
    go_wp2_with fail
    refine HC.out.mono ?_
    rintro e w4 ⟨Au, nu, cu, gu, rfl, hnu, ou, hb⟩
    have HG3 := Lib.hid (HG2.out.up hb)
    have HU := Lib.hid ou.rows
    have HP3 := Lib.hid (HP2.out.keep (Keep.below hb))
    clear ou hnu HP2
    clear hb HC HG2 c0 c1
    have HEQ := Lib.hid (show eqRR (potF xa xb) (potF xa xb) = true by simp [eqRR])
    have HC := Lib.hid (HEQ.out ▸ equalRows_any _ _ _ _ _ _ _ _ _ HP3.out HU.out)
    go_wp2_with fail
    refine HC.out.mono ?_
    rintro e w5 ⟨rfl, hq⟩
    have HG4 := Lib.hid (HG3.out.up hq.below)
    have HP4 := Lib.hid (HP3.out.keep (Keep.quiet hq))
    have HU := Lib.hid (HU.out.keep (Keep.quiet hq))
    clear hq HC HEQ HG3 HP3
    have c0 := HG4.out.cells.1
    have c1 := HG4.out.cells.2
    obtain ⟨p, rfl, rfl, hna, hnb, rfl, rfl, hg⟩ := GV.of HG4.out.ra HG4.out.rb HPP.out.v
    have HROW : Hid (∀ i k j, i < p.n → k < p.n → j < p.m → pC xa xb i j - pC xa xb k j = g2 xa i j - g2 xa k j) := Lib.hid (fun i k j hi hk hj => pot_row HPP.out (by rw [hg.lx]; exact hi) (by rw [hg.lx]; exact hk) (by rw [hg.mx]; exact hj))
    have HTE := Lib.hid (show potF xa xb = potT xa xb p.m p.n by rw [potF_yes HPP.out, hg.lx, hg.mx])
    have hnpe : np = p.n := by rw [HNP.out, HTE.out, potT_len]
    rw [HTE.out] at HP4
    have hn0 : 0 < p.n := hg.tx.n1
    have hn3 : p.n ≤ 3 := hg.tx.n3
    have hm3 : p.m ≤ 3 := hg.tx.m3
    have hm0 : 0 < p.m := hg.tx.m1
    have hn0' : (0 : Int) < (p.n : Int) := by omega
    have hm0' : (0 : Int) < (p.m : Int) := by omega
    have HQF := Lib.hid (show QF p w h Ap cp xa xb w5 from ⟨by rw [← hna]; exact c0, by rw [← hnb]; exact c1, hg, hnpe ▸ HP4.out, HG4.out.below⟩)
    have HBX := Lib.hid HG4.out
    have HNR := Lib.hid (pot_nr.1 HPP.out)
    have HEN := Lib.hid (pot_ends HPP.out)
    have HPR := Lib.hid (ends_rest HEN.out)
    subst hna
    subst hnb
    subst hnpe
    clear hg HG4 HP4 HNP HU c0 c1
    have HSQ := Lib.hid (fun W (q : Quiet w5 W) => HQF.out.qu q)
    have HGQ := Lib.hid (fun W (q : Quiet w5 W) => HBX.out.up (Quiet.below (B := w5.heap.size) q))
    have c0 := HQF.out.c0
    clear HQF HBX
    generalize w5 = W0 at *
    go_wp2
    clear c0
    go_loopw [8] (fun i_ wr => ∃ i : Nat, i ≤ p.n ∧ i_ = .int .i64 i ∧ Quiet W0 wr) (fun i_ _ => p.n - (intOf i_).toNat)
    case atStart => exact ⟨0, Nat.zero_le _, rfl, Quiet.refl _⟩
    case round =>
      obtain ⟨i, hi, rfl, hq⟩ := hrel
      have HQ := Lib.hid hq
      clear hq
      have HS := Lib.hid (HSQ.out _ HQ.out)
      have c0 := HS.out.c0
      have c1 := HS.out.c1
      by_cases hin : i < p.n
      · obtain ⟨wA, hwA⟩ : ∃ wA, wA = wr := ⟨_, rfl⟩
        subst hwA
        clear HS
        go_wp2
        clear c0 c1
        go_loopw [9] (fun j_ wr => ∃ j : Nat, j ≤ p.m ∧ j_ = .int .i64 j ∧ Quiet W0 wr) (fun j_ _ => p.m - (intOf j_).toNat)
        case atStart => exact ⟨0, Nat.zero_le _, rfl, HQ.out⟩
        case round =>
          clear HQ
          obtain ⟨j, hj, rfl, hq⟩ := hrel
          have HQ := Lib.hid hq
          clear hq
          have HS := Lib.hid (HSQ.out _ HQ.out)
          have c0 := HS.out.c0
          have c1 := HS.out.c1
          have kr := HS.out.gv.tx.row 0 hn0
          simp only [Nat.add_zero] at kr
          by_cases hjm : j < p.m
          · obtain ⟨wA, hwA⟩ : ∃ wA, wA = wr := ⟨_, rfl⟩
            subst hwA
            clear HS
            go_wp2
            clear c0 c1 kr
            go_loopw [10] (fun k_ wr => ∃ k : Nat, k ≤ p.n ∧ k_ = .int .i64 k ∧ Quiet W0 wr) (fun k_ _ => p.n - (intOf k_).toNat)
            case atStart => exact ⟨0, Nat.zero_le _, rfl, HQ.out⟩
            case round =>
              clear HQ
              obtain ⟨k, hk, rfl, hq⟩ := hrel
              have HQ := Lib.hid hq
              clear hq
              have HS := Lib.hid (HSQ.out _ HQ.out)
              have c0 := HS.out.c0
              have c1 := HS.out.c1
              have kr := HS.out.gv.tx.row 0 hn0
              simp only [Nat.add_zero] at kr
              by_cases hkn : k < p.n
              · have r1 := HS.out.gv.tx.row i hin
                have r2 := HS.out.gv.tx.row k hkn
                have a1 := HS.out.gv.tx.cell i j hin hjm
                have a2 := HS.out.gv.tx.cell k j hkn hjm
                have z1 := HS.out.gv.tx.bd i j hin hjm
                have z2 := HS.out.gv.tx.bd k j hkn hjm
                obtain ⟨bp, op, rfl, hcp⟩ := HS.out.pr.at_ hn0
                obtain ⟨S1, d1, s1, hS1⟩ := hcp i hin
                rw [gr_potT hin, potR_len] at s1 hS1
                obtain ⟨b1, o1, rfl, hc1⟩ := hS1.at_ hm0
                have q1 := hc1 j hjm
                rw [gi_potR hjm] at q1
                obtain ⟨S2, d2, s2, hS2⟩ := hcp k hkn
                rw [gr_potT hkn, potR_len] at s2 hS2
                obtain ⟨b2, o2, rfl, hc2⟩ := hS2.at_ hm0
                have q2 := hc2 j hjm
                rw [gi_potR hjm] at q2
                obtain ⟨x, hx⟩ : ∃ x, x = g2 xa i j - g2 xa k j := ⟨_, rfl⟩
                have hw1 : IntKind.i64.wrap (g2 xa i j - g2 xa k j) = x := by rw [hx]; exact wrap_in64 (by omega)
                have hw2 : IntKind.i64.wrap (pC xa xb i j - pC xa xb k j) = x := by rw [HROW.out i k j hin hkn hjm, ← hx]; exact wrap_in64 (by omega)
                have hne : (x != x) = false := by simp
                have hii : (i : Int) < (p.n : Int) := by omega
                have hji : (j : Int) < (p.m : Int) := by omega
                have hki : (k : Int) < (p.n : Int) := by omega
                have HQM := Lib.hid (fun n => HQ.out.trans ⟨n, rfl⟩)
                clear hcp hS1 hc1 z1 z2 hx HS hS2 hc2
                generalize pC xa xb i j = o1_ at *
                generalize pC xa xb k j = o2_ at *
                generalize g2 xa i j = e1_ at *
                generalize g2 xa k j = e2_ at *
                go_wp2
                go_quiet (fail)
                clear c0 c1 kr r1 a1 a2 s1 q1 q2 hw1 hw2 r2 s2
                go_wp2
                go_roundw
                case rel => exact ⟨k + 1, by omega, by go_num, HQM.out _⟩
                case measure => simp [intOf]; omega
              · have hke : k = p.n := by omega
                clear HS
                subst hke
                go_wp2
                clear c0 c1 kr
                go_loopw [11] (fun k_ wr => ∃ k : Nat, k ≤ p.m ∧ k_ = .int .i64 k ∧ Quiet W0 wr) (fun k_ _ => p.m - (intOf k_).toNat)
                case atStart => exact ⟨0, Nat.zero_le _, rfl, HQ.out⟩
                case round =>
                  clear HQ
                  obtain ⟨k, hk, rfl, hq⟩ := hrel
                  have HQ := Lib.hid hq
                  clear hq
                  have HS := Lib.hid (HSQ.out _ HQ.out)
                  have c0 := HS.out.c0
                  have c1 := HS.out.c1
                  have kr := HS.out.gv.tx.row 0 hn0
                  simp only [Nat.add_zero] at kr
                  by_cases hkn : k < p.m
                  · have r1 := HS.out.gv.ty.row i hin
                    have a1 := HS.out.gv.ty.cell i j hin hjm
                    have a2 := HS.out.gv.ty.cell i k hin hkn
                    have z1 := HS.out.gv.ty.bd i j hin hjm
                    have z2 := HS.out.gv.ty.bd i k hin hkn
                    obtain ⟨bp, op, rfl, hcp⟩ := HS.out.pr.at_ hn0
                    obtain ⟨S1, d1, s1, hS1⟩ := hcp i hin
                    rw [gr_potT hin, potR_len] at s1 hS1
                    obtain ⟨b1, o1, rfl, hc1⟩ := hS1.at_ hm0
                    have q1 := hc1 j hjm
                    rw [gi_potR hjm] at q1
                    have q2 := hc1 k hkn
                    rw [gi_potR hkn] at q2
                    obtain ⟨x, hx⟩ : ∃ x, x = g2 xb i j - g2 xb i k := ⟨_, rfl⟩
                    have hw1 : IntKind.i64.wrap (g2 xb i j - g2 xb i k) = x := by rw [hx]; exact wrap_in64 (by omega)
                    have hw2 : IntKind.i64.wrap (pC xa xb i j - pC xa xb i k) = x := by rw [pot_col xa xb i j k, ← hx]; exact wrap_in64 (by omega)
                    have hne : (x != x) = false := by simp
                    have hii : (i : Int) < (p.n : Int) := by omega
                    have hji : (j : Int) < (p.m : Int) := by omega
                    have hki : (k : Int) < (p.m : Int) := by omega
                    have HQM := Lib.hid (fun n => HQ.out.trans ⟨n, rfl⟩)
                    clear hcp hS1 hc1 z1 z2 hx HS
                    generalize pC xa xb i j = o1_ at *
                    generalize pC xa xb i k = o2_ at *
                    generalize g2 xb i j = e1_ at *
                    generalize g2 xb i k = e2_ at *
                    go_wp2
                    go_quiet (fail)
                    clear c0 c1 kr r1 a1 a2 s1 q1 q2 hw1 hw2
                    go_wp2
                    go_roundw
                    case rel => exact ⟨k + 1, by omega, by go_num, HQM.out _⟩
                    case measure => simp [intOf]; omega
                  · have hke : k = p.m := by omega
                    clear HS
                    subst hke
                    go_wp2
                    clear c0 c1 kr
                    go_roundw
                    case rel => exact ⟨j + 1, by omega, by go_num, HQ.out⟩
                    case measure => simp [intOf]; omega
          · obtain rfl : j = p.m := by omega
            clear HS
            go_wp2
            clear c0 c1 kr
            go_roundw
            case rel => exact ⟨i + 1, by omega, by go_num, HQ.out⟩
            case measure => simp [intOf]; omega
      · obtain rfl : i = p.n := by omega
        have HGW := Lib.hid (HGQ.out _ HQ.out)
        have HCN := Lib.hid (pb_true HNR.out ▸ NoRounds_impl _ _ _ _ _ _ xa xb _ HGW.out.ra HGW.out.rb)
        have HPW := Lib.hid HS.out.pr
        clear HS
        go_wp2_with fail
        refine HCN.out.mono ?_
        rintro e v1 ⟨rfl, hb⟩
        have HG1 := Lib.hid (HGW.out.up hb)
        have HP1 := Lib.hid (HPW.out.keep (Keep.below hb))
        clear hb HCN HGW HPW c0 c1
        have c0 := HG1.out.cells.1
        have c1 := HG1.out.cells.2
        have HCN := Lib.hid (pb_true HEN.out ▸ EndsAlways_impl _ _ _ _ _ _ xa xb _ HG1.out.ra HG1.out.rb)
        go_wp2_with fail
        refine HCN.out.mono ?_
        rintro e v2 ⟨rfl, hb⟩
        have HG2_ := Lib.hid (HG1.out.up hb)
        have HP2_ := Lib.hid (HP1.out.keep (Keep.below hb))
        clear hb HCN HG1 HP1 c0 c1
        have c0 := HG2_.out.cells.1
        have c1 := HG2_.out.cells.2
        have HCN := Lib.hid (PureRests_impl _ _ _ _ _ _ xa xb _ HG2_.out.ra HG2_.out.rb)
        go_wp2_with fail
        refine HCN.out.mono ?_
        rintro e v3 ⟨Aq, _, cq, gq, rfl, rfl, oq, hb⟩
        have HB3 := Lib.hid (HG2_.out.up hb).below
        have HP3_ := Lib.hid (HP2_.out.keep (Keep.below hb))
        clear hb HCN HG2_ HP2_ oq c0 c1
        obtain ⟨bp, op, rfl, hcp⟩ := HP3_.out.at_ hn0
        obtain ⟨S1, d1, s1, hS1⟩ := hcp 0 hn0
        rw [gr_potT hn0, potR_len] at s1 hS1
        obtain ⟨b1, o1, rfl, hc1⟩ := hS1.at_ hm0
        have q1 := hc1 0 hm0
        rw [gi_potR hm0, pot_zero] at q1
        simp only [Nat.add_zero] at s1 q1
        have hpr := HPR.out
        have hpr2 : (0 : Int) < ((pureR xa xb).length : Int) := by omega
        have hz : ((0 : Int) == 0) = true := by decide
        clear hcp hS1 hc1
        go_wp2
        go_ret
        exact ⟨rfl, HB3.out⟩
  · have HNP := Lib.hid (show potF xa xb = [] ∧ pb (PotP xa xb) = false from ⟨potF_no hp, pb_false hp⟩)
    have HNN := Lib.hid (show pb (NR xa xb) = false from pb_false (fun k => hp (pot_nr.2 k)))
    clear hp
    have HC := Lib.hid (HNP.out.1 ▸ HNP.out.2 ▸ PotentialOf_impl Aa Ab na ca nb cb xa xb _ HG.out.ra HG.out.rb)
    go_wp2_with fail
    generalize w1.alloc (.cells #[.slice Aa na ca, .slice Ab nb cb] 29) = W1 at *
    generalize w1.heap.size = h at *
    refine HC.out.mono ?_
    rintro e w3 ⟨Ap, np, cp, gp, rfl, hnp, oo, hb⟩
    have HG2 := Lib.hid (HG.out.up hb)
    have HP2 := Lib.hid oo.rows
    subst hnp
    clear hb HC HG c0 c1 oo
    have c0 := HG2.out.cells.1
    have c1 := HG2.out.cells.2
    have HC := Lib.hid (HNP.out.1 ▸ HNP.out.2 ▸ PotentialOf_spec Aa Ab na ca nb cb xa xb _ HG2.out.ra HG2.out.rb)
    go_wp2_with fail
    refine HC.out.mono ?_
    rintro e w4 ⟨Au, nu, cu, gu, rfl, hnu, ou, hb⟩
    have HG3 := Lib.hid (HG2.out.up hb)
    have HP3 := Lib.hid (HP2.out.keep (Keep.below hb))
    have HU := Lib.hid ou.rows
    subst hnu
    clear hb HC HG2 HP2 c0 c1 ou
    have HC := Lib.hid (show Calls Try.prog 34 #[.slice Ap ([] : List (List Int)).length cp, .slice Au ([] : List (List Int)).length cu] w4 fun e w' => e = .returned (.bool true) ∧ Quiet w4 w' from (show eqRR [] [] = true by simp [eqRR]) ▸ equalRows_any _ _ _ _ _ _ _ _ _ HP3.out HU.out)
    go_wp2_with fail
    refine HC.out.mono ?_
    rintro e w5 ⟨rfl, hq⟩
    have HG4 := Lib.hid (HG3.out.up hq.below)
    have HP4 := Lib.hid (HP3.out.keep (Keep.quiet hq))
    have HU4 := Lib.hid (HU.out.keep (Keep.quiet hq))
    clear hq HC HG3 HP3 HU
    have HC := Lib.hid (show Calls Try.prog 34 #[.slice Ap ([] : List (List Int)).length cp, .slice Au ([] : List (List Int)).length cu] w5 fun e w' => e = .returned (.bool true) ∧ Quiet w5 w' from (show eqRR [] [] = true by simp [eqRR]) ▸ equalRows_any _ _ _ _ _ _ _ _ _ HP4.out HU4.out)
    go_wp2_with fail
    refine HC.out.mono ?_
    rintro e w6 ⟨rfl, hq⟩
    have HG5 := Lib.hid (HG4.out.up hq.below)
    clear hq HC HG4 HP4 HU4
    have c0 := HG5.out.cells.1
    have c1 := HG5.out.cells.2
    have HC := Lib.hid (HNN.out ▸ NoRounds_impl Aa Ab na ca nb cb xa xb _ HG5.out.ra HG5.out.rb)
    go_wp2_with fail
    refine HC.out.mono ?_
    rintro e w7 ⟨rfl, hb⟩
    have HB := Lib.hid (HG5.out.up hb).below
    clear hb HC HG5 c0 c1
    go_wp2
    go_ret
    exact ⟨rfl, HB.out⟩

set_option maxRecDepth 100000 in
theorem hFnPotentialOf_lifted (os : Os) (started : os.Started) (H : Type) (enc : TypeId × Value → H) :
    ReturnsInHanded {} Try.checked os 8 .any (Rows.fnPotentialOfSpec.pre6 enc Try.prog Try.f8 Rows.fnPotentialOfRow.domain false) (Rows.fnPotentialOfSpec.post enc Try.prog Try.f8 false true false false) := by
  refine returnsInHanded_of_change_sized (C := Try.checked) Try.own started (by kernel_rfl) Try.func8
    (ChangeSpec.witness6 (enc := enc) (C := Try.checked) false ⟨#[], #[.slice none 0 0], []⟩ 8 (by kernel_rfl) (by kernel_rfl) (by kernel_rfl) (by kernel_rfl)) ?_
  intro W base args ds gs before hval0 hW _ hwt _
  have hval : ∀ (j : Nat) t v, Try.f8.params[j]? = some t → args[j]? = some v → Value.okWide Try.prog W .any base t v := hval0
  have hA : ∃ p, DataW.TrodAll enc Try.prog W 0 (fun _ => true) true Try.f8.params.toList args.toList ds p := by obtain ⟨p, q, hA0, _⟩ := hW; exact ⟨p, hA0⟩
  obtain ⟨p, hA⟩ := hA
  have hwt' := weights_arg hwt (j := 0) (t := 36) (by rw [Try.params8]; rfl) (d := ds.getD 0 .nil)
  rw [Try.params8] at hA hval
  obtain ⟨v0, d0, rfl, rfl, h0⟩ := trodAll_one hA
  obtain ⟨A, n, c, rfl, hx⟩ := open_bytes (hval 0 36 v0 rfl rfl) h0 (hwt' rfl)
  refine (fnPotentialOf_calls A n c W hx).mono fun e W' ⟨he, hb⟩ => ?_
  subst he
  exact ⟨_, rfl, law_post (F := Try.f8) rfl rfl (by rw [Try.params8]; simp only [List.mem_cons, List.not_mem_nil, or_false, forall_eq]; exact ⟨by kernel_rfl, of_decide_eq_true (by kernel_rfl)⟩) hW (fun h => by subst h; rfl) hb⟩

theorem hFnPotentialOf_holds : Rows.FnPotentialOfSaid :=
  OpenClaim.holds_of_wide 8 Try.f8 rfl rfl rfl rfl rfl rfl rfl ⟨rfl, rfl, rfl, rfl, rfl⟩ rfl rfl rfl rfl rfl (by kernel_rfl) Try.func8
    (by unfold joinedFacts; simp only [Bool.and_eq_true]; (repeat' apply And.intro) <;> (first | (with_reducible exact prog_enters) | ((with_reducible refine prog_lifts ?_); rfl) | ((with_reducible refine prog_make ?_); rfl) | kernel_rfl))
    (of_decide_eq_true (by kernel_rfl)) (by unfold Func.isWrapper; first | (rw [if_pos (by decide +kernel)]; kernel_rfl) | (rw [if_neg (by decide +kernel)]; exact ⟨rfl, rfl⟩))
    (fun os started H enc _ => hFnPotentialOf_lifted os started H enc)

end Go.Proofs.Ytbpjblefmammcaa
