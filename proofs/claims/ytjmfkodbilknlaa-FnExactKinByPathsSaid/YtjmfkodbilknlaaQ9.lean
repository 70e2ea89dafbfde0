/- Texts merged: EA2 EA3 EA4. -/
import Derived.Test.YtjmfkodbilknlaaQ8
import Derived.StillTailTactics
/- EndsAlways, by the model. -/
namespace Go.Proofs.Ytjmfkodbilknlaa
open Go.RowKit

/-- The first moves of a list end. -/
theorem eF_pre {xs ys : List (List Int)} {n k i j : Nat} (h : eF xs ys n (k + 1) i j = false) : ∃ q, q < (repL xs ys n i j).length ∧ eF xs ys n k (gi (gr (repL xs ys n i j) q) 0).toNat (gi (gr (repL xs ys n i j) q) 1).toNat = false := by
  rw [eF, List.all_eq_false] at h
  obtain ⟨r, hr, he⟩ := h
  obtain ⟨q, hq, rfl⟩ := List.mem_iff_getElem.1 hr
  exact ⟨q, hq, by rw [gr_get hq]; simpa using he⟩
set_option maxRecDepth 100000 in
set_option maxHeartbeats 3200000 in
theorem endsFrom_any (p : GP) (xs ys : List (List Int)) : ∀ (k i j : Nat) (w : World), GV p w xs ys → k ≤ 100 → i < p.n → j < p.m →
    Calls Try.prog 58 #[.agg #[.slice (some ⟨p.ba, p.oa, none⟩) p.n p.c, .slice (some ⟨p.bb, p.ob, none⟩) p.n p.d], .int .i64 i, .int .i64 j, .int .i64 k] w (Ret (.bool (eF xs ys p.n k i j)) w) := by
  intro k
  induction k with
  | zero =>
    intro i j w hg _ hi hj
    have HGT := Lib.hid (GT.start hg)
    have HR := Lib.hid (replies_any p i j xs ys _ HGT.out.gv hi hj)
    have HE := Lib.hid (show eF xs ys p.n 0 i j = (repL xs ys p.n i j).isEmpty from rfl)
    have HL := Lib.hid (repL_len xs ys p.n i j)
    have HY := Lib.hid (show (gr ys i).length = p.m from (hg.ty.ints i hi).len)
    have hn3 := hg.tx.n3
    have hm3 := hg.tx.m3
    clear hg hi hj
    go_enter Try.func58, Try.ntmps58
    have c0 := HGT.out.c0
    have c1 := HGT.out.c1
    go_wp2_with fail
    generalize w.alloc (.cells #[.slice (some ⟨p.ba, p.oa, none⟩) p.n p.c, .slice (some ⟨p.bb, p.ob, none⟩) p.n p.d] 43) = W1 at *
    refine HR.out.mono ?_
    rintro e w2 ⟨Al, nl, cl, gl, rfl, hnl, ho, hb⟩
    have HB := Lib.hid (below_up HGT.out.below hb)
    clear ho hb HR HGT c0 c1
    cases hl : repL xs ys p.n i j with
    | nil =>
      have HT : Hid (eF xs ys p.n 0 i j = true) := Lib.hid (by rw [HE.out, hl]; rfl)
      rw [hl] at hnl
      obtain rfl : nl = 0 := hnl
      clear hl HE
      go_wp2
      go_loop [10] (fun i_ => i_ = .int .i64 0) (fun _ => 0)
      case atStart => rfl
      case round =>
        subst hrel
        go_wp2
        go_ret
        exact ⟨ret_bool HT.out.symm, HB.out⟩
    | cons x l =>
      have HT : Hid (eF xs ys p.n 0 i j = false) := Lib.hid (by rw [HE.out, hl]; rfl)
      rw [hl] at hnl
      have hn0 : 0 < nl := by rw [hnl]; simp
      have hn0' : (0 : Int) < (nl : Int) := by omega
      have hmx : nl ≤ 10 := by have h1 := HL.out; have h2 := HY.out; rw [hl] at h1; omega
      clear hnl hl HE
      go_wp2
      go_loopw [10] (fun i_ wr => i_ = .int .i64 0 ∧ wr = w2) (fun _ _ => 0)
      case atStart => exact ⟨rfl, rfl⟩
      case round =>
        obtain ⟨rfl, rfl⟩ := hrel
        have hz : ((0 : Int) == 0) = true := by decide
        go_wp2
        go_quiet (fail)
        go_wp2
        go_ret
        exact ⟨ret_bool HT.out.symm, (Below.trans HB.out (Quiet.below ⟨_, rfl⟩))⟩
  | succ k ih =>
    intro i j w hg hk hi hj
    have HGT := Lib.hid (GT.start hg)
    have HR := Lib.hid (replies_any p i j xs ys _ HGT.out.gv hi hj)
    have HIN := Lib.hid (repL_in hi (m := p.m) hj ((hg.ty.ints i hi).len) (xs := xs))
    have HL := Lib.hid (repL_len xs ys p.n i j)
    have HY := Lib.hid (show (gr ys i).length = p.m from (hg.ty.ints i hi).len)
    have HG := Lib.hid hg
    have IH := Lib.hid ih
    have HYES : Hid ((∀ q, q < (repL xs ys p.n i j).length → eF xs ys p.n k (gi (gr (repL xs ys p.n i j) q) 0).toNat (gi (gr (repL xs ys p.n i j) q) 1).toNat = true) → eF xs ys p.n (k + 1) i j = true) := Lib.hid (fun h => by
      cases e : eF xs ys p.n (k + 1) i j with
      | true => rfl
      | false => obtain ⟨q, hq, e⟩ := eF_pre e; rw [h q hq] at e; cases e)
    have HNO : Hid (∀ q, q < (repL xs ys p.n i j).length → eF xs ys p.n k (gi (gr (repL xs ys p.n i j) q) 0).toNat (gi (gr (repL xs ys p.n i j) q) 1).toNat = false → eF xs ys p.n (k + 1) i j = false) := Lib.hid (fun q hq e => by
      rw [eF, List.all_eq_false]
      exact ⟨gr (repL xs ys p.n i j) q, gr_mem hq, by simpa using e⟩)
    have hn3 := hg.tx.n3
    have hm3 := hg.tx.m3
    clear hg hi hj ih
    go_enter Try.func58, Try.ntmps58
    have c0 := HGT.out.c0
    have c1 := HGT.out.c1
    go_wp2_with fail
    generalize w.alloc (.cells #[.slice (some ⟨p.ba, p.oa, none⟩) p.n p.c, .slice (some ⟨p.bb, p.ob, none⟩) p.n p.d] 43) = W1 at *
    refine HR.out.mono ?_
    rintro e w2 ⟨Al, nl, cl, gl, rfl, hnl, ho, hb⟩
    have HGT := Lib.hid (HGT.out.up hb)
    have HRW := Lib.hid ho.rows
    have HMX : Hid ((repL xs ys p.n i j).length ≤ 10) := Lib.hid (by have h1 := HL.out; have h2 := HY.out; omega)
    subst hnl
    clear ho hb HR HL HY c0 c1
    generalize repL xs ys p.n i j = L at *
    have hmx := HMX.out
    go_wp2
    go_loopw [10] (fun i_ wr => ∃ q : Nat, q ≤ L.length ∧ i_ = .int .i64 q ∧ Hid (GT p w wr w.heap.size xs ys) ∧ Hid (Keep w2 wr) ∧ Hid (∀ q', q' < q → eF xs ys p.n k (gi (gr L q') 0).toNat (gi (gr L q') 1).toNat = true)) (fun i_ _ => L.length - (intOf i_).toNat)
    case atStart => exact ⟨0, Nat.zero_le _, rfl, HGT, Lib.hid (Keep.refl _), Lib.hid (fun _ h => absurd h (by omega))⟩
    case round =>
      clear HGT
      obtain ⟨q, hq, rfl, HGT, HK, HQ⟩ := hrel
      by_cases hlt : q < L.length
      · obtain ⟨a, b, er, ha, hb⟩ := HIN.out _ (gr_mem hlt)
        obtain ⟨bl, ol, rfl, hc⟩ := (HRW.out.keep HK.out).at_ (by omega)
        obtain ⟨R, cc, c2, hR⟩ := hc q hlt
        rw [er] at c2 hR
        obtain ⟨br, or_, rfl, hcr⟩ := hR.at_ (by simp)
        have c3 : wr.cell? ⟨br, or_, none⟩ = some (.int .i64 (a : Int)) := hcr 0 (by simp)
        have c4 : wr.cell? ⟨br, or_ + 1, none⟩ = some (.int .i64 (b : Int)) := hcr 1 (by simp)
        have HC := Lib.hid (fun W h => IH.out a b W h (by omega) ha hb)
        have HN1 := HNO.out q hlt
        rw [er] at HN1
        have HN2 := Lib.hid HN1
        have HEQ := Lib.hid er
        replace c2 : wr.cell? ⟨bl, ol + q, none⟩ = some (.slice (some ⟨br, or_, none⟩) 2 cc) := c2
        have k0 := HGT.out.c0
        have k1 := HGT.out.c1
        have hqi : (q : Int) < (L.length : Int) := by omega
        have hk0 : (((k + 1 : Nat) : Int) == 0) = false := by rw [beq_eq_false_iff_ne]; omega
        have hwr : IntKind.i64.wrap (((k + 1 : Nat) : Int) - 1) = (k : Int) := by rw [wrap_in64 (by omega)]; omega
        have HWR := Lib.hid hwr
        clear hc hR hcr er HN1 ha hb hwr
        cases hev : eF xs ys p.n k a b with
        | true =>
          have HQ2 : Hid (∀ q', q' < q + 1 → eF xs ys p.n k (gi (gr L q') 0).toNat (gi (gr L q') 1).toNat = true) := Lib.hid (fun q' h => by
            by_cases e : q' = q
            · subst e; rw [HEQ.out]; simpa [gi] using hev
            · exact HQ.out q' (by omega))
          rw [hev] at HC
          clear HN2 hev HQ
          have hwr := HWR.out
          go_wp2
          go_still_tail 18, (by kernel_rfl)
          have HGD := Lib.hid (HGT.out.up (Quiet.below (B := wr.heap.size) ⟨1, rfl⟩))
          have HKD := Lib.hid (HK.out.trans (Keep.drewN wr 1))
          replace HGD : Hid (GT p w wr.drew w.heap.size xs ys) := HGD
          replace HKD : Hid (Keep w2 wr.drew) := HKD
          clear HGT HK c2 c3 c4 k0 k1
          change wpList _ _ _ _ _ wr.drew
          generalize wr.drew = wd at *
          go_wp2_with fail
          refine (HC.out _ HGD.out.gv).mono ?_
          rintro e w5 ⟨rfl, hb⟩
          have HG5 := Lib.hid (HGD.out.up hb)
          have HK5 := Lib.hid (HKD.out.trans (Keep.below hb))
          clear hb HC HGD HKD
          go_wp2
          go_roundw
          case rel => exact ⟨q + 1, by omega, by go_num, HG5, HK5, HQ2⟩
          case measure => simp [intOf]; omega
        | false =>
          have HX := Lib.hid (HN2.out (by simpa [gi] using hev))
          rw [hev] at HC
          clear HN2 hev HQ
          have hwr := HWR.out
          go_wp2
          go_still_tail 18, (by kernel_rfl)
          have HGD := Lib.hid (HGT.out.up (Quiet.below (B := wr.heap.size) ⟨1, rfl⟩))
          have HKD := Lib.hid (HK.out.trans (Keep.drewN wr 1))
          replace HGD : Hid (GT p w wr.drew w.heap.size xs ys) := HGD
          replace HKD : Hid (Keep w2 wr.drew) := HKD
          clear HGT HK c2 c3 c4 k0 k1
          change wpList _ _ _ _ _ wr.drew
          generalize wr.drew = wd at *
          go_wp2_with fail
          refine (HC.out _ HGD.out.gv).mono ?_
          rintro e w5 ⟨rfl, hb⟩
          have HG5 := Lib.hid (HGD.out.up hb)
          have HK5 := Lib.hid (HKD.out.trans (Keep.below hb))
          clear hb HC HGD HKD
          go_wp2
          go_ret
          exact ⟨ret_bool HX.out.symm, HG5.out.below⟩
      · obtain rfl : q = L.length := by omega
        have HE := Lib.hid (HYES.out HQ.out)
        have HB := Lib.hid HGT.out.below
        clear HGT
        go_wp2
        go_ret
        exact ⟨ret_bool HE.out.symm, HB.out⟩

set_option maxRecDepth 100000 in
set_option maxHeartbeats 3200000 in
theorem EndsAlways_spec (A B : Option Addr) (n c m d : Nat) (xs ys : List (List Int)) (w : World) (hx : IntRows w A n c xs) (hy : IntRows w B m d ys) :
    Calls Try.prog 23 #[.agg #[.slice A n c, .slice B m d]] w (Ret (.bool (pb (EnP xs ys))) w) := by
  have hb0 := below_alloc w (.cells #[.slice A n c, .slice B m d] 43)
  have b0 := blk_new w 43 #[.slice A n c, .slice B m d]
  have HB := Lib.hid hb0
  have HK := Lib.hid b0
  have HX := Lib.hid (hx.keep (Keep.below hb0))
  have HY := Lib.hid (hy.keep (Keep.below hb0))
  have HX0 := Lib.hid hx
  have HY0 := Lib.hid hy
  clear hx hy hb0 b0
  go_enter Try.func23, Try.ntmps23
  have z0 := blk_cell HK.out (i := 0) (v := .slice A n c) rfl
  have z1 := blk_cell HK.out (i := 1) (v := .slice B m d) rfl
  go_wp2_with fail
  generalize w.alloc (.cells #[.slice A n c, .slice B m d] 43) = W1 at *
  have HC := Lib.hid (validGame_any _ _ _ _ _ _ _ _ _ HX.out HY.out)
  by_cases hv : VG xs ys
  · refine ((pb_true hv) ▸ HC.out).mono ?_
    rintro e w1 ⟨rfl, hb⟩
    have hb2 := below_up HB.out hb
    have hk2 := blk_below HK.out hb
    obtain ⟨p, rfl, rfl, rfl, rfl, rfl, rfl, hg⟩ := GV.of HX0.out HY0.out hv
    have HT := Lib.hid (show GT p w w1 w.heap.size xs ys from ⟨hb2, hk2, hg⟩)
    have hn3 := hg.tx.n3
    have hm3 := hg.tx.m3
    have hn1 := hg.tx.n1
    have hm1 := hg.tx.m1
    have hnm : p.n * p.m ≤ 9 := by have := Nat.mul_le_mul hn3 hm3; omega
    have HV := Lib.hid hv
    have hmul : IntKind.i64.wrap ((p.n : Int) * (p.m : Int)) = ((p.n * p.m : Nat) : Int) := by rw [wrap_in64 (by rw [← Int.natCast_mul]; omega), Int.natCast_mul]
    have HYES : Hid ((∀ i j, i < p.n → j < p.m → eF xs ys p.n (p.n * p.m) i j = true) → pb (EnP xs ys) = true) := Lib.hid (fun h => pb_true ⟨hv, fun i j hi hj => by rw [hg.lx, hg.mx] at *; exact h i j hi hj⟩)
    have HNO : Hid (∀ i j, i < p.n → j < p.m → eF xs ys p.n (p.n * p.m) i j = false → pb (EnP xs ys) = false) := Lib.hid (fun i j hi hj h => pb_false (fun k => by have := k.all i j (by rw [hg.lx]; exact hi) (by rw [hg.mx]; exact hj); rw [hg.lx, hg.mx, h] at this; cases this))
    clear hb hb2 hk2 hg HX HY HX0 HY0 HB HK HC hv z0 z1
    have k0 := HT.out.c0
    have k1 := HT.out.c1
    have r0 := HT.out.gv.tx.row 0 hn1
    simp only [Nat.add_zero] at r0
    generalize hN : p.n * p.m = N at *
    have HNN := Lib.hid hN
    clear hN
    have HTM := Lib.hid (fun m => HT.out.qu (w' := w1.drewN m) ⟨m, rfl⟩)
    clear HT
    go_wp2
    go_quiet (fail)
    clear k0 k1 r0
    go_wp2
    go_loopw [4] (fun i_ wr => ∃ i : Nat, i ≤ p.n ∧ i_ = .int .i64 i ∧ Hid (GT p w wr w.heap.size xs ys) ∧ Hid (∀ i' j', i' < i → j' < p.m → eF xs ys p.n N i' j' = true)) (fun i_ _ => p.n - (intOf i_).toNat)
    case atStart => exact ⟨0, Nat.zero_le _, rfl, Lib.hid (HTM.out _), Lib.hid (fun _ _ h => absurd h (by omega))⟩
    case round =>
      clear HTM
      obtain ⟨i, hi, rfl, HG, HQ⟩ := hrel
      by_cases hlt : i < p.n
      · have k0 := HG.out.c0
        obtain ⟨wA, hwA⟩ : ∃ wA, wA = wr := ⟨_, rfl⟩
        subst hwA
        go_wp2
        clear k0
        go_loopw [5] (fun j_ wr => ∃ j : Nat, j ≤ p.m ∧ j_ = .int .i64 j ∧ Hid (GT p w wr w.heap.size xs ys) ∧ Hid (∀ j', j' < j → eF xs ys p.n N i j' = true)) (fun j_ _ => p.m - (intOf j_).toNat)
        case atStart => exact ⟨0, Nat.zero_le _, rfl, HG, Lib.hid (fun _ h => absurd h (by omega))⟩
        case round =>
          clear HG
          obtain ⟨j, hj, rfl, HG, HJ⟩ := hrel
          have k0 := HG.out.c0
          have k1 := HG.out.c1
          have r0 := HG.out.gv.tx.row 0 hn1
          simp only [Nat.add_zero] at r0
          by_cases hjl : j < p.m
          · have HC := Lib.hid (endsFrom_any p xs ys N i j wr HG.out.gv (by omega) hlt hjl)
            cases hev : eF xs ys p.n N i j with
            | true =>
              have HJ2 : Hid (∀ j', j' < j + 1 → eF xs ys p.n N i j' = true) := Lib.hid (fun j' h => by
                by_cases e : j' = j
                · subst e; exact hev
                · exact HJ.out j' (by omega))
              rw [hev] at HC
              clear hev HJ
              go_wp2_with fail
              refine HC.out.mono ?_
              rintro e w5 ⟨rfl, hb⟩
              have HG5 := Lib.hid (HG.out.up hb)
              clear hb HC HG k0 k1 r0
              go_wp2
              go_roundw
              case rel => exact ⟨j + 1, by omega, by go_num, HG5, HJ2⟩
              case measure => simp [intOf]; omega
            | false =>
              have HE := Lib.hid (HNO.out i j hlt hjl hev)
              rw [hev] at HC
              clear hev HJ
              go_wp2_with fail
              refine HC.out.mono ?_
              rintro e w5 ⟨rfl, hb⟩
              have HG5 := Lib.hid (HG.out.up hb)
              clear hb HC HG k0 k1 r0
              go_wp2
              go_ret
              exact ⟨ret_bool HE.out.symm, HG5.out.below⟩
          · obtain rfl : j = p.m := by omega
            have HQ2 : Hid (∀ i' j', i' < i + 1 → j' < p.m → eF xs ys p.n N i' j' = true) := Lib.hid (fun i' j' h h2 => by
              by_cases e : i' = i
              · subst e; exact HJ.out j' h2
              · exact HQ.out i' j' (by omega) h2)
            go_wp2
            clear k0 k1 r0
            go_roundw
            case rel => exact ⟨i + 1, by omega, by go_num, HG, HQ2⟩
            case measure => simp [intOf]; omega
      · obtain rfl : i = p.n := by omega
        have HE := Lib.hid (HYES.out HQ.out)
        have k0 := HG.out.c0
        have HB := Lib.hid HG.out.below
        clear HG
        go_wp2
        go_ret
        exact ⟨ret_bool HE.out.symm, HB.out⟩
  · have HNO := Lib.hid (pb_false (p := EnP xs ys) (fun k => hv k.v))
    refine ((pb_false hv) ▸ HC.out).mono ?_
    rintro e w1 ⟨rfl, hb⟩
    have hb2 := Lib.hid (below_up HB.out hb)
    clear hb HC HX HY HX0 HY0 HB HK z0 z1 hv
    go_wp2
    go_ret
    exact ⟨ret_bool HNO.out.symm, hb2.out⟩

end Go.Proofs.Ytjmfkodbilknlaa

/- All pairs, and one move on from pairs, by the program. -/
namespace Go.Proofs.Ytjmfkodbilknlaa
open Go.RowKit

/-- Nine marks, three rows one behind the other. -/
def bs9 (f : Nat → Nat → Bool) : Array Value := #[.bool (f 0 0), .bool (f 0 1), .bool (f 0 2), .bool (f 1 0), .bool (f 1 1), .bool (f 1 2), .bool (f 2 0), .bool (f 2 1), .bool (f 2 2)]
theorem bs9_get (f : Nat → Nat → Bool) {i j : Nat} (hi : i < 3) (hj : j < 3) : (bs9 f)[i * 3 + j]? = some (.bool (f i j)) := by
  rcases lt3 hi with rfl | rfl | rfl <;> rcases lt3 hj with rfl | rfl | rfl <;> rfl
theorem bs9_congr {f g : Nat → Nat → Bool} (h : ∀ r c, r < 3 → c < 3 → f r c = g r c) : bs9 f = bs9 g := by
  unfold bs9
  rw [h 0 0 (by omega) (by omega), h 0 1 (by omega) (by omega), h 0 2 (by omega) (by omega), h 1 0 (by omega) (by omega), h 1 1 (by omega) (by omega), h 1 2 (by omega) (by omega), h 2 0 (by omega) (by omega), h 2 1 (by omega) (by omega), h 2 2 (by omega) (by omega)]
theorem bs9_inj {f g : Nat → Nat → Bool} (h : bs9 f = bs9 g) : ∀ r c, r < 3 → c < 3 → f r c = g r c := fun r c hr hc => by
  have h2 := bs9_get f hr hc
  rw [h, bs9_get g hr hc] at h2
  injection h2 with h2
  injection h2 with h2
  exact h2.symm
theorem bs9_row (f : Nat → Nat → Bool) {i : Nat} (hi : i < 3) (a b c : Bool) : (((bs9 f).setIfInBounds (i * 3) (.bool a)).setIfInBounds (i * 3 + 1) (.bool b)).setIfInBounds (i * 3 + 2) (.bool c) = bs9 (fun r j => if r = i then (if j = 0 then a else if j = 1 then b else c) else f r j) := by
  rcases lt3 hi with rfl | rfl | rfl <;> rfl
theorem bs9_put (f : Nat → Nat → Bool) {i j : Nat} (hi : i < 3) (hj : j < 3) : (bs9 f).setIfInBounds (i * 3 + j) (.bool true) = bs9 (putP f [(i : Int), (j : Int)]) := by
  rcases lt3 hi with rfl | rfl | rfl <;> rcases lt3 hj with rfl | rfl | rfl <;> simp [bs9, putP]
theorem bs9_none : bs9 (fun _ _ => false) = #[.bool false, .bool false, .bool false, .bool false, .bool false, .bool false, .bool false, .bool false, .bool false] := rfl
theorem und_pairs : Try.prog.underlying 80 = some (.array 3 78) := by kernel_rfl
/-- All pairs. -/
def allP (n m : Nat) : Nat → Nat → Bool := fun r c => decide (r < n) && decide (c < m)

/-- The boxes of allPairs. -/
structure AQ (p : GP) (w : World) (xs ys : List (List Int)) (k : Nat) (W : World) : Prop where
  gt : GT p w W w.heap.size xs ys
  box : Blk W (w.heap.size + 1) 80 #[.bool false, .bool false, .bool false, .bool false, .bool false, .bool false, .bool false, .bool false, .bool false]
  var : Blk W (w.heap.size + 1 + 1) 80 (bs9 (allP k p.m))
theorem AQ.start {p w xs ys} (h : GV p w xs ys) : AQ p w xs ys 0 (((w.alloc (.cells #[.slice (some ⟨p.ba, p.oa, none⟩) p.n p.c, .slice (some ⟨p.bb, p.ob, none⟩) p.n p.d] 43)).alloc (.cells #[.bool false, .bool false, .bool false, .bool false, .bool false, .bool false, .bool false, .bool false, .bool false] 80)).alloc (.cells #[.bool false, .bool false, .bool false, .bool false, .bool false, .bool false, .bool false, .bool false, .bool false] 80)) := by
  have h1 := blk_new (w.alloc (.cells #[.slice (some ⟨p.ba, p.oa, none⟩) p.n p.c, .slice (some ⟨p.bb, p.ob, none⟩) p.n p.d] 43)) 80 #[.bool false, .bool false, .bool false, .bool false, .bool false, .bool false, .bool false, .bool false, .bool false]
  have h2 := blk_new ((w.alloc (.cells #[.slice (some ⟨p.ba, p.oa, none⟩) p.n p.c, .slice (some ⟨p.bb, p.ob, none⟩) p.n p.d] 43)).alloc (.cells #[.bool false, .bool false, .bool false, .bool false, .bool false, .bool false, .bool false, .bool false, .bool false] 80)) 80 #[.bool false, .bool false, .bool false, .bool false, .bool false, .bool false, .bool false, .bool false, .bool false]
  simp only [World.size_alloc] at h1 h2
  exact ⟨((GT.start h).up (below_alloc _ _)).up (below_alloc _ _), blk_old h1 _, by
    have e : bs9 (allP 0 p.m) = #[.bool false, .bool false, .bool false, .bool false, .bool false, .bool false, .bool false, .bool false, .bool false] := by rw [← bs9_none]; exact bs9_congr fun r c _ _ => by simp [allP]
    rw [e]; exact h2⟩
theorem AQ.up {p w xs ys k W W'} (h : AQ p w xs ys k W) (b : Below W.heap.size W W') : AQ p w xs ys k W' := ⟨h.gt.up b, blk_below h.box b, blk_below h.var b⟩
theorem AQ.put {p w xs ys k W} (h : AQ p w xs ys k W) (hk : k < 3) (a b c : Bool) (ha : a = decide (0 < p.m)) (hb : b = decide (1 < p.m)) (hc : c = decide (2 < p.m)) :
    AQ p w xs ys (k + 1) (((W.setCell ⟨w.heap.size + 1 + 1, k * 3, none⟩ (.bool a)).setCell ⟨w.heap.size + 1 + 1, k * 3 + 1, none⟩ (.bool b)).setCell ⟨w.heap.size + 1 + 1, k * 3 + 2, none⟩ (.bool c)) := by
  have hlt := blk_lt h.gt.box
  refine ⟨h.gt.up2 (B := w.heap.size + 1) ((((Below.refl _ _).setCell (p := ⟨w.heap.size + 1 + 1, k * 3, none⟩) (by show w.heap.size + 1 ≤ w.heap.size + 1 + 1; omega) _).setCell (p := ⟨w.heap.size + 1 + 1, k * 3 + 1, none⟩) (by show w.heap.size + 1 ≤ w.heap.size + 1 + 1; omega) _).setCell (p := ⟨w.heap.size + 1 + 1, k * 3 + 2, none⟩) (by show w.heap.size + 1 ≤ w.heap.size + 1 + 1; omega) _) (by omega) (by omega),
    blk_other (p := ⟨w.heap.size + 1 + 1, k * 3 + 2, none⟩) (blk_other (p := ⟨w.heap.size + 1 + 1, k * 3 + 1, none⟩) (blk_other (p := ⟨w.heap.size + 1 + 1, k * 3, none⟩) h.box (by show w.heap.size + 1 ≠ w.heap.size + 1 + 1; omega) _) (by show w.heap.size + 1 ≠ w.heap.size + 1 + 1; omega) _) (by show w.heap.size + 1 ≠ w.heap.size + 1 + 1; omega) _, ?_⟩
  have := blk_set (blk_set (blk_set h.var (k * 3) (.bool a)) (k * 3 + 1) (.bool b)) (k * 3 + 2) (.bool c)
  rw [bs9_row _ hk] at this
  have e : bs9 (fun r j => if r = k then (if j = 0 then a else if j = 1 then b else c) else allP k p.m r j) = bs9 (allP (k + 1) p.m) := bs9_congr fun r j hr hj => by
    by_cases e : r = k
    · subst e
      rw [if_pos rfl]
      rcases lt3 hj with rfl | rfl | rfl <;> simp [allP, ha, hb, hc]
    · rw [if_neg e]
      unfold allP
      have : decide (r < k) = decide (r < k + 1) := by rw [decide_eq_decide]; omega
      rw [this]
  rw [e] at this
  exact this
set_option maxRecDepth 100000 in
set_option maxHeartbeats 3200000 in
theorem allPairs_any (p : GP) (xs ys : List (List Int)) (w : World) (hg : GV p w xs ys) :
    Calls Try.prog 59 #[.agg #[.slice (some ⟨p.ba, p.oa, none⟩) p.n p.c, .slice (some ⟨p.bb, p.ob, none⟩) p.n p.d]] w (Ret (.agg (bs9 (allP p.n p.m))) w) := by
  have HS := Lib.hid (AQ.start hg)
  have hn3 := hg.tx.n3
  have hm3 := hg.tx.m3
  have hn1 := hg.tx.n1
  obtain ⟨b0, e0⟩ : ∃ b, b = decide (0 < p.m) := ⟨_, rfl⟩
  obtain ⟨b1, e1⟩ : ∃ b, b = decide (1 < p.m) := ⟨_, rfl⟩
  obtain ⟨b2, e2⟩ : ∃ b, b = decide (2 < p.m) := ⟨_, rfl⟩
  have HC : Hid (∀ W, Calls Try.prog 78 #[.int .i64 p.m] W (Ret (.agg #[.bool b0, .bool b1, .bool b2]) W)) := Lib.hid (fun W => by
    have h := allMarks_any p.m W hm3
    rw [bs3, ← e0, ← e1, ← e2] at h; exact h)
  have E0 := Lib.hid e0
  have E1 := Lib.hid e1
  have E2 := Lib.hid e2
  clear e0 e1 e2 hg
  go_enter Try.func59, Try.ntmps59
  have k0 := HS.out.gt.c0
  go_wp2
  clear k0
  generalize ((w.alloc (.cells #[.slice (some ⟨p.ba, p.oa, none⟩) p.n p.c, .slice (some ⟨p.bb, p.ob, none⟩) p.n p.d] 43)).alloc (.cells #[.bool false, .bool false, .bool false, .bool false, .bool false, .bool false, .bool false, .bool false, .bool false] 80)).alloc (.cells #[.bool false, .bool false, .bool false, .bool false, .bool false, .bool false, .bool false, .bool false, .bool false] 80) = W1 at *
  go_loopw [9] (fun i_ wr => ∃ i : Nat, i ≤ p.n ∧ i_ = .int .i64 i ∧ Hid (AQ p w xs ys i wr)) (fun i_ _ => p.n - (intOf i_).toNat)
  case atStart => exact ⟨0, Nat.zero_le _, rfl, HS⟩
  case round =>
    clear HS
    obtain ⟨i, hi, rfl, HA⟩ := hrel
    by_cases hlt : i < p.n
    · have r0 := HA.out.gt.gv.tx.row i hlt
      go_wp2_with fail
      refine (HC.out _).mono ?_
      rintro e w2 ⟨rfl, hb⟩
      have HA := Lib.hid (HA.out.up hb)
      have HN := Lib.hid (HA.out.put (by omega) b0 b1 b2 E0.out E1.out E2.out)
      have f0 := blk_frozen HA.out.var (i * 3)
      have f1 := blk_frozen HA.out.var (i * 3 + 1)
      have f2 := blk_frozen HA.out.var (i * 3 + 2)
      have d0 := blk_cell HA.out.var (i := i * 3) (bs9_get (allP i p.m) (by omega : i < 3) (by omega : 0 < 3))
      have d1 := blk_cell HA.out.var (bs9_get (allP i p.m) (by omega : i < 3) (by omega : 1 < 3))
      have d2 := blk_cell HA.out.var (bs9_get (allP i p.m) (by omega : i < 3) (by omega : 2 < 3))
      have hi3 : (i : Int) < 3 := by omega
      clear hb r0 HA
      go_wp2
      clear f0 f1 f2 d0 d1 d2
      go_roundw
      case rel => exact ⟨i + 1, by omega, by go_num, HN⟩
      case measure => simp [intOf]; omega
    · obtain rfl : i = p.n := by omega
      have HV := Lib.hid HA.out.var
      have HX := Lib.hid HA.out.box
      have HB := Lib.hid HA.out.gt.below
      clear HA
      generalize allP p.n p.m = F at *
      generalize wr = W0 at *
      have HSZ : Hid ((Try.prog.info? 80).map (·.size) = some (bs9 F).size) := Lib.hid (by show _ = some 9; kernel_rfl)
      have HS1 : Hid ((bs9 F).all (·.oneCell') = true) := Lib.hid (by simp [bs9, Value.oneCell'])
      go_wp2_with (first | (refine wpList_load_row rfl 80 _ rfl (w.heap.size + 1 + 1) rfl 80 (bs9 F) (0, 0) _ HV.out und_pairs rfl HSZ.out ?_) | (refine wpList_store_row rfl 80 _ _ rfl (w.heap.size + 1) (bs9 F) rfl rfl 80 _ HX.out HSZ.out rfl HS1.out ?_))
      have BB := Lib.hid (blk_row HX.out (bs9 F))
      have HBX := Lib.hid (below_row HB.out (g := w.heap.size + 1) (by omega) (bs9 F))
      clear HX HV HB
      generalize W0.setRow (w.heap.size + 1) (bs9 F) = W9 at *
      refine bodyPost_ret (v := .agg (bs9 F)) (results_cell_row (by rfl) _ _ (w.heap.size + 1) 80 (bs9 F) (0, 0) _ (by rfl) BB.out und_pairs rfl HSZ.out) rfl ?_
      exact ⟨rfl, HBX.out⟩

/-- The boxes of oneMoveOn. -/
structure OQ (p : GP) (w : World) (xs ys : List (List Int)) (F G : Nat → Nat → Bool) (W : World) : Prop where
  gt : GT p w W w.heap.size xs ys
  bF : Blk W (w.heap.size + 1) 80 (bs9 F)
  bR : Blk W (w.heap.size + 1 + 1) 80 #[.bool false, .bool false, .bool false, .bool false, .bool false, .bool false, .bool false, .bool false, .bool false]
  bG : Blk W (w.heap.size + 1 + 1 + 1) 80 (bs9 G)
theorem OQ.start {p w xs ys} (F : Nat → Nat → Bool) (h : GV p w xs ys) : OQ p w xs ys F (fun _ _ => false) ((((w.alloc (.cells #[.slice (some ⟨p.ba, p.oa, none⟩) p.n p.c, .slice (some ⟨p.bb, p.ob, none⟩) p.n p.d] 43)).alloc (.cells (bs9 F) 80)).alloc (.cells #[.bool false, .bool false, .bool false, .bool false, .bool false, .bool false, .bool false, .bool false, .bool false] 80)).alloc (.cells #[.bool false, .bool false, .bool false, .bool false, .bool false, .bool false, .bool false, .bool false, .bool false] 80)) := by
  have h1 := blk_new (w.alloc (.cells #[.slice (some ⟨p.ba, p.oa, none⟩) p.n p.c, .slice (some ⟨p.bb, p.ob, none⟩) p.n p.d] 43)) 80 (bs9 F)
  have h2 := blk_new ((w.alloc (.cells #[.slice (some ⟨p.ba, p.oa, none⟩) p.n p.c, .slice (some ⟨p.bb, p.ob, none⟩) p.n p.d] 43)).alloc (.cells (bs9 F) 80)) 80 #[.bool false, .bool false, .bool false, .bool false, .bool false, .bool false, .bool false, .bool false, .bool false]
  have h3 := blk_new (((w.alloc (.cells #[.slice (some ⟨p.ba, p.oa, none⟩) p.n p.c, .slice (some ⟨p.bb, p.ob, none⟩) p.n p.d] 43)).alloc (.cells (bs9 F) 80)).alloc (.cells #[.bool false, .bool false, .bool false, .bool false, .bool false, .bool false, .bool false, .bool false, .bool false] 80)) 80 #[.bool false, .bool false, .bool false, .bool false, .bool false, .bool false, .bool false, .bool false, .bool false]
  simp only [World.size_alloc] at h1 h2 h3
  exact ⟨(((GT.start h).up (below_alloc _ _)).up (below_alloc _ _)).up (below_alloc _ _), blk_old (blk_old h1 _) _, blk_old h2 _, h3⟩
theorem OQ.up {p w xs ys F G W W'} (h : OQ p w xs ys F G W) (b : Below W.heap.size W W') : OQ p w xs ys F G W' := ⟨h.gt.up b, blk_below h.bF b, blk_below h.bR b, blk_below h.bG b⟩
theorem OQ.put {p w xs ys F G W} (h : OQ p w xs ys F G W) {a b : Nat} (ha : a < 3) (hb : b < 3) : OQ p w xs ys F (putP G [(a : Int), (b : Int)]) (W.setCell ⟨w.heap.size + 1 + 1 + 1, a * 3 + b, none⟩ (.bool true)) := by
  refine ⟨h.gt.up2 (B := w.heap.size + 1) ((Below.refl _ _).setCell (p := ⟨w.heap.size + 1 + 1 + 1, a * 3 + b, none⟩) (by show w.heap.size + 1 ≤ w.heap.size + 1 + 1 + 1; omega) _) (by omega) (by omega),
    blk_other (p := ⟨w.heap.size + 1 + 1 + 1, a * 3 + b, none⟩) h.bF (by show w.heap.size + 1 ≠ w.heap.size + 1 + 1 + 1; omega) _, blk_other (p := ⟨w.heap.size + 1 + 1 + 1, a * 3 + b, none⟩) h.bR (by show w.heap.size + 1 + 1 ≠ w.heap.size + 1 + 1 + 1; omega) _, ?_⟩
  have := blk_set h.bG (a * 3 + b) (.bool true)
  rw [bs9_put _ ha hb] at this
  exact this
theorem OQ.lt {p w xs ys F G W} (h : OQ p w xs ys F G W) : w.heap.size + 1 + 1 + 1 < W.heap.size := blk_lt h.bG
set_option maxRecDepth 100000 in
set_option maxHeartbeats 6400000 in
theorem oneMoveOn_any (p : GP) (xs ys : List (List Int)) (F : Nat → Nat → Bool) (w : World) (v : VG xs ys) (hg : GV p w xs ys) (hx : IntRows w (some ⟨p.ba, p.oa, none⟩) p.n p.c xs) (hy : IntRows w (some ⟨p.bb, p.ob, none⟩) p.n p.d ys) :
    Calls Try.prog 60 #[.agg #[.slice (some ⟨p.ba, p.oa, none⟩) p.n p.c, .slice (some ⟨p.bb, p.ob, none⟩) p.n p.d], .agg (bs9 F)] w (Ret (.agg (bs9 (oneP xs ys F 3))) w) := by
  have HS := Lib.hid (OQ.start F hg)
  have HX := Lib.hid hx
  have HY := Lib.hid hy
  have HV := Lib.hid v
  have hn3 := hg.tx.n3
  have hm3 := hg.tx.m3
  have HMV : Hid (∀ i j : Nat, ∀ r ∈ repF xs ys i j, ∃ a b : Nat, r = [(a : Int), (b : Int)] ∧ a < 3 ∧ b < 3) := Lib.hid (fun i j r hr => by
    obtain ⟨hi, hj, h⟩ := repF_val v hr
    obtain ⟨a, b, e, ha, hb⟩ := repL_in hi hj (v.rowy hi) r h
    have := hg.lx
    have := hg.mx
    exact ⟨a, b, e, by omega, by omega⟩)
  have HML : Hid (∀ i j : Nat, (repF xs ys i j).length ≤ 10) := Lib.hid (fun i j => by
    unfold repF
    split
    · rename_i h
      rw [Bool.and_eq_true, Bool.and_eq_true, pb_iff, pb_iff, pb_iff] at h
      have h1 := repL_len xs ys xs.length (i : Int).toNat (j : Int).toNat
      have h2 := v.rowy (i := i) (by have := h.1.2.2; omega)
      have h3 := v.ta.n3
      have h4 := v.ta.m3
      rw [Int.toNat_natCast] at h1 ⊢
      omega
    · simp)
  clear hg hx hy v
  go_enter Try.func60, Try.ntmps60
  go_wp2
  generalize (((w.alloc (.cells #[.slice (some ⟨p.ba, p.oa, none⟩) p.n p.c, .slice (some ⟨p.bb, p.ob, none⟩) p.n p.d] 43)).alloc (.cells (bs9 F) 80)).alloc (.cells #[.bool false, .bool false, .bool false, .bool false, .bool false, .bool false, .bool false, .bool false, .bool false] 80)).alloc (.cells #[.bool false, .bool false, .bool false, .bool false, .bool false, .bool false, .bool false, .bool false, .bool false] 80) = W1 at *
  have HS0 : Hid (OQ p w xs ys F (oneP xs ys F 0) W1) := HS
  clear HS
  go_loopw [11] (fun i_ wr => ∃ i : Nat, i ≤ 3 ∧ i_ = .int .i64 i ∧ Hid (OQ p w xs ys F (oneP xs ys F i) wr)) (fun i_ _ => 3 - (intOf i_).toNat)
  case atStart => exact ⟨0, Nat.zero_le _, rfl, HS0⟩
  case round =>
    clear HS0
    obtain ⟨i, hi, rfl, HQ⟩ := hrel
    by_cases hlt : i < 3
    · have hi3 : (i : Int) < 3 := by omega
      have d0 := blk_cell HQ.out.bF (i := i * 3) (bs9_get F hlt (by omega : 0 < 3))
      have d1 := blk_cell HQ.out.bF (bs9_get F hlt (by omega : 1 < 3))
      have d2 := blk_cell HQ.out.bF (bs9_get F hlt (by omega : 2 < 3))
      have HM : Hid (∀ W, Calls Try.prog 79 #[.agg #[.bool (F i 0), .bool (F i 1), .bool (F i 2)]] W (NewI W (selL (F i) 3))) := Lib.hid (fun W => marked_any (F i) W)
      have HSEL := Lib.hid (selL_len (F i) 3)
      have HSM : Hid (∀ x ∈ selL (F i) 3, ∃ j : Nat, x = j ∧ j < 3) := Lib.hid (fun x hx => by obtain ⟨j, hj, _, rfl⟩ := selL_mem.1 hx; exact ⟨j, rfl, hj⟩)
      have HNX := Lib.hid (show oneP xs ys F (i + 1) = rowP xs ys i (oneP xs ys F i) (selL (F i) 3) from rfl)
      go_wp2_with fail
      refine (HM.out _).mono ?_
      rintro e w4 ⟨Al, nl, cl, gl, rfl, hnl, ho, hb⟩
      have HLO := Lib.hid HQ.out.lt
      have HQ4 : Hid (OQ p w xs ys F (rowP xs ys i (oneP xs ys F i) ((selL (F i) 3).take 0)) w4) := Lib.hid (HQ.out.up hb)
      have HOI := Lib.hid ho
      subst hnl
      clear ho hb d0 d1 d2 HM HQ
      generalize selL (F i) 3 = l at *
      generalize oneP xs ys F i = G0 at *
      have hl3 := HSEL.out
      generalize wr.heap.size = lo at *
      generalize w4.heap.size = hi4 at *
      go_wp2
      go_loopw [19] (fun q_ wr => ∃ q : Nat, q ≤ l.length ∧ q_ = .int .i64 q ∧ Hid (OQ p w xs ys F (rowP xs ys i G0 (l.take q)) wr) ∧ Hid (OwnI lo hi4 wr gl Al l.length cl l)) (fun q_ _ => l.length - (intOf q_).toNat)
      case atStart => exact ⟨0, Nat.zero_le _, rfl, HQ4, HOI⟩
      case round =>
        clear HQ4 HOI
        obtain ⟨q, hq, rfl, HQ, HOI⟩ := hrel
        by_cases hlq : q < l.length
        · obtain ⟨bl, ol, rfl, hc⟩ := HOI.out.ints.at_ (by omega)
          have c1 := hc q hlq
          obtain ⟨j, ej, hj⟩ := HSM.out _ (gi_mem hlq)
          have HFN := Lib.hid (show rowP xs ys i G0 (l.take (q + 1)) = putPs (rowP xs ys i G0 (l.take q)) (repF xs ys i j) by
            rw [rowP, fold_next _ _ l hlq, ← gi_get hlq, ej]; rfl)
          rw [ej] at c1
          have HK := Lib.hid (Keep.below HQ.out.gt.below)
          have HRM := Lib.hid (ReplyMoves_impl _ _ _ _ _ _ xs ys (i : Int) (j : Int) wr (HX.out.keep HK.out) (HY.out.keep HK.out) (by unfold Fit; omega) (by unfold Fit; omega))
          have k0 := HQ.out.gt.c0
          have k1 := HQ.out.gt.c1
          have hqi : (q : Int) < (l.length : Int) := by omega
          clear hc ej HK
          go_wp2_with fail
          refine HRM.out.mono ?_
          rintro e w6 ⟨Am, nm, cm, gm, rfl, hnm, ho, hb⟩
          have HL2 := Lib.hid (show w.heap.size + 1 + 1 + 1 < wr.heap.size from HQ.out.lt)
          have HQ6 : Hid (OQ p w xs ys F (putPs (rowP xs ys i G0 (l.take q)) ((repF xs ys i j).take 0)) w6) := Lib.hid (HQ.out.up hb)
          have HOI6 := Lib.hid (HOI.out.below hb)
          have HOR := Lib.hid ho
          have HMI := Lib.hid (HMV.out i j)
          have HMLn := Lib.hid (HML.out i j)
          subst hnm
          clear ho hb c1 k0 k1 HRM HQ HOI
          generalize repF xs ys i j = M at *
          generalize rowP xs ys i G0 (l.take q) = G1 at *
          have hm10 := HMLn.out
          generalize wr.heap.size = lo2 at *
          generalize w6.heap.size = hi6 at *
          go_wp2
          go_loopw [28] (fun r_ wr => ∃ r : Nat, r ≤ M.length ∧ r_ = .int .i64 r ∧ Hid (OQ p w xs ys F (putPs G1 (M.take r)) wr) ∧ Hid (OwnI lo hi4 wr gl (some ⟨bl, ol, none⟩) l.length cl l) ∧ Hid (OwnR lo2 hi6 wr gm Am M.length cm M)) (fun r_ _ => M.length - (intOf r_).toNat)
          case atStart => exact ⟨0, Nat.zero_le _, rfl, HQ6, HOI6, HOR⟩
          case round =>
            clear HQ6 HOI6 HOR
            obtain ⟨r, hr, rfl, HQ, HOI, HOR⟩ := hrel
            by_cases hlr : r < M.length
            · obtain ⟨bm, om, rfl, hc⟩ := HOR.out.rows.at_ (by omega)
              obtain ⟨R, cc, c2, hR⟩ := hc r hlr
              obtain ⟨a, b, er, ha, hb⟩ := HMI.out _ (gr_mem hlr)
              rw [er] at c2 hR
              obtain ⟨br, or_, rfl, hcr⟩ := hR.at_ (by simp)
              have c3 : wr.cell? ⟨br, or_, none⟩ = some (.int .i64 (a : Int)) := hcr 0 (by simp)
              have c4 : wr.cell? ⟨br, or_ + 1, none⟩ = some (.int .i64 (b : Int)) := hcr 1 (by simp)
              replace c2 : wr.cell? ⟨bm, om + r, none⟩ = some (.slice (some ⟨br, or_, none⟩) 2 cc) := c2
              have HFN2 := Lib.hid (show putPs G1 (M.take (r + 1)) = putP (putPs G1 (M.take r)) [(a : Int), (b : Int)] by
                rw [putPs, fold_next _ _ M hlr, ← gr_get hlr, er]; rfl)
              have d3 := blk_cell HQ.out.bG (bs9_get (putPs G1 (M.take r)) ha hb)
              have f3 := blk_frozen HQ.out.bG (a * 3 + b)
              have ha3 : (a : Int) < 3 := by omega
              have hb3 : (b : Int) < 3 := by omega
              have hri : (r : Int) < (M.length : Int) := by omega
              clear hc hR hcr er
              clear d3 f3
              go_wp2
              go_still_tail 8, (by kernel_rfl)
              have HQd : Hid (OQ p w xs ys F (putPs G1 (M.take r)) wr.drew) := Lib.hid (HQ.out.up (Quiet.below (B := wr.heap.size) ⟨1, rfl⟩))
              have HOId : Hid (OwnI lo hi4 wr.drew gl (some ⟨bl, ol, none⟩) l.length cl l) := Lib.hid (HOI.out.quiet ⟨1, rfl⟩)
              have HORd : Hid (OwnR lo2 hi6 wr.drew gm (some ⟨bm, om, none⟩) M.length cm M) := Lib.hid (HOR.out.quiet ⟨1, rfl⟩)
              clear HQ HOI HOR c2 c3 c4
              change wpList _ _ _ _ _ wr.drew
              generalize wr.drew = wd at *
              have d3 := blk_cell HQd.out.bG (bs9_get (putPs G1 (M.take r)) ha hb)
              have f3 := blk_frozen HQd.out.bG (a * 3 + b)
              have HQ8 := Lib.hid (HQd.out.put ha hb)
              rw [← HFN2.out] at HQ8
              have HOI8 : Hid (OwnI lo hi4 (wd.setCell ⟨w.heap.size + 1 + 1 + 1, a * 3 + b, none⟩ (.bool true)) gl (some ⟨bl, ol, none⟩) l.length cl l) := Lib.hid (HOId.out.of_block (fun hn => by
                obtain ⟨o, _, h1, _⟩ := HOId.out.own hn
                exact Below.heap_setCell _ _ _ _ (by show gl ≠ w.heap.size + 1 + 1 + 1; have := HLO.out; omega)))
              have HOR8 : Hid (OwnR lo2 hi6 (wd.setCell ⟨w.heap.size + 1 + 1 + 1, a * 3 + b, none⟩ (.bool true)) gm (some ⟨bm, om, none⟩) M.length cm M) := Lib.hid (HORd.out.of_blocks (fun g h1 _ _ =>
                Below.heap_setCell _ _ _ _ (by show g ≠ w.heap.size + 1 + 1 + 1; have := HL2.out; omega)))
              clear HQd HOId HORd
              go_wp2
              clear d3 f3
              go_roundw
              case rel => exact ⟨r + 1, by omega, by go_num, HQ8, HOI8, HOR8⟩
              case measure => simp [intOf]; omega
            · obtain rfl : r = M.length := by omega
              have HQ7 := Lib.hid (show OQ p w xs ys F (rowP xs ys i G0 (l.take (q + 1))) wr by rw [HFN.out]; have h := HQ.out; rw [List.take_length] at h; exact h)
              clear HQ HOR
              go_wp2
              go_roundw
              case rel => exact ⟨q + 1, by omega, by go_num, HQ7, HOI⟩
              case measure => simp [intOf]; omega
        · obtain rfl : q = l.length := by omega
          have HQ7 := Lib.hid (show OQ p w xs ys F (oneP xs ys F (i + 1)) wr by rw [HNX.out]; have h := HQ.out; rw [List.take_length] at h; exact h)
          clear HQ HOI
          go_wp2
          go_roundw
          case rel => exact ⟨i + 1, by omega, by go_num, HQ7⟩
          case measure => simp [intOf]; omega
    · obtain rfl : i = 3 := by omega
      have HV := Lib.hid HQ.out.bG
      have HX := Lib.hid HQ.out.bR
      have HB := Lib.hid HQ.out.gt.below
      clear HQ
      generalize oneP xs ys F 3 = F3 at *
      generalize wr = W0 at *
      have HSZ : Hid ((Try.prog.info? 80).map (·.size) = some (bs9 F3).size) := Lib.hid (by show _ = some 9; kernel_rfl)
      have HS1 : Hid ((bs9 F3).all (·.oneCell') = true) := Lib.hid (by simp [bs9, Value.oneCell'])
      go_wp2_with (first | (refine wpList_load_row rfl 80 _ rfl (w.heap.size + 1 + 1 + 1) rfl 80 (bs9 F3) (0, 0) _ HV.out und_pairs rfl HSZ.out ?_) | (refine wpList_store_row rfl 80 _ _ rfl (w.heap.size + 1 + 1) (bs9 F3) rfl rfl 80 _ HX.out HSZ.out rfl HS1.out ?_))
      have BB := Lib.hid (blk_row HX.out (bs9 F3))
      have HBX := Lib.hid (below_row HB.out (g := w.heap.size + 1 + 1) (by omega) (bs9 F3))
      clear HX HV HB
      generalize W0.setRow (w.heap.size + 1 + 1) (bs9 F3) = W9 at *
      refine bodyPost_ret (v := .agg (bs9 F3)) (results_cell_row (by rfl) _ _ (w.heap.size + 1 + 1) 80 (bs9 F3) (0, 0) _ (by rfl) BB.out und_pairs rfl HSZ.out) rfl ?_
      exact ⟨rfl, HBX.out⟩

end Go.Proofs.Ytjmfkodbilknlaa

/- EndsAlways, by the program. -/
namespace Go.Proofs.Ytjmfkodbilknlaa
open Go.RowKit

theorem info_marks : (Try.prog.info? 78).map (·.size) = some 3 := by kernel_rfl
theorem info_b1 : (Try.prog.info? 4).map (·.size) = some 1 := by kernel_rfl
theorem und_bool_ : Try.prog.underlying 4 = some .bool := by kernel_rfl
theorem run_isAgg_bno (w : World) : (isAgg 4).run Try.prog w = .ok false w := by
  unfold isAgg; rw [Sem.run_bind, run_underlying und_bool_ w]; rfl
theorem run_isAgg_marks (w : World) : (isAgg 78).run Try.prog w = .ok true w := by
  unfold isAgg; rw [Sem.run_bind, run_underlying und_marks w]; rfl
theorem run_part_marks (cs : Array Value) (k : Nat) (w : World) : (part 78 cs k).run Try.prog w = .ok (.agg (cs.extract k (k + 3))) w := by
  unfold part; rw [Sem.run_bind, run_isAgg_marks]; simp [run_sizeOf' info_marks]
theorem eqb3_run (d : Nat) (x0 x1 x2 y0 y1 y2 : Bool) (w : World) :
    (Op.equalIn (d + 2) 78 (.agg #[.bool x0, .bool x1, .bool x2]) (.agg #[.bool y0, .bool y1, .bool y2])).run Try.prog w = .ok (x0 == y0 && (x1 == y1 && x2 == y2)) w := by
  have u3 := und_bool_
  have a3 := run_isAgg_bno
  have z3 := run_sizeOf' info_b1
  rw [show d + 2 = (d + 1) + 1 from rfl, Op.equalIn]
  simp only [Sem.run_bind, run_underlying und_marks, Result.andThen_ok]
  simp only [Std.Legacy.Range.forIn_eq_forIn_range', Std.Legacy.Range.size, Nat.sub_zero, Nat.add_sub_cancel, Nat.div_one, List.range'_succ, List.range'_zero, List.forIn_cons, List.forIn_nil]
  go_simp
  cases x0 <;> cases x1 <;> cases x2 <;> cases y0 <;> cases y1 <;> cases y2 <;> simp
theorem eqb9_run (d : Nat) (f g : Nat → Nat → Bool) (w : World) :
    (Op.equalIn (d + 3) 80 (.agg (bs9 f)) (.agg (bs9 g))).run Try.prog w = .ok (pb (bs9 f = bs9 g)) w := by
  have hd : pb (bs9 f = bs9 g) = ((f 0 0 == g 0 0 && (f 0 1 == g 0 1 && f 0 2 == g 0 2)) && ((f 1 0 == g 1 0 && (f 1 1 == g 1 1 && f 1 2 == g 1 2)) && (f 2 0 == g 2 0 && (f 2 1 == g 2 1 && f 2 2 == g 2 2)))) := by
    rw [Bool.eq_iff_iff, pb_iff]
    simp [bs9, and_assoc]
  rw [hd]
  unfold bs9
  generalize f 0 0 = x0, f 0 1 = x1, f 0 2 = x2, f 1 0 = x3, f 1 1 = x4, f 1 2 = x5, f 2 0 = x6, f 2 1 = x7, f 2 2 = x8
  generalize g 0 0 = y0, g 0 1 = y1, g 0 2 = y2, g 1 0 = y3, g 1 1 = y4, g 1 2 = y5, g 2 0 = y6, g 2 1 = y7, g 2 2 = y8
  have p0 : ∀ w, (part 78 #[.bool x0, .bool x1, .bool x2, .bool x3, .bool x4, .bool x5, .bool x6, .bool x7, .bool x8] (0 * 3)).run Try.prog w = .ok (.agg #[.bool x0, .bool x1, .bool x2]) w := fun w => by rw [run_part_marks]; rfl
  have p1 : ∀ w, (part 78 #[.bool x0, .bool x1, .bool x2, .bool x3, .bool x4, .bool x5, .bool x6, .bool x7, .bool x8] ((0 + 1) * 3)).run Try.prog w = .ok (.agg #[.bool x3, .bool x4, .bool x5]) w := fun w => by rw [run_part_marks]; rfl
  have p2 : ∀ w, (part 78 #[.bool x0, .bool x1, .bool x2, .bool x3, .bool x4, .bool x5, .bool x6, .bool x7, .bool x8] ((0 + 1 + 1) * 3)).run Try.prog w = .ok (.agg #[.bool x6, .bool x7, .bool x8]) w := fun w => by rw [run_part_marks]; rfl
  have q0 : ∀ w, (part 78 #[.bool y0, .bool y1, .bool y2, .bool y3, .bool y4, .bool y5, .bool y6, .bool y7, .bool y8] (0 * 3)).run Try.prog w = .ok (.agg #[.bool y0, .bool y1, .bool y2]) w := fun w => by rw [run_part_marks]; rfl
  have q1 : ∀ w, (part 78 #[.bool y0, .bool y1, .bool y2, .bool y3, .bool y4, .bool y5, .bool y6, .bool y7, .bool y8] ((0 + 1) * 3)).run Try.prog w = .ok (.agg #[.bool y3, .bool y4, .bool y5]) w := fun w => by rw [run_part_marks]; rfl
  have q2 : ∀ w, (part 78 #[.bool y0, .bool y1, .bool y2, .bool y3, .bool y4, .bool y5, .bool y6, .bool y7, .bool y8] ((0 + 1 + 1) * 3)).run Try.prog w = .ok (.agg #[.bool y6, .bool y7, .bool y8]) w := fun w => by rw [run_part_marks]; rfl
  rw [show d + 3 = (d + 2) + 1 from rfl, Op.equalIn]
  simp only [Sem.run_bind, run_underlying und_pairs, Result.andThen_ok, run_sizeOf' info_marks]
  simp only [Std.Legacy.Range.forIn_eq_forIn_range', Std.Legacy.Range.size, Nat.sub_zero, Nat.add_sub_cancel, Nat.div_one, List.range'_succ, List.range'_zero, List.forIn_cons, List.forIn_nil, Sem.run_bind]
  rw [p0]
  simp only [Result.andThen_ok, q0, eqb3_run]
  by_cases h0 : (x0 == y0 && (x1 == y1 && x2 == y2)) = true
  · rw [h0]
    simp only [Bool.not_true, Bool.false_eq_true, if_false, Sem.run_pure, Result.andThen_ok, Sem.run_bind, p1, q1, eqb3_run]
    by_cases h1 : (x3 == y3 && (x4 == y4 && x5 == y5)) = true
    · rw [h1]
      simp only [Bool.not_true, Bool.false_eq_true, if_false, Sem.run_pure, Result.andThen_ok, Sem.run_bind, p2, q2, eqb3_run]
      by_cases h2 : (x6 == y6 && (x7 == y7 && x8 == y8)) = true
      · rw [h2]; simp
      · rw [Bool.not_eq_true] at h2; rw [h2]; simp
    · rw [Bool.not_eq_true] at h1; rw [h1]; simp
  · rw [Bool.not_eq_true] at h0; rw [h0]; simp
theorem eqb9_op (f : Nat → Nat → Bool) (w : World) : (Op.equalIn 10000 80 (.agg (bs9 f)) (.agg #[.bool false, .bool false, .bool false, .bool false, .bool false, .bool false, .bool false, .bool false, .bool false])).run Try.prog w = .ok (pb (bs9 f = bs9 fun _ _ => false)) w := eqb9_run 9997 f (fun _ _ => false) w
theorem ends_bs9 {xs ys : List (List Int)} (v : VG xs ys) : bs9 (mvS xs ys (xs.length * (gr xs 0).length)) = bs9 (fun _ _ => false) ↔ EnP xs ys := by
  rw [ends_moves v]
  constructor
  · intro h a b
    cases hab : mvS xs ys (xs.length * (gr xs 0).length) a b with
    | false => rfl
    | true =>
      have hp := mvS_in v hab
      have h3 := v.ta.n3
      have h4 := v.ta.m3
      have := bs9_inj h a b (by omega) (by omega)
      rw [hab] at this; exact this
  · intro h
    exact bs9_congr fun r c _ _ => h r c

/-- The pairs that are reached, in a box. -/
structure ER (p : GP) (w : World) (xs ys : List (List Int)) (h s : Nat) (W : World) : Prop where
  gt : GT p w W w.heap.size xs ys
  lt : w.heap.size < h
  box : Blk W h 80 (bs9 (mvS xs ys s))
theorem ER.up {p w xs ys h s W W'} (e : ER p w xs ys h s W) (k : Below W.heap.size W W') : ER p w xs ys h s W' := ⟨e.gt.up k, e.lt, blk_below e.box k⟩
theorem ER.put {p w xs ys h s W} (e : ER p w xs ys h s W) : ER p w xs ys h (s + 1) (W.setRow h (bs9 (oneP xs ys (mvS xs ys s) 3))) :=
  ⟨e.gt.up2 (B := w.heap.size + 1) (below_row (Below.refl _ _) (g := h) (by have := e.lt; omega) _) (by omega) (by omega), e.lt, blk_row e.box _⟩
set_option maxRecDepth 100000 in
set_option maxHeartbeats 3200000 in
theorem EndsAlways_impl (A B : Option Addr) (n c m d : Nat) (xs ys : List (List Int)) (w : World) (hx : IntRows w A n c xs) (hy : IntRows w B m d ys) :
    Calls Try.prog 25 #[.agg #[.slice A n c, .slice B m d]] w (Ret (.bool (pb (EnP xs ys))) w) := by
  have hb0 := below_alloc w (.cells #[.slice A n c, .slice B m d] 43)
  have b0 := blk_new w 43 #[.slice A n c, .slice B m d]
  have HB := Lib.hid hb0
  have HK := Lib.hid b0
  have HX := Lib.hid (hx.keep (Keep.below hb0))
  have HY := Lib.hid (hy.keep (Keep.below hb0))
  have HX0 := Lib.hid hx
  have HY0 := Lib.hid hy
  clear hx hy hb0 b0
  go_enter Try.func25, Try.ntmps25
  have z0 := blk_cell HK.out (i := 0) (v := .slice A n c) rfl
  have z1 := blk_cell HK.out (i := 1) (v := .slice B m d) rfl
  go_wp2_with fail
  generalize w.alloc (.cells #[.slice A n c, .slice B m d] 43) = W1 at *
  have HC := Lib.hid (ValidGame_impl _ _ _ _ _ _ _ _ _ HX.out HY.out)
  by_cases hv : VG xs ys
  · refine ((pb_true hv) ▸ HC.out).mono ?_
    rintro e w1 ⟨rfl, hb⟩
    have hb2 := below_up HB.out hb
    have hk2 := blk_below HK.out hb
    obtain ⟨p, rfl, rfl, rfl, rfl, rfl, rfl, hg⟩ := GV.of HX0.out HY0.out hv
    have HT := Lib.hid (show GT p w w1 w.heap.size xs ys from ⟨hb2, hk2, hg⟩)
    have hn3 := hg.tx.n3
    have hm3 := hg.tx.m3
    have hn1 := hg.tx.n1
    have hm1 := hg.tx.m1
    have hnm : p.n * p.m ≤ 9 := by have := Nat.mul_le_mul hn3 hm3; omega
    have HV := Lib.hid hv
    have hmul : IntKind.i64.wrap ((p.n : Int) * (p.m : Int)) = ((p.n * p.m : Nat) : Int) := by rw [wrap_in64 (by rw [← Int.natCast_mul]; omega), Int.natCast_mul]
    have HEND : Hid (pb (bs9 (mvS xs ys (p.n * p.m)) = bs9 fun _ _ => false) = pb (EnP xs ys)) := Lib.hid (pb_congr (by rw [← hg.lx, ← hg.mx]; exact ends_bs9 hv))
    have HAP := Lib.hid (allPairs_any p xs ys w1 HT.out.gv)
    have HA0 : Hid (allP p.n p.m = mvS xs ys 0) := Lib.hid (by rw [← hg.lx, ← hg.mx]; rfl)
    have HEQ := Lib.hid (fun s W => eqb9_op (mvS xs ys s) W)
    have hgd : Try.prog.eqGuardType Try.prog.depth 80 = false := by kernel_rfl
    rw [HA0.out] at HAP
    have HS9 : Hid (∀ f : Nat → Nat → Bool, (Try.prog.info? 80).map (·.size) = some (bs9 f).size) := Lib.hid (fun f => by show _ = some 9; kernel_rfl)
    have HO9 : Hid (∀ f : Nat → Nat → Bool, (bs9 f).all (·.oneCell') = true) := Lib.hid (fun f => by simp [bs9, Value.oneCell'])
    clear hb hb2 hk2 hg HX HY HB HK HC hv z0 z1 HA0
    have k0 := HT.out.c0
    have k1 := HT.out.c1
    generalize hN : p.n * p.m = N at *
    clear hN
    go_wp2_with fail
    refine HAP.out.mono ?_
    rintro e w2 ⟨rfl, hb⟩
    have HT := Lib.hid (HT.out.up hb)
    have HER : Hid (ER p w xs ys w2.heap.size 0 ((w2.alloc (.cells #[.bool false, .bool false, .bool false, .bool false, .bool false, .bool false, .bool false, .bool false, .bool false] 80)).setRow w2.heap.size (bs9 (mvS xs ys 0)))) := Lib.hid ⟨(HT.out.up (below_alloc _ _)).up2 (B := w.heap.size + 1) (below_row (Below.refl _ _) (g := w2.heap.size) (blk_lt HT.out.box) _) (by omega) (by omega), blk_lt HT.out.box, blk_row (blk_new _ _ _) _⟩
    clear hb HAP k0 k1
    go_wp2_with (first | (refine wpList_store_row rfl 80 _ _ rfl w2.heap.size (bs9 (mvS xs ys 0)) rfl rfl 80 (bs9 fun _ _ => false) (blk_new w2 80 (bs9 fun _ _ => false)) (HS9.out _) rfl (HO9.out _) ?_) | fail)
    generalize (w2.alloc (.cells #[.bool false, .bool false, .bool false, .bool false, .bool false, .bool false, .bool false, .bool false, .bool false] 80)).setRow w2.heap.size (bs9 (mvS xs ys 0)) = W3 at *
    generalize w2.heap.size = h at *
    have HERM := Lib.hid (fun m => HER.out.up (W' := W3.drewN m) (Quiet.below ⟨m, rfl⟩))
    have k0 := HER.out.gt.c0
    have r0 := HER.out.gt.gv.tx.row 0 hn1
    simp only [Nat.add_zero] at r0
    have hn0 : 0 < p.n := by omega
    have hn0' : (0 : Int) < (p.n : Int) := by omega
    go_wp2
    go_quiet (fail)
    clear k0 r0 HER HT
    go_wp2
    go_loopw [18] (fun k_ wr => ∃ k : Nat, k ≤ N ∧ k_ = .int .i64 k ∧ Hid (ER p w xs ys h k wr)) (fun k_ _ => N - (intOf k_).toNat)
    case atStart => exact ⟨0, Nat.zero_le _, rfl, Lib.hid (HERM.out _)⟩
    case round =>
      clear HERM
      obtain ⟨k, hk, rfl, HE⟩ := hrel
      by_cases hlt : k < N
      · have k0 := HE.out.gt.c0
        have k1 := HE.out.gt.c1
        have HKP := Lib.hid (Keep.below HE.out.gt.below)
        have HMO := Lib.hid (oneMoveOn_any p xs ys (mvS xs ys k) wr HV.out HE.out.gt.gv (HX0.out.keep HKP.out) (HY0.out.keep HKP.out))
        have hki : (k : Int) < (N : Int) := by omega
        clear HKP
        go_wp2_with (first | (refine wpList_load_row rfl 80 _ rfl h rfl 80 (bs9 (mvS xs ys k)) (0, 0) _ HE.out.box und_pairs rfl (HS9.out _) ?_) | fail)
        refine HMO.out.mono ?_
        rintro e w5 ⟨rfl, hb⟩
        have HE5 := Lib.hid (HE.out.up hb)
        have HE6 := Lib.hid HE5.out.put
        clear hb HMO HE k0 k1
        go_wp2_with (first | (refine wpList_store_row rfl 80 _ _ rfl h (bs9 (oneP xs ys (mvS xs ys k) 3)) rfl rfl 80 _ HE5.out.box (HS9.out _) rfl (HO9.out _) ?_) | fail)
        clear HE5
        go_roundw
        case rel => exact ⟨k + 1, by omega, by go_num, HE6⟩
        case measure => simp [intOf]; omega
      · obtain rfl : k = N := by omega
        have HB := Lib.hid HE.out.gt.below
        have heq := HEQ.out k
        rw [HEND.out] at heq
        have HBX := Lib.hid HE.out.box
        clear HE HEND HEQ
        generalize mvS xs ys k = F at *
        generalize pb (EnP xs ys) = b at *
        go_wp2_with (first | (refine wpList_load_row rfl 80 _ rfl h rfl 80 (bs9 F) (0, 0) _ HBX.out und_pairs rfl (HS9.out _) ?_) | fail)
        go_ret
        exact ⟨rfl, HB.out⟩
  · have HNO := Lib.hid (pb_false (p := EnP xs ys) (fun k => hv k.v))
    refine ((pb_false hv) ▸ HC.out).mono ?_
    rintro e w1 ⟨rfl, hb⟩
    have hb2 := Lib.hid (below_up HB.out hb)
    clear hb HC HX HY HX0 HY0 HB HK z0 z1 hv
    go_wp2
    go_ret
    exact ⟨ret_bool HNO.out.symm, hb2.out⟩

end Go.Proofs.Ytjmfkodbilknlaa

