/- Texts merged: J9 Math43. -/
import Derived.Test.YtpchnoalamdhkaaQ11
import Derived.Maps.RangeWalk
import Derived.Maps.OwnOps
import Derived.Maps.OwnSet
/- Maps of counts; KindsByProduct by the program. -/
namespace Go.Proofs.Ytpchnoalamdhkaa
open Go.RowKit

set_option maxHeartbeats 400000 in
theorem productFrom_any (f : Int) (n : Nat) (w : World) (h1 : 1 ≤ f) (h6 : f ≤ 6) (h7 : n ≤ 7) : Calls Try.prog 89 #[.int .i64 f, .int .i64 n] w fun e w' => e = .returned (.int .i64 (mkD f n)) ∧ w = w' := by
  go_enter Try.func89, Try.ntmps89
  go_wp2
  go_loop [5, 6, 8] (fun s _ i => ∃ k : Nat, k ≤ n ∧ i = .int .i64 k ∧ s = .int .i64 (mkD f k)) (fun _ _ i => n - (intOf i).toNat)
  case atStart => exact ⟨0, Nat.zero_le _, rfl, rfl⟩
  case round =>
    obtain ⟨k, hk, rfl, rfl⟩ := hrel
    by_cases hlt : k < n
    · obtain ⟨b1, b2, _, _⟩ := mk_bd h1 h6 (k := k) (by omega)
      have HS : Hid (mkD f (k + 1) = mkD f k * (f + (k : Int))) := Lib.hid rfl
      obtain ⟨p1, p2⟩ := mulbd (x := mkD f k) (y := f + (k : Int)) (A := 20000000) (B := 14) (by omega) (by omega)
      generalize mkD f k = v at *
      go_wp2
      go_round
      case rel => exact ⟨k + 1, by omega, by go_num, by rw [HS.out]⟩
      case measure => simp [intOf]; omega
    · obtain rfl : k = n := by omega
      go_wp2
      go_ret
      exact ⟨rfl, rfl⟩
theorem lawI : Go.Maps.Keyed Try.prog 3 := Go.Maps.int_keyed Try.underlying3
theorem zeroI (w : World) : (zeroValue 3).run Try.prog w = .ok (.int .i64 0) w := by kernel_rfl
noncomputable abbrev Kel : Value → Option (DataW Unit × List MemPlace) := plainElem Try.prog 3
/-- A map that tells how many there are of each. -/
def MapOf (D : DataW Unit) (c : Int → Int) : Prop := ∀ x : Int, D.atKey (.int .i64 x) (.lit (.int .i64 0)) = .lit (.int .i64 (c x)) ∧ Go.Maps.has D (.int .i64 x) = decide (c x ≠ 0)
theorem lit_ne {x y : Int} (h : y ≠ x) : (Lit.int .i64 y) ≠ .int .i64 x := fun e => h (by injection e)
theorem MapOf.empty : MapOf (.map []) (fun _ => 0) := fun _ => ⟨rfl, rfl⟩
theorem MapOf.put {D : DataW Unit} {c : Int → Int} (h : MapOf D c) (hm : Go.Maps.IsMap D) (x : Int) {v : Int} (hv : v ≠ 0) : MapOf (D.put (.int .i64 x) (.lit (.int .i64 v))) (fun y => if y = x then v else c y) := fun y => by
  show _ = DataW.lit (.int .i64 (if y = x then v else c y)) ∧ _ = decide ((if y = x then v else c y) ≠ 0)
  by_cases e : y = x
  · subst e
    rw [if_pos rfl]
    exact ⟨Go.Maps.atKey_put_same hm (show WideAt.IsKeyLit (.int .i64 y) from trivial) _ _, by rw [Go.Maps.has_put_same hm (show WideAt.IsKeyLit (.int .i64 y) from trivial)]; exact (decide_eq_true hv).symm⟩
  · rw [if_neg e]
    exact ⟨(Go.Maps.atKey_put_other (lit_ne e) _ _).trans (h y).1, (Go.Maps.has_put_other (lit_ne e) _).trans (h y).2⟩
def KM (w : World) (B n : Nat) (c : Int → Int) : Prop := ∃ D : DataW Unit, w.ownsMap Try.prog 3 Kel B n D ∧ MapOf D c
def NewM (w : World) (n : Nat) (c : Int → Int) (e : Ending) (w' : World) : Prop := ∃ B, e = .returned (.map (some B)) ∧ w.heap.size ≤ B ∧ B < w'.heap.size ∧ KM w' B n c ∧ Below w.heap.size w w'
set_option maxRecDepth 100000 in
set_option maxHeartbeats 800000 in
theorem kindsOf_any (A : Option Addr) (n c : Nat) (xs : List Int) (w : World) (hx : Ints w A n c xs) (h7 : n ≤ 7) : Calls Try.prog 90 #[.slice A n c] w (NewM w n (cn xs)) := by
  have hmm := @run_makeMap Try.prog
  have HX := Lib.hid hx
  have HL := Lib.hid hx.len
  have HM0 : Hid (KM (w.alloc (.map #[] 0)) w.heap.size 0 (fun y => cnI xs y 0)) := Lib.hid ⟨_, World.ownsMap_made _ _ _ _, MapOf.empty⟩
  have HB0 := Lib.hid (below_alloc w (.map #[] 0))
  clear hx
  go_enter Try.func90, Try.ntmps90
  go_wp2
  go_loopw [5, 9] (fun _ i wr => ∃ k : Nat, k ≤ n ∧ i = .int .i64 k ∧ Hid (KM wr w.heap.size k (fun y => cnI xs y k)) ∧ Hid (Below w.heap.size w wr)) (fun _ i _ => n - (intOf i).toNat)
  case atStart => exact ⟨0, Nat.zero_le _, rfl, HM0, HB0⟩
  case round =>
    clear HM0 HB0 hmm
    obtain ⟨k, hk, rfl, HM, HB⟩ := hrel
    by_cases hlt : k < n
    · obtain ⟨b, o, rfl, hc⟩ := (HX.out.keep (Keep.below HB.out)).at_ (by omega)
      have c1 := hc k hlt
      obtain ⟨D, hown, hmap⟩ := HM.out
      have HW := HX.out.wf _ (gi_mem (xs := xs) (k := k) (by rw [HL.out]; exact hlt))
      have HWX := Lib.hid HW
      obtain ⟨v0, v1⟩ := cnI_bd xs (gi xs k) k
      have HC : Hid (∀ cc : Int, D.atKey (.int .i64 (gi xs k)) (.lit (.int .i64 0)) = .lit (.int .i64 cc) → cnI xs (gi xs k) k = cc) := Lib.hid (fun cc h => by
        have h2 := (hmap (gi xs k)).1.symm.trans h
        injection h2 with h2
        injection h2)
      have HPU : Hid (MapOf (D.put (.int .i64 (gi xs k)) (.lit (.int .i64 (cnI xs (gi xs k) k + 1)))) (fun y => cnI xs y (k + 1))) := Lib.hid (by
        have h := hmap.put (hown.isMap) (gi xs k) (v := cnI xs (gi xs k) k + 1) (by omega)
        refine cast (congrArg (MapOf _) (funext fun y => ?_)) h
        rw [cnI]
        by_cases e : y = gi xs k
        · subst e; rw [if_pos rfl]
        · rw [if_neg e, if_neg (fun h => e h.symm)])
      have HOW := Lib.hid hown
      have HSB := Lib.hid HB.out.size
      clear hc hown hmap HM
      generalize gi xs k = x at *
      generalize cnI xs x k = v at *
      go_wp2_with (first
        | (at_lookup; refine wpList_lookup_own_int _ rfl _ _ 95 rfl 3 3 .i64 lawI Try.underlying95 Try.underlying3 (zeroI _) w.heap.size k _ rfl HOW.out _ _ rfl (Go.Maps.keyOf_int_mk Try.underlying3 (WalkArith.wf_i64 HWX.out)) ?_; intro cc hat hwc; obtain rfl := HC.out cc hat; clear hat hwc)
        | (at_mapUpdate; refine wpList_mapUpdate_own _ rfl _ _ _ 95 rfl 3 3 lawI Try.underlying95 _ w.heap.size k _ rfl HOW.out (by unfold maxLen; omega) _ _ _ rfl rfl (Go.Maps.keyOf_int_mk Try.underlying3 (WalkArith.wf_i64 HWX.out)) _ [] (plainElem_int Try.underlying3 (WalkArith.wf_i64 (by omega))) ?_; intro w1 hown1 hgrow1))
      have HM1 : Hid (KM w1 w.heap.size (k + 1) (fun y => cnI xs y (k + 1))) := Lib.hid ⟨_, hown1, HPU.out⟩
      have HB1 := Lib.hid (HB.out.grown hgrow1 HSB.out (fun j hj => by cases hj; exact Nat.le_refl _))
      clear hown1 hgrow1 HOW HPU HC HB HSB c1
      go_roundw
      case rel => exact ⟨k + 1, by omega, by go_num, HM1, HB1⟩
      case measure => simp [intOf]; omega
    · obtain rfl : k = n := by omega
      have HE := Lib.hid (show KM wr w.heap.size k (cn xs) by have h := HM.out; unfold cn; rw [HL.out]; exact h)
      have HLT := Lib.hid (show w.heap.size < wr.heap.size by obtain ⟨D, h, _⟩ := HM.out; exact h.lt)
      clear HM
      go_wp2
      go_ret
      exact ⟨_, rfl, Nat.le_refl _, HLT.out, HE.out, HB.out⟩
/-- The product over the sizes that are done. -/
def PDL (c : Int → Int) (left : Lit → Bool) : Int := PD7 c (left (.int .i64 1)) (left (.int .i64 2)) (left (.int .i64 3)) (left (.int .i64 4)) (left (.int .i64 5)) (left (.int .i64 6)) (left (.int .i64 7))
theorem same_int (a b : Int) : (Lit.int .i64 a).sameKey (.int .i64 b) = decide (a = b) := by simp [Lit.sameKey]
theorem pd1_yes {c : Int → Int} {s : Int} {b : Bool} (h : b = true) : pd1 c s b = 1 := by unfold pd1; rw [if_pos h]
theorem pd1_no {c : Int → Int} {s : Int} {b : Bool} (h : b = false) : pd1 c s b = fa c s := by unfold pd1; rw [if_neg (by rw [h]; decide)]
theorem PDL_step {c : Int → Int} {left : Lit → Bool} {x : Int} (h1 : 1 ≤ x) (h7 : x ≤ 7) (hl : left (.int .i64 x) = true) :
    PDL c (fun z => left z && !z.sameKey (.int .i64 x)) = PDL c left * fa c x := by
  have hx : x = 1 ∨ x = 2 ∨ x = 3 ∨ x = 4 ∨ x = 5 ∨ x = 6 ∨ x = 7 := by omega
  rcases hx with rfl | rfl | rfl | rfl | rfl | rfl | rfl
  all_goals
    unfold PDL PD7
    simp only [same_int, Int.reduceEq, decide_true, decide_false, Bool.not_true, Bool.not_false, Bool.and_true, Bool.and_false, hl, pd1_yes, pd1_no]
    grind
theorem PDL_start {xs : List Int} {D : DataW Unit} (h : MapOf D (cn xs)) : PDL (cn xs) (Go.Maps.has D) = 1 := by
  have k : ∀ s : Int, pd1 (cn xs) s (Go.Maps.has D (.int .i64 s)) = 1 := fun s => by
    rw [(h s).2]
    by_cases e : cn xs s = 0
    · rw [pd1_no (by simp [e])]
      unfold fa; rw [e]; rfl
    · exact pd1_yes (by simp [e])
  unfold PDL PD7
  simp only [k]; rfl
theorem PDL_end {c : Int → Int} {left : Lit → Bool} (h : ∀ kl, left kl = false) : PDL c left = PD7 c false false false false false false false := by
  unfold PDL; simp only [h]
theorem PF.grown {w W W' : World} {r : Nat} (h : PF w W) (k : W.grownBy W' (some r)) (hr : w.heap.size < r) : PF w W' :=
  ⟨(k.block _ (blk_lt h.box) (fun e => by injection e with e; omega)).trans h.box, h.below.grown k h.below.size (fun j hj => by cases hj; omega)⟩
set_option maxRecDepth 100000 in
set_option maxHeartbeats 3200000 in
theorem KindsByProduct_impl (A : Option Addr) (n c : Nat) (xs : List Int) (f : Int) (w : World) (hx : Ints w A n c xs) (_ : Fit f) :
    Calls Try.prog 30 #[.slice A n c, .int .i64 f] w (Ret (.tuple #[kpV xs f, .bool (pb (KQ xs f))]) w) := by
  have HPF := Lib.hid (PF.start w)
  by_cases hv : VPt xs
  · by_cases hf : InR f 1 6
    · have hq : KQ xs f := ⟨hv, hf⟩
      rw [kp_yes hq, pb_true hq]
      have HV := Lib.hid hv
      have HX := Lib.hid hx
      obtain ⟨f1, f6⟩ := show 1 ≤ f ∧ f ≤ 6 from hf
      clear hq
      have HVC := Lib.hid (pb_true hv ▸ ValidParts_impl A n c xs _ (hx.keep HPF.out.keep))
      have HFR := Lib.hid (fun W => pb_true hf ▸ isFresh_any f W)
      clear hx hv hf
      go_enter Try.func30, Try.ntmps30
      go_wp2_with fail
      refine HVC.out.mono ?_
      rintro e w1 ⟨rfl, hb⟩
      have HP1 := Lib.hid (HPF.out.up hb)
      clear hb HVC HPF
      go_wp2_with fail
      refine (HFR.out _).mono ?_
      rintro e w2 ⟨rfl, rfl⟩
      clear HFR
      have HPF := HP1
      clear HP1
      obtain ⟨m, hF⟩ := kp_facts HV.out f1 f6
      have HF := Lib.hid hF
      have hm1 := hF.m1
      have hm7 := hF.m7
      have hn7 : n ≤ 7 := by rw [← HX.out.len]; exact HV.out.2.1
      have HL := Lib.hid HX.out.len
      have HS := Lib.hid (hF.tot ▸ sumOf_any A n c xs w1 (HX.out.keep HPF.out.keep) HV.out.so)
      have HP1 := Lib.hid (fun W => productFrom_any 1 m W (by omega) (by omega) hm7)
      have HP2 := Lib.hid (fun W => productFrom_any f m W f1 f6 hm7)
      have HKU : Hid (kpU xs f = bfU (mkD 1 m) f n) := Lib.hid (by unfold kpU; rw [hF.tot, Int.toNat_natCast, HL.out])
      have HKD : Hid (kpD xs f = ipD (mkD f m) xs n * PD7 (cn xs) false false false false false false false) := Lib.hid (by have h := hF.same; unfold kpD; rw [hF.tot, Int.toNat_natCast, ← h, HL.out])
      have HU0 : Hid (bfU (mkD 1 m) f 0 = mkD 1 m) := Lib.hid rfl
      have HD0 : Hid (ipD (mkD f m) xs 0 = mkD f m) := Lib.hid rfl
      clear hF
      go_wp2_with fail
      refine HS.out.mono ?_
      rintro e w3 ⟨rfl, hq⟩
      have HP3 := Lib.hid (HPF.out.up hq.below)
      clear hq HS HPF
      go_wp2_with fail
      refine (HP1.out _).mono ?_
      rintro e w4 ⟨rfl, rfl⟩
      go_wp2_with fail
      refine (HP2.out _).mono ?_
      rintro e w5 ⟨rfl, rfl⟩
      clear HP1 HP2
      rw [← HU0.out, ← HD0.out]
      go_wp2
      go_loopw [7, 8, 10, 31] (fun u d _ i wr => ∃ j : Nat, j ≤ n ∧ i = .int .i64 j ∧ u = .int .i64 (bfU (mkD 1 m) f j) ∧ d = .int .i64 (ipD (mkD f m) xs j) ∧ Hid (PF w wr)) (fun _ _ _ i _ => n - (intOf i).toNat)
      case atStart => exact ⟨0, Nat.zero_le _, rfl, rfl, rfl, HP3⟩
      case round =>
        clear HP3
        obtain ⟨j, hj, rfl, rfl, rfl, HP⟩ := hrel
        obtain ⟨u1, u2⟩ := HF.out.u j (by rw [HL.out]; exact hj)
        obtain ⟨d1, d2⟩ := HF.out.p j (by rw [HL.out]; exact hj)
        by_cases hlt : j < n
        · obtain ⟨b, ob, rfl, hc⟩ := (HX.out.keep HP.out.keep).at_ (by omega)
          have c1 := hc j hlt
          obtain ⟨x1, x7, _⟩ := HV.out.1 j (by rw [HL.out]; exact hlt)
          obtain ⟨p1, p2⟩ := mulbd (x := bfU (mkD 1 m) f j) (y := f) (A := 2000000000) (B := 6) (by omega) (by omega)
          obtain ⟨p3, p4⟩ := mulbd (x := ipD (mkD f m) xs j) (y := gi xs j) (A := 100000000) (B := 7) (by omega) (by omega)
          have HUS : Hid (bfU (mkD 1 m) f (j + 1) = bfU (mkD 1 m) f j * f) := Lib.hid rfl
          have HDS : Hid (ipD (mkD f m) xs (j + 1) = ipD (mkD f m) xs j * gi xs j) := Lib.hid rfl
          clear hc
          generalize bfU (mkD 1 m) f j = u at *
          generalize ipD (mkD f m) xs j = d at *
          generalize gi xs j = x at *
          go_wp2
          go_roundw
          case rel => exact ⟨j + 1, by omega, by go_num, by rw [HUS.out], by rw [HDS.out], HP⟩
          case measure => simp [intOf]; omega
        · obtain rfl : j = n := by omega
          have HKC := Lib.hid (kindsOf_any A j c xs wr (HX.out.keep HP.out.keep) hn7)
          have HCN := Lib.hid (fun x (h : cn xs x ≠ 0) => show 1 ≤ x ∧ x ≤ 7 from by
            obtain ⟨i, hi, rfl⟩ := cnI_in h
            have := HV.out.1 i hi; unfold PtOk at this; omega)
          have HC7 := Lib.hid (fun x => show 0 ≤ cn xs x ∧ cn xs x ≤ 7 from by have := cnI_bd xs x xs.length; have := HL.out; unfold cn; omega)
          have HPB := Lib.hid (fun left : Lit → Bool => pd_bd HV.out (left (.int .i64 1)) (left (.int .i64 2)) (left (.int .i64 3)) (left (.int .i64 4)) (left (.int .i64 5)) (left (.int .i64 6)) (left (.int .i64 7)))
          have HST := Lib.hid (fun D => PDL_start (xs := xs) (D := D))
          generalize hcn : cn xs = cc at *
          clear hcn
          have HFW : Hid (frV (kpU xs f) (kpD xs f) = frV (bfU (mkD 1 m) f j) (ipD (mkD f m) xs j * PD7 cc false false false false false false false)) := Lib.hid (by rw [HKU.out, HKD.out])
          generalize bfU (mkD 1 m) f j = u at *
          generalize ipD (mkD f m) xs j = d at *
          clear HKU HKD HU0 HD0
          go_wp2_with fail
          refine HKC.out.mono ?_
          rintro e w6 ⟨B, rfl, hB1, hB2, ⟨D, hown, hmap⟩, hb⟩
          have HP6 := Lib.hid (HP.out.up hb)
          have HOW := Lib.hid hown
          have HMP := Lib.hid hmap
          have hgt : w.heap.size < wr.heap.size := blk_lt HP.out.box
          have HS0 := Lib.hid (HST.out D hmap)
          have hwb : w.heap.size < w6.heap.size := by omega
          clear hown hmap hb HKC HP HST hB1 hB2 hgt
          go_wp2_with (at_range; refine wpList_range_own _ rfl _ 95 rfl 3 3 lawI Try.underlying95 Kel B j D rfl HOW.out ?_; intro w7 hrg0 hg0 hs0)
          go_frame
          have HRG := Lib.hid hrg0
          have HP7 := Lib.hid (show PF w w7 from ⟨(hg0.block _ (by omega) (by simp)).trans HP6.out.box, HP6.out.below.grown hg0 HP6.out.below.size (fun _ h => by cases h)⟩)
          generalize w6.heap.size = r at *
          clear hrg0 hg0 hs0 HOW HP6
          go_loopw [8, 12] (fun v _ wr => ∃ (left : Lit → Bool) (cnt : Nat), v = .int .i64 (d * PDL cc left) ∧ Hid (wr.ranges Try.prog 3 Kel B r j D left cnt) ∧ Hid (∀ x, left (.int .i64 x) = true → cc x ≠ 0) ∧ Hid (PF w wr)) (fun _ _ wr => wr.rangeLeft B r)
          case atStart => exact ⟨_, _, by rw [HS0.out]; simp, HRG, Lib.hid (fun x h => by rw [(HMP.out x).2] at h; exact of_decide_eq_true h), HP7⟩
          case round =>
            clear HRG HP7 HS0
            obtain ⟨left, cnt, rfl, HRG, HLF, HP⟩ := hrel
            obtain ⟨q1, q2⟩ := show 1 ≤ PDL cc left ∧ PDL cc left ≤ 5040 from HPB.out left
            obtain ⟨q3, q4⟩ := mulbd (x := d) (y := PDL cc left) (A := 100000000) (B := 5040) (by omega) (by omega)
            go_wp2_with (at_next; refine wpList_next_ranges_ii _ rfl _ rfl 3 3 .i64 .i64 lawI Try.underlying3 Try.underlying3 B r j _ _ _ rfl HRG.out ?_ ?_)
            · intro _ hl0
              have hpe := PDL_end (c := cc) hl0
              have HFX : Hid (frV (kpU xs f) (kpD xs f) = .agg #[.int .i64 (frU u (d * PDL cc left)), .int .i64 (frD u (d * PDL cc left))]) := Lib.hid (by rw [HFW.out, hpe]; rfl)
              have hd1 : 1 ≤ d * PDL cc left := by have h : 1 * 1 ≤ d * PDL cc left := Int.mul_le_mul d1 q1 (by omega) (by omega); omega
              clear hpe hl0 HFW
              generalize d * PDL cc left = dd at *
              have HC := Lib.hid (fun W => fracOf_any u dd W (by unfold Mid; omega) (by unfold Mid; omega) hd1)
              have HFV : Hid (frV u dd = .agg #[.int .i64 (frU u dd), .int .i64 (frD u dd)]) := Lib.hid rfl
              rw [HFV.out] at HC
              generalize frU u dd = U at *
              generalize frD u dd = D' at *
              go_wp2_with fail
              refine (HC.out _).mono ?_
              rintro e w9 ⟨rfl, hb⟩
              have HPF := Lib.hid (HP.out.up hb)
              clear hb HC HP HFV
              have c0 := blk_cell HPF.out.box (i := 0) rfl
              have c1 := blk_cell HPF.out.box (i := 1) rfl
              have f0 := blk_frozen HPF.out.box 0
              have f1 := blk_frozen HPF.out.box 1
              go_wp2
              clear c0 c1 f0 f1
              have B1 := blk_set (blk_set HPF.out.box 0 (.int .i64 U)) 1 (.int .i64 D')
              have r0 := blk_cell B1 (i := 0) (v := .int .i64 U) rfl
              have r1 := blk_cell B1 (i := 1) (v := .int .i64 D') rfl
              have HBX := Lib.hid ((HPF.out.below.setCell (p := ⟨w.heap.size, 0, none⟩) (Nat.le_refl _) (.int .i64 U)).setCell (p := ⟨w.heap.size, 1, none⟩) (Nat.le_refl _) (.int .i64 D'))
              clear B1 HPF
              generalize (w9.setCell ⟨w.heap.size, 0, none⟩ (.int .i64 U)).setCell ⟨w.heap.size, 1, none⟩ (.int .i64 D') = WE at *
              refine bodyPost_ret (v := .tuple #[.agg #[.int .i64 U, .int .i64 D'], .bool true]) (by simp [results, Try.results30, go_sem, r0, r1]) rfl ?_
              exact ⟨by have h := HFX.out; unfold frV at h; first | (rw [h]; done) | (rw [h]; rfl), HBX.out⟩
            · intro x cv w8 cnt1 hwx hwc hlx hat hrg1 hlt hg1 hs1 hen
              have hcx : cc x = cv := by
                have h := (HMP.out x).1.symm.trans (hat _)
                injection h with h
                injection h
              subst hcx
              obtain ⟨x1, x7⟩ := HCN.out x (HLF.out x hlx)
              obtain ⟨c0, c7⟩ := HC7.out x
              have HPS := Lib.hid (PDL_step (c := cc) x1 x7 hlx)
              have HPP := Lib.hid (show 1 ≤ PDL cc (fun z => left z && !z.sameKey (.int .i64 x)) ∧ PDL cc (fun z => left z && !z.sameKey (.int .i64 x)) ≤ 5040 from HPB.out (fun z => left z && !z.sameKey (.int .i64 x)))
              have HLF2 := Lib.hid (fun y (h : (left (.int .i64 y) && !(Lit.int .i64 y).sameKey (.int .i64 x)) = true) => HLF.out y (by rw [Bool.and_eq_true] at h; exact h.1))
              have HRG1 := Lib.hid hrg1
              have HP8 := Lib.hid (HP.out.grown hg1 hwb)
              have HLT := Lib.hid hlt
              have HME := Lib.hid HRG.out.left_eq
              have HPC := Lib.hid (show ∀ W, Calls Try.prog 89 #[.int .i64 1, .int .i64 (cc x)] W fun e w' => e = .returned (.int .i64 (fa cc x)) ∧ W = w' from fun W => by
                have h := productFrom_any 1 (cc x).toNat W (by omega) (by omega) (by omega)
                rw [show (((cc x).toNat : Nat) : Int) = cc x by omega] at h
                exact h)
              have HVV : Hid (d * PDL cc (fun z => left z && !z.sameKey (.int .i64 x)) = d * PDL cc left * fa cc x) := Lib.hid (by rw [HPS.out, Int.mul_assoc])
              obtain ⟨t1, t2⟩ := mulbd (x := d) (y := PDL cc (fun z => left z && !z.sameKey (.int .i64 x))) (A := 100000000) (B := 5040) (by omega) (by have := HPP.out; omega)
              rw [HVV.out] at t1 t2
              clear hrg1 hg1 hs1 hat hlx hwx hwc HP hlt HRG HLF HPS HPP
              generalize d * PDL cc left = dd at *
              generalize fa cc x = y at *
              generalize cc x = cv at *
              go_wp2_with fail
              refine (HPC.out _).mono ?_
              rintro e w9 ⟨rfl, rfl⟩
              clear HPC
              go_wp2
              go_roundw
              case rel => exact ⟨_, cnt1, by rw [HVV.out], HRG1, HLF2, HP8⟩
              case measure => rw [HRG1.out.left_eq, HME.out]; exact HLT.out
    · have HNO := Lib.hid ((fun h : ¬ KQ xs f => And.intro (kp_no h) (pb_false h)) (fun h => hf h.2))
      have HVC := Lib.hid (pb_true hv ▸ ValidParts_impl A n c xs _ (hx.keep HPF.out.keep))
      have HFR := Lib.hid (fun W => pb_false hf ▸ isFresh_any f W)
      clear hx hv hf
      go_enter Try.func30, Try.ntmps30
      go_wp2_with fail
      refine HVC.out.mono ?_
      rintro e w1 ⟨rfl, hb⟩
      have HP1 := Lib.hid (HPF.out.up hb)
      clear hb HVC HPF
      go_wp2_with fail
      refine (HFR.out _).mono ?_
      rintro e w2 ⟨rfl, rfl⟩
      clear HFR
      have HPF := HP1
      clear HP1
      have c0 := blk_cell HPF.out.box (i := 0) rfl
      have c1 := blk_cell HPF.out.box (i := 1) rfl
      have f0 := blk_frozen HPF.out.box 0
      have f1 := blk_frozen HPF.out.box 1
      go_wp2
      clear c0 c1 f0 f1
      have B1 := blk_set (blk_set HPF.out.box 0 (.int .i64 0)) 1 (.int .i64 0)
      have r0 := blk_cell B1 (i := 0) (v := .int .i64 0) rfl
      have r1 := blk_cell B1 (i := 1) (v := .int .i64 0) rfl
      have HBX := Lib.hid ((HPF.out.below.setCell (p := ⟨w.heap.size, 0, none⟩) (Nat.le_refl _) (.int .i64 0)).setCell (p := ⟨w.heap.size, 1, none⟩) (Nat.le_refl _) (.int .i64 0))
      clear B1 HPF
      generalize (w1.setCell ⟨w.heap.size, 0, none⟩ (.int .i64 0)).setCell ⟨w.heap.size, 1, none⟩ (.int .i64 0) = WE at *
      refine bodyPost_ret (v := .tuple #[.agg #[.int .i64 0, .int .i64 0], .bool false]) (by simp [results, Try.results30, go_sem, r0, r1]) rfl ?_
      exact ⟨by rw [HNO.out.1, HNO.out.2], HBX.out⟩
  · have HNO := Lib.hid ((fun h : ¬ KQ xs f => And.intro (kp_no h) (pb_false h)) (fun h => hv h.1))
    have HVC := Lib.hid (pb_false hv ▸ ValidParts_impl A n c xs _ (hx.keep HPF.out.keep))
    clear hx hv
    go_enter Try.func30, Try.ntmps30
    go_wp2_with fail
    refine HVC.out.mono ?_
    rintro e w1 ⟨rfl, hb⟩
    have HP1 := Lib.hid (HPF.out.up hb)
    clear hb HVC HPF
    have HPF := HP1
    clear HP1
    have c0 := blk_cell HPF.out.box (i := 0) rfl
    have c1 := blk_cell HPF.out.box (i := 1) rfl
    have f0 := blk_frozen HPF.out.box 0
    have f1 := blk_frozen HPF.out.box 1
    go_wp2
    clear c0 c1 f0 f1
    have B1 := blk_set (blk_set HPF.out.box 0 (.int .i64 0)) 1 (.int .i64 0)
    have r0 := blk_cell B1 (i := 0) (v := .int .i64 0) rfl
    have r1 := blk_cell B1 (i := 1) (v := .int .i64 0) rfl
    have HBX := Lib.hid ((HPF.out.below.setCell (p := ⟨w.heap.size, 0, none⟩) (Nat.le_refl _) (.int .i64 0)).setCell (p := ⟨w.heap.size, 1, none⟩) (Nat.le_refl _) (.int .i64 0))
    clear B1 HPF
    generalize (w1.setCell ⟨w.heap.size, 0, none⟩ (.int .i64 0)).setCell ⟨w.heap.size, 1, none⟩ (.int .i64 0) = WE at *
    refine bodyPost_ret (v := .tuple #[.agg #[.int .i64 0, .int .i64 0], .bool false]) (by simp [results, Try.results30, go_sem, r0, r1]) rfl ?_
    exact ⟨by rw [HNO.out.1, HNO.out.2], HBX.out⟩

end Go.Proofs.Ytpchnoalamdhkaa

/- Chances by the urn: plain. -/
namespace Go.Proofs.Ytpchnoalamdhkaa

/-- Sizes with one at a place less by 1: of the first k. -/
def woI (xs : List Int) (at_ : Nat) : Nat → List Int
  | 0 => []
  | k + 1 => if 0 < (if k = at_ then gi xs k - 1 else gi xs k) then woI xs at_ k ++ [if k = at_ then gi xs k - 1 else gi xs k] else woI xs at_ k
def wo (xs : List Int) (i : Nat) : List Int := woI xs i xs.length
/-- With which weight one more thing came. -/
def upW (xs : List Int) (f : Int) (i : Nat) : Int := if 1 < gi xs i then (gi xs i - 1) * cn (wo xs i) (gi xs i - 1) else f
/-- The weight, for a number of things. -/
def uwS (g : List Int → Int) (xs : List Int) (f : Int) : Nat → Int
  | 0 => 0
  | i + 1 => if i + 1 < xs.length ∧ gi xs (i + 1) = gi xs i then uwS g xs f i else uwS g xs f i + g (wo xs i) * upW xs f i
def uw : Nat → List Int → Int → Int
  | 0, _, _ => 1
  | m + 1, xs, f => uwS (fun r => uw m r f) xs f xs.length
/-- The last place of a size. -/
def liI (xs : List Int) (s : Int) : Nat → Nat
  | 0 => 0
  | k + 1 => if gi xs k = s then k else liI xs s k
def li (xs : List Int) (s : Int) : Nat := liI xs s xs.length
def s7 : List Int := [1, 2, 3, 4, 5, 6, 7]
theorem mem_s7 {s : Int} (h1 : 1 ≤ s) (h7 : s ≤ 7) : s ∈ s7 := by
  have : s = 1 ∨ s = 2 ∨ s = 3 ∨ s = 4 ∨ s = 5 ∨ s = 6 ∨ s = 7 := by omega
  rcases this with rfl | rfl | rfl | rfl | rfl | rfl | rfl <;> simp [s7]
/-- What a size adds to the weight. -/
def tmW (m : Nat) (xs : List Int) (f s : Int) : Int := if cn xs s = 0 then 0 else uw m (wo xs (li xs s)) f * upW xs f (li xs s)
/-- The counts when one of a size is less. -/
def cnL (c : Int → Int) (s : Int) : Int → Int := fun y => if y = s - 1 ∧ 1 < s then c y + 1 else if y = s then c y - 1 else c y
theorem uw_all : ((List.range 7).all fun m => (pts 7 (m + 1) (m + 1)).all fun xs => s7.all fun s => decide (cn xs s = 0) || ((pts 7 m m).contains (wo xs (li xs s)) && decide (gi xs (li xs s) = s) &&
    s7.all fun y => decide (cn (wo xs (li xs s)) y = cnL (cn xs) s y))) = true := by decide +kernel
theorem tm_all : ((List.range 7).all fun m => (pts 7 (m + 1) (m + 1)).all fun xs => f6.all fun f => decide (uw (m + 1) xs f = tmW m xs f 1 + tmW m xs f 2 + tmW m xs f 3 + tmW m xs f 4 + tmW m xs f 5 + tmW m xs f 6 + tmW m xs f 7) &&
    s7.all fun s => decide (0 ≤ tmW m xs f s) && decide (tmW m xs f s ≤ 20000000) && decide (0 ≤ upW xs f (li xs s)) && decide (upW xs f (li xs s) ≤ 1000)) = true := by decide +kernel
theorem uwb_all : ((List.range 8).all fun m => (pts 7 m m).all fun xs => f6.all fun f => decide (1 ≤ uw m xs f) && decide (uw m xs f ≤ 20000000)) = true := by decide +kernel
theorem uw_bd {m : Nat} {xs : List Int} {f : Int} (h7 : m ≤ 7) (hm : xs ∈ pts 7 m m) (h1 : 1 ≤ f) (h6 : f ≤ 6) : 1 ≤ uw m xs f ∧ uw m xs f ≤ 20000000 := by
  have t := uwb_all
  simp only [List.all_eq_true, List.mem_range, Bool.and_eq_true, decide_eq_true_eq] at t
  exact t m (by omega) xs hm f (mem_f6 h1 h6)
theorem pts_mem_bd {m : Nat} {xs : List Int} (h7 : m ≤ 7) (hm : xs ∈ pts 7 m m) {x : Int} (h : cn xs x ≠ 0) : 1 ≤ x ∧ x ≤ 7 := by
  obtain ⟨i, hi, rfl⟩ := cnI_in h
  by_cases h0 : m = 0
  · subst h0
    rw [pts_zero] at hm
    simp at hm
    subst hm
    simp at hi
  · obtain ⟨k, hk, e⟩ := List.mem_iff_getElem.1 hm
    have hv := (pts_facts (n := m) (by omega) h7).ok k hk
    rw [gr_get hk, e] at hv
    have := hv.1 i hi
    unfold PtOk at this
    omega
structure UwF (m : Nat) (xs : List Int) (f s : Int) : Prop where
  mem : wo xs (li xs s) ∈ pts 7 m m
  at_ : gi xs (li xs s) = s
  cnt : ∀ y, cn (wo xs (li xs s)) y = cnL (cn xs) s y
  tm : tmW m xs f s = uw m (wo xs (li xs s)) f * upW xs f (li xs s)
  b1 : 0 ≤ tmW m xs f s
  b2 : tmW m xs f s ≤ 20000000
  u1 : 0 ≤ upW xs f (li xs s)
  u2 : upW xs f (li xs s) ≤ 1000
theorem uw_step {m : Nat} {xs : List Int} {f s : Int} (h7 : m < 7) (hm : xs ∈ pts 7 (m + 1) (m + 1)) (h1 : 1 ≤ f) (h6 : f ≤ 6) (hs : cn xs s ≠ 0) : UwF m xs f s := by
  obtain ⟨s1, s7'⟩ := pts_mem_bd (by omega) hm hs
  have t := uw_all
  simp only [List.all_eq_true, List.mem_range, Bool.and_eq_true, Bool.or_eq_true, decide_eq_true_eq] at t
  obtain ⟨⟨a, b⟩, c⟩ := (t m h7 xs hm s (mem_s7 s1 s7')).resolve_left hs
  have t2 := tm_all
  simp only [List.all_eq_true, List.mem_range, Bool.and_eq_true, decide_eq_true_eq] at t2
  obtain ⟨⟨⟨d1, d2⟩, d3⟩, d4⟩ := (t2 m h7 xs hm f (mem_f6 h1 h6)).2 s (mem_s7 s1 s7')
  have hmem := List.contains_iff_mem.1 a
  refine ⟨hmem, b, fun y => ?_, by unfold tmW; rw [if_neg hs], d1, d2, d3, d4⟩
  by_cases hy : 1 ≤ y ∧ y ≤ 7
  · exact c y (mem_s7 hy.1 hy.2)
  · have e1 : cn (wo xs (li xs s)) y = 0 := Classical.byContradiction fun h => hy (pts_mem_bd (by omega) hmem h)
    have e2 : cn xs y = 0 := Classical.byContradiction fun h => hy (pts_mem_bd (by omega) hm h)
    rw [e1]
    unfold cnL
    rw [if_neg (by omega), if_neg (by intro e; subst e; exact hy ⟨s1, s7'⟩), e2]
/-- Both tell the weight: the sum over the sizes that are done. -/
def sd1 (t : Int) (b : Bool) : Int := if b then 0 else t
def SDL (t : Int → Int) (left : Lit → Bool) : Int := sd1 (t 1) (left (.int .i64 1)) + sd1 (t 2) (left (.int .i64 2)) + sd1 (t 3) (left (.int .i64 3)) + sd1 (t 4) (left (.int .i64 4)) + sd1 (t 5) (left (.int .i64 5)) + sd1 (t 6) (left (.int .i64 6)) + sd1 (t 7) (left (.int .i64 7))
theorem sd1_bd {t : Int} (h : 0 ≤ t ∧ t ≤ 20000000) (b : Bool) : 0 ≤ sd1 t b ∧ sd1 t b ≤ 20000000 := by unfold sd1; split <;> omega
theorem tm_bd {m : Nat} {xs : List Int} {f s : Int} (h7 : m < 7) (hm : xs ∈ pts 7 (m + 1) (m + 1)) (h1 : 1 ≤ f) (h6 : f ≤ 6) : 0 ≤ tmW m xs f s ∧ tmW m xs f s ≤ 20000000 := by
  by_cases h : cn xs s = 0
  · unfold tmW; rw [if_pos h]; omega
  · have := uw_step h7 hm h1 h6 h; exact ⟨this.b1, this.b2⟩
theorem SDL_bd {t : Int → Int} (h : ∀ s, 0 ≤ t s ∧ t s ≤ 20000000) (left : Lit → Bool) : 0 ≤ SDL t left ∧ SDL t left ≤ 140000000 := by
  have a1 := sd1_bd (h 1) (left (.int .i64 1))
  have a2 := sd1_bd (h 2) (left (.int .i64 2))
  have a3 := sd1_bd (h 3) (left (.int .i64 3))
  have a4 := sd1_bd (h 4) (left (.int .i64 4))
  have a5 := sd1_bd (h 5) (left (.int .i64 5))
  have a6 := sd1_bd (h 6) (left (.int .i64 6))
  have a7 := sd1_bd (h 7) (left (.int .i64 7))
  unfold SDL
  omega
theorem SDL_end {m : Nat} {xs : List Int} {f : Int} (h7 : m < 7) (hm : xs ∈ pts 7 (m + 1) (m + 1)) (h1 : 1 ≤ f) (h6 : f ≤ 6) {left : Lit → Bool} (hl : ∀ kl, left kl = false) : SDL (tmW m xs f) left = uw (m + 1) xs f := by
  have t2 := tm_all
  simp only [List.all_eq_true, List.mem_range, Bool.and_eq_true, decide_eq_true_eq] at t2
  rw [(t2 m h7 xs hm f (mem_f6 h1 h6)).1]
  unfold SDL
  simp only [hl, sd1, Bool.false_eq_true, if_false]
end Go.Proofs.Ytpchnoalamdhkaa

