/- Texts merged: J10 J7 J11 J15 J16 J3 J17 J12 J13 J14 J18 J19 J20. -/
import Derived.Test.YtpchnoalamdhkaaQ12
import Derived.Shelf.SlMaps.Clone
/- KindsByUrn by the program. -/
namespace Go.Proofs.Ytpchnoalamdhkaa
open Go.RowKit

def Owned (w : World) (B n : Nat) (D : DataW Unit) : Prop := w.ownsMap Try.prog 3 Kel B n D
set_option maxRecDepth 100000 in
set_option maxHeartbeats 1000000 in
theorem clone_any (B n : Nat) (D : DataW Unit) (w : World) (hown : Owned w B n D) :
    Calls Try.prog 136 #[.map (some B)] w fun e w' => e = .returned (.map (some w.heap.size)) ∧ Owned w' w.heap.size n D ∧ Below w.heap.size w w' := by
  obtain ⟨es, clock, hb, F, hs, hD⟩ := hown
  have HE : Hid (Owned (w.alloc (.map es clock)) w.heap.size n D) := Lib.hid ⟨es, clock, (MapKept.heap_alloc w _).1, F, hs, hD⟩
  have HB := Lib.hid (below_alloc w (.map es clock))
  have hq := fun w => run_eql_map_nil_sl (P := Try.prog) w 95 _ _ (some B) Try.underlying95
  have hex := run_callFunc_extern (P := Try.prog) Try.func140 (by kernel_rfl) (by kernel_rfl) (by kernel_rfl) (e := Extern.MapsClone.clone) (by kernel_rfl) #[.iface 95 (.map (some B))] w
  rw [run_maps_clone_sl w 95 hb] at hex
  simp only [Result.andThen] at hex
  have hta := fun W => run_typeAssert_map_sl (P := Try.prog) W 95 20 _ _ (.map (some w.heap.size)) Try.underlying95
  clear hb F hs hD
  generalize w.alloc (.map es clock) = w1 at *
  go_enter Try.func136, Try.ntmps136
  go_wp2
  go_ret
  exact ⟨rfl, HE.out, HB.out⟩
theorem MapOf.kill {D : DataW Unit} {c : Int → Int} (h : MapOf D c) (x : Int) (d : DataW Unit) : MapOf ((D.put (.int .i64 x) d).del (.int .i64 x)) (fun y => if y = x then 0 else c y) := fun y => by
  show _ = DataW.lit (.int .i64 (if y = x then 0 else c y)) ∧ _ = decide ((if y = x then 0 else c y) ≠ 0)
  by_cases e : y = x
  · subst e
    rw [if_pos rfl]
    exact ⟨Go.Maps.atKey_del_same _, by rw [Go.Maps.has_del_same]; rfl⟩
  · rw [if_neg e]
    exact ⟨((Go.Maps.atKey_del_other (lit_ne e) _).trans (Go.Maps.atKey_put_other (lit_ne e) _ _)).trans (h y).1, ((Go.Maps.has_del_other (lit_ne e)).trans (Go.Maps.has_put_other (lit_ne e) _)).trans (h y).2⟩
def cL1 (c : Int → Int) (s : Int) : Int → Int := fun y => if y = s then c s - 1 else c y
theorem cL1_other {c : Int → Int} {s y : Int} (h : y ≠ s) : cL1 c s y = c y := if_neg h
theorem cnL_one (c : Int → Int) {s : Int} (h : s = 1) : cnL c s = cL1 c s := funext fun y => by
  unfold cnL cL1
  rw [if_neg (by omega)]
  by_cases e : y = s
  · rw [if_pos e, if_pos e, e]
  · rw [if_neg e, if_neg e]
theorem cnL_more (c : Int → Int) {s : Int} (h : 1 < s) : cnL c s = fun y => if y = s - 1 then c (s - 1) + 1 else cL1 c s y := funext fun y => by
  show (if y = s - 1 ∧ 1 < s then c y + 1 else if y = s then c y - 1 else c y) = if y = s - 1 then c (s - 1) + 1 else if y = s then c s - 1 else c y
  by_cases e : y = s - 1
  · rw [if_pos ⟨e, h⟩, if_pos e, e]
  · rw [if_neg (fun h => e h.1), if_neg e]
    by_cases e2 : y = s
    · rw [if_pos e2, if_pos e2, e2]
    · rw [if_neg e2, if_neg e2]
theorem lit_int_inj {a b : Int} (h : (DataW.lit (Lit.int .i64 a) : DataW Unit) = .lit (.int .i64 b)) : a = b := by injection h with h; injection h
set_option maxRecDepth 100000 in
set_option maxHeartbeats 1600000 in
theorem withoutOne_any (B n : Nat) (D : DataW Unit) (c : Int → Int) (s : Int) (w : World) (hown : Owned w B n D) (hm : MapOf D c) (h1 : 1 ≤ s) (h7 : s ≤ 7) (hc : ∀ y, 0 ≤ c y ∧ c y ≤ 7) (hs : c s ≠ 0) (hn : n ≤ 50) :
    Calls Try.prog 125 #[.map (some B), .int .i64 s] w fun e w' => e = .returned (.map (some w.heap.size)) ∧ (∃ D', Owned w' w.heap.size (n + 2) D' ∧ MapOf D' (cnL c s)) ∧ Below w.heap.size w w' := by
  have HC := Lib.hid (clone_any B n D w hown)
  have HMP := Lib.hid hm
  have HCB := Lib.hid hc
  have HIM := Lib.hid (World.ownsMap.isMap hown)
  have hv := hc s
  have HC1 : Hid (∀ cc : Int, D.atKey (.int .i64 s) (.lit (.int .i64 0)) = .lit (.int .i64 cc) → c s = cc) := Lib.hid (fun cc h => lit_int_inj ((hm s).1.symm.trans h))
  obtain ⟨v0, v7⟩ := hv
  clear hown hm hc
  generalize hcs : c s = v at HC1 hs v0 v7
  have HCV := Lib.hid hcs
  clear hcs
  go_enter Try.func125, Try.ntmps125
  go_wp2_with fail
  refine HC.out.mono ?_
  rintro e w1 ⟨rfl, ho1, hb⟩
  have HO1 := Lib.hid ho1
  have HB1 := Lib.hid hb
  clear ho1 hb HC
  by_cases hv1 : v = 1
  · subst hv1
    have HCV : Hid (c s - 1 = 0) := Lib.hid (by rw [HCV.out]; rfl)
    by_cases hs1 : 1 < s
    · have HC2 : Hid (∀ cc : Int, (D.put (.int .i64 s) (.lit (.int .i64 0))).atKey (.int .i64 s) (.lit (.int .i64 0)) = .lit (.int .i64 cc) → 0 = cc) := Lib.hid (fun cc h => lit_int_inj ((Go.Maps.atKey_put_same HIM.out (show WideAt.IsKeyLit (.int .i64 s) from trivial) _ _).symm.trans h))
      have HM2 : Hid (MapOf ((D.put (.int .i64 s) (.lit (.int .i64 0))).del (.int .i64 s)) (cL1 c s)) := Lib.hid (by unfold cL1; rw [HCV.out]; exact HMP.out.kill s _)
      have HI2 : Hid (Go.Maps.IsMap ((D.put (.int .i64 s) (.lit (.int .i64 0))).del (.int .i64 s))) := Lib.hid ((HIM.out.put _ _).del _)
      have hsg : decide (1 < s) = true := decide_eq_true hs1
      obtain ⟨u0, u7⟩ := HCB.out (s - 1)
      have HC3 : Hid (∀ cc : Int, ((D.put (.int .i64 s) (.lit (.int .i64 0))).del (.int .i64 s)).atKey (.int .i64 (s - 1)) (.lit (.int .i64 0)) = .lit (.int .i64 cc) → c (s - 1) = cc) := Lib.hid (fun cc h => by have h2 := lit_int_inj ((HM2.out (s - 1)).1.symm.trans h); rw [cL1_other (by omega)] at h2; exact h2)
      have HM3 : Hid (MapOf (((D.put (.int .i64 s) (.lit (.int .i64 0))).del (.int .i64 s)).put (.int .i64 (s - 1)) (.lit (.int .i64 (c (s - 1) + 1)))) (cnL c s)) := Lib.hid (by rw [cnL_more c hs1]; exact HM2.out.put HI2.out (s - 1) (by omega))
      generalize c (s - 1) = u at *
      go_wp2_with (first
        | (at_lookup; refine wpList_lookup_own_int _ rfl _ _ 95 rfl 3 3 .i64 lawI Try.underlying95 Try.underlying3 (zeroI _) w.heap.size n D rfl HO1.out (.int .i64 (s)) (.int .i64 (s)) rfl (Go.Maps.keyOf_int_mk Try.underlying3 (WalkArith.wf_i64 (by omega))) ?_; intro cc hat hwc; obtain rfl := HC1.out cc hat; clear hat hwc)
        | (at_mapUpdate; refine wpList_mapUpdate_own _ rfl _ _ _ 95 rfl 3 3 lawI Try.underlying95 _ w.heap.size n D rfl HO1.out (by unfold maxLen; omega) _ _ _ rfl rfl (Go.Maps.keyOf_int_mk Try.underlying3 (WalkArith.wf_i64 (by omega))) _ [] (plainElem_int Try.underlying3 (WalkArith.wf_i64 (by omega))) ?_; intro w2 hown2 hg2; have HO2 := Lib.hid hown2; have HG2 := Lib.hid hg2; clear hown2 hg2)
        | (at_lookup; refine wpList_lookup_own_int _ rfl _ _ 95 rfl 3 3 .i64 lawI Try.underlying95 Try.underlying3 (zeroI _) w.heap.size (n + 1) (D.put (.int .i64 s) (.lit (.int .i64 0))) rfl HO2.out (.int .i64 (s)) (.int .i64 (s)) rfl (Go.Maps.keyOf_int_mk Try.underlying3 (WalkArith.wf_i64 (by omega))) ?_; intro cc hat hwc; obtain rfl := HC2.out cc hat; clear hat hwc)
        | (at_delete; refine wpList_delete_own _ rfl _ _ 95 3 rfl 3 lawI Try.underlying95 _ w.heap.size (n + 1) (D.put (.int .i64 s) (.lit (.int .i64 0))) rfl HO2.out _ _ rfl (Go.Maps.keyOf_int_mk Try.underlying3 (WalkArith.wf_i64 (by omega))) ?_; intro w3 hown3 htu3; have HO3 := Lib.hid hown3; have HG3 := Lib.hid (HG2.out.trans htu3.grown); clear hown3 htu3)
        | (at_lookup; refine wpList_lookup_own_int _ rfl _ _ 95 rfl 3 3 .i64 lawI Try.underlying95 Try.underlying3 (zeroI _) w.heap.size (n + 1) ((D.put (.int .i64 s) (.lit (.int .i64 0))).del (.int .i64 s)) rfl HO3.out (.int .i64 (s - 1)) (.int .i64 (s - 1)) rfl (Go.Maps.keyOf_int_mk Try.underlying3 (WalkArith.wf_i64 (by omega))) ?_; intro cc hat hwc; obtain rfl := HC3.out cc hat; clear hat hwc)
        | (at_mapUpdate; refine wpList_mapUpdate_own _ rfl _ _ _ 95 rfl 3 3 lawI Try.underlying95 _ w.heap.size (n + 1) ((D.put (.int .i64 s) (.lit (.int .i64 0))).del (.int .i64 s)) rfl HO3.out (by unfold maxLen; omega) _ _ _ rfl rfl (Go.Maps.keyOf_int_mk Try.underlying3 (WalkArith.wf_i64 (by omega))) _ [] (plainElem_int Try.underlying3 (WalkArith.wf_i64 (by omega))) ?_; intro w4 hown4 hg4; have HO4 := Lib.hid hown4; have HG4 := Lib.hid (HG3.out.trans hg4); clear hown4 hg4)
        | fail)
      go_ret
      exact ⟨rfl, ⟨_, HO4.out, HM3.out⟩, HB1.out.grown HG4.out HB1.out.size (fun j hj => by cases hj; exact Nat.le_refl _)⟩
    · have HC2 : Hid (∀ cc : Int, (D.put (.int .i64 s) (.lit (.int .i64 0))).atKey (.int .i64 s) (.lit (.int .i64 0)) = .lit (.int .i64 cc) → 0 = cc) := Lib.hid (fun cc h => lit_int_inj ((Go.Maps.atKey_put_same HIM.out (show WideAt.IsKeyLit (.int .i64 s) from trivial) _ _).symm.trans h))
      have HM2 : Hid (MapOf ((D.put (.int .i64 s) (.lit (.int .i64 0))).del (.int .i64 s)) (cL1 c s)) := Lib.hid (by unfold cL1; rw [HCV.out]; exact HMP.out.kill s _)
      have HI2 : Hid (Go.Maps.IsMap ((D.put (.int .i64 s) (.lit (.int .i64 0))).del (.int .i64 s))) := Lib.hid ((HIM.out.put _ _).del _)
      have hsg : decide (1 < s) = false := decide_eq_false hs1
      have hse : s = 1 := by omega
      have HM3 : Hid (MapOf ((D.put (.int .i64 s) (.lit (.int .i64 0))).del (.int .i64 s)) (cnL c s)) := Lib.hid (by rw [cnL_one c hse]; exact HM2.out)
      clear hse
      go_wp2_with (first
        | (at_lookup; refine wpList_lookup_own_int _ rfl _ _ 95 rfl 3 3 .i64 lawI Try.underlying95 Try.underlying3 (zeroI _) w.heap.size n D rfl HO1.out (.int .i64 (s)) (.int .i64 (s)) rfl (Go.Maps.keyOf_int_mk Try.underlying3 (WalkArith.wf_i64 (by omega))) ?_; intro cc hat hwc; obtain rfl := HC1.out cc hat; clear hat hwc)
        | (at_mapUpdate; refine wpList_mapUpdate_own _ rfl _ _ _ 95 rfl 3 3 lawI Try.underlying95 _ w.heap.size n D rfl HO1.out (by unfold maxLen; omega) _ _ _ rfl rfl (Go.Maps.keyOf_int_mk Try.underlying3 (WalkArith.wf_i64 (by omega))) _ [] (plainElem_int Try.underlying3 (WalkArith.wf_i64 (by omega))) ?_; intro w2 hown2 hg2; have HO2 := Lib.hid hown2; have HG2 := Lib.hid hg2; clear hown2 hg2)
        | (at_lookup; refine wpList_lookup_own_int _ rfl _ _ 95 rfl 3 3 .i64 lawI Try.underlying95 Try.underlying3 (zeroI _) w.heap.size (n + 1) (D.put (.int .i64 s) (.lit (.int .i64 0))) rfl HO2.out (.int .i64 (s)) (.int .i64 (s)) rfl (Go.Maps.keyOf_int_mk Try.underlying3 (WalkArith.wf_i64 (by omega))) ?_; intro cc hat hwc; obtain rfl := HC2.out cc hat; clear hat hwc)
        | (at_delete; refine wpList_delete_own _ rfl _ _ 95 3 rfl 3 lawI Try.underlying95 _ w.heap.size (n + 1) (D.put (.int .i64 s) (.lit (.int .i64 0))) rfl HO2.out _ _ rfl (Go.Maps.keyOf_int_mk Try.underlying3 (WalkArith.wf_i64 (by omega))) ?_; intro w3 hown3 htu3; have HO3 := Lib.hid hown3; have HG3 := Lib.hid (HG2.out.trans htu3.grown); clear hown3 htu3)
        | fail)
      go_ret
      exact ⟨rfl, ⟨_, World.ownsMap.mono HO3.out (by omega), HM3.out⟩, HB1.out.grown HG3.out HB1.out.size (fun j hj => by cases hj; exact Nat.le_refl _)⟩
  · have hv2 : ((v - 1) == 0) = false := beq_eq_false_iff_ne.2 (by omega)
    have hv3 : v - 1 ≠ 0 := by omega
    have HCV : Hid (c s - 1 = v - 1) := Lib.hid (by rw [HCV.out])
    by_cases hs1 : 1 < s
    · have HC2 : Hid (∀ cc : Int, (D.put (.int .i64 s) (.lit (.int .i64 (v - 1)))).atKey (.int .i64 s) (.lit (.int .i64 0)) = .lit (.int .i64 cc) → (v - 1) = cc) := Lib.hid (fun cc h => lit_int_inj ((Go.Maps.atKey_put_same HIM.out (show WideAt.IsKeyLit (.int .i64 s) from trivial) _ _).symm.trans h))
      have HM2 : Hid (MapOf (D.put (.int .i64 s) (.lit (.int .i64 (v - 1)))) (cL1 c s)) := Lib.hid (by unfold cL1; rw [HCV.out]; exact HMP.out.put HIM.out s (by omega))
      have HI2 : Hid (Go.Maps.IsMap (D.put (.int .i64 s) (.lit (.int .i64 (v - 1))))) := Lib.hid (HIM.out.put _ _)
      have hsg : decide (1 < s) = true := decide_eq_true hs1
      obtain ⟨u0, u7⟩ := HCB.out (s - 1)
      have HC3 : Hid (∀ cc : Int, (D.put (.int .i64 s) (.lit (.int .i64 (v - 1)))).atKey (.int .i64 (s - 1)) (.lit (.int .i64 0)) = .lit (.int .i64 cc) → c (s - 1) = cc) := Lib.hid (fun cc h => by have h2 := lit_int_inj ((HM2.out (s - 1)).1.symm.trans h); rw [cL1_other (by omega)] at h2; exact h2)
      have HM3 : Hid (MapOf ((D.put (.int .i64 s) (.lit (.int .i64 (v - 1)))).put (.int .i64 (s - 1)) (.lit (.int .i64 (c (s - 1) + 1)))) (cnL c s)) := Lib.hid (by rw [cnL_more c hs1]; exact HM2.out.put HI2.out (s - 1) (by omega))
      generalize c (s - 1) = u at *
      go_wp2_with (first
        | (at_lookup; refine wpList_lookup_own_int _ rfl _ _ 95 rfl 3 3 .i64 lawI Try.underlying95 Try.underlying3 (zeroI _) w.heap.size n D rfl HO1.out (.int .i64 (s)) (.int .i64 (s)) rfl (Go.Maps.keyOf_int_mk Try.underlying3 (WalkArith.wf_i64 (by omega))) ?_; intro cc hat hwc; obtain rfl := HC1.out cc hat; clear hat hwc)
        | (at_mapUpdate; refine wpList_mapUpdate_own _ rfl _ _ _ 95 rfl 3 3 lawI Try.underlying95 _ w.heap.size n D rfl HO1.out (by unfold maxLen; omega) _ _ _ rfl rfl (Go.Maps.keyOf_int_mk Try.underlying3 (WalkArith.wf_i64 (by omega))) _ [] (plainElem_int Try.underlying3 (WalkArith.wf_i64 (by omega))) ?_; intro w2 hown2 hg2; have HO2 := Lib.hid hown2; have HG2 := Lib.hid hg2; clear hown2 hg2)
        | (at_lookup; refine wpList_lookup_own_int _ rfl _ _ 95 rfl 3 3 .i64 lawI Try.underlying95 Try.underlying3 (zeroI _) w.heap.size (n + 1) (D.put (.int .i64 s) (.lit (.int .i64 (v - 1)))) rfl HO2.out (.int .i64 (s)) (.int .i64 (s)) rfl (Go.Maps.keyOf_int_mk Try.underlying3 (WalkArith.wf_i64 (by omega))) ?_; intro cc hat hwc; obtain rfl := HC2.out cc hat; clear hat hwc)
        | (at_lookup; refine wpList_lookup_own_int _ rfl _ _ 95 rfl 3 3 .i64 lawI Try.underlying95 Try.underlying3 (zeroI _) w.heap.size (n + 1) (D.put (.int .i64 s) (.lit (.int .i64 (v - 1)))) rfl HO2.out (.int .i64 (s - 1)) (.int .i64 (s - 1)) rfl (Go.Maps.keyOf_int_mk Try.underlying3 (WalkArith.wf_i64 (by omega))) ?_; intro cc hat hwc; obtain rfl := HC3.out cc hat; clear hat hwc)
        | (at_mapUpdate; refine wpList_mapUpdate_own _ rfl _ _ _ 95 rfl 3 3 lawI Try.underlying95 _ w.heap.size (n + 1) (D.put (.int .i64 s) (.lit (.int .i64 (v - 1)))) rfl HO2.out (by unfold maxLen; omega) _ _ _ rfl rfl (Go.Maps.keyOf_int_mk Try.underlying3 (WalkArith.wf_i64 (by omega))) _ [] (plainElem_int Try.underlying3 (WalkArith.wf_i64 (by omega))) ?_; intro w4 hown4 hg4; have HO4 := Lib.hid hown4; have HG4 := Lib.hid (HG2.out.trans hg4); clear hown4 hg4)
        | fail)
      go_ret
      exact ⟨rfl, ⟨_, HO4.out, HM3.out⟩, HB1.out.grown HG4.out HB1.out.size (fun j hj => by cases hj; exact Nat.le_refl _)⟩
    · have HC2 : Hid (∀ cc : Int, (D.put (.int .i64 s) (.lit (.int .i64 (v - 1)))).atKey (.int .i64 s) (.lit (.int .i64 0)) = .lit (.int .i64 cc) → (v - 1) = cc) := Lib.hid (fun cc h => lit_int_inj ((Go.Maps.atKey_put_same HIM.out (show WideAt.IsKeyLit (.int .i64 s) from trivial) _ _).symm.trans h))
      have HM2 : Hid (MapOf (D.put (.int .i64 s) (.lit (.int .i64 (v - 1)))) (cL1 c s)) := Lib.hid (by unfold cL1; rw [HCV.out]; exact HMP.out.put HIM.out s (by omega))
      have HI2 : Hid (Go.Maps.IsMap (D.put (.int .i64 s) (.lit (.int .i64 (v - 1))))) := Lib.hid (HIM.out.put _ _)
      have hsg : decide (1 < s) = false := decide_eq_false hs1
      have hse : s = 1 := by omega
      have HM3 : Hid (MapOf (D.put (.int .i64 s) (.lit (.int .i64 (v - 1)))) (cnL c s)) := Lib.hid (by rw [cnL_one c hse]; exact HM2.out)
      clear hse
      go_wp2_with (first
        | (at_lookup; refine wpList_lookup_own_int _ rfl _ _ 95 rfl 3 3 .i64 lawI Try.underlying95 Try.underlying3 (zeroI _) w.heap.size n D rfl HO1.out (.int .i64 (s)) (.int .i64 (s)) rfl (Go.Maps.keyOf_int_mk Try.underlying3 (WalkArith.wf_i64 (by omega))) ?_; intro cc hat hwc; obtain rfl := HC1.out cc hat; clear hat hwc)
        | (at_mapUpdate; refine wpList_mapUpdate_own _ rfl _ _ _ 95 rfl 3 3 lawI Try.underlying95 _ w.heap.size n D rfl HO1.out (by unfold maxLen; omega) _ _ _ rfl rfl (Go.Maps.keyOf_int_mk Try.underlying3 (WalkArith.wf_i64 (by omega))) _ [] (plainElem_int Try.underlying3 (WalkArith.wf_i64 (by omega))) ?_; intro w2 hown2 hg2; have HO2 := Lib.hid hown2; have HG2 := Lib.hid hg2; clear hown2 hg2)
        | (at_lookup; refine wpList_lookup_own_int _ rfl _ _ 95 rfl 3 3 .i64 lawI Try.underlying95 Try.underlying3 (zeroI _) w.heap.size (n + 1) (D.put (.int .i64 s) (.lit (.int .i64 (v - 1)))) rfl HO2.out (.int .i64 (s)) (.int .i64 (s)) rfl (Go.Maps.keyOf_int_mk Try.underlying3 (WalkArith.wf_i64 (by omega))) ?_; intro cc hat hwc; obtain rfl := HC2.out cc hat; clear hat hwc)
        | fail)
      go_ret
      exact ⟨rfl, ⟨_, World.ownsMap.mono HO2.out (by omega), HM3.out⟩, HB1.out.grown HG2.out HB1.out.size (fun j hj => by cases hj; exact Nat.le_refl _)⟩

end Go.Proofs.Ytpchnoalamdhkaa

/- Sizes of kinds drawn from bytes. -/
namespace Go.Proofs.Ytpchnoalamdhkaa
open Go.RowKit

/-- Sizes of kinds, or none. -/
def DPx (xs : List Int) : Prop := (∃ m : Nat, 1 ≤ m ∧ m ≤ 7 ∧ xs ∈ pts 7 m m) ∨ ¬ VPt xs
theorem DPx.all {xs : List Int} (h : DPx xs) (hv : VPt xs) : ∃ m : Nat, 1 ≤ m ∧ m ≤ 7 ∧ tot xs = (m : Int) ∧ xs ∈ pts 7 m m := by
  rcases h with ⟨m, h1, h7, hm⟩ | h
  · obtain ⟨k, hk, e⟩ := List.mem_iff_getElem.1 hm
    exact ⟨m, h1, h7, by have := (pts_facts h1 h7).sum k hk; rw [gr_get hk, e] at this; exact this, hm⟩
  · exact absurd hv h
theorem VPt_snoc_no {xs : List Int} {x : Int} (hx : x = 0 ∨ x = 8) : ¬ VPt (xs ++ [x]) := fun h => by
  have h1 := h.1 xs.length (by simp)
  have e : gi (xs ++ [x]) xs.length = x := by rw [gi_get (by simp), List.getElem_append_right (Nat.le_refl _)]; simp
  unfold PtOk at h1
  rw [e] at h1
  omega
theorem VPt_nil_no : ¬ VPt [] := fun h => by have := h.2.2; unfold InR at this; simp [tot, sm] at this
theorem VPt.mem_bd {xs : List Int} (h : VPt xs) : ∀ x ∈ xs, 1 ≤ x ∧ x ≤ 7 := fun x hx => by
  obtain ⟨k, hk, rfl⟩ := List.mem_iff_getElem.1 hx
  have := h.1 k hk
  unfold PtOk at this
  rw [gi_get hk] at this
  omega

theorem SH.pushs {w0 wb : World} {g l c p : Nat} {A : Option Addr} {u u' : Value} {ys zs : List Int} {w w' : World} (h : SH w0 wb g A l c p u ys w)
    (hown : w'.ownsRow wb.heap.size 3 1 u' (ys.length + zs.length) (ys.map iv ++ zs.map iv)) (hgrow : w.grownBy w' u.ownBlock)
    (hat : u'.ownBlock = u.ownBlock ∨ u'.ownBlock = some w.heap.size) : SH w0 wb g A l c p u' (ys ++ zs) w' := by
  have hgl := h.gl
  have hhs := h.hs
  have hsz := hgrow.size
  have hu : ∀ k, u.ownBlock = some k → wb.heap.size ≤ k := fun k hk => (h.bi.own.lt k hk).1
  have hbelow : ∀ k, k < wb.heap.size → w'.heap[k]? = w.heap[k]? := fun k hk =>
    hgrow.block k (by omega) (fun e => by have := hu k e.symm; omega)
  refine ⟨⟨(hbelow g (by omega)).trans h.rd.box, h.rd.bytes, ?_, h.rd.lt, h.rd.small⟩, Bld.nil _ _ _, ⟨by rw [List.length_append, List.map_append]; exact hown, fun k hk => ?_⟩, h.gl, h.lh, by omega, ?_⟩
  · exact ⟨hgrow.os.trans h.rd.below.os, hgrow.tape.trans h.rd.below.tape, hgrow.output.trans h.rd.below.output, by have := h.rd.below.size; omega, fun k hk => (hbelow k (by have := h.rd.lt; omega)).trans (h.rd.below.block k hk)⟩
  · rcases hat with hat | hat
    · have := h.bi.hi_ k (by rw [← hat]; exact hk); omega
    · have := (hown.lt k hk).2; omega
  · exact grown_app h.up hgrow fun k hk => hu k hk

/-- Sizes that the reader drew. -/
def SomeP (w0 : World) (g : Nat) (A : Option Addr) (l c p : Nat) (w : World) (e : Ending) (w' : World) : Prop :=
  ∃ Av cv gg xs p', e = .returned (.slice Av xs.length cv) ∧ DPx xs ∧ xs.length ≤ 8 ∧ OwnI w.heap.size w'.heap.size w' gg Av xs.length cv xs ∧ Rdr w0 w' g A l c p' ∧ p' ≤ p + 10 ∧ w.grownBy w' (some g)
theorem SH.some {w0 wb w w' : World} {g l c p p0 : Nat} {A Av : Option Addr} {cv : Nat} {ys : List Int} (h : SH w0 wb g A l c p (.slice Av ys.length cv) ys w') (hd : DPx ys) (hl : ys.length ≤ 8) (hb : ∀ x ∈ ys, -1 ≤ x ∧ x ≤ 8) (hp : p ≤ p0 + 10) (hg : w.grownBy wb (some g)) :
    SomeP w0 g A l c p0 w (.returned (.slice Av ys.length cv)) w' := by
  obtain ⟨A', n', c', gg, e, hn, ho, _⟩ := h.bi.owns (by omega) (fun x hx => by have := hb x hx; omega)
  injection e with e1 e2 e3
  subst e1 e2 e3
  exact ⟨_, _, gg, ys, p, rfl, hd, hl, ho.mono hg.size (Nat.le_refl _), h.rd, hp, grown_trans hg h.up⟩

set_option maxRecDepth 100000 in
set_option maxHeartbeats 1600000 in
theorem someParts_any (w0 w : World) (g : Nat) (A : Option Addr) (l c p : Nat) (h : Rdr w0 w g A l c p) (hp : p < 800000000) :
    Calls Try.prog 85 #[.pointer (some ⟨g, 0, none⟩)] w (SomeP w0 g A l c p w) := by
  have H1 := Lib.hid (one_lit w0 w _ g A l c p w.heap.size 7 [4, 5, 3, 6, 2, 1, 7] h (by omega) (below_alloc w (.cells #[iv 4, iv 5, iv 3, iv 6, iv 2, iv 1, iv 7] 3)) (Nat.le_refl _) (Ints.lit w [4, 5, 3, 6, 2, 1, 7] (by decide) (by decide)) (by omega))
  clear h
  obtain ⟨i0, hi0, hz0, hz1, hz2⟩ := info_parts Try.info_int
  go_enter Try.func85, Try.ntmps85
  go_wp2_with fail
  refine H1.out.mono ?_
  rintro e w1 ⟨x, rfl, hx, hr, hgr⟩
  obtain ⟨m, rfl⟩ : ∃ m : Nat, x = (m : Int) := ⟨x.toNat, by simp at hx; omega⟩
  have hm1 : 1 ≤ m := by simp at hx; omega
  have hm7 : m ≤ 7 := by simp at hx; omega
  have HR1 := Lib.hid hr
  have hgw1 : g < w1.heap.size := blk_lt hr.box
  have HG1 := Lib.hid hgr
  have HC := Lib.hid (PartsOf_spec m w1 (by unfold Fit; omega))
  rw [pt_yes (by unfold InR; omega)] at HC
  have HF := Lib.hid (pts_facts hm1 hm7)
  have HMM : Hid (∀ r ∈ pts 7 m m, DPx r) := Lib.hid (fun r hr => .inl ⟨m, hm1, hm7, hr⟩)
  generalize pts 7 m m = list at *
  clear hx hr hgr H1
  go_wp2_with fail
  refine HC.out.mono ?_
  rintro e w2 ⟨Al, nl, cl, gl, rfl, hnl, ho, hb⟩
  subst hnl
  have HR2 := Lib.hid (HR1.out.below_ hb)
  have HG2 := Lib.hid (grown_below HG1.out hb)
  have HO := Lib.hid ho
  have hl0 := HF.out.pos
  have hl40 := HF.out.le
  clear hb ho HR1 HG1 HC
  have HS := Lib.hid (SH.start HR2.out)
  have HO3 := Lib.hid (HO.out.below (below_alloc w2 (.cells #[] 3)))
  have HC := Lib.hid (pick_any w0 _ g A l c (p + 1) list.length HS.out.rd (by omega))
  clear HO HR2
  go_wp2_with fail
  generalize hw3 : w2.alloc (.cells #[] 3) = w3 at *
  clear hw3
  refine HC.out.mono ?_
  rintro e w4 ⟨k, rfl, hk1, _, hr, z, hw⟩
  have hone := Rdr.one (g := g) w3 (.int .i64 (p + 1 + 1 : Nat)) z
  rw [← hw] at hone
  obtain ⟨k0, k1⟩ := hk1 (by omega)
  obtain ⟨k, rfl⟩ := Int.eq_ofNat_of_zero_le k0
  have hkl : k < list.length := by omega
  have HS4 := Lib.hid (SH.one HS.out hr hone)
  have HO4 := Lib.hid (HO3.out.of_blocks (w' := w4) (fun q h1 _ _ => hone.block q (by omega)))
  clear hr hone hw hk1 HC HS HO3
  obtain ⟨b, ob, rfl, _⟩ := HO4.out.rows.at_ hl0
  obtain ⟨R, cc, c1, hR⟩ := HO4.out.rows.cell hkl
  have HMR := Lib.hid (HMM.out _ (gr_mem hkl))
  have HV := Lib.hid (HF.out.ok k hkl)
  have HRI := Lib.hid hR
  have hrl : (gr list k).length ≤ 7 := HV.out.2.1
  have hr0 : 0 < (gr list k).length := by
    have h := HV.out.2.2
    apply Classical.byContradiction
    intro hn
    have e : gr list k = [] := List.eq_nil_of_length_eq_zero (by omega)
    rw [e] at h; unfold InR at h; simp [tot, sm] at h
  generalize gr list k = row at *
  obtain ⟨b', o', rfl, hcr⟩ := hR.at_ hr0
  have HCR := Lib.hid hcr
  have HOW := Lib.hid (show w4.ownsRow w2.heap.size 3 1 (.slice (some ⟨w2.heap.size, 0, none⟩) 0 0) 0 [] from HS4.out.bi.own)
  have hwz := HS4.out.hs
  clear hcr hR HF HMM
  go_wp2_with (at_builtin; refine wpList_append_own_at _ rfl _ _ 27 rfl w2.heap.size 3 i0 (.int .i64 0) 1 8 Try.underlying27 hi0 hz0 hz1 hz2 rfl (by decide) _ 0 [] rfl HOW.out ⟨b', o', none⟩ row.length cc (row.map iv) rfl ?c1 ?c2 ?c3 ?c4 ?c5 ?c6 ?_)
  case c1 => simp
  case c2 => have := news_take (j := row.length) rfl HCR.out; rw [List.take_length] at this; exact this
  case c3 => exact ones_map _
  case c4 => unfold maxLen; omega
  case c5 => omega
  case c6 => exact hwz
  intro v' w5 hown' hgrow _ hat
  have HS5 := Lib.hid (SH.pushs (ys := []) (zs := row) HS4.out (by simpa using hown') hgrow hat)
  rw [List.nil_append] at HS5
  obtain ⟨Av, cv, rfl⟩ := HS5.out.bi.form
  clear HOW hown' hgrow hat HS4 HCR HRI c1 HO4
  have HRB := Lib.hid HV.out.mem_bd
  have HC := Lib.hid (pick_any w0 _ g A l c (p + 1 + 1) 30 HS5.out.rd (by omega))
  go_wp2_with fail
  refine HC.out.mono ?_
  rintro e w6 ⟨q, rfl, hk1, _, hr, z, hw⟩
  have hone := Rdr.one (g := g) w5 (.int .i64 (p + 1 + 1 + 1 : Nat)) z
  rw [← hw] at hone
  obtain ⟨q0, q1⟩ := hk1 (by omega)
  have HS6 := Lib.hid (SH.one HS5.out hr hone)
  clear hr hone hw hk1 HC HS5
  by_cases e0 : q = 0
  · subst e0
    have hgw : g < w6.heap.size := blk_lt HS6.out.rd.box
    have HS7 := Lib.hid (HS6.out.below (below_alloc w6 (.cells #[iv 0, iv 8] 3)))
    have HC := Lib.hid (one_any w0 (w6.alloc (.cells #[iv 0, iv 8] 3)) g A l c (p + 1 + 1 + 1) _ 2 2 [0, 8] HS7.out.rd (by omega) (Ints.lit w6 [0, 8] (by decide) (by decide)) (by omega) (fun b' o' e' => by injection e' with e'; injection e' with e' _ _; omega))
    clear HS6
    go_wp2_with fail
    refine HC.out.mono ?_
    rintro e w7 ⟨x, rfl, hx, hr, ho⟩
    have hx8 : x = 0 ∨ x = 8 := by simpa using hx
    have HS8 := Lib.hid (HS7.out.one hr ho)
    clear hx hr ho HC HS7
    have hb := below_alloc w7 (.cells #[iv x] 3)
    have HB4 := Lib.hid (HS8.out.bi.below hb).own
    have HN := Lib.hid (cell_one_new w7 (iv x) 3)
    have hHs := HS8.out.hs
    have HXB : Hid (∀ y ∈ row ++ [x], -1 ≤ y ∧ y ≤ 8) := Lib.hid (fun y hy => by
      rcases List.mem_append.1 hy with hy | hy
      · have := HRB.out y hy; omega
      · simp at hy; omega)
    have HXD : Hid (DPx (row ++ [x])) := Lib.hid (.inr (VPt_snoc_no hx8))
    clear hb
    go_wp2_with (at_builtin; refine wpList_append_own_at _ rfl _ _ 27 rfl w2.heap.size 3 i0 (.int .i64 0) 1 8 Try.underlying27 hi0 hz0 hz1 hz2 rfl (by decide) _ row.length (row.map iv) rfl HB4.out ⟨w7.heap.size, 0, none⟩ 1 1 [iv x] rfl rfl ?d1 ?d2 ?d3 ?d4 ?d5 ?_)
    case d1 => exact HN.out
    case d2 => intro u hu; simp at hu; subst hu; rfl
    case d3 => unfold maxLen; omega
    case d4 => omega
    case d5 => simp; omega
    intro v' w8 hown' hgrow _ hat
    have HS9 := Lib.hid (show SH w0 w2 g A l c (p + 1 + 1 + 1 + 1) v' (row ++ [x]) w8 from TI.push HS8.out hown' hgrow (by simpa using hat))
    clear HB4 HN hown' hgrow hat HS8
    obtain ⟨Au2, cu2, rfl⟩ := HS9.out.bi.form
    have HE := Lib.hid (HS9.out.some (w := w) (p0 := p) HXD.out (by simp; omega) HXB.out (by omega) HG2.out)
    clear HS9
    go_wp2
    go_ret
    exact HE.out
  · have e0' : (q == 0) = false := by simpa using e0
    by_cases e1 : q = 1
    · subst e1
      have HE := Lib.hid (SH.some (w := w) (p0 := p) (SH.start (HS6.out.rd)) (.inr VPt_nil_no) (by simp) (fun x hx => by simp at hx) (by omega) (grown_trans HG2.out HS6.out.up))
      clear HS6
      go_wp2
      go_ret
      exact HE.out
    · have e1' : (q == 1) = false := by simpa using e1
      have HE := Lib.hid (HS6.out.some (w := w) (p0 := p) HMR.out (by omega) (fun x hx => by have := HRB.out x hx; omega) (by omega) HG2.out)
      clear HS6
      go_wp2
      go_ret
      exact HE.out
/-- Drawn sizes; and a weight. -/
def DrawnP (w : World) (e : Ending) (w' : World) : Prop :=
  ∃ Av cv gg xs, e = .returned (.slice Av xs.length cv) ∧ DPx xs ∧ xs.length ≤ 8 ∧ OwnI w.heap.size w'.heap.size w' gg Av xs.length cv xs ∧ Below w.heap.size w w'
def DrawnPN (w : World) (e : Ending) (w' : World) : Prop :=
  ∃ Av cv gg xs, ∃ f : Int, e = .returned (.tuple #[.slice Av xs.length cv, .int .i64 f]) ∧ (0 ≤ f ∧ f ≤ 7) ∧ DPx xs ∧ xs.length ≤ 8 ∧ OwnI w.heap.size w'.heap.size w' gg Av xs.length cv xs ∧ Below w.heap.size w w'
set_option maxRecDepth 100000 in
set_option maxHeartbeats 1000000 in
theorem DrawKindsByProduct_any (A : Option Addr) (n c : Nat) (w : World) (h : Bytes w A n c) :
    Calls Try.prog 29 #[.slice A n c] w (DrawnPN w) := by
  have H0 := Lib.hid (newReader_any A n c w h)
  clear h
  go_enter Try.func29, Try.ntmps29
  go_wp2_with fail
  refine H0.out.mono ?_
  rintro e w1 ⟨A1, l, c1, rfl, hl, hr, hs⟩
  have hsz1 : w.heap.size ≤ w1.heap.size := by omega
  have hgz1 : w.heap.size < w1.heap.size := by omega
  have H1 := Lib.hid (someParts_any w w1 w.heap.size A1 l c1 0 hr (by omega))
  have HSZ := Lib.hid (And.intro hsz1 hgz1)
  clear hr hl hs H0 hsz1 hgz1
  go_wp2_with fail
  refine H1.out.mono ?_
  rintro e w2 ⟨Av, cv, gg, xs, p', rfl, hd, hl8, ho, hr, hp, hg⟩
  have HD := Lib.hid hd
  have HL := Lib.hid hl8
  have HO := Lib.hid ho
  have HR2 := Lib.hid hr
  have hp11 : p' < 1000000000 := by omega
  clear hd ho hr hp hg H1 hl8
  generalize hN : xs.length = N at *
  have HNE := Lib.hid hN
  clear hN
  have H2 := Lib.hid (one_lit w w2 _ w.heap.size A1 l c1 p' w2.heap.size 6 [1, 2, 3, 6, 0, 7] HR2.out hp11 (below_alloc w2 (.cells #[iv 1, iv 2, iv 3, iv 6, iv 0, iv 7] 3)) (Nat.le_refl _) (Ints.lit w2 [1, 2, 3, 6, 0, 7] (by decide) (by decide)) (by omega))
  go_wp2_with fail
  refine H2.out.mono ?_
  rintro e w3 ⟨f, rfl, hx, hr, hgr⟩
  have hf : 0 ≤ f ∧ f ≤ 7 := by simp at hx; omega
  have HB := Lib.hid hr.below
  have HO3 := Lib.hid (((HO.out.grown hgr HSZ.out.2).mono HSZ.out.1 hgr.size))
  clear hx hr hgr H2 HR2 HO
  go_wp2
  go_ret2
  exact ⟨Av, cv, gg, xs, f, by first | (rw [HNE.out]; done) | (rw [HNE.out]; rfl), hf, HD.out, by rw [HNE.out]; exact HL.out, by rw [HNE.out]; exact HO3.out, HB.out⟩
set_option maxRecDepth 100000 in
set_option maxHeartbeats 1000000 in
theorem DrawKindsByUrn_any (A : Option Addr) (n c : Nat) (w : World) (h : Bytes w A n c) :
    Calls Try.prog 34 #[.slice A n c] w (DrawnPN w) := by
  have H0 := Lib.hid (newReader_any A n c w h)
  clear h
  go_enter Try.func34, Try.ntmps34
  go_wp2_with fail
  refine H0.out.mono ?_
  rintro e w1 ⟨A1, l, c1, rfl, hl, hr, hs⟩
  have hsz1 : w.heap.size ≤ w1.heap.size := by omega
  have hgz1 : w.heap.size < w1.heap.size := by omega
  have H1 := Lib.hid (someParts_any w w1 w.heap.size A1 l c1 0 hr (by omega))
  have HSZ := Lib.hid (And.intro hsz1 hgz1)
  clear hr hl hs H0 hsz1 hgz1
  go_wp2_with fail
  refine H1.out.mono ?_
  rintro e w2 ⟨Av, cv, gg, xs, p', rfl, hd, hl8, ho, hr, hp, hg⟩
  have HD := Lib.hid hd
  have HL := Lib.hid hl8
  have HO := Lib.hid ho
  have HR2 := Lib.hid hr
  have hp11 : p' < 1000000000 := by omega
  clear hd ho hr hp hg H1 hl8
  generalize hN : xs.length = N at *
  have HNE := Lib.hid hN
  clear hN
  have H2 := Lib.hid (one_lit w w2 _ w.heap.size A1 l c1 p' w2.heap.size 6 [1, 2, 3, 6, 0, 7] HR2.out hp11 (below_alloc w2 (.cells #[iv 1, iv 2, iv 3, iv 6, iv 0, iv 7] 3)) (Nat.le_refl _) (Ints.lit w2 [1, 2, 3, 6, 0, 7] (by decide) (by decide)) (by omega))
  go_wp2_with fail
  refine H2.out.mono ?_
  rintro e w3 ⟨f, rfl, hx, hr, hgr⟩
  have hf : 0 ≤ f ∧ f ≤ 7 := by simp at hx; omega
  have HB := Lib.hid hr.below
  have HO3 := Lib.hid (((HO.out.grown hgr HSZ.out.2).mono HSZ.out.1 hgr.size))
  clear hx hr hgr H2 HR2 HO
  go_wp2
  go_ret2
  exact ⟨Av, cv, gg, xs, f, by first | (rw [HNE.out]; done) | (rw [HNE.out]; rfl), hf, HD.out, by rw [HNE.out]; exact HL.out, by rw [HNE.out]; exact HO3.out, HB.out⟩

end Go.Proofs.Ytpchnoalamdhkaa

/- KindsByUrn by the program. -/
namespace Go.Proofs.Ytpchnoalamdhkaa
open Go.RowKit

set_option maxHeartbeats 400000 in
theorem pull_any (B n : Nat) (D : DataW Unit) (c : Int → Int) (s f : Int) (w : World) (hown : Owned w B n D) (hm : MapOf D c) (h0 : 0 ≤ s) (h7 : s ≤ 7) (hc : ∀ y, 0 ≤ c y ∧ c y ≤ 7) :
    Calls Try.prog 126 #[.map (some B), .int .i64 s, .int .i64 f] w fun e w' => e = .returned (.int .i64 (if s = 0 then f else s * c s)) ∧ w = w' := by
  by_cases hs : s = 0
  · rw [if_pos hs]
    subst hs
    clear hown hm hc
    go_enter Try.func126, Try.ntmps126
    go_wp2
    go_ret
    exact ⟨rfl, rfl⟩
  · rw [if_neg hs]
    have hz : (s == 0) = false := beq_eq_false_iff_ne.2 hs
    have HC1 : Hid (∀ cc : Int, D.atKey (.int .i64 s) (.lit (.int .i64 0)) = .lit (.int .i64 cc) → c s = cc) := Lib.hid (fun cc h => lit_int_inj ((hm s).1.symm.trans h))
    have HO := Lib.hid hown
    obtain ⟨v0, v7⟩ := hc s
    obtain ⟨p1, p2⟩ := mulbd (x := s) (y := c s) (A := 7) (B := 7) (by omega) (by omega)
    clear hown hm hc hs
    generalize c s = v at *
    go_enter Try.func126, Try.ntmps126
    go_wp2_with (at_lookup; refine wpList_lookup_own_int _ rfl _ _ 95 rfl 3 3 .i64 lawI Try.underlying95 Try.underlying3 (zeroI _) B n D rfl HO.out (.int .i64 (s)) (.int .i64 (s)) rfl (Go.Maps.keyOf_int_mk Try.underlying3 (WalkArith.wf_i64 (by omega))) ?_; intro cc hat hwc; obtain rfl := HC1.out cc hat; clear hat hwc)
    go_ret
    exact ⟨rfl, rfl⟩
theorem km_key {w : World} {B n : Nat} {D : DataW Unit} (hown : Owned w B n D) (h : Go.Maps.size D ≠ 0) : ∃ x, Go.Maps.has D (.int .i64 x) = true := by
  obtain ⟨es, clock, hb, F, hs, rfl⟩ := hown
  rw [Go.Maps.size_eq] at h
  obtain ⟨p, r, he⟩ : ∃ p r, (es.toList.map (Go.WideElems.rg Try.prog 3 Kel)).foldr DataW.insert [] = p :: r := by
    cases hl : (es.toList.map (Go.WideElems.rg Try.prog 3 Kel)).foldr DataW.insert [] with
    | nil => rw [hl] at h; exact absurd rfl h
    | cons p r => exact ⟨p, r, rfl⟩
  have hp : p ∈ (es.toList.map (Go.WideElems.rg Try.prog 3 Kel)).foldr DataW.insert [] := by rw [he]; exact List.mem_cons_self
  obtain ⟨v, hv⟩ := Go.Maps.fit_keys F p (Go.mem_sorted.1 hp)
  obtain ⟨x, _, hx, _⟩ := Go.Maps.keyOf_int_inv Try.underlying3 hv
  refine ⟨x, ?_⟩
  rw [Go.Maps.has_eq, List.any_eq_true]
  exact ⟨p, hp, by rw [hx, same_int]; simp⟩
theorem km_size {D : DataW Unit} {k : Lit} (h : Go.Maps.has D k = true) : Go.Maps.size D ≠ 0 := by
  match D, h with
  | .map [], h => simp [Go.Maps.has_eq] at h
  | .map (p :: r), _ => rw [Go.Maps.size_eq]; simp
theorem SDL_start {t : Int → Int} {xs : List Int} {D : DataW Unit} (h : MapOf D (cn xs)) (ht : ∀ s, cn xs s = 0 → t s = 0) : SDL t (Go.Maps.has D) = 0 := by
  have k : ∀ s : Int, sd1 (t s) (Go.Maps.has D (.int .i64 s)) = 0 := fun s => by
    rw [(h s).2]
    by_cases e : cn xs s = 0
    · rw [ht s e]; unfold sd1; split <;> rfl
    · unfold sd1; rw [if_pos (by simp [e])]
  unfold SDL
  simp only [k]; rfl
theorem sd1_yes {t : Int} {b : Bool} (h : b = true) : sd1 t b = 0 := by unfold sd1; rw [if_pos h]
theorem sd1_no {t : Int} {b : Bool} (h : b = false) : sd1 t b = t := by unfold sd1; rw [if_neg (by rw [h]; decide)]
theorem SDL_step {t : Int → Int} {left : Lit → Bool} {x : Int} (h1 : 1 ≤ x) (h7 : x ≤ 7) (hl : left (.int .i64 x) = true) :
    SDL t (fun z => left z && !z.sameKey (.int .i64 x)) = SDL t left + t x := by
  have hx : x = 1 ∨ x = 2 ∨ x = 3 ∨ x = 4 ∨ x = 5 ∨ x = 6 ∨ x = 7 := by omega
  rcases hx with rfl | rfl | rfl | rfl | rfl | rfl | rfl
  all_goals
    unfold SDL
    simp only [same_int, Int.reduceEq, decide_true, decide_false, Bool.not_true, Bool.not_false, Bool.and_true, Bool.and_false, hl, sd1_yes, sd1_no]
    omega
theorem upW_eq (xs : List Int) (f s : Int) (hg : gi xs (li xs s) = s) (h1 : 1 ≤ s) : upW xs f (li xs s) = if s - 1 = 0 then f else (s - 1) * cn (wo xs (li xs s)) (s - 1) := by
  unfold upW
  rw [hg]
  by_cases h : 1 < s
  · rw [if_pos h, if_neg (by omega)]
  · rw [if_neg h, if_pos (by omega)]
set_option maxRecDepth 100000 in
set_option maxHeartbeats 3200000 in
theorem weightOf_any : ∀ m : Nat, m ≤ 7 → ∀ (xs : List Int), xs ∈ pts 7 m m → ∀ (f : Int), 1 ≤ f → f ≤ 6 → ∀ (B n : Nat) (D : DataW Unit) (w : World), Owned w B n D → MapOf D (cn xs) → n + 2 * m ≤ 30 →
    Calls Try.prog 93 #[.map (some B), .int .i64 f] w (Ret (.int .i64 (uw m xs f)) w) := by
  intro m
  induction m with
  | zero =>
    intro _ xs hxs f h1 h6 B n D w hown hm hn
    have hx0 : xs = [] := by rw [pts_zero] at hxs; exact List.mem_singleton.1 hxs
    subst hx0
    have hz : Go.Maps.size D = 0 := Classical.byContradiction fun h => by
      obtain ⟨x, hx⟩ := km_key hown h
      rw [(hm x).2] at hx
      exact absurd hx (by simp [cn, cnI])
    have HO := Lib.hid hown
    have HZ := Lib.hid hz
    clear hxs hown hm hz
    go_enter Try.func93, Try.ntmps93
    go_wp2_with (at_len; refine wpList_len_own _ rfl _ 95 rfl 3 3 Try.underlying95 _ B n D rfl HO.out ?_; rw [HZ.out])
    go_ret
    exact ⟨rfl, Below.refl _ _⟩
  | succ m ih =>
    intro hm7 xs hxs f h1 h6 B n D w hown hm hn
    have IH := Lib.hid ih
    have HXS := Lib.hid hxs
    have HO := Lib.hid hown
    have HMP := Lib.hid hm
    have HCB := Lib.hid (fun y => show 0 ≤ cn xs y ∧ cn xs y ≤ 7 from by
      obtain ⟨k, hk, e⟩ := List.mem_iff_getElem.1 hxs
      have hv := (pts_facts (n := m + 1) (by omega) hm7).ok k hk
      rw [gr_get hk, e] at hv
      have := cnI_bd xs y xs.length
      have := hv.2.1
      unfold cn; omega)
    have HST := Lib.hid (fun s (hs : cn xs s ≠ 0) => uw_step (by omega) hxs h1 h6 hs)
    have HRG := Lib.hid (fun s (hs : cn xs s ≠ 0) => pts_mem_bd hm7 hxs hs)
    have HTB := Lib.hid (fun s => tm_bd (s := s) (by omega) hxs h1 h6)
    have HE := Lib.hid (fun left hl => SDL_end (left := left) (by omega) hxs h1 h6 hl)
    have HS0 := Lib.hid (SDL_start (t := tmW m xs f) hm (fun s e => by unfold tmW; rw [if_pos e]))
    have hnz : ((Go.Maps.size D : Nat) : Int) ≠ 0 := by
      have h : Go.Maps.size D ≠ 0 := by
        have hv := (pts_facts (n := m + 1) (by omega) hm7).ok
        obtain ⟨k, hk, e⟩ := List.mem_iff_getElem.1 hxs
        have hvk := hv k hk
        rw [gr_get hk, e] at hvk
        have hl0 : 0 < xs.length := Classical.byContradiction fun h => by
          have e2 : xs = [] := List.eq_nil_of_length_eq_zero (by omega)
          rw [e2] at hvk; exact VPt_nil_no hvk
        have hc : cn xs (gi xs (xs.length - 1)) ≠ 0 := by
          unfold cn
          obtain ⟨l, hl⟩ : ∃ l, xs.length = l + 1 := ⟨xs.length - 1, by omega⟩
          rw [hl, Nat.add_sub_cancel, cnI, if_pos rfl]
          have := cnI_bd xs (gi xs l) l
          omega
        exact km_size (k := .int .i64 (gi xs (xs.length - 1))) (by rw [(hm _).2]; exact decide_eq_true hc)
      omega
    have HNZ : Hid ((((Go.Maps.size D : Nat) : Int) == 0) = false) := Lib.hid (beq_eq_false_iff_ne.2 hnz)
    clear hxs hown hm ih hnz
    generalize hcn : cn xs = cc at *
    have HCC := Lib.hid hcn
    clear hcn
    generalize htm : tmW m xs f = tt at *
    have HTT := Lib.hid htm
    clear htm
    go_enter Try.func93, Try.ntmps93
    go_wp2_with (first
      | (at_len; refine wpList_len_own _ rfl _ 95 rfl 3 3 Try.underlying95 _ B n D rfl HO.out ?_; have hnz := HNZ.out; generalize ((Go.Maps.size D : Nat) : Int) = sz at hnz ⊢)
      | (at_range; refine wpList_range_own _ rfl _ 95 rfl 3 3 lawI Try.underlying95 Kel B n D rfl HO.out ?_; intro w7 hrg0 hg0 hs0)
      | fail)
    go_frame
    have HR := Lib.hid hrg0
    have HB7 := Lib.hid (show Below w.heap.size w w7 from ⟨hg0.os, hg0.tape, hg0.output, hg0.size, fun k hk => hg0.block k hk (by simp)⟩)
    have hwr : w.heap.size ≤ w.heap.size := Nat.le_refl _
    clear hrg0 hg0 hs0
    generalize hr : w.heap.size = r at HR hwr
    go_loopw [5, 6, 7] (fun v _ _ wr => ∃ (left : Lit → Bool) (cnt : Nat), v = .int .i64 (SDL tt left) ∧ Hid (wr.ranges Try.prog 3 Kel B r n D left cnt) ∧ Hid (∀ x, left (.int .i64 x) = true → cc x ≠ 0) ∧ Hid (Below w.heap.size w wr)) (fun _ _ _ wr => wr.rangeLeft B r)
    case atStart => exact ⟨_, _, by rw [HS0.out], HR, Lib.hid (fun x h => by rw [(HMP.out x).2] at h; exact of_decide_eq_true h), HB7⟩
    case round =>
      clear HR HB7 HS0 HNZ
      obtain ⟨left, cnt, rfl, HRN, HLF, HB⟩ := hrel
      obtain ⟨q1, q2⟩ := SDL_bd HTB.out left
      go_wp2_with (at_next; refine wpList_next_ranges_ii _ rfl _ rfl 3 3 .i64 .i64 lawI Try.underlying3 Try.underlying3 B r n _ _ _ rfl HRN.out ?_ ?_)
      · intro _ hl0
        have HEE := Lib.hid (HE.out left hl0)
        clear hl0
        generalize SDL tt left = sum at *
        go_wp2
        go_ret
        exact ⟨ret_int HEE.out, HB.out⟩
      · intro x cv w8 cnt1 hwx hwc hlx hat hrg1 hlt hg1 hs1 hen
        have hcx := HLF.out x hlx
        obtain ⟨x1, x7⟩ := HRG.out x hcx
        have HF := Lib.hid (HST.out x hcx)
        have HPS := Lib.hid (SDL_step (t := tt) x1 x7 hlx)
        have HLF2 := Lib.hid (fun y (h : (left (.int .i64 y) && !(Lit.int .i64 y).sameKey (.int .i64 x)) = true) => HLF.out y (by rw [Bool.and_eq_true] at h; exact h.1))
        have HRN1 := Lib.hid hrg1
        have HB8 := Lib.hid (HB.out.grown hg1 HB.out.size (fun j hj => by cases hj; omega))
        have HLT := Lib.hid hlt
        have HME := Lib.hid HRN.out.left_eq
        have HWO := Lib.hid (withoutOne_any B n D cc x w8 hrg1.owns HMP.out x1 x7 HCB.out hcx (by omega))
        obtain ⟨t1, t2⟩ := SDL_bd HTB.out (fun z => left z && !z.sameKey (.int .i64 x))
        have hu1 := HF.out.u1
        have hu2 := HF.out.u2
        rw [HPS.out] at t1 t2
        clear hrg1 hg1 hs1 hat hlx hwx hwc hlt HRN HLF hcx
        go_wp2_with fail
        refine HWO.out.mono ?_
        rintro e w9 ⟨rfl, ⟨D', hown', hmap'⟩, hb⟩
        have HO9 := Lib.hid hown'
        have HM9 := Lib.hid (show MapOf D' (cn (wo xs (li xs x))) from fun y => by rw [HF.out.cnt y, HCC.out]; exact hmap' y)
        have HB9 := Lib.hid (below_up HB8.out hb)
        have HRN9 := Lib.hid (HRN1.out.kept (row := none) ⟨hb.os, hb.tape, hb.output, hb.size, fun k hk _ => hb.block k hk⟩ (by simp) (by simp))
        have HIH := Lib.hid (IH.out (by omega) (wo xs (li xs x)) HF.out.mem f h1 h6 w8.heap.size (n + 2) D' w9 HO9.out HM9.out (by omega))
        clear hown' hmap' hb HWO HB8 HRN1
        go_wp2_with fail
        refine HIH.out.mono ?_
        rintro e w10 ⟨rfl, hb⟩
        have HO10 := Lib.hid (show Owned w10 w8.heap.size (n + 2) D' from World.ownsMap.kept (row := none) HO9.out ⟨hb.os, hb.tape, hb.output, hb.size, fun k hk _ => hb.block k hk⟩ (by simp))
        have HB10 := Lib.hid (below_up HB9.out hb)
        have HRN10 := Lib.hid (HRN9.out.kept (row := none) ⟨hb.os, hb.tape, hb.output, hb.size, fun k hk _ => hb.block k hk⟩ (by simp) (by simp))
        have HCB9 := Lib.hid (fun y => show 0 ≤ cn (wo xs (li xs x)) y ∧ cn (wo xs (li xs x)) y ≤ 7 from by
          by_cases h0 : m = 0
          · have hmm := HF.out.mem
            subst h0
            rw [pts_zero] at hmm
            rw [List.mem_singleton.1 hmm]
            exact ⟨Int.le_refl _, by show (0 : Int) ≤ 7; omega⟩
          · obtain ⟨k, hk, e⟩ := List.mem_iff_getElem.1 HF.out.mem
            have hv := (pts_facts (n := m) (by omega) (by omega)).ok k hk
            rw [gr_get hk, e] at hv
            have := cnI_bd (wo xs (li xs x)) y (wo xs (li xs x)).length
            have := hv.2.1
            unfold cn; omega)
        have HPU := Lib.hid (upW_eq xs f x HF.out.at_ x1 ▸ pull_any w8.heap.size (n + 2) D' _ (x - 1) f w10 HO10.out HM9.out (by omega) (by omega) HCB9.out)
        have HTM := Lib.hid ((congrFun HTT.out x).symm.trans HF.out.tm)
        have HUB := Lib.hid (uw_bd (f := f) (show m ≤ 7 by omega) HF.out.mem h1 h6)
        clear hb HIH HO9 HB9 HRN9 HF HM9 HCB9
        obtain ⟨a1, a2⟩ := HUB.out
        obtain ⟨p1, p2⟩ := mulbd (x := uw m (wo xs (li xs x)) f) (y := upW xs f (li xs x)) (A := 20000000) (B := 1000) (by omega) (by omega)
        have HVV : Hid (SDL tt (fun z => left z && !z.sameKey (.int .i64 x)) = SDL tt left + uw m (wo xs (li xs x)) f * upW xs f (li xs x)) := Lib.hid (by rw [HPS.out, HTM.out])
        rw [HTM.out] at t1 t2
        clear HPS HTM HUB
        generalize uw m (wo xs (li xs x)) f = a at *
        generalize upW xs f (li xs x) = up at *
        generalize SDL tt left = sum at *
        go_wp2_with fail
        refine HPU.out.mono ?_
        rintro e w11 ⟨rfl, rfl⟩
        clear HPU
        go_wp2
        go_roundw
        case rel => exact ⟨_, cnt1, by rw [HVV.out], HRN10, HLF2, HB10⟩
        case measure => rw [HRN10.out.left_eq, HME.out]; exact HLT.out
/-- What KindsByUrn answers. -/
def kuU (xs : List Int) (f : Int) : Int := uw (tot xs).toNat xs f
def kuD (xs : List Int) (f : Int) : Int := mkD f (tot xs).toNat
noncomputable def kuV (xs : List Int) (f : Int) : Value := if pb (KQ xs f) = true then .agg #[.int .i64 (frU (kuU xs f) (kuD xs f)), .int .i64 (frD (kuU xs f) (kuD xs f))] else .agg #[.int .i64 0, .int .i64 0]
theorem ku_no {xs : List Int} {f : Int} (h : ¬ KQ xs f) : kuV xs f = .agg #[.int .i64 0, .int .i64 0] := by unfold kuV; rw [if_neg (by rw [pb_false h]; decide)]
theorem ku_yes {xs : List Int} {f : Int} (h : KQ xs f) : kuV xs f = .agg #[.int .i64 (frU (kuU xs f) (kuD xs f)), .int .i64 (frD (kuU xs f) (kuD xs f))] := by unfold kuV; rw [if_pos (pb_true h)]
theorem ku_form (xs : List Int) (f : Int) : ∃ U D, kuV xs f = .agg #[.int .i64 U, .int .i64 D] := by
  unfold kuV; split
  · exact ⟨_, _, rfl⟩
  · exact ⟨_, _, rfl⟩
set_option maxRecDepth 100000 in
set_option maxHeartbeats 3200000 in
theorem KindsByUrn_impl (A : Option Addr) (n c : Nat) (xs : List Int) (f : Int) (w : World) (hx : Ints w A n c xs) (_ : Fit f) :
    Calls Try.prog 32 #[.slice A n c, .int .i64 f] w (Ret (.tuple #[kuV xs f, .bool (pb (KQ xs f))]) w) := by
  have HPF := Lib.hid (PF.start w)
  by_cases hv : VPt xs
  · by_cases hf : InR f 1 6
    · have hq : KQ xs f := ⟨hv, hf⟩
      rw [ku_yes hq, pb_true hq]
      have HV := Lib.hid hv
      have HX := Lib.hid hx
      obtain ⟨f1, f6⟩ := show 1 ≤ f ∧ f ≤ 6 from hf
      clear hq
      have HVC := Lib.hid (pb_true hv ▸ ValidParts_impl A n c xs _ (hx.keep HPF.out.keep))
      have HFR := Lib.hid (fun W => pb_true hf ▸ isFresh_any f W)
      clear hx hv hf
      go_enter Try.func32, Try.ntmps32
      go_wp2_with fail
      refine HVC.out.mono ?_
      rintro e w1 ⟨rfl, hb⟩
      have HP1 := Lib.hid (HPF.out.up hb)
      clear hb HVC HPF
      go_wp2_with fail
      refine (HFR.out _).mono ?_
      rintro e w2 ⟨rfl, rfl⟩
      clear HFR
      have HPF := HP1
      clear HP1
      obtain ⟨m, hm1, hm7, htot, hmem⟩ := HV.out.mem
      have hn7 : n ≤ 7 := by rw [← HX.out.len]; exact HV.out.2.1
      have HMM := Lib.hid hmem
      have HS := Lib.hid (htot ▸ sumOf_any A n c xs w1 (HX.out.keep HPF.out.keep) HV.out.so)
      have HP2 := Lib.hid (fun W => productFrom_any f m W f1 f6 hm7)
      have HUB := Lib.hid (uw_bd hm7 hmem f1 f6)
      have HDB := Lib.hid (mk_bd f1 f6 (k := m) hm7)
      have HKE : Hid (frV (kuU xs f) (kuD xs f) = .agg #[.int .i64 (frU (uw m xs f) (mkD f m)), .int .i64 (frD (uw m xs f) (mkD f m))]) := Lib.hid (by unfold kuU kuD; rw [htot, Int.toNat_natCast]; rfl)
      clear htot hmem
      go_wp2_with fail
      refine HS.out.mono ?_
      rintro e w3 ⟨rfl, hq⟩
      have HP3 := Lib.hid (HPF.out.up hq.below)
      clear hq HS HPF
      go_wp2_with fail
      refine (HP2.out _).mono ?_
      rintro e w4 ⟨rfl, rfl⟩
      clear HP2
      have HKC := Lib.hid (kindsOf_any A n c xs w3 (HX.out.keep HP3.out.keep) hn7)
      go_wp2_with fail
      refine HKC.out.mono ?_
      rintro e w5 ⟨B, rfl, _, _, ⟨D, hown, hmap⟩, hb⟩
      have HP5 := Lib.hid (HP3.out.up hb)
      have HW := Lib.hid (weightOf_any m hm7 xs HMM.out f f1 f6 B n D w5 hown hmap (by omega))
      clear hb HKC HP3 hown hmap
      go_wp2_with fail
      refine HW.out.mono ?_
      rintro e w6 ⟨rfl, hb⟩
      have HP6 := Lib.hid (HP5.out.up hb)
      clear hb HW HP5
      obtain ⟨u1, u2⟩ := HUB.out
      obtain ⟨d1, d2, _, _⟩ := HDB.out
      clear HUB HDB
      have HC := Lib.hid (fun W => fracOf_any (uw m xs f) (mkD f m) W (by unfold Mid; omega) (by unfold Mid; omega) d1)
      generalize uw m xs f = u at *
      generalize mkD f m = d at *
      have HFV : Hid (frV u d = .agg #[.int .i64 (frU u d), .int .i64 (frD u d)]) := Lib.hid rfl
      rw [HFV.out] at HC
      clear HFV
      generalize frU u d = U at *
      generalize frD u d = D' at *
      go_wp2_with fail
      refine (HC.out _).mono ?_
      rintro e w9 ⟨rfl, hb⟩
      have HPF := Lib.hid (HP6.out.up hb)
      clear hb HC HP6
      have c0 := blk_cell HPF.out.box (i := 0) rfl
      have c1 := blk_cell HPF.out.box (i := 1) rfl
      have f0 := blk_frozen HPF.out.box 0
      have f1 := blk_frozen HPF.out.box 1
      go_wp2
      clear c0 c1 f0 f1
      have B1 := blk_set (blk_set HPF.out.box 0 (.int .i64 U)) 1 (.int .i64 D')
      have r0 := blk_cell B1 (i := 0) (v := .int .i64 U) rfl
      have r1 := blk_cell B1 (i := 1) (v := .int .i64 D') rfl
      have HBX := Lib.hid ((HPF.out.below.setCell (p := ⟨w.heap.size, 0, none⟩) (Nat.le_refl _) (.int .i64 U)).setCell (p := ⟨w.heap.size, 1, none⟩) (Nat.le_refl _) (.int .i64 D'))
      clear B1 HPF
      generalize (w9.setCell ⟨w.heap.size, 0, none⟩ (.int .i64 U)).setCell ⟨w.heap.size, 1, none⟩ (.int .i64 D') = WE at *
      refine bodyPost_ret (v := .tuple #[.agg #[.int .i64 U, .int .i64 D'], .bool true]) (by simp [results, Try.results32, go_sem, r0, r1]) rfl ?_
      exact ⟨by have h := HKE.out; unfold frV at h; first | (rw [h]; done) | (rw [h]; rfl), HBX.out⟩
    · have HNO := Lib.hid ((fun h : ¬ KQ xs f => And.intro (ku_no h) (pb_false h)) (fun h => hf h.2))
      have HVC := Lib.hid (pb_true hv ▸ ValidParts_impl A n c xs _ (hx.keep HPF.out.keep))
      have HFR := Lib.hid (fun W => pb_false hf ▸ isFresh_any f W)
      clear hx hv hf
      go_enter Try.func32, Try.ntmps32
      go_wp2_with fail
      refine HVC.out.mono ?_
      rintro e w1 ⟨rfl, hb⟩
      have HP1 := Lib.hid (HPF.out.up hb)
      clear hb HVC HPF
      go_wp2_with fail
      refine (HFR.out _).mono ?_
      rintro e w2 ⟨rfl, rfl⟩
      clear HFR
      have HPF := HP1
      clear HP1
      have c0 := blk_cell HPF.out.box (i := 0) rfl
      have c1 := blk_cell HPF.out.box (i := 1) rfl
      have f0 := blk_frozen HPF.out.box 0
      have f1 := blk_frozen HPF.out.box 1
      go_wp2
      clear c0 c1 f0 f1
      have B1 := blk_set (blk_set HPF.out.box 0 (.int .i64 0)) 1 (.int .i64 0)
      have r0 := blk_cell B1 (i := 0) (v := .int .i64 0) rfl
      have r1 := blk_cell B1 (i := 1) (v := .int .i64 0) rfl
      have HBX := Lib.hid ((HPF.out.below.setCell (p := ⟨w.heap.size, 0, none⟩) (Nat.le_refl _) (.int .i64 0)).setCell (p := ⟨w.heap.size, 1, none⟩) (Nat.le_refl _) (.int .i64 0))
      clear B1 HPF
      generalize (w1.setCell ⟨w.heap.size, 0, none⟩ (.int .i64 0)).setCell ⟨w.heap.size, 1, none⟩ (.int .i64 0) = WE at *
      refine bodyPost_ret (v := .tuple #[.agg #[.int .i64 0, .int .i64 0], .bool false]) (by simp [results, Try.results32, go_sem, r0, r1]) rfl ?_
      exact ⟨by rw [HNO.out.1, HNO.out.2], HBX.out⟩
  · have HNO := Lib.hid ((fun h : ¬ KQ xs f => And.intro (ku_no h) (pb_false h)) (fun h => hv h.1))
    have HVC := Lib.hid (pb_false hv ▸ ValidParts_impl A n c xs _ (hx.keep HPF.out.keep))
    clear hx hv
    go_enter Try.func32, Try.ntmps32
    go_wp2_with fail
    refine HVC.out.mono ?_
    rintro e w1 ⟨rfl, hb⟩
    have HP1 := Lib.hid (HPF.out.up hb)
    clear hb HVC HPF
    have HPF := HP1
    clear HP1
    have c0 := blk_cell HPF.out.box (i := 0) rfl
    have c1 := blk_cell HPF.out.box (i := 1) rfl
    have f0 := blk_frozen HPF.out.box 0
    have f1 := blk_frozen HPF.out.box 1
    go_wp2
    clear c0 c1 f0 f1
    have B1 := blk_set (blk_set HPF.out.box 0 (.int .i64 0)) 1 (.int .i64 0)
    have r0 := blk_cell B1 (i := 0) (v := .int .i64 0) rfl
    have r1 := blk_cell B1 (i := 1) (v := .int .i64 0) rfl
    have HBX := Lib.hid ((HPF.out.below.setCell (p := ⟨w.heap.size, 0, none⟩) (Nat.le_refl _) (.int .i64 0)).setCell (p := ⟨w.heap.size, 1, none⟩) (Nat.le_refl _) (.int .i64 0))
    clear B1 HPF
    generalize (w1.setCell ⟨w.heap.size, 0, none⟩ (.int .i64 0)).setCell ⟨w.heap.size, 1, none⟩ (.int .i64 0) = WE at *
    refine bodyPost_ret (v := .tuple #[.agg #[.int .i64 0, .int .i64 0], .bool false]) (by simp [results, Try.results32, go_sem, r0, r1]) rfl ?_
    exact ⟨by rw [HNO.out.1, HNO.out.2], HBX.out⟩

end Go.Proofs.Ytpchnoalamdhkaa

/- The chance by the product is that by the urn: plain. -/
namespace Go.Proofs.Ytpchnoalamdhkaa

theorem ku_all : ((List.range 8).all fun m => decide (m = 0) || (pts 7 m m).all fun xs => f6.all fun f => decide (bfU (mkD 1 m) f xs.length * mkD f m = uw m xs f * bfD (mkD f m) xs xs.length) && decide (bfU (mkD 1 m) f xs.length ≤ bfD (mkD f m) xs xs.length) &&
    decide (frU (uw m xs f) (mkD f m) ≤ 20000000) && decide (1 ≤ frU (uw m xs f) (mkD f m)) && decide (frU (uw m xs f) (mkD f m) ≤ frD (uw m xs f) (mkD f m)) && decide (1 ≤ bfD (mkD f m) xs xs.length)) = true := by decide +kernel
structure KuF (xs : List Int) (f : Int) (m : Nat) : Prop where
  m1 : 1 ≤ m
  m7 : m ≤ 7
  tot : tot xs = (m : Int)
  mem : xs ∈ pts 7 m m
  eq : bfU (mkD 1 m) f xs.length * mkD f m = uw m xs f * bfD (mkD f m) xs xs.length
  le : frU (uw m xs f) (mkD f m) ≤ 20000000
  pos : 1 ≤ frU (uw m xs f) (mkD f m)
  one : frU (uw m xs f) (mkD f m) ≤ frD (uw m xs f) (mkD f m)
  dp : 1 ≤ bfD (mkD f m) xs xs.length
theorem ku_facts {xs : List Int} {f : Int} (h : KQ xs f) : ∃ m, KuF xs f m := by
  obtain ⟨m, hm1, h7, ht, hm⟩ := h.1.mem
  have t := ku_all
  simp only [List.all_eq_true, List.mem_range, Bool.and_eq_true, Bool.or_eq_true, decide_eq_true_eq] at t
  have h2 := h.2
  unfold InR at h2
  obtain ⟨⟨⟨⟨⟨a, _⟩, b⟩, c⟩, d⟩, e⟩ := ((t m (by omega)).resolve_left (by omega)) xs hm f (mem_f6 h2.1 h2.2)
  exact ⟨m, hm1, h7, ht, hm, a, b, c, d, e⟩
theorem kp_ku {xs : List Int} {f : Int} (h : KQ xs f) : frU (kuU xs f) (kuD xs f) = frU (kpU xs f) (kpD xs f) ∧ frD (kuU xs f) (kuD xs f) = frD (kpU xs f) (kpD xs f) := by
  obtain ⟨m, hF⟩ := ku_facts h
  have h2 := h.2
  unfold InR at h2
  have hd := mk_bd h2.1 h2.2 (k := m) hF.m7
  have hdp := hF.dp
  have he := hF.eq
  unfold kuU kuD kpU kpD
  rw [hF.tot, Int.toNat_natCast]
  exact fr_eq (by omega) (by omega) he.symm
theorem kp_less {xs : List Int} {f : Int} (h : KQ xs f) : 1 ≤ frU (kpU xs f) (kpD xs f) ∧ frU (kpU xs f) (kpD xs f) ≤ frD (kpU xs f) (kpD xs f) ∧ frD (kpU xs f) (kpD xs f) ≤ 20000000 := by
  rw [← (kp_ku h).1, ← (kp_ku h).2]
  obtain ⟨m, hF⟩ := ku_facts h
  have h2 := h.2
  unfold InR at h2
  have hd := mk_bd h2.1 h2.2 (k := m) hF.m7
  unfold kuU kuD
  rw [hF.tot, Int.toNat_natCast]
  exact ⟨hF.pos, hF.one, (frD_bd (by omega) hd.2.1).2⟩
end Go.Proofs.Ytpchnoalamdhkaa

/- Sums of chances over all sizes: plain; a list and a fraction's box beside it. -/
namespace Go.Proofs.Ytpchnoalamdhkaa
open Go.RowKit

def prI (r : List Int) : Nat → Int
  | 0 => 0
  | j + 1 => prI r j + gi r j * (gi r j - 1)
def tS (m : Nat) (f : Int) : Nat → Int
  | 0 => 0
  | k + 1 => tS m f k + uw m (gr (pts 7 m m) k) f * prI (gr (pts 7 m m) k) (gr (pts 7 m m) k).length
theorem pr_all : ((List.range 8).all fun m => decide (m = 0) || (pts 7 m m).all fun r => (List.range 8).all fun j => decide (r.length < j) || (decide (0 ≤ prI r j) && decide (prI r j ≤ 42))) = true := by decide +kernel
theorem tS_all : ((List.range 8).all fun m => decide (m < 2) || f6.all fun f => decide (tS m f (pts 7 m m).length * (1 + f) = mkD f m * ((m : Int) * ((m : Int) - 1))) && (List.range 16).all fun k => decide ((pts 7 m m).length < k) || (decide (0 ≤ tS m f k) && decide (tS m f k ≤ 800000000))) = true := by decide +kernel
theorem len_all : ((List.range 8).all fun m => decide ((pts 7 m m).length ≤ 15)) = true := by decide +kernel
structure TwF (m : Nat) (f : Int) : Prop where
  pr : ∀ k, k < (pts 7 m m).length → ∀ j, j ≤ (gr (pts 7 m m) k).length → 0 ≤ prI (gr (pts 7 m m) k) j ∧ prI (gr (pts 7 m m) k) j ≤ 42
  ts : ∀ k, k ≤ (pts 7 m m).length → 0 ≤ tS m f k ∧ tS m f k ≤ 800000000
  all : tS m f (pts 7 m m).length * (1 + f) = mkD f m * ((m : Int) * ((m : Int) - 1))
theorem tw_facts {m : Nat} {f : Int} (h2 : 2 ≤ m) (h7 : m ≤ 7) (f1 : 1 ≤ f) (f6' : f ≤ 6) : TwF m f := by
  have a := pr_all
  have b := tS_all
  have c := len_all
  simp only [List.all_eq_true, List.mem_range, Bool.and_eq_true, Bool.or_eq_true, decide_eq_true_eq] at a b c
  have b' := ((b m (by omega)).resolve_left (by omega)) f (mem_f6 f1 f6')
  have c' := c m (by omega)
  refine ⟨fun k hk j hj => ?_, fun k hk => (b'.2 k (by omega)).resolve_left (by omega), b'.1⟩
  have hm := gr_mem hk
  have hl := (pts_bd0 7 (by omega) m (by omega) m (by omega)).2 _ hm
  exact (((a m (by omega)).resolve_left (by omega)) _ hm j (by omega)).resolve_left (by omega)
theorem same_den {S a u D E : Int} (hD : 0 < D) (hE : 0 < E) :
    frU (frU S (D * E) * frD (a * u) (D * E) + frU (a * u) (D * E) * frD S (D * E)) (frD S (D * E) * frD (a * u) (D * E)) = frU (S + a * u) (D * E) ∧
    frD (frU S (D * E) * frD (a * u) (D * E) + frU (a * u) (D * E) * frD S (D * E)) (frD S (D * E) * frD (a * u) (D * E)) = frD (S + a * u) (D * E) := by
  have hp := Int.mul_pos hD hE
  have h := fr_add (u := S) (d := D * E) (v := a * u) (e := D * E) hp hp
  have e := fr_eq (u := S * (D * E) + a * u * (D * E)) (d := D * E * (D * E)) (v := S + a * u) (e := D * E) (Int.mul_pos hp hp) hp (by grind)
  exact ⟨h.1.trans e.1, h.2.trans e.2⟩
theorem fr_nil {D : Int} (h : 0 < D) : frU 0 D = 0 ∧ frD 0 D = 1 := by
  have e := fr_eq (u := 0) (d := D) (v := 0) (e := 1) h (by omega) (by omega)
  exact ⟨e.1.trans (fr_one 0).1, e.2.trans (fr_one 0).2⟩
/-- A list, and behind it a fraction's box. -/
structure TX (w : World) (lo hi r : Nat) (U D : Int) (gg : Nat) (A : Option Addr) (n c : Nat) (list : List (List Int)) (W : World) : Prop where
  li : OwnR lo hi W gg A n c list
  b : Blk W r 39 #[.int .i64 U, .int .i64 D]
  hr : hi ≤ r
  wr : w.heap.size ≤ r
  up : Below w.heap.size w W
theorem TX.next {w lo hi r U D gg A n c list W W'} (h : TX w lo hi r U D gg A n c list W) (k : Below W.heap.size W W') : TX w lo hi r U D gg A n c list W' :=
  ⟨h.li.below k, blk_below h.b k, h.hr, h.wr, below_up h.up k⟩
theorem TX.drew {w lo hi r U D gg A n c list W} (h : TX w lo hi r U D gg A n c list W) : TX w lo hi r U D gg A n c list W.drew := h.next (Quiet.below ⟨1, rfl⟩)
theorem TX.set {w lo hi r U D gg A n c list W} (h : TX w lo hi r U D gg A n c list W) (U' D' : Int) : TX w lo hi r U' D' gg A n c list ((W.setCell ⟨r, 0, none⟩ (.int .i64 U')).setCell ⟨r, 1, none⟩ (.int .i64 D')) := by
  have h1 := h.hr
  have h2 := h.wr
  exact ⟨h.li.of_blocks fun g _ hg _ => (Below.heap_setCell _ _ _ _ (by show g ≠ r; omega)).trans (Below.heap_setCell _ _ _ _ (by show g ≠ r; omega)), blk_set (blk_set h.b 0 (.int .i64 U')) 1 (.int .i64 D'), h1, h2,
    (h.up.setCell (p := ⟨r, 0, none⟩) h2 (.int .i64 U')).setCell (p := ⟨r, 1, none⟩) h2 (.int .i64 D')⟩

end Go.Proofs.Ytpchnoalamdhkaa

/- Numbers of things drawn from bytes. -/
namespace Go.Proofs.Ytpchnoalamdhkaa
open Go.RowKit

/-- A drawn number of things; and a weight. -/
def DrawnN (w : World) (e : Ending) (w' : World) : Prop := ∃ k : Int, e = .returned (.int .i64 k) ∧ (0 ≤ k ∧ k ≤ 8) ∧ Below w.heap.size w w'
def DrawnNN (w : World) (e : Ending) (w' : World) : Prop := ∃ k f : Int, e = .returned (.tuple #[.int .i64 k, .int .i64 f]) ∧ (0 ≤ k ∧ k ≤ 8) ∧ (0 ≤ f ∧ f ≤ 7) ∧ Below w.heap.size w w'
set_option maxRecDepth 100000 in
set_option maxHeartbeats 1000000 in
theorem DrawMeanKinds_any (A : Option Addr) (n c : Nat) (w : World) (h : Bytes w A n c) :
    Calls Try.prog 44 #[.slice A n c] w (DrawnNN w) := by
  have H0 := Lib.hid (newReader_any A n c w h)
  clear h
  go_enter Try.func44, Try.ntmps44
  go_wp2_with fail
  refine H0.out.mono ?_
  rintro e w1 ⟨A1, l, c1, rfl, hl, hr, hs⟩
  have H1 := Lib.hid (one_lit w w1 _ w.heap.size A1 l c1 0 w1.heap.size 9 [4, 5, 3, 6, 2, 1, 7, 0, 8] hr (by omega) (below_alloc w1 (.cells #[iv 4, iv 5, iv 3, iv 6, iv 2, iv 1, iv 7, iv 0, iv 8] 3)) (Nat.le_refl _) (Ints.lit w1 [4, 5, 3, 6, 2, 1, 7, 0, 8] (by decide) (by decide)) (by omega))
  clear hr hl hs H0
  go_wp2_with fail
  refine H1.out.mono ?_
  rintro e w2 ⟨k, rfl, hx, hr, hgr⟩
  have hk : 0 ≤ k ∧ k ≤ 8 := by simp at hx; omega
  have HR2 := Lib.hid hr
  clear hx hr hgr H1
  have H2 := Lib.hid (one_lit w w2 _ w.heap.size A1 l c1 (0 + 1) w2.heap.size 6 [1, 2, 3, 6, 0, 7] HR2.out (by omega) (below_alloc w2 (.cells #[iv 1, iv 2, iv 3, iv 6, iv 0, iv 7] 3)) (Nat.le_refl _) (Ints.lit w2 [1, 2, 3, 6, 0, 7] (by decide) (by decide)) (by omega))
  go_wp2_with fail
  refine H2.out.mono ?_
  rintro e w3 ⟨f, rfl, hx, hr, hgr⟩
  have hf : 0 ≤ f ∧ f ≤ 7 := by simp at hx; omega
  have HB := Lib.hid hr.below
  clear hx hr hgr H2 HR2
  go_wp2
  go_ret2
  exact ⟨k, f, rfl, hk, hf, HB.out⟩

end Go.Proofs.Ytpchnoalamdhkaa

/- Sums over all sizes: plain; two fractions' boxes behind a list. -/
namespace Go.Proofs.Ytpchnoalamdhkaa
open Go.RowKit

def uS (m : Nat) (f : Int) : Nat → Int
  | 0 => 0
  | k + 1 => uS m f k + uw m (gr (pts 7 m m) k) f
def kS (m : Nat) (f : Int) : Nat → Int
  | 0 => 0
  | k + 1 => kS m f k + uw m (gr (pts 7 m m) k) f * ((gr (pts 7 m m) k).length : Int)
theorem uS_all : ((List.range 8).all fun m => decide (m = 0) || f6.all fun f => decide (uS m f (pts 7 m m).length = mkD f m) && decide (kS m f (pts 7 m m).length = mkU f m) && (List.range 16).all fun k => decide ((pts 7 m m).length < k) ||
    (decide (0 ≤ uS m f k) && decide (uS m f k ≤ 300000000) && decide (0 ≤ kS m f k) && decide (kS m f k ≤ 300000000))) = true := by decide +kernel
structure UsF (m : Nat) (f : Int) : Prop where
  bd : ∀ k, k ≤ (pts 7 m m).length → 0 ≤ uS m f k ∧ uS m f k ≤ 300000000 ∧ 0 ≤ kS m f k ∧ kS m f k ≤ 300000000
  u : uS m f (pts 7 m m).length = mkD f m
  k : kS m f (pts 7 m m).length = mkU f m
theorem us_facts {m : Nat} {f : Int} (h1 : 1 ≤ m) (h7 : m ≤ 7) (f1 : 1 ≤ f) (f6' : f ≤ 6) : UsF m f := by
  have b := uS_all
  have c := len_all
  simp only [List.all_eq_true, List.mem_range, Bool.and_eq_true, Bool.or_eq_true, decide_eq_true_eq] at b c
  have b' := ((b m (by omega)).resolve_left (by omega)) f (mem_f6 f1 f6')
  have c' := c m (by omega)
  exact ⟨fun k hk => by
    have h := (b'.2 k (by omega)).resolve_left (by omega)
    exact ⟨h.1.1.1, h.1.1.2, h.1.2, h.2⟩, b'.1.1, b'.1.2⟩
theorem one_den {S t D : Int} (hD : 0 < D) :
    frU (frU S D * frD t D + frU t D * frD S D) (frD S D * frD t D) = frU (S + t) D ∧ frD (frU S D * frD t D + frU t D * frD S D) (frD S D * frD t D) = frD (S + t) D := by
  have h := fr_add (u := S) (d := D) (v := t) (e := D) hD hD
  have e := fr_eq (u := S * D + t * D) (d := D * D) (v := S + t) (e := D) (Int.mul_pos hD hD) hD (by grind)
  exact ⟨h.1.trans e.1, h.2.trans e.2⟩
theorem cell_far {W : World} {p r i j : Nat} (h : p ≠ r) {u : Value} : (W.setCell ⟨r, i, none⟩ u).cell? ⟨p, j, none⟩ = W.cell? ⟨p, j, none⟩ := World.cell?_of_block (Below.heap_setCell _ _ _ _ h)
/-- A list, a fraction's box ahead of its end, and two behind it. -/
structure TY (w : World) (lo hi p r q : Nat) (X U D V E : Int) (gg : Nat) (A : Option Addr) (n c : Nat) (list : List (List Int)) (W : World) : Prop where
  li : OwnR lo hi W gg A n c list
  bx : W.cell? ⟨p, 0, none⟩ = some (.int .i64 X)
  b : Blk W r 39 #[.int .i64 U, .int .i64 D]
  b2 : Blk W q 39 #[.int .i64 V, .int .i64 E]
  hp : p < hi
  hr : hi ≤ r
  hq : r < q
  wr : w.heap.size ≤ r
  up : Below w.heap.size w W
theorem TY.next {w lo hi p r q X U D V E gg A n c list W W'} (h : TY w lo hi p r q X U D V E gg A n c list W) (k : Below W.heap.size W W') : TY w lo hi p r q X U D V E gg A n c list W' :=
  ⟨h.li.below k, Keep.below k _ _ h.bx, blk_below h.b k, blk_below h.b2 k, h.hp, h.hr, h.hq, h.wr, below_up h.up k⟩
theorem TY.drew {w lo hi p r q X U D V E gg A n c list W} (h : TY w lo hi p r q X U D V E gg A n c list W) : TY w lo hi p r q X U D V E gg A n c list W.drew := h.next (Quiet.below ⟨1, rfl⟩)
theorem TY.setR {w lo hi p r q X U D V E gg A n c list W} (h : TY w lo hi p r q X U D V E gg A n c list W) (U' D' : Int) : TY w lo hi p r q X U' D' V E gg A n c list ((W.setCell ⟨r, 0, none⟩ (.int .i64 U')).setCell ⟨r, 1, none⟩ (.int .i64 D')) := by
  have h1 := h.hr
  have h2 := h.wr
  have h3 := h.hq
  have h4 := h.hp
  have n1 : p ≠ r := by omega
  have n2 : q ≠ r := by omega
  exact ⟨h.li.of_blocks fun g _ hg _ => (Below.heap_setCell _ _ _ _ (by show g ≠ r; omega)).trans (Below.heap_setCell _ _ _ _ (by show g ≠ r; omega)), (cell_far n1).trans ((cell_far n1).trans h.bx), blk_set (blk_set h.b 0 (.int .i64 U')) 1 (.int .i64 D'),
    blk_other (blk_other h.b2 (p := ⟨r, 0, none⟩) n2 _) (p := ⟨r, 1, none⟩) n2 _, h4, h1, h3, h2, (h.up.setCell (p := ⟨r, 0, none⟩) h2 (.int .i64 U')).setCell (p := ⟨r, 1, none⟩) h2 (.int .i64 D')⟩
theorem TY.setQ {w lo hi p r q X U D V E gg A n c list W} (h : TY w lo hi p r q X U D V E gg A n c list W) (U' D' : Int) : TY w lo hi p r q X U D U' D' gg A n c list ((W.setCell ⟨q, 0, none⟩ (.int .i64 U')).setCell ⟨q, 1, none⟩ (.int .i64 D')) := by
  have h1 := h.hr
  have h2 := h.wr
  have h3 := h.hq
  have h4 := h.hp
  have n1 : p ≠ q := by omega
  have n2 : r ≠ q := by omega
  have n3 : w.heap.size ≤ q := by omega
  exact ⟨h.li.of_blocks fun g _ hg _ => (Below.heap_setCell _ _ _ _ (by show g ≠ q; omega)).trans (Below.heap_setCell _ _ _ _ (by show g ≠ q; omega)), (cell_far n1).trans ((cell_far n1).trans h.bx),
    blk_other (blk_other h.b (p := ⟨q, 0, none⟩) n2 _) (p := ⟨q, 1, none⟩) n2 _, blk_set (blk_set h.b2 0 (.int .i64 U')) 1 (.int .i64 D'), h4, h1, h3, h2, (h.up.setCell (p := ⟨q, 0, none⟩) n3 (.int .i64 U')).setCell (p := ⟨q, 1, none⟩) n3 (.int .i64 D')⟩

end Go.Proofs.Ytpchnoalamdhkaa

/- KindsByUrn, by the model. -/
namespace Go.Proofs.Ytpchnoalamdhkaa
open Go.RowKit

set_option maxHeartbeats 400000 in
theorem count_any (A : Option Addr) (n c : Nat) (xs : List Int) (s : Int) (w : World) (hx : Ints w A n c xs) (h7 : n ≤ 1000) :
    Calls Try.prog 128 #[.slice A n c, .int .i64 s] w fun e w' => e = .returned (.int .i64 (cn xs s)) ∧ w = w' := by
  have HX := Lib.hid hx
  have HL := Lib.hid hx.len
  clear hx
  go_enter Try.func128, Try.ntmps128
  go_wp2
  go_loop [5, 6] (fun v i => ∃ k : Nat, k ≤ n ∧ i = .int .i64 k ∧ v = .int .i64 (cnI xs s k)) (fun _ i => n - (intOf i).toNat)
  case atStart => exact ⟨0, Nat.zero_le _, rfl, rfl⟩
  case round =>
    obtain ⟨k, hk, rfl, rfl⟩ := hrel
    by_cases hlt : k < n
    · obtain ⟨b, o, rfl, hc⟩ := HX.out.at_ (by omega)
      have c1 := hc k hlt
      obtain ⟨b1, b2⟩ := cnI_bd xs s k
      clear hc
      by_cases he : gi xs k = s
      · have HS : Hid (cnI xs s (k + 1) = cnI xs s k + 1) := Lib.hid (by rw [cnI, if_pos he])
        have hb : (gi xs k == s) = true := by simpa using he
        clear he
        generalize gi xs k = x at *
        generalize cnI xs s k = v at *
        go_wp2
        go_round
        case rel => exact ⟨k + 1, by omega, by go_num, by rw [HS.out]⟩
        case measure => simp [intOf]; omega
      · have HS : Hid (cnI xs s (k + 1) = cnI xs s k) := Lib.hid (by rw [cnI, if_neg he])
        have hb : (gi xs k == s) = false := by simpa using he
        clear he
        generalize gi xs k = x at *
        generalize cnI xs s k = v at *
        go_wp2
        go_round
        case rel => exact ⟨k + 1, by omega, by go_num, by rw [HS.out]⟩
        case measure => simp [intOf]; omega
    · obtain rfl : k = n := by omega
      have HE := Lib.hid (show cn xs s = cnI xs s k by unfold cn; rw [HL.out])
      go_wp2
      go_ret
      exact ⟨ret_int HE.out.symm, rfl⟩
theorem woI_len (xs : List Int) (a : Nat) : ∀ k, (woI xs a k).length ≤ k
  | 0 => by simp [woI]
  | k + 1 => by
    have := woI_len xs a k
    rw [woI]
    split
    · split
      · simp; omega
      · omega
    · split
      · simp; omega
      · omega
theorem woI_bd {xs : List Int} (h : ∀ x ∈ xs, -1000 ≤ x ∧ x ≤ 1000) (a : Nat) : ∀ k, k ≤ xs.length → ∀ x ∈ woI xs a k, -1001 ≤ x ∧ x ≤ 1001
  | 0, _, x, hx => by simp [woI] at hx
  | k + 1, hk, x, hx => by
    have hg := h _ (gi_mem (xs := xs) (k := k) (by omega))
    rw [woI] at hx
    split at hx
    · split at hx
      · rcases List.mem_append.1 hx with hx | hx
        · exact woI_bd h a k (by omega) x hx
        · simp at hx; omega
      · exact woI_bd h a k (by omega) x hx
    · split at hx
      · rcases List.mem_append.1 hx with hx | hx
        · exact woI_bd h a k (by omega) x hx
        · simp at hx; omega
      · exact woI_bd h a k (by omega) x hx
set_option maxRecDepth 100000 in
set_option maxHeartbeats 1000000 in
theorem withoutS_any (A : Option Addr) (n c : Nat) (xs : List Int) (a : Nat) (w : World) (hx : Ints w A n c xs) (h7 : n ≤ 20) (hb : ∀ x ∈ xs, -1000 ≤ x ∧ x ≤ 1000) :
    Calls Try.prog 127 #[.slice A n c, .int .i64 a] w (NewI w (wo xs a)) := by
  have HX := Lib.hid hx
  have HL := Lib.hid hx.len
  have HB := Lib.hid hb
  have HS0 : Hid (IU w (.slice (some ⟨w.heap.size, 0, none⟩) 0 0) (woI xs a 0) (w.alloc (.cells #[] 3))) := Lib.hid ⟨by rw [World.size_alloc]; exact BldI.make (Nat.le_refl _), below_alloc _ _⟩
  have ha7 : True := trivial
  clear hx hb ha7
  obtain ⟨i0, hi0, hz0, hz1, hz2⟩ := info_parts Try.info_int
  go_enter Try.func127, Try.ntmps127
  go_wp2
  go_loopw [5, 6, 7] (fun v i _ wr => ∃ k : Nat, k ≤ n ∧ i = .int .i64 k ∧ Hid (IU w v (woI xs a k) wr)) (fun _ i _ _ => n - (intOf i).toNat)
  case atStart => exact ⟨0, Nat.zero_le _, rfl, HS0⟩
  case round =>
    clear HS0
    obtain ⟨k, hk, rfl, HI⟩ := hrel
    obtain ⟨Av, cv, rfl⟩ := HI.out.bi.form
    by_cases hlt : k < n
    · obtain ⟨b, o, rfl, hc⟩ := (HX.out.keep (Keep.below HI.out.up)).at_ (by omega)
      have c1 := hc k hlt
      have HGB := HB.out _ (gi_mem (xs := xs) (k := k) (by rw [HL.out]; exact hlt))
      obtain ⟨g1, g2⟩ := HGB
      have HML := Lib.hid (woI_len xs a k)
      clear hc
      by_cases he : k = a
      · have hb1 : ((k : Int) == (a : Int)) = true := by rw [he]; exact beq_self_eq_true _
        have hb2 : (k == a) = true := by simpa using he
        by_cases hp : 0 < gi xs k - 1
        · have HS : Hid (woI xs a (k + 1) = woI xs a k ++ [gi xs k - 1]) := Lib.hid (by rw [woI]; simp only [if_pos he, if_pos hp])
          clear he
          generalize gi xs k = x at *
          have hb := below_alloc wr (.cells #[iv (x - 1)] 3)
          have HB4 := Lib.hid (HI.out.bi.below hb).own
          have HN := Lib.hid (cell_one_new wr (iv (x - 1)) 3)
          have hwz := HI.out.up.size
          clear hb
          generalize woI xs a k = ys at *
          go_wp2_with (at_builtin; refine wpList_append_own_at _ rfl _ _ 27 rfl w.heap.size 3 i0 (.int .i64 0) 1 8 Try.underlying27 hi0 hz0 hz1 hz2 rfl (by decide) _ ys.length (ys.map iv) rfl HB4.out ⟨wr.heap.size, 0, none⟩ 1 1 [iv (x - 1)] rfl rfl (by exact HN.out) ?d2 ?d3 ?d4 ?d5 ?_)
          case d2 => first | (intro u hu; simp at hu; subst hu; rfl) | rfl | simp [Value.oneCell']
          case d3 => have := HML.out; unfold maxLen; omega
          case d4 => have := HML.out; omega
          case d5 => first | omega | (simp; omega)
          intro v' w5 hown' hgrow _ hat
          have HI5 := Lib.hid (HI.out.push hown' hgrow (by simpa using hat))
          clear HB4 HN hown' hgrow hat HI
          go_wp2
          go_roundw
          case rel => exact ⟨k + 1, by omega, by go_num, Lib.hid (by rw [HS.out]; exact HI5.out)⟩
          case measure => simp [intOf]; omega
        · have HS : Hid (woI xs a (k + 1) = woI xs a k) := Lib.hid (by rw [woI]; simp only [if_pos he, if_neg hp])
          clear he
          generalize gi xs k = x at *
          go_wp2
          go_roundw
          case rel => exact ⟨k + 1, by omega, by go_num, Lib.hid (by rw [HS.out]; exact HI.out)⟩
          case measure => simp [intOf]; omega
      · have hb1 : ((k : Int) == (a : Int)) = false := beq_eq_false_iff_ne.2 (by omega)
        have hb2 : (k == a) = false := by simpa using he
        by_cases hp : 0 < gi xs k
        · have HS : Hid (woI xs a (k + 1) = woI xs a k ++ [gi xs k]) := Lib.hid (by rw [woI]; simp only [if_neg he, if_pos hp])
          clear he
          generalize gi xs k = x at *
          have hb := below_alloc wr (.cells #[iv (x)] 3)
          have HB4 := Lib.hid (HI.out.bi.below hb).own
          have HN := Lib.hid (cell_one_new wr (iv (x)) 3)
          have hwz := HI.out.up.size
          clear hb
          generalize woI xs a k = ys at *
          go_wp2_with (at_builtin; refine wpList_append_own_at _ rfl _ _ 27 rfl w.heap.size 3 i0 (.int .i64 0) 1 8 Try.underlying27 hi0 hz0 hz1 hz2 rfl (by decide) _ ys.length (ys.map iv) rfl HB4.out ⟨wr.heap.size, 0, none⟩ 1 1 [iv (x)] rfl rfl (by exact HN.out) ?e2 ?e3 ?e4 ?e5 ?_)
          case e2 => first | (intro u hu; simp at hu; subst hu; rfl) | rfl | simp [Value.oneCell']
          case e3 => have := HML.out; unfold maxLen; omega
          case e4 => have := HML.out; omega
          case e5 => first | omega | (simp; omega)
          intro v' w5 hown' hgrow _ hat
          have HI5 := Lib.hid (HI.out.push hown' hgrow (by simpa using hat))
          clear HB4 HN hown' hgrow hat HI
          go_wp2
          go_roundw
          case rel => exact ⟨k + 1, by omega, by go_num, Lib.hid (by rw [HS.out]; exact HI5.out)⟩
          case measure => simp [intOf]; omega
        · have HS : Hid (woI xs a (k + 1) = woI xs a k) := Lib.hid (by rw [woI]; simp only [if_neg he, if_neg hp])
          clear he
          generalize gi xs k = x at *
          go_wp2
          go_roundw
          case rel => exact ⟨k + 1, by omega, by go_num, Lib.hid (by rw [HS.out]; exact HI.out)⟩
          case measure => simp [intOf]; omega
    · obtain rfl : k = n := by omega
      have HW := Lib.hid (show wo xs a = woI xs a k by unfold wo; rw [HL.out])
      have HN := Lib.hid (HI.out.new (by have := woI_len xs a k; omega) (fun y hy => by have := woI_bd HB.out a k (by rw [HL.out]; exact Nat.le_refl _) y hy; omega))
      go_wp2
      go_ret
      exact HW.out ▸ HN.out

end Go.Proofs.Ytpchnoalamdhkaa

/- KindsByUrn, by the model. -/
namespace Go.Proofs.Ytpchnoalamdhkaa
open Go.RowKit

theorem ub_all : ((List.range 7).all fun m => (pts 7 (m + 1) (m + 1)).all fun xs => (List.range 8).all fun i => decide (xs.length ≤ i) || (decide (i + 1 < xs.length) && decide (gi xs (i + 1) = gi xs i)) || ((pts 7 m m).contains (wo xs i) &&
    f6.all fun f => decide (0 ≤ upW xs f i) && decide (upW xs f i ≤ 100) && decide (uw m (wo xs i) f * upW xs f i ≤ 20000000))) = true := by decide +kernel
theorem us_all : ((List.range 7).all fun m => (pts 7 (m + 1) (m + 1)).all fun xs => f6.all fun f => (List.range 8).all fun i => decide (xs.length < i) || (decide (0 ≤ uwS (fun r => uw m r f) xs f i) && decide (uwS (fun r => uw m r f) xs f i ≤ 200000000))) = true := by decide +kernel
theorem ub_facts {m : Nat} {xs : List Int} {f : Int} {i : Nat} (h7 : m < 7) (hm : xs ∈ pts 7 (m + 1) (m + 1)) (h1 : 1 ≤ f) (h6 : f ≤ 6) (hi : i < xs.length) (hl : xs.length ≤ 7) (hr : ¬ (i + 1 < xs.length ∧ gi xs (i + 1) = gi xs i)) :
    wo xs i ∈ pts 7 m m ∧ 0 ≤ upW xs f i ∧ upW xs f i ≤ 100 ∧ uw m (wo xs i) f * upW xs f i ≤ 20000000 := by
  have t := ub_all
  simp only [List.all_eq_true, List.mem_range, Bool.and_eq_true, Bool.or_eq_true, decide_eq_true_eq] at t
  rcases t m h7 xs hm i (by omega) with (h | h) | h
  · omega
  · exact absurd h hr
  · exact ⟨List.contains_iff_mem.1 h.1, (h.2 f (mem_f6 h1 h6)).1.1, (h.2 f (mem_f6 h1 h6)).1.2, (h.2 f (mem_f6 h1 h6)).2⟩
theorem us_bd {m : Nat} {xs : List Int} {f : Int} {i : Nat} (h7 : m < 7) (hm : xs ∈ pts 7 (m + 1) (m + 1)) (h1 : 1 ≤ f) (h6 : f ≤ 6) (hi : i ≤ xs.length) (hl : xs.length ≤ 7) : 0 ≤ uwS (fun r => uw m r f) xs f i ∧ uwS (fun r => uw m r f) xs f i ≤ 200000000 := by
  have t := us_all
  simp only [List.all_eq_true, List.mem_range, Bool.and_eq_true, Bool.or_eq_true, decide_eq_true_eq] at t
  exact (t m h7 xs hm f (mem_f6 h1 h6) i (by omega)).resolve_left (by omega)
theorem fr_none {D : Int} (h : 0 < D) : frU 0 D = 0 ∧ frD 0 D = 1 := by
  have e := fr_eq (u := 0) (d := D) (v := 0) (e := 1) h (by omega) (by omega)
  exact ⟨e.1.trans (fr_one 0).1, e.2.trans (fr_one 0).2⟩
/-- One way more, over the same denominator. -/
theorem fr_same {S a u D E : Int} (hD : 0 < D) (hE : 0 < E) :
    frU (frU S (D * E) * frD (a * u) (D * E) + frU (a * u) (D * E) * frD S (D * E)) (frD S (D * E) * frD (a * u) (D * E)) = frU (S + a * u) (D * E) ∧
    frD (frU S (D * E) * frD (a * u) (D * E) + frU (a * u) (D * E) * frD S (D * E)) (frD S (D * E) * frD (a * u) (D * E)) = frD (S + a * u) (D * E) := by
  have hp := Int.mul_pos hD hE
  have h := fr_add (u := S) (d := D * E) (v := a * u) (e := D * E) hp hp
  have e := fr_eq (u := S * (D * E) + a * u * (D * E)) (d := D * E * (D * E)) (v := S + a * u) (e := D * E) (Int.mul_pos hp hp) hp (by grind)
  exact ⟨h.1.trans e.1, h.2.trans e.2⟩
theorem pts_vpt {m : Nat} {xs : List Int} (h1 : 1 ≤ m) (h7 : m ≤ 7) (hm : xs ∈ pts 7 m m) : VPt xs ∧ tot xs = (m : Int) := by
  obtain ⟨k, hk, e⟩ := List.mem_iff_getElem.1 hm
  have hv := pts_facts h1 h7
  have h2 := hv.ok k hk
  have h3 := hv.sum k hk
  rw [gr_get hk, e] at h2 h3
  exact ⟨h2, h3⟩
set_option maxRecDepth 100000 in
set_option maxHeartbeats 3200000 in
theorem byUrn_any : ∀ m : Nat, m ≤ 7 → ∀ (xs : List Int), xs ∈ pts 7 m m → ∀ (f : Int), 1 ≤ f → f ≤ 6 → ∀ (A : Option Addr) (n c : Nat) (w : World), Ints w A n c xs →
    Calls Try.prog 94 #[.slice A n c, .int .i64 f] w (Ret (frV (uw m xs f) (mkD f m)) w) := by
  intro m
  induction m with
  | zero =>
    intro _ xs hxs f h1 h6 A n c w hx
    have hx0 : xs = [] := by rw [pts_zero] at hxs; exact List.mem_singleton.1 hxs
    subst hx0
    have HPF := Lib.hid (PF.start w)
    have HS := Lib.hid (sum_any A n c [] _ (hx.keep HPF.out.keep) ⟨by simp, fun j hj => by simp at hj⟩)
    have HZ : Hid (tot ([] : List Int) = 0) := Lib.hid rfl
    rw [HZ.out] at HS
    have HF1 : Hid (frV 1 1 = .agg #[.int .i64 1, .int .i64 1]) := Lib.hid (by rw [frV, (fr_one 1).1, (fr_one 1).2])
    have HC := Lib.hid (fun W => HF1.out ▸ frac_any 1 1 W (by unfold Mid; omega) (by unfold Mid; omega) (by omega))
    have HFW : Hid (frV (uw 0 [] f) (mkD f 0) = .agg #[.int .i64 1, .int .i64 1]) := Lib.hid HF1.out
    clear hxs hx
    go_enter Try.func94, Try.ntmps94
    go_wp2_with fail
    refine HS.out.mono ?_
    rintro e w1 ⟨rfl, hq⟩
    have HP1 := Lib.hid (HPF.out.up hq.below)
    clear hq HS HPF
    go_wp2_with fail
    refine (HC.out _).mono ?_
    rintro e w2 ⟨rfl, hb⟩
    have HPF := Lib.hid (HP1.out.up hb)
    clear hb HC HP1
    have c0 := blk_cell HPF.out.box (i := 0) rfl
    have c1 := blk_cell HPF.out.box (i := 1) rfl
    have f0 := blk_frozen HPF.out.box 0
    have f1 := blk_frozen HPF.out.box 1
    go_wp2
    clear c0 c1 f0 f1
    have B1 := blk_set (blk_set HPF.out.box 0 (.int .i64 1)) 1 (.int .i64 1)
    have r0 := blk_cell B1 (i := 0) (v := .int .i64 1) rfl
    have r1 := blk_cell B1 (i := 1) (v := .int .i64 1) rfl
    have HBX := Lib.hid ((HPF.out.below.setCell (p := ⟨w.heap.size, 0, none⟩) (Nat.le_refl _) (.int .i64 1)).setCell (p := ⟨w.heap.size, 1, none⟩) (Nat.le_refl _) (.int .i64 1))
    clear B1 HPF
    generalize (w2.setCell ⟨w.heap.size, 0, none⟩ (.int .i64 1)).setCell ⟨w.heap.size, 1, none⟩ (.int .i64 1) = WE at *
    refine bodyPost_ret (v := .agg #[.int .i64 1, .int .i64 1]) (by simp [results, Try.results94, go_sem, r0, r1]) rfl ?_
    exact ⟨by rw [HFW.out], HBX.out⟩
  | succ m ih =>
    intro hm7 xs hxs f h1 h6 A n c w hx
    obtain ⟨hv, htot⟩ := pts_vpt (by omega) hm7 hxs
    have IH := Lib.hid ih
    have HXS := Lib.hid hxs
    have HX := Lib.hid hx
    have HL := Lib.hid hx.len
    have hn7 : n ≤ 7 := by rw [← hx.len]; exact hv.2.1
    have HPF := Lib.hid (PF.start w)
    have HS := Lib.hid (htot ▸ sum_any A n c xs _ (hx.keep HPF.out.keep) hv.so)
    have HXB := Lib.hid (fun x (h : x ∈ xs) => show -1000 ≤ x ∧ x ≤ 1000 from by have := hv.mem_bd x h; omega)
    have HV := Lib.hid hv
    obtain ⟨d1, d2, _, _⟩ := mk_bd h1 h6 (k := m) (by omega)
    obtain ⟨e1, e2, _, _⟩ := mk_bd h1 h6 (k := m + 1) (by omega)
    have HDD : Hid (mkD f (m + 1) = mkD f m * (f + (m : Int))) := Lib.hid rfl
    have HZ : Hid (frV 0 1 = .agg #[.int .i64 0, .int .i64 1]) := Lib.hid (by rw [frV, (fr_one 0).1, (fr_one 0).2])
    have HC0 := Lib.hid (fun W => HZ.out ▸ frac_any 0 1 W (by unfold Mid; omega) (by unfold Mid; omega) (by omega))
    have hmz : (((m + 1 : Nat) : Int) == 0) = false := beq_eq_false_iff_ne.2 (by omega)
    have HMM : Hid (((m + 1 : Nat) : Int) = (m : Int) + 1) := Lib.hid (by omega)
    clear hxs hx hv htot ih
    go_enter Try.func94, Try.ntmps94
    go_wp2_with fail
    refine HS.out.mono ?_
    rintro e w1 ⟨rfl, hq⟩
    have HP1 := Lib.hid (HPF.out.up hq.below)
    clear hq HS HPF
    go_wp2_with fail
    refine (HC0.out _).mono ?_
    rintro e w3 ⟨rfl, hb⟩
    have HP3 := Lib.hid (HP1.out.up hb)
    clear hb HC0 HP1 HZ
    have HW4 := Lib.hid (show PX w w3.heap.size (frU (uwS (fun r => uw m r f) xs f 0) (mkD f (m + 1))) (frD (uwS (fun r => uw m r f) xs f 0) (mkD f (m + 1))) (w3.alloc (.cells #[.int .i64 0, .int .i64 1] 39)) from ⟨HP3.out.up (below_alloc _ _), by
      have e := fr_none (D := mkD f (m + 1)) (by omega)
      show Blk _ _ _ #[.int .i64 (frU 0 (mkD f (m + 1))), .int .i64 (frD 0 (mkD f (m + 1)))]
      rw [e.1, e.2]
      exact blk_new _ _ _, blk_lt HP3.out.box⟩)
    clear HP3
    go_wp2
    generalize w3.alloc (.cells #[.int .i64 0, .int .i64 1] 39) = W0 at *
    generalize w3.heap.size = r at *
    go_loopw [7, 8, 9] (fun i _ _ wr => ∃ k : Nat, k ≤ n ∧ i = .int .i64 k ∧ Hid (PX w r (frU (uwS (fun r => uw m r f) xs f k) (mkD f (m + 1))) (frD (uwS (fun r => uw m r f) xs f k) (mkD f (m + 1))) wr)) (fun i _ _ _ => n - (intOf i).toNat)
    case atStart => exact ⟨0, Nat.zero_le _, rfl, HW4⟩
    case round =>
      clear HW4
      obtain ⟨k, hk, rfl, HP⟩ := hrel
      by_cases hlt : k < n
      · obtain ⟨b, o, rfl, hc⟩ := (HX.out.keep HP.out.p.keep).at_ (by omega)
        have c1 := hc k hlt
        have hkx : k < xs.length := by rw [HL.out]; exact hlt
        by_cases hrun : k + 1 < xs.length ∧ gi xs (k + 1) = gi xs k
        · have hk1 : k + 1 < n := by rw [← HL.out]; exact hrun.1
          have c2 := hc (k + 1) hk1
          have HSS : Hid (uwS (fun r => uw m r f) xs f (k + 1) = uwS (fun r => uw m r f) xs f k) := Lib.hid (by rw [uwS, if_pos hrun])
          have hk1i : (k : Int) + 1 < (n : Int) := by omega
          have g1 : decide ((k : Int) + 1 < (n : Int)) = true := decide_eq_true hk1i
          have hcs : ((k + 1 : Nat) : Int) = (k : Int) + 1 := by omega
          rw [hrun.2] at c2
          clear hc hrun
          generalize gi xs k = x at *
          have g4 : (x == x) = true := by simp
          go_wp2
          go_quiet (fail)
          go_wp2
          go_roundw
          case rel => exact ⟨k + 1, by omega, by go_num, Lib.hid (by rw [HSS.out]; exact HP.out.next (Quiet.below ⟨_, rfl⟩))⟩
          case measure => simp [intOf]; omega
        · have HSS : Hid (uwS (fun r => uw m r f) xs f (k + 1) = uwS (fun r => uw m r f) xs f k + uw m (wo xs k) f * upW xs f k) := Lib.hid (by rw [uwS, if_neg hrun])
          obtain ⟨hmem, up0, up1, up2⟩ := ub_facts (by omega) HXS.out h1 h6 hkx (by rw [HL.out]; exact hn7) hrun
          have HSB := Lib.hid (us_bd (f := f) (i := k) (by omega) HXS.out h1 h6 (by omega) (by rw [HL.out]; exact hn7))
          have HUB := Lib.hid (uw_bd (by omega) hmem h1 h6)
          have HME := Lib.hid hmem
          have HXX := HV.out.1 k hkx
          obtain ⟨x1, x7, _⟩ := HXX
          have HUP : Hid (upW xs f k = if 1 < gi xs k then (gi xs k - 1) * cn (wo xs k) (gi xs k - 1) else f) := Lib.hid rfl
          have HWO := Lib.hid (fun W h => withoutS_any (some ⟨b, o, none⟩) n c xs k W h (by omega) HXB.out)
          clear hmem
          by_cases hk1 : k + 1 < n
          · have c2 := hc (k + 1) hk1
            have hne : gi xs (k + 1) ≠ gi xs k := fun h => hrun ⟨by rw [HL.out]; exact hk1, h⟩
            have hk1i : (k : Int) + 1 < (n : Int) := by omega
            have g1 : decide ((k : Int) + 1 < (n : Int)) = true := decide_eq_true hk1i
            have hcs : ((k + 1 : Nat) : Int) = (k : Int) + 1 := by omega
            clear hc hrun
            generalize gi xs k = x at *
            generalize gi xs (k + 1) = y at *
            have g4 : (y == x) = false := beq_eq_false_iff_ne.2 hne
            go_wp2
            go_quiet (fail)
            go_wp2_with fail
            refine (HWO.out _ ((HX.out.keep HP.out.p.keep).keep (Keep.quiet ⟨_, rfl⟩))).mono ?_
            rintro e w8 ⟨A8, n8, c8, g8, rfl, hn8, ho, hb⟩
            subst hn8
            have HP8 := Lib.hid ((HP.out.next (Quiet.below ⟨_, rfl⟩)).next hb)
            have HB8 := Lib.hid ho.ints
            have c8c := Keep.below hb _ _ c1
            have SX := Lib.hid c8c
            have hwl : (wo xs k).length ≤ 20 := by have h := woI_len xs k xs.length; have := HL.out; unfold wo; omega
            clear hb ho HWO HP c1
            by_cases hx1 : 1 < x
            · have HUPV := Lib.hid (HUP.out.trans (if_pos hx1))
              rw [HUPV.out] at up0 up1 up2
              obtain ⟨q0, q1⟩ := cnI_bd (wo xs k) (x - 1) (wo xs k).length
              have HCN := Lib.hid (fun W h => count_any A8 (wo xs k).length c8 (wo xs k) (x - 1) W h (by omega))
              have hg : decide (1 < x) = true := decide_eq_true hx1
              have hws : IntKind.i64.wrap (x - 1) = x - 1 := wrapIn (by omega)
              clear q0 q1
              generalize cn (wo xs k) (x - 1) = cv at *
              have hws2 : IntKind.i64.wrap ((x - 1) * cv) = (x - 1) * cv := wrapIn (by omega)
              have HK1 : Hid (Keep w8 w8.drew) := Lib.hid (Keep.drewN w8 1)
              go_wp2
              go_region_held3 (fun W => W.cell? ⟨b, o + k, none⟩ = some (.int .i64 x)) (first | exact SX.out | go_keep)
                (first
                | (go_at_call 128; (with_reducible refine (HCN.out _ (HB8.out.keep HK1.out)).mono ?_); rintro e v1 ⟨rfl, rfl⟩)
                | fail)
              all_goals
                have DX := Lib.hid (HP8.out.drew)
                have HKW := Lib.hid HK1.out
                clear SX HK1 HP8 HCN c8c hws hws2 hg
                generalize hup : (x - 1) * cv = up at *
                clear hup
                have HFR := Lib.hid (fun W => frac_any up (f + (m : Int)) W (by unfold Mid; omega) (by unfold Mid; omega) (by omega))
                have HBY := Lib.hid (fun W h => IH.out (by omega) (wo xs k) HME.out f h1 h6 A8 (wo xs k).length c8 W h)
                have HVV : Hid (∀ u d : Int, frV u d = .agg #[.int .i64 (frU u d), .int .i64 (frD u d)]) := Lib.hid (fun _ _ => rfl)
                obtain ⟨s0, s1⟩ := HSB.out
                obtain ⟨w0, w1⟩ := HUB.out
                have t3 : 0 ≤ (uw m (wo xs k) f * up) := Int.mul_nonneg (by omega) (by omega)
                have HTI := Lib.hid (fun W => timesH_any (frU (uw m (wo xs k) f) (mkD f m)) (frD (uw m (wo xs k) f) (mkD f m)) (frU up (f + (m : Int))) (frD up (f + (m : Int))) W (frU_bd (by omega) (by omega)) (frU_bd (by omega) (by omega)) (frD_bd (by omega) (by omega)) (frD_bd (by omega) (by omega)))
                have HTE := Lib.hid (fr_tim (u := uw m (wo xs k) f) (d := mkD f m) (v := up) (e := f + (m : Int)) (by omega) (by omega))
                have HPL := Lib.hid (fun W => plusH_any (frU (uwS (fun r => uw m r f) xs f k) (mkD f (m + 1))) (frD (uwS (fun r => uw m r f) xs f k) (mkD f (m + 1))) (frU (uw m (wo xs k) f * up) (mkD f m * (f + (m : Int)))) (frD (uw m (wo xs k) f * up) (mkD f m * (f + (m : Int)))) W (frU_bd (by omega) (by omega)) (frU_bd (by rw [← HDD.out]; omega) (by omega)) (frD_bd (by omega) (by omega)) (frD_bd (by rw [← HDD.out]; omega) (by rw [← HDD.out]; omega)))
                have HPE := Lib.hid (fr_same (S := (uwS (fun r => uw m r f) xs f k)) (a := uw m (wo xs k) f) (u := up) (D := mkD f m) (E := f + (m : Int)) (by omega) (by omega))
                have HNE : Hid (frU (uwS (fun r => uw m r f) xs f (k + 1)) (mkD f (m + 1)) = frU ((uwS (fun r => uw m r f) xs f k) + (uw m (wo xs k) f * up)) (mkD f m * (f + (m : Int))) ∧ frD (uwS (fun r => uw m r f) xs f (k + 1)) (mkD f (m + 1)) = frD ((uwS (fun r => uw m r f) xs f k) + (uw m (wo xs k) f * up)) (mkD f m * (f + (m : Int)))) := Lib.hid (by rw [HSS.out, HUPV.out, HDD.out]; exact ⟨rfl, rfl⟩)
                rw [HVV.out, HTE.out.1, HTE.out.2] at HTI
                rw [HDD.out] at HPL DX
                rw [HVV.out, HPE.out.1, HPE.out.2] at HPL
                rw [HVV.out] at HBY
                rw [HVV.out] at HFR
                clear HTE HPE HVV HSB HUB t3
                generalize frU ((uwS (fun r => uw m r f) xs f k) + (uw m (wo xs k) f * up)) (mkD f m * (f + (m : Int))) = NU at *
                generalize frD ((uwS (fun r => uw m r f) xs f k) + (uw m (wo xs k) f * up)) (mkD f m * (f + (m : Int))) = ND at *
                generalize frU (uw m (wo xs k) f * up) (mkD f m * (f + (m : Int))) = TU at *
                generalize frD (uw m (wo xs k) f * up) (mkD f m * (f + (m : Int))) = TD at *
                generalize frU (uwS (fun r => uw m r f) xs f k) (mkD f m * (f + (m : Int))) = OU at *
                generalize frD (uwS (fun r => uw m r f) xs f k) (mkD f m * (f + (m : Int))) = OD at *
                generalize frU (uw m (wo xs k) f) (mkD f m) = AU at *
                generalize frD (uw m (wo xs k) f) (mkD f m) = AD at *
                generalize frU up (f + (m : Int)) = GU at *
                generalize frD up (f + (m : Int)) = GD at *
                have hw2 : IntKind.i64.wrap (IntKind.i64.wrap (f + ((m : Int) + 1)) - 1) = f + (m : Int) := by rw [wrapIn (x := f + ((m : Int) + 1)) (by omega), wrapIn (by omega)]; omega
                rw [← hw2] at HFR
                clear hw2
                have KX := Lib.hid HKW.out
                have y0 := blk_cell DX.out.b (i := 0) rfl
                have y1 := blk_cell DX.out.b (i := 1) rfl
                go_wp2
                apply region_once (F := fun v => Hid (PX w r NU ND v))
                · go_region_law ((first
                    | (go_simp; go_at_call 80; (with_reducible refine (HFR.out _).mono ?_); rintro e v1 ⟨rfl, hb⟩; have KX := Lib.hid (show Keep w8 v1 from KX.out.trans (by first | exact Keep.below hb | exact (Keep.drewN _ 1).trans (Keep.below hb))); have DX := Lib.hid (show PX w r OU OD v1 from by first | exact DX.out.next hb | exact DX.out.drew.next hb); have y0 := blk_cell DX.out.b (i := 0) rfl; have y1 := blk_cell DX.out.b (i := 1) rfl; clear hb)
                    | (go_simp; go_at_call 94; (with_reducible refine (HBY.out _ (HB8.out.keep (by first | exact KX.out | exact KX.out.trans (Keep.drewN _ 1)))).mono ?_); rintro e v2 ⟨rfl, hb⟩; have KX := Lib.hid (show Keep w8 v2 from KX.out.trans (by first | exact Keep.below hb | exact (Keep.drewN _ 1).trans (Keep.below hb))); have DX := Lib.hid (show PX w r OU OD v2 from by first | exact DX.out.next hb | exact DX.out.drew.next hb); have y0 := blk_cell DX.out.b (i := 0) rfl; have y1 := blk_cell DX.out.b (i := 1) rfl; clear hb)
                    | (go_simp; go_at_call 83; (with_reducible refine (HTI.out _).mono ?_); rintro e v3 ⟨rfl, hb⟩; have DX := Lib.hid (show PX w r OU OD v3 from DX.out.next hb); have y0 := blk_cell DX.out.b (i := 0) rfl; have y1 := blk_cell DX.out.b (i := 1) rfl; clear hb)
                    | (go_simp; go_at_call 104; (with_reducible refine (HPL.out _).mono ?_); rintro e v4 ⟨rfl, hb⟩; have DX := Lib.hid (show PX w r OU OD v4 from DX.out.next hb); have y0 := blk_cell DX.out.b (i := 0) rfl; have y1 := blk_cell DX.out.b (i := 1) rfl; have f0 := blk_frozen DX.out.b 0; have f1 := blk_frozen DX.out.b 1; clear hb)
                    | fail))
                  all_goals exact OnceQ.mk rfl (Lib.hid (DX.out.set NU ND))
                · rintro w7 HX7
                  clear y0 y1 HFR HBY HTI HPL DX KX
                  go_wp2
                  go_roundw
                  case rel => exact ⟨k + 1, by omega, by go_num, Lib.hid (by rw [HNE.out.1, HNE.out.2]; exact HX7.out)⟩
                  case measure => simp [intOf]; omega
            · have HUPV := Lib.hid (HUP.out.trans (if_neg hx1))
              rw [HUPV.out] at up0 up1 up2
              have hg : decide (1 < x) = false := decide_eq_false hx1
              have DX := Lib.hid HP8.out
              have HKW := Lib.hid (Keep.refl w8)
              clear SX HP8
              have HFR := Lib.hid (fun W => frac_any f (f + (m : Int)) W (by unfold Mid; omega) (by unfold Mid; omega) (by omega))
              have HBY := Lib.hid (fun W h => IH.out (by omega) (wo xs k) HME.out f h1 h6 A8 (wo xs k).length c8 W h)
              have HVV : Hid (∀ u d : Int, frV u d = .agg #[.int .i64 (frU u d), .int .i64 (frD u d)]) := Lib.hid (fun _ _ => rfl)
              obtain ⟨s0, s1⟩ := HSB.out
              obtain ⟨w0, w1⟩ := HUB.out
              have t3 : 0 ≤ (uw m (wo xs k) f * f) := Int.mul_nonneg (by omega) (by omega)
              have HTI := Lib.hid (fun W => timesH_any (frU (uw m (wo xs k) f) (mkD f m)) (frD (uw m (wo xs k) f) (mkD f m)) (frU f (f + (m : Int))) (frD f (f + (m : Int))) W (frU_bd (by omega) (by omega)) (frU_bd (by omega) (by omega)) (frD_bd (by omega) (by omega)) (frD_bd (by omega) (by omega)))
              have HTE := Lib.hid (fr_tim (u := uw m (wo xs k) f) (d := mkD f m) (v := f) (e := f + (m : Int)) (by omega) (by omega))
              have HPL := Lib.hid (fun W => plusH_any (frU (uwS (fun r => uw m r f) xs f k) (mkD f (m + 1))) (frD (uwS (fun r => uw m r f) xs f k) (mkD f (m + 1))) (frU (uw m (wo xs k) f * f) (mkD f m * (f + (m : Int)))) (frD (uw m (wo xs k) f * f) (mkD f m * (f + (m : Int)))) W (frU_bd (by omega) (by omega)) (frU_bd (by rw [← HDD.out]; omega) (by omega)) (frD_bd (by omega) (by omega)) (frD_bd (by rw [← HDD.out]; omega) (by rw [← HDD.out]; omega)))
              have HPE := Lib.hid (fr_same (S := (uwS (fun r => uw m r f) xs f k)) (a := uw m (wo xs k) f) (u := f) (D := mkD f m) (E := f + (m : Int)) (by omega) (by omega))
              have HNE : Hid (frU (uwS (fun r => uw m r f) xs f (k + 1)) (mkD f (m + 1)) = frU ((uwS (fun r => uw m r f) xs f k) + (uw m (wo xs k) f * f)) (mkD f m * (f + (m : Int))) ∧ frD (uwS (fun r => uw m r f) xs f (k + 1)) (mkD f (m + 1)) = frD ((uwS (fun r => uw m r f) xs f k) + (uw m (wo xs k) f * f)) (mkD f m * (f + (m : Int)))) := Lib.hid (by rw [HSS.out, HUPV.out, HDD.out]; exact ⟨rfl, rfl⟩)
              rw [HVV.out, HTE.out.1, HTE.out.2] at HTI
              rw [HDD.out] at HPL DX
              rw [HVV.out, HPE.out.1, HPE.out.2] at HPL
              rw [HVV.out] at HBY
              rw [HVV.out] at HFR
              clear HTE HPE HVV HSB HUB t3
              generalize frU ((uwS (fun r => uw m r f) xs f k) + (uw m (wo xs k) f * f)) (mkD f m * (f + (m : Int))) = NU at *
              generalize frD ((uwS (fun r => uw m r f) xs f k) + (uw m (wo xs k) f * f)) (mkD f m * (f + (m : Int))) = ND at *
              generalize frU (uw m (wo xs k) f * f) (mkD f m * (f + (m : Int))) = TU at *
              generalize frD (uw m (wo xs k) f * f) (mkD f m * (f + (m : Int))) = TD at *
              generalize frU (uwS (fun r => uw m r f) xs f k) (mkD f m * (f + (m : Int))) = OU at *
              generalize frD (uwS (fun r => uw m r f) xs f k) (mkD f m * (f + (m : Int))) = OD at *
              generalize frU (uw m (wo xs k) f) (mkD f m) = AU at *
              generalize frD (uw m (wo xs k) f) (mkD f m) = AD at *
              generalize frU f (f + (m : Int)) = GU at *
              generalize frD f (f + (m : Int)) = GD at *
              have hw2 : IntKind.i64.wrap (IntKind.i64.wrap (f + ((m : Int) + 1)) - 1) = f + (m : Int) := by rw [wrapIn (x := f + ((m : Int) + 1)) (by omega), wrapIn (by omega)]; omega
              rw [← hw2] at HFR
              clear hw2
              have KX := Lib.hid HKW.out
              have y0 := blk_cell DX.out.b (i := 0) rfl
              have y1 := blk_cell DX.out.b (i := 1) rfl
              go_wp2
              apply region_once (F := fun v => Hid (PX w r NU ND v))
              · go_region_law ((first
                  | (go_simp; go_at_call 80; (with_reducible refine (HFR.out _).mono ?_); rintro e v1 ⟨rfl, hb⟩; have KX := Lib.hid (show Keep w8 v1 from KX.out.trans (by first | exact Keep.below hb | exact (Keep.drewN _ 1).trans (Keep.below hb))); have DX := Lib.hid (show PX w r OU OD v1 from by first | exact DX.out.next hb | exact DX.out.drew.next hb); have y0 := blk_cell DX.out.b (i := 0) rfl; have y1 := blk_cell DX.out.b (i := 1) rfl; clear hb)
                  | (go_simp; go_at_call 94; (with_reducible refine (HBY.out _ (HB8.out.keep (by first | exact KX.out | exact KX.out.trans (Keep.drewN _ 1)))).mono ?_); rintro e v2 ⟨rfl, hb⟩; have KX := Lib.hid (show Keep w8 v2 from KX.out.trans (by first | exact Keep.below hb | exact (Keep.drewN _ 1).trans (Keep.below hb))); have DX := Lib.hid (show PX w r OU OD v2 from by first | exact DX.out.next hb | exact DX.out.drew.next hb); have y0 := blk_cell DX.out.b (i := 0) rfl; have y1 := blk_cell DX.out.b (i := 1) rfl; clear hb)
                  | (go_simp; go_at_call 83; (with_reducible refine (HTI.out _).mono ?_); rintro e v3 ⟨rfl, hb⟩; have DX := Lib.hid (show PX w r OU OD v3 from DX.out.next hb); have y0 := blk_cell DX.out.b (i := 0) rfl; have y1 := blk_cell DX.out.b (i := 1) rfl; clear hb)
                  | (go_simp; go_at_call 104; (with_reducible refine (HPL.out _).mono ?_); rintro e v4 ⟨rfl, hb⟩; have DX := Lib.hid (show PX w r OU OD v4 from DX.out.next hb); have y0 := blk_cell DX.out.b (i := 0) rfl; have y1 := blk_cell DX.out.b (i := 1) rfl; have f0 := blk_frozen DX.out.b 0; have f1 := blk_frozen DX.out.b 1; clear hb)
                  | fail))
                all_goals exact OnceQ.mk rfl (Lib.hid (DX.out.set NU ND))
              · rintro w7 HX7
                clear y0 y1 HFR HBY HTI HPL DX KX
                go_wp2
                go_roundw
                case rel => exact ⟨k + 1, by omega, by go_num, Lib.hid (by rw [HNE.out.1, HNE.out.2]; exact HX7.out)⟩
                case measure => simp [intOf]; omega
          · have hk1i : ¬ (k : Int) + 1 < (n : Int) := by omega
            have g1 : decide ((k : Int) + 1 < (n : Int)) = false := decide_eq_false hk1i
            clear hc hrun
            generalize gi xs k = x at *
            go_wp2
            go_quiet (fail)
            go_wp2_with fail
            refine (HWO.out _ ((HX.out.keep HP.out.p.keep).keep (Keep.quiet ⟨_, rfl⟩))).mono ?_
            rintro e w8 ⟨A8, n8, c8, g8, rfl, hn8, ho, hb⟩
            subst hn8
            have HP8 := Lib.hid ((HP.out.next (Quiet.below ⟨_, rfl⟩)).next hb)
            have HB8 := Lib.hid ho.ints
            have c8c := Keep.below hb _ _ c1
            have SX := Lib.hid c8c
            have hwl : (wo xs k).length ≤ 20 := by have h := woI_len xs k xs.length; have := HL.out; unfold wo; omega
            clear hb ho HWO HP c1
            by_cases hx1 : 1 < x
            · have HUPV := Lib.hid (HUP.out.trans (if_pos hx1))
              rw [HUPV.out] at up0 up1 up2
              obtain ⟨q0, q1⟩ := cnI_bd (wo xs k) (x - 1) (wo xs k).length
              have HCN := Lib.hid (fun W h => count_any A8 (wo xs k).length c8 (wo xs k) (x - 1) W h (by omega))
              have hg : decide (1 < x) = true := decide_eq_true hx1
              have hws : IntKind.i64.wrap (x - 1) = x - 1 := wrapIn (by omega)
              clear q0 q1
              generalize cn (wo xs k) (x - 1) = cv at *
              have hws2 : IntKind.i64.wrap ((x - 1) * cv) = (x - 1) * cv := wrapIn (by omega)
              have HK1 : Hid (Keep w8 w8.drew) := Lib.hid (Keep.drewN w8 1)
              go_wp2
              go_region_held3 (fun W => W.cell? ⟨b, o + k, none⟩ = some (.int .i64 x)) (first | exact SX.out | go_keep)
                (first
                | (go_at_call 128; (with_reducible refine (HCN.out _ (HB8.out.keep HK1.out)).mono ?_); rintro e v1 ⟨rfl, rfl⟩)
                | fail)
              all_goals
                have DX := Lib.hid (HP8.out.drew)
                have HKW := Lib.hid HK1.out
                clear SX HK1 HP8 HCN c8c hws hws2 hg
                generalize hup : (x - 1) * cv = up at *
                clear hup
                have HFR := Lib.hid (fun W => frac_any up (f + (m : Int)) W (by unfold Mid; omega) (by unfold Mid; omega) (by omega))
                have HBY := Lib.hid (fun W h => IH.out (by omega) (wo xs k) HME.out f h1 h6 A8 (wo xs k).length c8 W h)
                have HVV : Hid (∀ u d : Int, frV u d = .agg #[.int .i64 (frU u d), .int .i64 (frD u d)]) := Lib.hid (fun _ _ => rfl)
                obtain ⟨s0, s1⟩ := HSB.out
                obtain ⟨w0, w1⟩ := HUB.out
                have t3 : 0 ≤ (uw m (wo xs k) f * up) := Int.mul_nonneg (by omega) (by omega)
                have HTI := Lib.hid (fun W => timesH_any (frU (uw m (wo xs k) f) (mkD f m)) (frD (uw m (wo xs k) f) (mkD f m)) (frU up (f + (m : Int))) (frD up (f + (m : Int))) W (frU_bd (by omega) (by omega)) (frU_bd (by omega) (by omega)) (frD_bd (by omega) (by omega)) (frD_bd (by omega) (by omega)))
                have HTE := Lib.hid (fr_tim (u := uw m (wo xs k) f) (d := mkD f m) (v := up) (e := f + (m : Int)) (by omega) (by omega))
                have HPL := Lib.hid (fun W => plusH_any (frU (uwS (fun r => uw m r f) xs f k) (mkD f (m + 1))) (frD (uwS (fun r => uw m r f) xs f k) (mkD f (m + 1))) (frU (uw m (wo xs k) f * up) (mkD f m * (f + (m : Int)))) (frD (uw m (wo xs k) f * up) (mkD f m * (f + (m : Int)))) W (frU_bd (by omega) (by omega)) (frU_bd (by rw [← HDD.out]; omega) (by omega)) (frD_bd (by omega) (by omega)) (frD_bd (by rw [← HDD.out]; omega) (by rw [← HDD.out]; omega)))
                have HPE := Lib.hid (fr_same (S := (uwS (fun r => uw m r f) xs f k)) (a := uw m (wo xs k) f) (u := up) (D := mkD f m) (E := f + (m : Int)) (by omega) (by omega))
                have HNE : Hid (frU (uwS (fun r => uw m r f) xs f (k + 1)) (mkD f (m + 1)) = frU ((uwS (fun r => uw m r f) xs f k) + (uw m (wo xs k) f * up)) (mkD f m * (f + (m : Int))) ∧ frD (uwS (fun r => uw m r f) xs f (k + 1)) (mkD f (m + 1)) = frD ((uwS (fun r => uw m r f) xs f k) + (uw m (wo xs k) f * up)) (mkD f m * (f + (m : Int)))) := Lib.hid (by rw [HSS.out, HUPV.out, HDD.out]; exact ⟨rfl, rfl⟩)
                rw [HVV.out, HTE.out.1, HTE.out.2] at HTI
                rw [HDD.out] at HPL DX
                rw [HVV.out, HPE.out.1, HPE.out.2] at HPL
                rw [HVV.out] at HBY
                rw [HVV.out] at HFR
                clear HTE HPE HVV HSB HUB t3
                generalize frU ((uwS (fun r => uw m r f) xs f k) + (uw m (wo xs k) f * up)) (mkD f m * (f + (m : Int))) = NU at *
                generalize frD ((uwS (fun r => uw m r f) xs f k) + (uw m (wo xs k) f * up)) (mkD f m * (f + (m : Int))) = ND at *
                generalize frU (uw m (wo xs k) f * up) (mkD f m * (f + (m : Int))) = TU at *
                generalize frD (uw m (wo xs k) f * up) (mkD f m * (f + (m : Int))) = TD at *
                generalize frU (uwS (fun r => uw m r f) xs f k) (mkD f m * (f + (m : Int))) = OU at *
                generalize frD (uwS (fun r => uw m r f) xs f k) (mkD f m * (f + (m : Int))) = OD at *
                generalize frU (uw m (wo xs k) f) (mkD f m) = AU at *
                generalize frD (uw m (wo xs k) f) (mkD f m) = AD at *
                generalize frU up (f + (m : Int)) = GU at *
                generalize frD up (f + (m : Int)) = GD at *
                have hw2 : IntKind.i64.wrap (IntKind.i64.wrap (f + ((m : Int) + 1)) - 1) = f + (m : Int) := by rw [wrapIn (x := f + ((m : Int) + 1)) (by omega), wrapIn (by omega)]; omega
                rw [← hw2] at HFR
                clear hw2
                have KX := Lib.hid HKW.out
                have y0 := blk_cell DX.out.b (i := 0) rfl
                have y1 := blk_cell DX.out.b (i := 1) rfl
                go_wp2
                apply region_once (F := fun v => Hid (PX w r NU ND v))
                · go_region_law ((first
                    | (go_simp; go_at_call 80; (with_reducible refine (HFR.out _).mono ?_); rintro e v1 ⟨rfl, hb⟩; have KX := Lib.hid (show Keep w8 v1 from KX.out.trans (by first | exact Keep.below hb | exact (Keep.drewN _ 1).trans (Keep.below hb))); have DX := Lib.hid (show PX w r OU OD v1 from by first | exact DX.out.next hb | exact DX.out.drew.next hb); have y0 := blk_cell DX.out.b (i := 0) rfl; have y1 := blk_cell DX.out.b (i := 1) rfl; clear hb)
                    | (go_simp; go_at_call 94; (with_reducible refine (HBY.out _ (HB8.out.keep (by first | exact KX.out | exact KX.out.trans (Keep.drewN _ 1)))).mono ?_); rintro e v2 ⟨rfl, hb⟩; have KX := Lib.hid (show Keep w8 v2 from KX.out.trans (by first | exact Keep.below hb | exact (Keep.drewN _ 1).trans (Keep.below hb))); have DX := Lib.hid (show PX w r OU OD v2 from by first | exact DX.out.next hb | exact DX.out.drew.next hb); have y0 := blk_cell DX.out.b (i := 0) rfl; have y1 := blk_cell DX.out.b (i := 1) rfl; clear hb)
                    | (go_simp; go_at_call 83; (with_reducible refine (HTI.out _).mono ?_); rintro e v3 ⟨rfl, hb⟩; have DX := Lib.hid (show PX w r OU OD v3 from DX.out.next hb); have y0 := blk_cell DX.out.b (i := 0) rfl; have y1 := blk_cell DX.out.b (i := 1) rfl; clear hb)
                    | (go_simp; go_at_call 104; (with_reducible refine (HPL.out _).mono ?_); rintro e v4 ⟨rfl, hb⟩; have DX := Lib.hid (show PX w r OU OD v4 from DX.out.next hb); have y0 := blk_cell DX.out.b (i := 0) rfl; have y1 := blk_cell DX.out.b (i := 1) rfl; have f0 := blk_frozen DX.out.b 0; have f1 := blk_frozen DX.out.b 1; clear hb)
                    | fail))
                  all_goals exact OnceQ.mk rfl (Lib.hid (DX.out.set NU ND))
                · rintro w7 HX7
                  clear y0 y1 HFR HBY HTI HPL DX KX
                  go_wp2
                  go_roundw
                  case rel => exact ⟨k + 1, by omega, by go_num, Lib.hid (by rw [HNE.out.1, HNE.out.2]; exact HX7.out)⟩
                  case measure => simp [intOf]; omega
            · have HUPV := Lib.hid (HUP.out.trans (if_neg hx1))
              rw [HUPV.out] at up0 up1 up2
              have hg : decide (1 < x) = false := decide_eq_false hx1
              have DX := Lib.hid HP8.out
              have HKW := Lib.hid (Keep.refl w8)
              clear SX HP8
              have HFR := Lib.hid (fun W => frac_any f (f + (m : Int)) W (by unfold Mid; omega) (by unfold Mid; omega) (by omega))
              have HBY := Lib.hid (fun W h => IH.out (by omega) (wo xs k) HME.out f h1 h6 A8 (wo xs k).length c8 W h)
              have HVV : Hid (∀ u d : Int, frV u d = .agg #[.int .i64 (frU u d), .int .i64 (frD u d)]) := Lib.hid (fun _ _ => rfl)
              obtain ⟨s0, s1⟩ := HSB.out
              obtain ⟨w0, w1⟩ := HUB.out
              have t3 : 0 ≤ (uw m (wo xs k) f * f) := Int.mul_nonneg (by omega) (by omega)
              have HTI := Lib.hid (fun W => timesH_any (frU (uw m (wo xs k) f) (mkD f m)) (frD (uw m (wo xs k) f) (mkD f m)) (frU f (f + (m : Int))) (frD f (f + (m : Int))) W (frU_bd (by omega) (by omega)) (frU_bd (by omega) (by omega)) (frD_bd (by omega) (by omega)) (frD_bd (by omega) (by omega)))
              have HTE := Lib.hid (fr_tim (u := uw m (wo xs k) f) (d := mkD f m) (v := f) (e := f + (m : Int)) (by omega) (by omega))
              have HPL := Lib.hid (fun W => plusH_any (frU (uwS (fun r => uw m r f) xs f k) (mkD f (m + 1))) (frD (uwS (fun r => uw m r f) xs f k) (mkD f (m + 1))) (frU (uw m (wo xs k) f * f) (mkD f m * (f + (m : Int)))) (frD (uw m (wo xs k) f * f) (mkD f m * (f + (m : Int)))) W (frU_bd (by omega) (by omega)) (frU_bd (by rw [← HDD.out]; omega) (by omega)) (frD_bd (by omega) (by omega)) (frD_bd (by rw [← HDD.out]; omega) (by rw [← HDD.out]; omega)))
              have HPE := Lib.hid (fr_same (S := (uwS (fun r => uw m r f) xs f k)) (a := uw m (wo xs k) f) (u := f) (D := mkD f m) (E := f + (m : Int)) (by omega) (by omega))
              have HNE : Hid (frU (uwS (fun r => uw m r f) xs f (k + 1)) (mkD f (m + 1)) = frU ((uwS (fun r => uw m r f) xs f k) + (uw m (wo xs k) f * f)) (mkD f m * (f + (m : Int))) ∧ frD (uwS (fun r => uw m r f) xs f (k + 1)) (mkD f (m + 1)) = frD ((uwS (fun r => uw m r f) xs f k) + (uw m (wo xs k) f * f)) (mkD f m * (f + (m : Int)))) := Lib.hid (by rw [HSS.out, HUPV.out, HDD.out]; exact ⟨rfl, rfl⟩)
              rw [HVV.out, HTE.out.1, HTE.out.2] at HTI
              rw [HDD.out] at HPL DX
              rw [HVV.out, HPE.out.1, HPE.out.2] at HPL
              rw [HVV.out] at HBY
              rw [HVV.out] at HFR
              clear HTE HPE HVV HSB HUB t3
              generalize frU ((uwS (fun r => uw m r f) xs f k) + (uw m (wo xs k) f * f)) (mkD f m * (f + (m : Int))) = NU at *
              generalize frD ((uwS (fun r => uw m r f) xs f k) + (uw m (wo xs k) f * f)) (mkD f m * (f + (m : Int))) = ND at *
              generalize frU (uw m (wo xs k) f * f) (mkD f m * (f + (m : Int))) = TU at *
              generalize frD (uw m (wo xs k) f * f) (mkD f m * (f + (m : Int))) = TD at *
              generalize frU (uwS (fun r => uw m r f) xs f k) (mkD f m * (f + (m : Int))) = OU at *
              generalize frD (uwS (fun r => uw m r f) xs f k) (mkD f m * (f + (m : Int))) = OD at *
              generalize frU (uw m (wo xs k) f) (mkD f m) = AU at *
              generalize frD (uw m (wo xs k) f) (mkD f m) = AD at *
              generalize frU f (f + (m : Int)) = GU at *
              generalize frD f (f + (m : Int)) = GD at *
              have hw2 : IntKind.i64.wrap (IntKind.i64.wrap (f + ((m : Int) + 1)) - 1) = f + (m : Int) := by rw [wrapIn (x := f + ((m : Int) + 1)) (by omega), wrapIn (by omega)]; omega
              rw [← hw2] at HFR
              clear hw2
              have KX := Lib.hid HKW.out
              have y0 := blk_cell DX.out.b (i := 0) rfl
              have y1 := blk_cell DX.out.b (i := 1) rfl
              go_wp2
              apply region_once (F := fun v => Hid (PX w r NU ND v))
              · go_region_law ((first
                  | (go_simp; go_at_call 80; (with_reducible refine (HFR.out _).mono ?_); rintro e v1 ⟨rfl, hb⟩; have KX := Lib.hid (show Keep w8 v1 from KX.out.trans (by first | exact Keep.below hb | exact (Keep.drewN _ 1).trans (Keep.below hb))); have DX := Lib.hid (show PX w r OU OD v1 from by first | exact DX.out.next hb | exact DX.out.drew.next hb); have y0 := blk_cell DX.out.b (i := 0) rfl; have y1 := blk_cell DX.out.b (i := 1) rfl; clear hb)
                  | (go_simp; go_at_call 94; (with_reducible refine (HBY.out _ (HB8.out.keep (by first | exact KX.out | exact KX.out.trans (Keep.drewN _ 1)))).mono ?_); rintro e v2 ⟨rfl, hb⟩; have KX := Lib.hid (show Keep w8 v2 from KX.out.trans (by first | exact Keep.below hb | exact (Keep.drewN _ 1).trans (Keep.below hb))); have DX := Lib.hid (show PX w r OU OD v2 from by first | exact DX.out.next hb | exact DX.out.drew.next hb); have y0 := blk_cell DX.out.b (i := 0) rfl; have y1 := blk_cell DX.out.b (i := 1) rfl; clear hb)
                  | (go_simp; go_at_call 83; (with_reducible refine (HTI.out _).mono ?_); rintro e v3 ⟨rfl, hb⟩; have DX := Lib.hid (show PX w r OU OD v3 from DX.out.next hb); have y0 := blk_cell DX.out.b (i := 0) rfl; have y1 := blk_cell DX.out.b (i := 1) rfl; clear hb)
                  | (go_simp; go_at_call 104; (with_reducible refine (HPL.out _).mono ?_); rintro e v4 ⟨rfl, hb⟩; have DX := Lib.hid (show PX w r OU OD v4 from DX.out.next hb); have y0 := blk_cell DX.out.b (i := 0) rfl; have y1 := blk_cell DX.out.b (i := 1) rfl; have f0 := blk_frozen DX.out.b 0; have f1 := blk_frozen DX.out.b 1; clear hb)
                  | fail))
                all_goals exact OnceQ.mk rfl (Lib.hid (DX.out.set NU ND))
              · rintro w7 HX7
                clear y0 y1 HFR HBY HTI HPL DX KX
                go_wp2
                go_roundw
                case rel => exact ⟨k + 1, by omega, by go_num, Lib.hid (by rw [HNE.out.1, HNE.out.2]; exact HX7.out)⟩
                case measure => simp [intOf]; omega
      · obtain rfl : k = n := by omega
        have HFW : Hid (frV (uw (m + 1) xs f) (mkD f (m + 1)) = .agg #[.int .i64 (frU (uwS (fun r => uw m r f) xs f k) (mkD f (m + 1))), .int .i64 (frD (uwS (fun r => uw m r f) xs f k) (mkD f (m + 1)))]) := Lib.hid (by rw [← HL.out]; rfl)
        generalize frU (uwS (fun r => uw m r f) xs f k) (mkD f (m + 1)) = U at *
        generalize frD (uwS (fun r => uw m r f) xs f k) (mkD f (m + 1)) = D at *
        have c0 := blk_cell HP.out.p.box (i := 0) rfl
        have c1 := blk_cell HP.out.p.box (i := 1) rfl
        have f0 := blk_frozen HP.out.p.box 0
        have f1 := blk_frozen HP.out.p.box 1
        have d0 := blk_cell HP.out.b (i := 0) rfl
        have d1 := blk_cell HP.out.b (i := 1) rfl
        go_wp2
        clear c0 c1 f0 f1 d0 d1
        have B1 := blk_set (blk_set HP.out.p.box 0 (.int .i64 U)) 1 (.int .i64 D)
        have r0 := blk_cell B1 (i := 0) (v := .int .i64 U) rfl
        have r1 := blk_cell B1 (i := 1) (v := .int .i64 D) rfl
        have HBX := Lib.hid ((HP.out.p.below.setCell (p := ⟨w.heap.size, 0, none⟩) (Nat.le_refl _) (.int .i64 U)).setCell (p := ⟨w.heap.size, 1, none⟩) (Nat.le_refl _) (.int .i64 D))
        clear B1 HP
        generalize (wr.setCell ⟨w.heap.size, 0, none⟩ (.int .i64 U)).setCell ⟨w.heap.size, 1, none⟩ (.int .i64 D) = WE at *
        refine bodyPost_ret (v := .agg #[.int .i64 U, .int .i64 D]) (by simp [results, Try.results94, go_sem, r0, r1]) rfl ?_
        exact ⟨by first | (rw [HFW.out]; done) | (rw [HFW.out]; rfl), HBX.out⟩

end Go.Proofs.Ytpchnoalamdhkaa

/- KindsByUrn, by the model. -/
namespace Go.Proofs.Ytpchnoalamdhkaa
open Go.RowKit

set_option maxRecDepth 100000 in
set_option maxHeartbeats 3200000 in
theorem KindsByUrn_spec (A : Option Addr) (n c : Nat) (xs : List Int) (f : Int) (w : World) (hx : Ints w A n c xs) (_ : Fit f) :
    Calls Try.prog 35 #[.slice A n c, .int .i64 f] w (Ret (.tuple #[kuV xs f, .bool (pb (KQ xs f))]) w) := by
  have HPF := Lib.hid (PF.start w)
  by_cases hv : VPt xs
  · by_cases hf : InR f 1 6
    · have hq : KQ xs f := ⟨hv, hf⟩
      rw [ku_yes hq, pb_true hq]
      have HV := Lib.hid hv
      have HX := Lib.hid hx
      obtain ⟨f1, f6⟩ := show 1 ≤ f ∧ f ≤ 6 from hf
      clear hq
      have HVC := Lib.hid (pb_true hv ▸ validParts_any A n c xs _ (hx.keep HPF.out.keep))
      have HFR := Lib.hid (fun W => pb_true hf ▸ inRange_any f 1 6 W)
      clear hx hv hf
      go_enter Try.func35, Try.ntmps35
      go_wp2_with fail
      refine HVC.out.mono ?_
      rintro e w1 ⟨rfl, hb⟩
      have HP1 := Lib.hid (HPF.out.up hb.below)
      clear hb HVC HPF
      go_wp2_with fail
      refine (HFR.out _).mono ?_
      rintro e w2 ⟨rfl, rfl⟩
      clear HFR
      have HPF := HP1
      clear HP1
      obtain ⟨m, hm1, hm7, htot, hmem⟩ := HV.out.mem
      have HFV : Hid (frV (kuU xs f) (kuD xs f) = .agg #[.int .i64 (frU (kuU xs f) (kuD xs f)), .int .i64 (frD (kuU xs f) (kuD xs f))]) := Lib.hid rfl
      have HKE : Hid (frV (uw m xs f) (mkD f m) = frV (kuU xs f) (kuD xs f)) := Lib.hid (by unfold kuU kuD; rw [htot, Int.toNat_natCast])
      have HC := Lib.hid (byUrn_any m hm7 xs hmem f f1 f6 A n c w1 (HX.out.keep HPF.out.keep))
      rw [HKE.out, HFV.out] at HC
      clear htot hmem HKE HFV
      generalize frU (kuU xs f) (kuD xs f) = U at *
      generalize frD (kuU xs f) (kuD xs f) = D at *
      go_wp2_with fail
      refine HC.out.mono ?_
      rintro e w4 ⟨rfl, hb⟩
      have HP4 := Lib.hid (HPF.out.up hb)
      clear hb HC HPF
      have HPF := HP4
      clear HP4
      have c0 := blk_cell HPF.out.box (i := 0) rfl
      have c1 := blk_cell HPF.out.box (i := 1) rfl
      have f0 := blk_frozen HPF.out.box 0
      have f1 := blk_frozen HPF.out.box 1
      go_wp2
      clear c0 c1 f0 f1
      have B1 := blk_set (blk_set HPF.out.box 0 (.int .i64 U)) 1 (.int .i64 D)
      have r0 := blk_cell B1 (i := 0) (v := .int .i64 U) rfl
      have r1 := blk_cell B1 (i := 1) (v := .int .i64 D) rfl
      have HBX := Lib.hid ((HPF.out.below.setCell (p := ⟨w.heap.size, 0, none⟩) (Nat.le_refl _) (.int .i64 U)).setCell (p := ⟨w.heap.size, 1, none⟩) (Nat.le_refl _) (.int .i64 D))
      clear B1 HPF
      generalize (w4.setCell ⟨w.heap.size, 0, none⟩ (.int .i64 U)).setCell ⟨w.heap.size, 1, none⟩ (.int .i64 D) = WE at *
      refine bodyPost_ret (v := .tuple #[.agg #[.int .i64 U, .int .i64 D], .bool true]) (by simp [results, Try.results35, go_sem, r0, r1]) rfl ?_
      exact ⟨rfl, HBX.out⟩
    · have HNO := Lib.hid ((fun h : ¬ KQ xs f => And.intro (ku_no h) (pb_false h)) (fun h => hf h.2))
      have HVC := Lib.hid (pb_true hv ▸ validParts_any A n c xs _ (hx.keep HPF.out.keep))
      have HFR := Lib.hid (fun W => pb_false hf ▸ inRange_any f 1 6 W)
      clear hx hv hf
      go_enter Try.func35, Try.ntmps35
      go_wp2_with fail
      refine HVC.out.mono ?_
      rintro e w1 ⟨rfl, hb⟩
      have HP1 := Lib.hid (HPF.out.up hb.below)
      clear hb HVC HPF
      go_wp2_with fail
      refine (HFR.out _).mono ?_
      rintro e w2 ⟨rfl, rfl⟩
      clear HFR
      have HPF := HP1
      clear HP1
      have c0 := blk_cell HPF.out.box (i := 0) rfl
      have c1 := blk_cell HPF.out.box (i := 1) rfl
      have f0 := blk_frozen HPF.out.box 0
      have f1 := blk_frozen HPF.out.box 1
      go_wp2
      clear c0 c1 f0 f1
      have B1 := blk_set (blk_set HPF.out.box 0 (.int .i64 0)) 1 (.int .i64 0)
      have r0 := blk_cell B1 (i := 0) (v := .int .i64 0) rfl
      have r1 := blk_cell B1 (i := 1) (v := .int .i64 0) rfl
      have HBX := Lib.hid ((HPF.out.below.setCell (p := ⟨w.heap.size, 0, none⟩) (Nat.le_refl _) (.int .i64 0)).setCell (p := ⟨w.heap.size, 1, none⟩) (Nat.le_refl _) (.int .i64 0))
      clear B1 HPF
      generalize (w1.setCell ⟨w.heap.size, 0, none⟩ (.int .i64 0)).setCell ⟨w.heap.size, 1, none⟩ (.int .i64 0) = WE at *
      refine bodyPost_ret (v := .tuple #[.agg #[.int .i64 0, .int .i64 0], .bool false]) (by simp [results, Try.results35, go_sem, r0, r1]) rfl ?_
      exact ⟨by rw [HNO.out.1, HNO.out.2], HBX.out⟩
  · have HNO := Lib.hid ((fun h : ¬ KQ xs f => And.intro (ku_no h) (pb_false h)) (fun h => hv h.1))
    have HVC := Lib.hid (pb_false hv ▸ validParts_any A n c xs _ (hx.keep HPF.out.keep))
    clear hx hv
    go_enter Try.func35, Try.ntmps35
    go_wp2_with fail
    refine HVC.out.mono ?_
    rintro e w1 ⟨rfl, hb⟩
    have HP1 := Lib.hid (HPF.out.up hb.below)
    clear hb HVC HPF
    have HPF := HP1
    clear HP1
    have c0 := blk_cell HPF.out.box (i := 0) rfl
    have c1 := blk_cell HPF.out.box (i := 1) rfl
    have f0 := blk_frozen HPF.out.box 0
    have f1 := blk_frozen HPF.out.box 1
    go_wp2
    clear c0 c1 f0 f1
    have B1 := blk_set (blk_set HPF.out.box 0 (.int .i64 0)) 1 (.int .i64 0)
    have r0 := blk_cell B1 (i := 0) (v := .int .i64 0) rfl
    have r1 := blk_cell B1 (i := 1) (v := .int .i64 0) rfl
    have HBX := Lib.hid ((HPF.out.below.setCell (p := ⟨w.heap.size, 0, none⟩) (Nat.le_refl _) (.int .i64 0)).setCell (p := ⟨w.heap.size, 1, none⟩) (Nat.le_refl _) (.int .i64 0))
    clear B1 HPF
    generalize (w1.setCell ⟨w.heap.size, 0, none⟩ (.int .i64 0)).setCell ⟨w.heap.size, 1, none⟩ (.int .i64 0) = WE at *
    refine bodyPost_ret (v := .tuple #[.agg #[.int .i64 0, .int .i64 0], .bool false]) (by simp [results, Try.results35, go_sem, r0, r1]) rfl ?_
    exact ⟨by rw [HNO.out.1, HNO.out.2], HBX.out⟩

end Go.Proofs.Ytpchnoalamdhkaa

/- sorted, by the laws: numbers laid in order by an append in a region that draws its order. -/
namespace Go.Proofs.Ytpchnoalamdhkaa
open Go.RowKit

/-- An append of a slice that reads as a list, whatever its length, behind a row that the call owns. -/
theorem run_app_ints (w : World) (base : Nat) (v : Value) (xs : List Int) (hown : w.ownsRow base 3 1 v xs.length (xs.map iv)) (hlo : base ≤ w.heap.size) (R : Option Addr) (m c : Nat) (r : List Int) (hr : Ints w R m c r) (hlen : xs.length + m ≤ 1000) :
    ∃ A cap w', (Builtin.append_ #[27, 27] 27 #[v, .slice R m c]).run Try.prog w = .ok (.slice A (xs ++ r).length cap) w' ∧
      w'.ownsRow base 3 1 (.slice A (xs ++ r).length cap) (xs ++ r).length ((xs ++ r).map iv) ∧ w.grownBy w' v.ownBlock ∧
      ((Value.slice A (xs ++ r).length cap).ownBlock = v.ownBlock ∨ (Value.slice A (xs ++ r).length cap).ownBlock = some w.heap.size) := by
  obtain ⟨i0, hi0, hz0, hz1, hz2⟩ := info_parts Try.info_int
  have hl := hr.len
  by_cases h0 : m = 0
  · subst h0
    have hr0 : r = [] := List.eq_nil_of_length_eq_zero hl
    subst hr0
    rw [List.append_nil]
    obtain ⟨A, cap, rfl⟩ := (⟨hown, fun k hk => (hown.lt k hk).2⟩ : BldI base w.heap.size w v xs).form
    exact ⟨A, cap, w, run_append_empty w base _ _ 3 i0 1 Try.underlying27 hi0 _ xs.length _ hown R c, hown, ⟨rfl, rfl, rfl, Nat.le_refl _, fun _ _ _ => rfl⟩, .inl rfl⟩
  · obtain ⟨b, o, rfl, hc⟩ := hr.at_ (by omega)
    obtain ⟨v', w5, e, ho, hg, _, hat⟩ := run_append_own_at (P := Try.prog) w base 27 27 3 i0 (.int .i64 0) 1 8 Try.underlying27 hi0 hz0 hz1 hz2 rfl (by decide) v xs.length (xs.map iv) hown ⟨b, o, none⟩ m c (r.map iv)
      (by rw [List.length_map, hl]; omega) (by
        have h := news_take (w := w) (j := r.length) (xs := r) (b := b) (o := o) rfl (fun k hk => hc k (by omega))
        rw [List.take_length] at h; exact h) (ones_map _) (by unfold maxLen; omega) (by omega) hlo
    have ho' : w5.ownsRow base 3 1 v' (xs ++ r).length ((xs ++ r).map iv) := by rw [List.length_append, hl, List.map_append]; exact ho
    obtain ⟨A, cap, rfl⟩ := (⟨ho', fun k hk => (ho'.lt k hk).2⟩ : BldI base w5.heap.size w5 v' (xs ++ r)).form
    exact ⟨A, cap, w5, e, ho', hg, hat⟩

/-- A row under way in a region: own, and nothing older changed. -/
structure OX (w0 W : World) (v : Value) (xs : List Int) : Prop where
  own : W.ownsRow w0.heap.size 3 1 v xs.length (xs.map iv)
  bl : Below w0.heap.size w0 W
/-- A new number in a block of its own, beside the row. -/
structure NwX (W : World) (X : Nat) (x : Int) (v : Value) : Prop where
  blk : Blk W X 3 #[iv x]
  ne : v.ownBlock ≠ some X
theorem OX.lo {w0 W v xs} (h : OX w0 W v xs) : w0.heap.size ≤ W.heap.size := h.bl.size
theorem OX.drew {w0 W v xs} (h : OX w0 W v xs) : OX w0 W.drew v xs := ⟨blk_kept h.own fun _ _ => rfl, h.bl.drew⟩
theorem OX.qu {w0 W W' v xs} (h : OX w0 W v xs) (k : Quiet W W') : OX w0 W' v xs := by
  obtain ⟨q, rfl⟩ := k
  exact ⟨blk_kept h.own fun _ _ => rfl, below_drewN h.bl q⟩
theorem OX.alloc {w0 W v xs} (h : OX w0 W v xs) (o : Obj) : OX w0 (W.alloc o) v xs := ⟨h.own.alloc o, below_up h.bl (below_alloc _ _)⟩
theorem OX.new {w0 W : World} (h : Below w0.heap.size w0 W) : OX w0 (W.alloc (.cells #[] 3)) (.slice (some ⟨W.heap.size, 0, none⟩) 0 0) [] :=
  ⟨(BldI.make h.size).own, below_up h (below_alloc _ _)⟩
theorem OX.newAt {w0 W : World} {g : Nat} (h : Below w0.heap.size w0 W) (hg : W.heap.size = g) : OX w0 (W.alloc (.cells #[] 3)) (.slice (some ⟨g, 0, none⟩) 0 0) [] := by
  subst hg; exact OX.new h
theorem below_al {w0 W : World} (h : Below w0.heap.size w0 W) (o : Obj) : Below w0.heap.size w0 (W.alloc o) := below_up h (below_alloc _ _)
theorem OX.up {w w0 W v0 xs0 v xs} (h : OX w w0 v0 xs0) (k : OX w0 W v xs) : OX w W v xs := by
  refine ⟨?_, below_up h.bl k.bl⟩
  obtain ⟨h1, h2⟩ := k.own
  refine ⟨h1, ?_⟩
  rcases h2 with h2 | ⟨g, cap, cur, rfl, hb, hg, r⟩
  · exact .inl h2
  · exact .inr ⟨g, cap, cur, rfl, Nat.le_trans h.lo hb, hg, r⟩
theorem OX.app {w0 W W' v v' xs ys} (h : OX w0 W v xs) (ho : W'.ownsRow w0.heap.size 3 1 v' ys.length (ys.map iv)) (hg : W.grownBy W' v.ownBlock) : OX w0 W' v' ys :=
  ⟨ho, h.bl.grown hg h.lo fun k hk => (h.own.lt k hk).1⟩
theorem OX.form {w0 W v xs} (h : OX w0 W v xs) : ∃ A c, v = .slice A xs.length c := (⟨h.own, fun k hk => (h.own.lt k hk).2⟩ : BldI w0.heap.size W.heap.size W v xs).form
theorem OX.ints {w0 W A c} {xs : List Int} (h : OX w0 W (.slice A xs.length c) xs) (hl : xs.length ≤ 1000) (hw : ∀ x ∈ xs, 0 ≤ x ∧ x ≤ 1000) : Ints W A xs.length c xs := by
  obtain ⟨A', n', c', g, e, _, hI, _⟩ := (⟨h.own, fun k hk => (h.own.lt k hk).2⟩ : BldI w0.heap.size W.heap.size W _ xs).owns (by omega) (fun x hx => by have := hw x hx; omega)
  injection e with e1 e2 e3
  subst e1; subst e2; subst e3
  exact hI.ints
theorem NwX.new {w0 W v xs} (h : OX w0 W v xs) (x : Int) : NwX (W.alloc (.cells #[.int .i64 x] 3)) W.heap.size x v :=
  ⟨blk_new _ _ _, fun e => by have := (h.own.lt _ e).2; omega⟩
theorem NwX.drew {W X x v} (h : NwX W X x v) : NwX W.drew X x v := ⟨h.blk, h.ne⟩
theorem NwX.app {W W' X x v v'} (h : NwX W X x v) (hg : W.grownBy W' v.ownBlock) (hat : v'.ownBlock = v.ownBlock ∨ v'.ownBlock = some W.heap.size) : NwX W' X x v' :=
  ⟨(hg.block X (blk_lt h.blk) (fun e => h.ne e.symm)).trans h.blk, fun e => by
    rcases hat with h1 | h1
    · exact h.ne (h1.symm.trans e)
    · rw [h1] at e; injection e with e; have := blk_lt h.blk; omega⟩
theorem NwX.at_ {w0 W v xs} (h : OX w0 W v xs) (x : Int) {X : Nat} (hX : W.heap.size = X) : NwX (W.alloc (.cells #[.int .i64 x] 3)) X x v := by subst hX; exact NwX.new h x
theorem NwX.drewI {W X x v} (h : NwX W X x v) : NwX W.drew X x v := ⟨h.blk, h.ne⟩
/-- The new number's block laid ahead of the row's. -/
theorem NwX.ahead {W : World} (x : Int) {X g : Nat} (hb : Blk W X 3 #[.int .i64 x]) (hg : W.heap.size = g) : NwX (W.alloc (.cells #[] 3)) X x (.slice (some ⟨g, 0, none⟩) 0 0) := by
  subst hg
  refine ⟨blk_below hb (below_alloc _ _), fun e => ?_⟩
  have h1 : W.heap.size = X := by simpa [Value.ownBlock] using e
  have := blk_lt hb; omega
theorem NwX.ints {W X x v} (h : NwX W X x v) (hx : 0 ≤ x ∧ x ≤ 1000) : Ints W (some ⟨X, 0, none⟩) 1 1 [x] :=
  ⟨rfl, Nat.le_refl _, by omega, fun y hy => by simp at hy; subst hy; omega, fun _ => ⟨X, 0, rfl, fun k hk => by
    obtain rfl : k = 0 := by omega
    exact blk_cell h.blk rfl⟩⟩

/-- The append at a step of a region that draws its order. -/
theorem step_app_ints {ops : Array Oper} {o : Oper} {a : Act} {K : Act → World → Prop} {Q : Exit → Act → World → Prop} {E : Prop} {w : World} (hgd : o.guard = none) (s x : Operand)
    (ho : o.op = .call { callee := .builtin .append, args := #[s, x], argTypes := #[27, 27] }) (hty : o.type = 27) (w0 : World)
    (v : Value) (xs : List Int) (hs : a.eval s = v) (hown : OX w0 w v xs) (R : Option Addr) (m c : Nat) (r : List Int) (hx : a.eval x = .slice R m c) (hr : Ints w R m c r) (hlen : xs.length + m ≤ 1000) (L : Nat) (hL : (xs ++ r).length = L)
    (h : ∀ A cap w', OX w0 w' (.slice A L cap) (xs ++ r) → w.grownBy w' v.ownBlock → ((Value.slice A L cap).ownBlock = v.ownBlock ∨ (Value.slice A L cap).ownBlock = some w.heap.size) → K (a.put o.dst (.slice A L cap)) w') :
    if Region.wanted o (yielded ops a.tmps) = true then Oper.wp Try.prog o a w K Q else E := by
  have hw : Region.wanted o (yielded ops a.tmps) = true := by simp [Region.wanted, hgd]
  rw [if_pos hw]
  subst hL
  obtain ⟨A, cap, w', hrun, h2, h3, h4⟩ := run_app_ints w w0.heap.size v xs hown.own hown.lo R m c r hr hlen
  unfold Oper.wp execOp
  simp only [ho, hty, resolve, invoke, builtin, Sem.run_bind, Sem.run_pure, Result.andThen_ok, List.map_toArray, List.map_cons, List.map_nil, hs, hx, hrun]
  exact h A cap w' (hown.app h2 h3) h3 h4

/-- How many numbers at the head are not less. -/
def plc : List Int → Int → Nat
  | [], _ => 0
  | y :: ys, x => if x ≤ y then plc ys x + 1 else 0
theorem plc_le (x : Int) : ∀ xs, plc xs x ≤ xs.length
  | [] => Nat.le_refl _
  | y :: ys => by have := plc_le x ys; unfold plc; split <;> simp <;> omega
theorem gi_zero (y : Int) (ys : List Int) : gi (y :: ys) 0 = y := rfl
theorem gi_succ (y : Int) (ys : List Int) (k : Nat) : gi (y :: ys) (k + 1) = gi ys k := by simp [gi]
theorem plc_ge (x : Int) : ∀ (xs : List Int) (k : Nat), k < plc xs x → x ≤ gi xs k
  | [], _, h => absurd h (by simp [plc])
  | y :: ys, k, h => by
    unfold plc at h
    split at h
    · next hy =>
      match k with
      | 0 => exact hy
      | k + 1 => rw [gi_succ]; exact plc_ge x ys k (by omega)
    · omega
theorem plc_lt (x : Int) : ∀ (xs : List Int), plc xs x < xs.length → gi xs (plc xs x) < x
  | [], h => absurd h (by simp)
  | y :: ys, h => by
    unfold plc at h ⊢
    split at h
    · next hy => rw [if_pos hy, gi_succ]; exact plc_lt x ys (by simpa using h)
    · next hy => rw [if_neg hy, gi_zero]; omega
/-- A number laid in its place. -/
def ins (xs : List Int) (x : Int) : List Int := (xs.take (plc xs x) ++ [x]) ++ xs.drop (plc xs x)
theorem ins_len (xs : List Int) (x : Int) : (ins xs x).length = xs.length + 1 := by
  have := plc_le x xs
  simp [ins]; omega
theorem ins_mem {xs : List Int} {x y : Int} (h : y ∈ ins xs x) : y = x ∨ y ∈ xs := by
  simp only [ins, List.mem_append, List.mem_singleton] at h
  rcases h with (h | h) | h
  · exact .inr (List.mem_of_mem_take h)
  · exact .inl h
  · exact .inr (List.mem_of_mem_drop h)
def srt (xs : List Int) : List Int := xs.foldl ins []
theorem take_next {xs : List Int} {i : Nat} (h : i < xs.length) : xs.take (i + 1) = xs.take i ++ [gi xs i] := by
  rw [List.take_add_one, List.getElem?_eq_getElem h, gi_get h]; rfl
theorem srt_next {xs : List Int} {i : Nat} (h : i < xs.length) : srt (xs.take (i + 1)) = ins (srt (xs.take i)) (gi xs i) := by
  rw [take_next h]; unfold srt; rw [List.foldl_append]; rfl
theorem fold_len : ∀ (xs acc : List Int), (xs.foldl ins acc).length = acc.length + xs.length
  | [], acc => rfl
  | x :: xs, acc => by rw [List.foldl_cons, fold_len xs, ins_len, List.length_cons]; omega
theorem srt_len (xs : List Int) : (srt xs).length = xs.length := by unfold srt; rw [fold_len]; simp
theorem fold_mem : ∀ (xs acc : List Int) (y : Int), y ∈ xs.foldl ins acc → y ∈ acc ∨ y ∈ xs
  | [], acc, y, h => .inl h
  | x :: xs, acc, y, h => by
    rcases fold_mem xs _ y h with h | h
    · rcases ins_mem h with rfl | h
      · exact .inr (List.mem_cons_self ..)
      · exact .inl h
    · exact .inr (List.mem_cons_of_mem _ h)
theorem srt_mem {xs : List Int} {y : Int} (h : y ∈ srt xs) : y ∈ xs := by
  rcases fold_mem xs [] y h with h | h
  · simp at h
  · exact h
theorem Ints.dropI {w : World} {b o n c k : Nat} {xs : List Int} (h : Ints w (some ⟨b, o, none⟩) n c xs) (hk : k ≤ n) : Ints w (some ⟨b, o + k, none⟩) (n - k) (c - k) (xs.drop k) := by
  have hl := h.len
  refine ⟨by rw [List.length_drop, hl], by have := h.cap; omega, by have := h.max; omega, fun y hy => h.wf y (List.mem_of_mem_drop hy), fun h0 => ?_⟩
  obtain ⟨b', o', e, hc⟩ := h.at_ (by omega)
  injection e with e; injection e with e1 e2; subst e1; subst e2
  refine ⟨b, o + k, rfl, fun j hj => ?_⟩
  have e1 : gi (xs.drop k) j = gi xs (k + j) := by
    rw [gi_get (by rw [List.length_drop]; omega), gi_get (by omega), List.getElem_drop]
  rw [e1, Nat.add_assoc]; exact hc (k + j) (by omega)

theorem gi_takeI {xs : List Int} {k j : Nat} (h : j < k) (hk : k ≤ xs.length) : gi (xs.take k) j = gi xs j := by
  rw [gi_get (by rw [List.length_take]; omega), gi_get (by omega), List.getElem_take]
theorem Ints.takeI {w : World} {A : Option Addr} {n c k : Nat} {xs : List Int} (h : Ints w A n c xs) (hk : k ≤ n) : Ints w A k c (xs.take k) := by
  have hl := h.len
  refine ⟨by rw [List.length_take]; omega, by have := h.cap; omega, by have := h.max; omega, fun y hy => h.wf y (List.mem_of_mem_take hy), fun h0 => ?_⟩
  obtain ⟨b, o, e, hc⟩ := h.at_ (by omega)
  exact ⟨b, o, e, fun j hj => by rw [gi_takeI hj (by omega)]; exact hc j (by omega)⟩
theorem Ints.dropIf {w : World} {b o n c k : Nat} {xs : List Int} (h : Ints w (some ⟨b, o, none⟩) n c xs) (hk : k ≤ n) : Ints w (if c = k then some ⟨b, o, none⟩ else some ⟨b, o + k, none⟩) (n - k) (c - k) (xs.drop k) := by
  have hd := h.dropI hk
  have hc := h.cap
  by_cases e : c = k
  · rw [if_pos e]
    exact ⟨hd.len, hd.cap, hd.max, hd.wf, fun h0 => by omega⟩
  · rw [if_neg e]; exact hd
set_option maxRecDepth 100000 in
set_option maxHeartbeats 3200000 in
theorem sorted_any (R : Option Addr) (n c : Nat) (xs : List Int) (w : World) (h : Ints w R n c xs) (hn : n ≤ 8) (hb : ∀ x ∈ xs, 0 ≤ x ∧ x ≤ 1000) :
    Calls Try.prog 46 #[.slice R n c] w (NewI w (srt xs)) := by
  have HI := Lib.hid h
  have hl := h.len
  have HB := Lib.hid hb
  have HO0 := Lib.hid (OX.new (w0 := w) (W := w) (Below.refl _ _))
  clear h hb
  go_enter Try.func46, Try.ntmps46
  go_wp2
  go_loopw [3, 4] (fun v i wr => ∃ (k b o cp : Nat), k ≤ n ∧ i = .int .i64 k ∧ v = .slice (some ⟨b, o, none⟩) (srt (xs.take k)).length cp ∧ Hid (OX w wr v (srt (xs.take k)))) (fun _ i _ => n - (intOf i).toNat)
  case atStart => exact ⟨0, w.heap.size, 0, 0, Nat.zero_le _, rfl, rfl, HO0⟩
  case round =>
    clear HO0
    obtain ⟨i, bo, oo, cap, hi, rfl, rfl, HO⟩ := hrel
    have HSB : Hid (∀ y ∈ srt (xs.take i), 0 ≤ y ∧ y ≤ 1000) := Lib.hid (fun y hy => HB.out y (List.mem_of_mem_take (srt_mem hy)))
    have HSL : Hid ((srt (xs.take i)).length = i) := Lib.hid (by rw [srt_len, List.length_take]; omega)
    by_cases hlt : i < n
    · have HNX := Lib.hid (srt_next (xs := xs) (i := i) (by omega))
      have HX := Lib.hid (HB.out _ (gi_mem (xs := xs) (k := i) (by omega)))
      have HPL := Lib.hid (plc_le (gi xs i) (srt (xs.take i)))
      generalize hgx : gi xs i = x at *
      have HGX := Lib.hid hgx
      clear hgx
      generalize srt (xs.take i) = acc at *
      obtain rfl := HSL.out
      clear HSL
      go_wp2
      go_loopw [5] (fun kv wi => ∃ (k : Nat), k ≤ plc acc x ∧ kv = .int .i64 k ∧ Hid (OX w wi (.slice (some ⟨bo, oo, none⟩) acc.length cap) acc)) (fun kv _ => acc.length - (intOf kv).toNat)
      case atStart => exact ⟨0, Nat.zero_le _, rfl, HO⟩
      case round =>
        clear HO
        obtain ⟨k, hk, rfl, HO⟩ := hrel
        have HOI := Lib.hid (HO.out.ints (by omega) HSB.out)
        have HLI := Lib.hid (HI.out.keep (Keep.below HO.out.bl))
        obtain ⟨bl, ol, rfl, hcl⟩ := HI.out.at_ (by omega)
        have cl : wr.cell? ⟨bl, ol + acc.length, none⟩ = some (.int .i64 x) := by rw [← HGX.out]; exact (Keep.below HO.out.bl) _ _ (hcl acc.length hlt)
        clear hcl
        by_cases hka : k < acc.length
        · have hka1 : decide (k < acc.length) = true := decide_eq_true hka
          have co : wr.cell? ⟨bo, oo + k, none⟩ = some (.int .i64 (gi acc k)) := by
            obtain ⟨_, _, e, hco⟩ := HOI.out.at_ (by omega)
            injection e with e; injection e with e1 e2; subst e1; subst e2
            exact hco k hka
          by_cases hp : k < plc acc x
          · have hge := plc_ge x acc k hp
            have hge1 : decide (x ≤ gi acc k) = true := decide_eq_true hge
            have HKP := Lib.hid hp
            clear hp
            generalize gi acc k = y at *
            go_wp2
            go_quiet (fail)
            go_wp2
            go_roundw
            case rel => exact ⟨k + 1, by have := HKP.out; omega, by go_num, Lib.hid (HO.out.qu ⟨_, rfl⟩)⟩
            case measure => simp [intOf]; omega
          · obtain rfl : k = plc acc x := by omega
            have hlt2 := plc_lt x acc hka
            generalize gi acc (plc acc x) = y at *
            have hge1 : decide (x ≤ y) = false := decide_eq_false (by omega)
            go_wp2
            go_quiet (fail)
            go_wp2
            have HIN := Lib.hid (show ins acc x = (acc.take (plc acc x) ++ [x]) ++ acc.drop (plc acc x) from rfl)
            have p1 := HPL.out
            have p2 : acc.length ≤ cap := HOI.out.cap
            clear hk hp hge1 hlt2 hka1
            clear co HPL
            generalize plc acc x = p at *
            have p3 : (0 : Int) ≤ (p : Int) := by omega
            have p4 : (p : Int) ≤ (acc.length : Int) := by omega
            have p5 : (p : Int) ≤ (cap : Int) := by omega
            have p6 : (acc.length : Int) ≤ (cap : Int) := by omega
            have p7 : p ≤ cap := by omega
            have HW := Lib.hid (HO.out.qu (W' := wr.drewN nq) ⟨nq, rfl⟩)
            have HQI : Hid (Ints (wr.drewN nq) (some ⟨bo, oo, none⟩) acc.length cap acc) := Lib.hid (HOI.out.keep (Keep.quiet ⟨nq, rfl⟩))
            have HX0 := Lib.hid (show (wr.drewN nq).cell? ⟨bl, ol + acc.length, none⟩ = some (.int .i64 x) from cl)
            have h8 : acc.length ≤ 8 := by omega
            clear HO HOI HLI cl
            generalize wr.drewN nq = wq at *
            have HT := Lib.hid (HQI.out.takeI p1)
            have HD := Lib.hid (HQI.out.dropIf p1)
            have SX := HX0
            apply region_put [30, 31, 32, 33, 34, 35, 36, 37, 38, 39, 40, 41, 42, 43, 44, 3] (fun us v => ∃ (u30 u31 u32 u33 u34 u35 u36 u37 u38 u39 u40 u41 u42 u43 : Value) (A : Option Addr) (cp : Nat), us = [u30, u31, u32, u33, u34, u35, u36, u37, u38, u39, u40, u41, u42, u43, .slice A (acc.length + 1) cp, .slice A (acc.length + 1) cp] ∧ Hid (OX wq v (.slice A (acc.length + 1) cp) (ins acc x)))
            · go_region_held3 (fun W => W.cell? ⟨bl, ol + acc.length, none⟩ = some (.int .i64 x)) (first | exact SX.out | exact kd1 SX.out | exact kc1 SX.out | exact kd1 (kd1 SX.out) | exact kd1 (kc1 SX.out) | exact kc1 (kd1 SX.out) | exact kc1 (kc1 SX.out)) ((first
                | (refine step_app_ints (by rfl) (.tmp 30) (.tmp 33) (by rfl) (by rfl) wq (.slice (some ⟨wq.heap.size, 0, none⟩) 0 0) [] (by rfl) (by (repeat with_reducible refine OX.drew ?_); with_reducible refine OX.newAt ?_ (by simp); (repeat (first | with_reducible refine Below.drew ?_ | with_reducible refine below_al ?_ _)); exact Below.refl _ _) (some ⟨bo, oo, none⟩) p cap (acc.take p) (by rfl) ((HT.out).keep (Keep.below (by (repeat (first | with_reducible refine Below.drew ?_ | with_reducible refine below_al ?_ _)); exact Below.refl _ _))) (by first | (simp; omega) | (have := List.length_take_le p acc; simp; omega)) p (by simp; omega) ?_; intro A1 cp1 w1 ho hg hat; rw [List.nil_append] at ho; have HO1 := Lib.hid ho; have SX := Lib.hid (Keep.below HO1.out.bl _ _ HX0.out); clear ho hg hat)
                | (refine step_app_ints (by rfl) (.tmp 30) (.tmp 33) (by rfl) (by rfl) wq (.slice (some ⟨wq.heap.size, 0, none⟩) 0 0) [] (by rfl) (by (repeat with_reducible refine OX.drew ?_); with_reducible refine OX.alloc ?_ _; (repeat with_reducible refine OX.drew ?_); with_reducible refine OX.newAt ?_ (by simp); (repeat (first | with_reducible refine Below.drew ?_ | with_reducible refine below_al ?_ _)); exact Below.refl _ _) (some ⟨bo, oo, none⟩) p cap (acc.take p) (by rfl) ((HT.out).keep (Keep.below (by (repeat (first | with_reducible refine Below.drew ?_ | with_reducible refine below_al ?_ _)); exact Below.refl _ _))) (by first | (simp; omega) | (have := List.length_take_le p acc; simp; omega)) p (by simp; omega) ?_; intro A1 cp1 w1 ho hg hat; rw [List.nil_append] at ho; have HO1 := Lib.hid ho; have SX := Lib.hid (Keep.below HO1.out.bl _ _ HX0.out); have HN1 := Lib.hid (NwX.app (X := wq.heap.size + 1) (x := x) (by (repeat with_reducible refine NwX.drewI ?_); with_reducible refine NwX.at_ (w0 := wq) (xs := []) ?_ _ (by simp); (repeat with_reducible refine OX.drew ?_); with_reducible refine OX.newAt ?_ (by simp); (repeat (first | with_reducible refine Below.drew ?_ | with_reducible refine below_al ?_ _)); exact Below.refl _ _) hg hat); clear ho hg hat)
                | (refine step_app_ints (by rfl) (.tmp 30) (.tmp 33) (by rfl) (by rfl) wq (.slice (some ⟨wq.heap.size + 1, 0, none⟩) 0 0) [] (by rfl) (by (repeat with_reducible refine OX.drew ?_); with_reducible refine OX.newAt ?_ (by simp); (repeat (first | with_reducible refine Below.drew ?_ | with_reducible refine below_al ?_ _)); exact Below.refl _ _) (some ⟨bo, oo, none⟩) p cap (acc.take p) (by rfl) ((HT.out).keep (Keep.below (by (repeat (first | with_reducible refine Below.drew ?_ | with_reducible refine below_al ?_ _)); exact Below.refl _ _))) (by first | (simp; omega) | (have := List.length_take_le p acc; simp; omega)) p (by simp; omega) ?_; intro A1 cp1 w1 ho hg hat; rw [List.nil_append] at ho; have HO1 := Lib.hid ho; have SX := Lib.hid (Keep.below HO1.out.bl _ _ HX0.out); have HN1 := Lib.hid (NwX.app (X := wq.heap.size) (x := x) (by (repeat with_reducible refine NwX.drewI ?_); with_reducible refine NwX.ahead _ ?_ (by simp); first | exact blk_new _ _ _ | exact blk_quiet (blk_new _ _ _) ⟨1, rfl⟩) hg hat); clear ho hg hat)
                | (refine step_app_ints (by rfl) (.tmp 34) (.tmp 39) (by rfl) (by rfl) wq (.slice A1 p cp1) (acc.take p) (by rfl) (by (repeat with_reducible refine OX.drew ?_); first | exact HO1.out | (with_reducible refine OX.alloc ?_ _; (repeat with_reducible refine OX.drew ?_); exact HO1.out)) (some ⟨w1.heap.size, 0, none⟩) 1 1 [x] (by rfl) (NwX.ints (v := (.slice A1 p cp1)) (by (repeat with_reducible refine NwX.drewI ?_); with_reducible refine NwX.at_ (xs := acc.take p) (w0 := wq) ?_ _ rfl; (repeat with_reducible refine OX.drew ?_); exact HO1.out) HX.out) (by first | (simp; omega) | (have := List.length_take_le p acc; simp; omega)) (p + 1) (by simp; omega) ?_; intro A2 cp2 w2 ho hg hat; have HO2 := Lib.hid ho; have SX := Lib.hid (Keep.below HO2.out.bl _ _ HX0.out); clear ho hg hat)
                | (refine step_app_ints (by rfl) (.tmp 34) (.tmp 39) (by rfl) (by rfl) wq (.slice A1 p cp1) (acc.take p) (by rfl) (by (repeat with_reducible refine OX.drew ?_); first | exact HO1.out | (with_reducible refine OX.alloc ?_ _; (repeat with_reducible refine OX.drew ?_); exact HO1.out)) (some ⟨(wq.heap.size + 1), 0, none⟩) 1 1 [x] (by rfl) (NwX.ints (v := (.slice A1 p cp1)) (by (repeat with_reducible refine NwX.drewI ?_); exact HN1.out) HX.out) (by first | (simp; omega) | (have := List.length_take_le p acc; simp; omega)) (p + 1) (by simp; omega) ?_; intro A2 cp2 w2 ho hg hat; have HO2 := Lib.hid ho; have SX := Lib.hid (Keep.below HO2.out.bl _ _ HX0.out); clear ho hg hat)
                | (refine step_app_ints (by rfl) (.tmp 34) (.tmp 39) (by rfl) (by rfl) wq (.slice A1 p cp1) (acc.take p) (by rfl) (by (repeat with_reducible refine OX.drew ?_); first | exact HO1.out | (with_reducible refine OX.alloc ?_ _; (repeat with_reducible refine OX.drew ?_); exact HO1.out)) (some ⟨wq.heap.size, 0, none⟩) 1 1 [x] (by rfl) (NwX.ints (v := (.slice A1 p cp1)) (by (repeat with_reducible refine NwX.drewI ?_); exact HN1.out) HX.out) (by first | (simp; omega) | (have := List.length_take_le p acc; simp; omega)) (p + 1) (by simp; omega) ?_; intro A2 cp2 w2 ho hg hat; have HO2 := Lib.hid ho; have SX := Lib.hid (Keep.below HO2.out.bl _ _ HX0.out); clear ho hg hat)
                | (refine step_app_ints (by rfl) (.tmp 40) (.tmp 43) (by rfl) (by rfl) wq (.slice A2 (p + 1) cp2) (acc.take p ++ [x]) (by rfl) (by (repeat with_reducible refine OX.drew ?_); exact HO2.out) (if cap = p then some ⟨bo, oo, none⟩ else some ⟨bo, oo + p, none⟩) (acc.length - p) (cap - p) (acc.drop p) (by rfl) (HD.out.keep (Keep.below (by (repeat with_reducible refine Below.drew ?_); exact HO2.out.bl))) (by first | (simp; omega) | (have := List.length_take_le p acc; simp; omega)) (acc.length + 1) (by simp; omega) ?_; intro A3 cp3 w3 ho hg hat; rw [← HIN.out] at ho; have HO3 := Lib.hid ho; have SX := Lib.hid (Keep.below HO3.out.bl _ _ HX0.out); clear ho hg hat)))
              all_goals exact PutQ.mk _ (by simp only [frmL, Act.put, List.setIfInBounds_toArray, List.set_cons_zero, List.set_cons_succ]; rfl) ⟨_, _, _, _, _, _, _, _, _, _, _, _, _, _, A3, cp3, rfl, by first | exact HO3 | exact Lib.hid HO3.out.drew⟩
            rintro _ v ⟨x30, x31, x32, x33, x34, x35, x36, x37, x38, x39, x40, x41, x42, x43, A3, cp3, rfl, HF⟩
            simp only [frmL, Act.put, List.setIfInBounds_toArray, List.set_cons_zero, List.set_cons_succ]
            have HF2 := Lib.hid (HW.out.up HF.out)
            have HIL := Lib.hid (ins_len acc x)
            have HFI := Lib.hid (HF.out.own)
            obtain ⟨A3', o3, rfl, _⟩ : ∃ g o, A3 = some ⟨g, o, none⟩ ∧ True := by
              have h := HF.out
              rw [← ins_len acc x] at h
              obtain ⟨b, o, e, _⟩ := (h.ints (by rw [ins_len]; omega) (fun y hy => by
                rcases ins_mem hy with rfl | hy
                · exact HX.out
                · exact HSB.out y hy)).at_ (by rw [ins_len]; omega)
              exact ⟨b, o, e, trivial⟩
            clear HF HW HQI HT HD SX HX0 HFI
            go_wp2
            go_roundw
            case rel => exact ⟨acc.length + 1, A3', o3, cp3, by omega, by go_num, by rw [HNX.out, HIL.out], by rw [HNX.out]; exact HF2⟩
            case measure => simp [intOf]; omega
        · obtain rfl : k = plc acc x := by have := HPL.out; omega
          have HPE : Hid (plc acc x = acc.length) := Lib.hid (by have := HPL.out; omega)
          have hka1 : decide (plc acc x < acc.length) = false := decide_eq_false hka
          go_wp2
          go_quiet (fail)
          go_wp2
          have HIN := Lib.hid (show ins acc x = (acc.take (plc acc x) ++ [x]) ++ acc.drop (plc acc x) from rfl)
          have p1 := HPL.out
          have p2 : acc.length ≤ cap := HOI.out.cap
          clear hk hka hka1
          clear HPL HPE
          generalize plc acc x = p at *
          have p3 : (0 : Int) ≤ (p : Int) := by omega
          have p4 : (p : Int) ≤ (acc.length : Int) := by omega
          have p5 : (p : Int) ≤ (cap : Int) := by omega
          have p6 : (acc.length : Int) ≤ (cap : Int) := by omega
          have p7 : p ≤ cap := by omega
          have HW := Lib.hid (HO.out.qu (W' := wr.drewN nq) ⟨nq, rfl⟩)
          have HQI : Hid (Ints (wr.drewN nq) (some ⟨bo, oo, none⟩) acc.length cap acc) := Lib.hid (HOI.out.keep (Keep.quiet ⟨nq, rfl⟩))
          have HX0 := Lib.hid (show (wr.drewN nq).cell? ⟨bl, ol + acc.length, none⟩ = some (.int .i64 x) from cl)
          have h8 : acc.length ≤ 8 := by omega
          clear HO HOI HLI cl
          generalize wr.drewN nq = wq at *
          have HT := Lib.hid (HQI.out.takeI p1)
          have HD := Lib.hid (HQI.out.dropIf p1)
          have SX := HX0
          apply region_put [30, 31, 32, 33, 34, 35, 36, 37, 38, 39, 40, 41, 42, 43, 44, 3] (fun us v => ∃ (u30 u31 u32 u33 u34 u35 u36 u37 u38 u39 u40 u41 u42 u43 : Value) (A : Option Addr) (cp : Nat), us = [u30, u31, u32, u33, u34, u35, u36, u37, u38, u39, u40, u41, u42, u43, .slice A (acc.length + 1) cp, .slice A (acc.length + 1) cp] ∧ Hid (OX wq v (.slice A (acc.length + 1) cp) (ins acc x)))
          · go_region_held3 (fun W => W.cell? ⟨bl, ol + acc.length, none⟩ = some (.int .i64 x)) (first | exact SX.out | exact kd1 SX.out | exact kc1 SX.out | exact kd1 (kd1 SX.out) | exact kd1 (kc1 SX.out) | exact kc1 (kd1 SX.out) | exact kc1 (kc1 SX.out)) ((first
              | (refine step_app_ints (by rfl) (.tmp 30) (.tmp 33) (by rfl) (by rfl) wq (.slice (some ⟨wq.heap.size, 0, none⟩) 0 0) [] (by rfl) (by (repeat with_reducible refine OX.drew ?_); with_reducible refine OX.newAt ?_ (by simp); (repeat (first | with_reducible refine Below.drew ?_ | with_reducible refine below_al ?_ _)); exact Below.refl _ _) (some ⟨bo, oo, none⟩) p cap (acc.take p) (by rfl) ((HT.out).keep (Keep.below (by (repeat (first | with_reducible refine Below.drew ?_ | with_reducible refine below_al ?_ _)); exact Below.refl _ _))) (by first | (simp; omega) | (have := List.length_take_le p acc; simp; omega)) p (by simp; omega) ?_; intro A1 cp1 w1 ho hg hat; rw [List.nil_append] at ho; have HO1 := Lib.hid ho; have SX := Lib.hid (Keep.below HO1.out.bl _ _ HX0.out); clear ho hg hat)
              | (refine step_app_ints (by rfl) (.tmp 30) (.tmp 33) (by rfl) (by rfl) wq (.slice (some ⟨wq.heap.size, 0, none⟩) 0 0) [] (by rfl) (by (repeat with_reducible refine OX.drew ?_); with_reducible refine OX.alloc ?_ _; (repeat with_reducible refine OX.drew ?_); with_reducible refine OX.newAt ?_ (by simp); (repeat (first | with_reducible refine Below.drew ?_ | with_reducible refine below_al ?_ _)); exact Below.refl _ _) (some ⟨bo, oo, none⟩) p cap (acc.take p) (by rfl) ((HT.out).keep (Keep.below (by (repeat (first | with_reducible refine Below.drew ?_ | with_reducible refine below_al ?_ _)); exact Below.refl _ _))) (by first | (simp; omega) | (have := List.length_take_le p acc; simp; omega)) p (by simp; omega) ?_; intro A1 cp1 w1 ho hg hat; rw [List.nil_append] at ho; have HO1 := Lib.hid ho; have SX := Lib.hid (Keep.below HO1.out.bl _ _ HX0.out); have HN1 := Lib.hid (NwX.app (X := wq.heap.size + 1) (x := x) (by (repeat with_reducible refine NwX.drewI ?_); with_reducible refine NwX.at_ (w0 := wq) (xs := []) ?_ _ (by simp); (repeat with_reducible refine OX.drew ?_); with_reducible refine OX.newAt ?_ (by simp); (repeat (first | with_reducible refine Below.drew ?_ | with_reducible refine below_al ?_ _)); exact Below.refl _ _) hg hat); clear ho hg hat)
              | (refine step_app_ints (by rfl) (.tmp 30) (.tmp 33) (by rfl) (by rfl) wq (.slice (some ⟨wq.heap.size + 1, 0, none⟩) 0 0) [] (by rfl) (by (repeat with_reducible refine OX.drew ?_); with_reducible refine OX.newAt ?_ (by simp); (repeat (first | with_reducible refine Below.drew ?_ | with_reducible refine below_al ?_ _)); exact Below.refl _ _) (some ⟨bo, oo, none⟩) p cap (acc.take p) (by rfl) ((HT.out).keep (Keep.below (by (repeat (first | with_reducible refine Below.drew ?_ | with_reducible refine below_al ?_ _)); exact Below.refl _ _))) (by first | (simp; omega) | (have := List.length_take_le p acc; simp; omega)) p (by simp; omega) ?_; intro A1 cp1 w1 ho hg hat; rw [List.nil_append] at ho; have HO1 := Lib.hid ho; have SX := Lib.hid (Keep.below HO1.out.bl _ _ HX0.out); have HN1 := Lib.hid (NwX.app (X := wq.heap.size) (x := x) (by (repeat with_reducible refine NwX.drewI ?_); with_reducible refine NwX.ahead _ ?_ (by simp); first | exact blk_new _ _ _ | exact blk_quiet (blk_new _ _ _) ⟨1, rfl⟩) hg hat); clear ho hg hat)
              | (refine step_app_ints (by rfl) (.tmp 34) (.tmp 39) (by rfl) (by rfl) wq (.slice A1 p cp1) (acc.take p) (by rfl) (by (repeat with_reducible refine OX.drew ?_); first | exact HO1.out | (with_reducible refine OX.alloc ?_ _; (repeat with_reducible refine OX.drew ?_); exact HO1.out)) (some ⟨w1.heap.size, 0, none⟩) 1 1 [x] (by rfl) (NwX.ints (v := (.slice A1 p cp1)) (by (repeat with_reducible refine NwX.drewI ?_); with_reducible refine NwX.at_ (xs := acc.take p) (w0 := wq) ?_ _ rfl; (repeat with_reducible refine OX.drew ?_); exact HO1.out) HX.out) (by first | (simp; omega) | (have := List.length_take_le p acc; simp; omega)) (p + 1) (by simp; omega) ?_; intro A2 cp2 w2 ho hg hat; have HO2 := Lib.hid ho; have SX := Lib.hid (Keep.below HO2.out.bl _ _ HX0.out); clear ho hg hat)
              | (refine step_app_ints (by rfl) (.tmp 34) (.tmp 39) (by rfl) (by rfl) wq (.slice A1 p cp1) (acc.take p) (by rfl) (by (repeat with_reducible refine OX.drew ?_); first | exact HO1.out | (with_reducible refine OX.alloc ?_ _; (repeat with_reducible refine OX.drew ?_); exact HO1.out)) (some ⟨(wq.heap.size + 1), 0, none⟩) 1 1 [x] (by rfl) (NwX.ints (v := (.slice A1 p cp1)) (by (repeat with_reducible refine NwX.drewI ?_); exact HN1.out) HX.out) (by first | (simp; omega) | (have := List.length_take_le p acc; simp; omega)) (p + 1) (by simp; omega) ?_; intro A2 cp2 w2 ho hg hat; have HO2 := Lib.hid ho; have SX := Lib.hid (Keep.below HO2.out.bl _ _ HX0.out); clear ho hg hat)
              | (refine step_app_ints (by rfl) (.tmp 34) (.tmp 39) (by rfl) (by rfl) wq (.slice A1 p cp1) (acc.take p) (by rfl) (by (repeat with_reducible refine OX.drew ?_); first | exact HO1.out | (with_reducible refine OX.alloc ?_ _; (repeat with_reducible refine OX.drew ?_); exact HO1.out)) (some ⟨wq.heap.size, 0, none⟩) 1 1 [x] (by rfl) (NwX.ints (v := (.slice A1 p cp1)) (by (repeat with_reducible refine NwX.drewI ?_); exact HN1.out) HX.out) (by first | (simp; omega) | (have := List.length_take_le p acc; simp; omega)) (p + 1) (by simp; omega) ?_; intro A2 cp2 w2 ho hg hat; have HO2 := Lib.hid ho; have SX := Lib.hid (Keep.below HO2.out.bl _ _ HX0.out); clear ho hg hat)
              | (refine step_app_ints (by rfl) (.tmp 40) (.tmp 43) (by rfl) (by rfl) wq (.slice A2 (p + 1) cp2) (acc.take p ++ [x]) (by rfl) (by (repeat with_reducible refine OX.drew ?_); exact HO2.out) (if cap = p then some ⟨bo, oo, none⟩ else some ⟨bo, oo + p, none⟩) (acc.length - p) (cap - p) (acc.drop p) (by rfl) (HD.out.keep (Keep.below (by (repeat with_reducible refine Below.drew ?_); exact HO2.out.bl))) (by first | (simp; omega) | (have := List.length_take_le p acc; simp; omega)) (acc.length + 1) (by simp; omega) ?_; intro A3 cp3 w3 ho hg hat; rw [← HIN.out] at ho; have HO3 := Lib.hid ho; have SX := Lib.hid (Keep.below HO3.out.bl _ _ HX0.out); clear ho hg hat)))
            all_goals exact PutQ.mk _ (by simp only [frmL, Act.put, List.setIfInBounds_toArray, List.set_cons_zero, List.set_cons_succ]; rfl) ⟨_, _, _, _, _, _, _, _, _, _, _, _, _, _, A3, cp3, rfl, by first | exact HO3 | exact Lib.hid HO3.out.drew⟩
          rintro _ v ⟨x30, x31, x32, x33, x34, x35, x36, x37, x38, x39, x40, x41, x42, x43, A3, cp3, rfl, HF⟩
          simp only [frmL, Act.put, List.setIfInBounds_toArray, List.set_cons_zero, List.set_cons_succ]
          have HF2 := Lib.hid (HW.out.up HF.out)
          have HIL := Lib.hid (ins_len acc x)
          have HFI := Lib.hid (HF.out.own)
          obtain ⟨A3', o3, rfl, _⟩ : ∃ g o, A3 = some ⟨g, o, none⟩ ∧ True := by
            have h := HF.out
            rw [← ins_len acc x] at h
            obtain ⟨b, o, e, _⟩ := (h.ints (by rw [ins_len]; omega) (fun y hy => by
              rcases ins_mem hy with rfl | hy
              · exact HX.out
              · exact HSB.out y hy)).at_ (by rw [ins_len]; omega)
            exact ⟨b, o, e, trivial⟩
          clear HF HW HQI HT HD SX HX0 HFI
          go_wp2
          go_roundw
          case rel => exact ⟨acc.length + 1, A3', o3, cp3, by omega, by go_num, by rw [HNX.out, HIL.out], by rw [HNX.out]; exact HF2⟩
          case measure => simp [intOf]; omega
    · obtain rfl : i = n := by omega
      have HF : Hid (srt (xs.take i) = srt xs) := Lib.hid (by rw [← hl, List.take_length])
      rw [HF.out] at HO ⊢
      go_wp2
      go_ret
      obtain ⟨A, m, cc, g, e, hm, hI, _⟩ := (⟨HO.out.own, fun k hk => (HO.out.own.lt k hk).2⟩ : BldI w.heap.size wr.heap.size wr _ (srt xs)).owns (by rw [srt_len]; omega) (fun y hy => by have := HB.out y (srt_mem hy); omega)
      exact ⟨A, m, cc, g, congrArg Ending.returned e, hm, hI, HO.out.bl⟩
end Go.Proofs.Ytpchnoalamdhkaa

/- One thing less: plain: what is left of a row, the ways to it, and the sum of the chances. -/
namespace Go.Proofs.Ytpchnoalamdhkaa
open Go.RowKit

def szO (r : List Int) (i j : Nat) : Int := if j = i then gi r j - 1 else gi r j
/-- What is left of a row when one of the things of place i is taken. -/
def lfJ (r : List Int) (i : Nat) : Nat → List Int
  | 0 => []
  | j + 1 => if 0 < szO r i j then lfJ r i j ++ [szO r i j] else lfJ r i j
def lfO (r : List Int) (i : Nat) : List Int := lfJ r i r.length
/-- The ways to the parts. -/
def wyI (ps r : List Int) : Nat → Int
  | 0 => 0
  | i + 1 => if srt (lfO r i) = ps then wyI ps r i + gi r i else wyI ps r i
def oT (m : Nat) (ps : List Int) (f : Int) (r : List Int) : Int := uw (m + 1) r f * wyI ps r r.length
def oS (m : Nat) (ps : List Int) (f : Int) : Nat → Int
  | 0 => 0
  | k + 1 => oS m ps f k + oT m ps f (gr (pts 7 (m + 1) (m + 1)) k)
theorem wy_all : ((List.range 7).all fun m => decide (m = 0) || (pts 7 m m).all fun ps => (pts 7 (m + 1) (m + 1)).all fun r => (List.range 8).all fun i => decide (r.length < i) || (decide (0 ≤ wyI ps r i) && decide (wyI ps r i ≤ 7))) = true := by decide +kernel
theorem oS_all : ((List.range 7).all fun m => decide (m = 0) || (pts 7 m m).all fun ps => f6.all fun f => decide (oS m ps f (pts 7 (m + 1) (m + 1)).length * mkD f m = uw m ps f * (mkD f (m + 1) * ((m : Int) + 1))) &&
    decide (oS m ps f (pts 7 (m + 1) (m + 1)).length ≤ 200000000)) = true := by decide +kernel
structure OnF (m : Nat) (ps : List Int) (f : Int) : Prop where
  wy : ∀ k, k < (pts 7 (m + 1) (m + 1)).length → ∀ i, i ≤ (gr (pts 7 (m + 1) (m + 1)) k).length → 0 ≤ wyI ps (gr (pts 7 (m + 1) (m + 1)) k) i ∧ wyI ps (gr (pts 7 (m + 1) (m + 1)) k) i ≤ 7
  bd : ∀ k, k ≤ (pts 7 (m + 1) (m + 1)).length → 0 ≤ oS m ps f k ∧ oS m ps f k ≤ 200000000
  all : oS m ps f (pts 7 (m + 1) (m + 1)).length * mkD f m = uw m ps f * (mkD f (m + 1) * ((m : Int) + 1))
theorem on_facts {m : Nat} {ps : List Int} {f : Int} (h1 : 1 ≤ m) (h6 : m ≤ 6) (hm : ps ∈ pts 7 m m) (f1 : 1 ≤ f) (f6' : f ≤ 6) : OnF m ps f := by
  have a := wy_all
  have b := oS_all
  simp only [List.all_eq_true, List.mem_range, Bool.and_eq_true, Bool.or_eq_true, decide_eq_true_eq] at a b
  have a' := ((a m (by omega)).resolve_left (by omega)) ps hm
  have b' := ((b m (by omega)).resolve_left (by omega)) ps hm f (mem_f6 f1 f6')
  have wy : ∀ k, k < (pts 7 (m + 1) (m + 1)).length → ∀ i, i ≤ (gr (pts 7 (m + 1) (m + 1)) k).length → 0 ≤ wyI ps (gr (pts 7 (m + 1) (m + 1)) k) i ∧ wyI ps (gr (pts 7 (m + 1) (m + 1)) k) i ≤ 7 := by
    intro k hk i hi
    have hg := gr_mem hk
    have hl := (pts_bd0 7 (by omega) (m + 1) (by omega) (m + 1) (by omega)).2 _ hg
    exact ((a' _ hg) i (by omega)).resolve_left (by omega)
  have up : ∀ k, k < (pts 7 (m + 1) (m + 1)).length → oS m ps f k ≤ oS m ps f (k + 1) := fun k hk => by
    have h := (wy k hk _ (Nat.le_refl _)).1
    have u := (uw_bd (m := m + 1) (by omega) (gr_mem hk) f1 f6').1
    have : 0 ≤ oT m ps f (gr (pts 7 (m + 1) (m + 1)) k) := Int.mul_nonneg (by omega) h
    rw [oS]; omega
  have lo : ∀ k, k ≤ (pts 7 (m + 1) (m + 1)).length → 0 ≤ oS m ps f k := fun k => by
    induction k with
    | zero => intro _; exact Int.le_refl _
    | succ k ih => intro hk; have := ih (by omega); have := up k (by omega); omega
  have hi : ∀ d k, k + d = (pts 7 (m + 1) (m + 1)).length → oS m ps f k ≤ 200000000 := fun d => by
    induction d with
    | zero => intro k hk; obtain rfl : k = _ := by simpa using hk
              exact b'.2
    | succ d ih => intro k hk; have := ih (k + 1) (by omega); have := up k (by omega); omega
  exact ⟨wy, fun k hk => ⟨lo k hk, hi ((pts 7 (m + 1) (m + 1)).length - k) k (by omega)⟩, b'.1⟩
theorem szO_bd {r : List Int} (h : ∀ j, j < r.length → 1 ≤ gi r j ∧ gi r j ≤ 7) (i : Nat) {j : Nat} (hj : j < r.length) : 0 ≤ szO r i j ∧ szO r i j ≤ 7 := by
  have := h j hj
  unfold szO; split <;> omega
theorem lfI_bd {r : List Int} (h : ∀ j, j < r.length → 1 ≤ gi r j ∧ gi r j ≤ 7) (i : Nat) : ∀ j, j ≤ r.length → (lfJ r i j).length ≤ j ∧ ∀ x ∈ lfJ r i j, 0 ≤ x ∧ x ≤ 1000
  | 0, _ => ⟨Nat.le_refl _, fun x hx => by simp [lfJ] at hx⟩
  | j + 1, hj => by
    obtain ⟨h1, h2⟩ := lfI_bd h i j (by omega)
    have hb := szO_bd h i (j := j) (by omega)
    rw [lfJ]
    split
    · refine ⟨by simp; omega, fun x hx => ?_⟩
      rcases List.mem_append.1 hx with hx | hx
      · exact h2 x hx
      · simp at hx; subst hx; omega
    · exact ⟨by omega, h2⟩
end Go.Proofs.Ytpchnoalamdhkaa

/- One thing less: what is known while the sum is made. -/
namespace Go.Proofs.Ytpchnoalamdhkaa
open Go.RowKit

theorem eqI_of_eq {xs ys : List Int} (h : xs = ys) : eqI xs ys = true := by unfold eqI; exact decide_eq_true h
theorem eqI_of_ne {xs ys : List Int} (h : xs ≠ ys) : eqI xs ys = false := by unfold eqI; exact decide_eq_false h
/-- A list, the parts, the chance's box, and the sum's box behind the list. -/
structure TZ (w : World) (lo hi p r : Nat) (PU PD U D : Int) (B : Option Addr) (cp : Nat) (ps : List Int) (gg : Nat) (A : Option Addr) (n c : Nat) (list : List (List Int)) (W : World) : Prop where
  li : OwnR lo hi W gg A n c list
  b : Blk W r 39 #[.int .i64 U, .int .i64 D]
  x0 : W.cell? ⟨p, 0, none⟩ = some (.int .i64 PU)
  x1 : W.cell? ⟨p, 1, none⟩ = some (.int .i64 PD)
  ps_ : Ints W B ps.length cp ps
  hr : hi ≤ r
  hp : p ≠ r
  hx : ∀ g o, 0 < ps.length → B = some ⟨g, o, none⟩ → g ≠ r
  wr : w.heap.size ≤ r
  up : Below w.heap.size w W
theorem TZ.next {w lo hi p r PU PD U D B cp ps gg A n c list W W'} (h : TZ w lo hi p r PU PD U D B cp ps gg A n c list W) (k : Below W.heap.size W W') : TZ w lo hi p r PU PD U D B cp ps gg A n c list W' :=
  ⟨h.li.below k, blk_below h.b k, Keep.below k _ _ h.x0, Keep.below k _ _ h.x1, h.ps_.keep (Keep.below k), h.hr, h.hp, h.hx, h.wr, below_up h.up k⟩
theorem TZ.drew {w lo hi p r PU PD U D B cp ps gg A n c list W} (h : TZ w lo hi p r PU PD U D B cp ps gg A n c list W) : TZ w lo hi p r PU PD U D B cp ps gg A n c list W.drew := h.next (Quiet.below ⟨1, rfl⟩)
theorem TZ.set {w lo hi p r PU PD U D B cp ps gg A n c list W} (h : TZ w lo hi p r PU PD U D B cp ps gg A n c list W) (U' D' : Int) : TZ w lo hi p r PU PD U' D' B cp ps gg A n c list ((W.setCell ⟨r, 0, none⟩ (.int .i64 U')).setCell ⟨r, 1, none⟩ (.int .i64 D')) := by
  have h1 := h.hr
  have h2 := h.wr
  have h3 := h.hp
  have h4 := h.hx
  have hi := h.ps_
  exact ⟨h.li.of_blocks fun g _ hg _ => (Below.heap_setCell _ _ _ _ (by show g ≠ r; omega)).trans (Below.heap_setCell _ _ _ _ (by show g ≠ r; omega)), blk_set (blk_set h.b 0 (.int .i64 U')) 1 (.int .i64 D'),
    (cell_far h3).trans ((cell_far h3).trans h.x0), (cell_far h3).trans ((cell_far h3).trans h.x1),
    ⟨hi.len, hi.cap, hi.max, hi.wf, fun h0 => by
      obtain ⟨b, o, e, hc⟩ := hi.at_ h0
      exact ⟨b, o, e, fun k hk => (cell_far (h4 b o h0 e)).trans ((cell_far (h4 b o h0 e)).trans (hc k hk))⟩⟩,
    h1, h3, h4, h2, (h.up.setCell (p := ⟨r, 0, none⟩) h2 (.int .i64 U')).setCell (p := ⟨r, 1, none⟩) h2 (.int .i64 D')⟩
end Go.Proofs.Ytpchnoalamdhkaa

