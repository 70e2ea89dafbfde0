/- Texts merged: W6 Math12 K6 U1 U2 Pl1 K4 Math25 Ones. -/
import Derived.Test.YtfnpkfplmcgnbaaQ5
import Derived.Lib.AppendZerosOnto
import Derived.Lib.AppendZeros
/- Lists one behind the other; whether numbers have both signs: by the program. -/
namespace Go.Proofs.Ytfnpkfplmcgnbaa
open Go.RowKit Go.Lib

def Grown (n : Nat) (w : World) (e : Ending) (w' : World) : Prop :=
  ∃ G, n ≤ G ∧ e = .returned (.slice (some ⟨w.heap.size, 0, none⟩) 0 G) ∧ IU w (.slice (some ⟨w.heap.size, 0, none⟩) 0 G) [] w'
set_option maxRecDepth 100000 in
set_option maxHeartbeats 2000000 in
theorem Grow_any (n : Nat) (w : World) (h1 : 1 ≤ n) (hn : n ≤ 100) : Calls Try.prog 113 #[.slice none 0 0, .int .i64 n] w (Grown n w) := by
  obtain ⟨i0, hi0, hz0, hs0, hb0⟩ := info_parts Try.infoI
  have hr := run_append_grow_zeros (P := Try.prog) w 28 3 28 3 i0 (.int .i64 0) .i64 .i64 Try.underlying28 Try.underlying3 hi0 hz0 none 0 0 [] (run_firstCells_none w.drew i0.size 0 0 0) n (by omega) (by omega) (by omega) (by omega) (by rw [hb0]; omega) (growslice_fits (by omega) (by rw [hb0]; omega))
  rw [Nat.zero_add] at hr
  have hG1 := grownCap_ge w n 0 3
  have hG2 := grownCap_le_maxLen w n 0 3 (by unfold maxLen; omega)
  generalize grownCap w n 0 3 = G at *
  have HU : Hid (IU w (.slice (some ⟨w.heap.size, 0, none⟩) 0 G) [] (w.drew.alloc (.cells (([] : List Value).toArray ++ Builtin.zeroCells (Value.int .i64 0).cells n ++ Builtin.zeroCells (Value.int .i64 0).cells (G - n)) 3))) := Lib.hid (by
    refine ⟨⟨World.ownsRow_made (e := 3) (size := 1) w.drew _ G (Nat.le_refl _) hG2 ?_, fun k hk => ?_⟩, below_up ((Below.refl w.heap.size w).drew) (below_alloc w.drew _)⟩
    · simp [Builtin.zeroCells, Value.cells]; omega
    · simp [Value.ownBlock] at hk; simp; omega)
  have h2 : ¬ ((n : Int) < 0) := by omega
  have h3 : (0 : Int) < (n : Int) := by omega
  have HG1 := Lib.hid hG1
  unfold maxLen at hG2
  generalize w.drew.alloc (.cells (([] : List Value).toArray ++ Builtin.zeroCells (Value.int .i64 0).cells n ++ Builtin.zeroCells (Value.int .i64 0).cells (G - n)) 3) = W1 at *
  have HR := Lib.hid hr
  clear hr
  go_enter Try.func113, Try.ntmps113
  go_wp2_with (at_builtin; refine wpList_append_run _ rfl _ _ _ _ rfl _ _ rfl rfl _ _ HR.out ?_)
  go_ret
  exact ⟨G, HG1.out, rfl, HU.out⟩

/-- The first i lists, one behind the other. -/
def catL (xss : List (List Int)) : Nat → List Int
  | 0 => []
  | i + 1 => catL xss i ++ gr xss i
theorem catL_len (xss : List (List Int)) (h : ∀ p, p < xss.length → (gr xss p).length ≤ 3) : ∀ {i}, i ≤ xss.length → (catL xss i).length ≤ 3 * i
  | 0, _ => by simp [catL]
  | i + 1, hi => by
    have := catL_len xss h (i := i) (by omega)
    have := h i (by omega)
    rw [catL, List.length_append]; omega
theorem catL_bd {xss : List (List Int)} (h : ∀ p, p < xss.length → ∀ x ∈ gr xss p, -1000000 ≤ x ∧ x ≤ 1000000) : ∀ {i}, i ≤ xss.length → ∀ x ∈ catL xss i, -1000000 ≤ x ∧ x ≤ 1000000
  | 0, _, x, hx => by simp [catL] at hx
  | i + 1, hi, x, hx => by
    rcases List.mem_append.1 hx with hx | hx
    · exact catL_bd h (i := i) (by omega) x hx
    · exact h i (by omega) x hx

set_option maxRecDepth 100000 in
set_option maxHeartbeats 2000000 in
theorem Concat_any (A : Option Addr) (n c : Nat) (xss : List (List Int)) (w : World) (hx : IntRows w A n c xss) (hn : n ≤ 8) (hl : ∀ p, p < xss.length → (gr xss p).length ≤ 3) (hp0 : ∀ p, p < xss.length → 0 < (gr xss p).length) (hb : ∀ p, p < xss.length → ∀ x ∈ gr xss p, -1000000 ≤ x ∧ x ≤ 1000000) (h1 : 1 ≤ (catL xss n).length) :
    Calls Try.prog 112 #[.slice A n c] w (NewI w (catL xss n)) := by
  have HX := Lib.hid hx
  have HL := Lib.hid hl
  have HPP := Lib.hid hp0
  have LX := Lib.hid hx.len
  have HCL := Lib.hid (fun i (hi : i ≤ n) => catL_len xss hl (i := i) (by rw [LX.out]; exact hi))
  have HCB := Lib.hid (fun i (hi : i ≤ n) => catL_bd hb (i := i) (by rw [LX.out]; exact hi))
  have HZ : Hid ((catL xss 0).length = 0 ∧ catL xss 0 = []) := Lib.hid ⟨rfl, rfl⟩
  clear hx hl hb hp0
  go_enter Try.func112, Try.ntmps112
  go_wp2
  go_loop [3, 11] (fun s i => ∃ k : Nat, k ≤ n ∧ i = .int .i64 k ∧ s = .int .i64 (catL xss k).length) (fun _ i => n - (intOf i).toNat)
  case atStart => exact ⟨0, Nat.zero_le _, rfl, by rw [HZ.out.1]; rfl⟩
  case round =>
    obtain ⟨k, hk, rfl, rfl⟩ := hrel
    by_cases hlt : k < n
    · obtain ⟨b, o, rfl, hc⟩ := HX.out.at_ (by omega)
      obtain ⟨R, cc, c1, hR⟩ := hc k hlt
      have hb1 := HCL.out k hk
      have hb2 := HL.out k (by rw [LX.out]; exact hlt)
      have HS : Hid ((catL xss (k + 1)).length = (catL xss k).length + (gr xss k).length) := Lib.hid (by rw [catL, List.length_append])
      have hnn : ¬ (((catL xss k).length : Int) + ((gr xss k).length : Int) < 0) := by omega
      clear hc hR
      generalize (catL xss k).length = L at *
      generalize (gr xss k).length = M at *
      go_wp2
      go_round
      case rel => exact ⟨k + 1, by omega, by go_num, by rw [HS.out]; go_num⟩
      case measure => simp [intOf]; omega
    · obtain rfl : k = n := by omega
      have HG := Lib.hid (Grow_any (catL xss k).length w h1 (by have := HCL.out k (Nat.le_refl k); omega))
      go_wp2_with fail
      refine HG.out.mono ?_
      rintro e w1 ⟨G, hG, rfl, hu⟩
      have HU := Lib.hid hu
      clear hu hG HG
      rw [← HZ.out.2] at HU
      go_wp2
      go_loopw [6, 27] (fun v i wr => ∃ p : Nat, p ≤ k ∧ i = .int .i64 p ∧ Hid (IU w v (catL xss p) wr)) (fun _ i _ => k - (intOf i).toNat)
      case atStart => exact ⟨0, Nat.zero_le _, rfl, HU⟩
      case round =>
        clear HU
        obtain ⟨p, hp, rfl, HU⟩ := hrel
        obtain ⟨Av, cv, rfl⟩ := HU.out.bi.form
        by_cases hlp : p < k
        · obtain ⟨b, o, rfl, hc⟩ := HX.out.at_ (by omega)
          obtain ⟨R, cc, c1, hR⟩ := hc p hlp
          have d1 := Keep.below HU.out.up _ _ c1
          have HR := Lib.hid (hR.keep (Keep.below HU.out.up))
          have HML := Lib.hid (HCL.out p hp)
          have HRL := Lib.hid (HL.out p (by rw [LX.out]; exact hlp))
          have HS : Hid (catL xss (p + 1) = catL xss p ++ gr xss p) := Lib.hid rfl
          have HP0 := Lib.hid (HPP.out p (by rw [LX.out]; exact hlp))
          clear hc c1 hR
          generalize gr xss p = r at *
          generalize catL xss p = ys at *
          have HOW := Lib.hid (show wr.ownsRow w.heap.size 3 1 (.slice Av ys.length cv) ys.length (ys.map iv) from HU.out.bi.own)
          have hwz := HU.out.up.size
          obtain ⟨i0, hi0, hz0, hz1, hz2⟩ := info_parts Try.info_int
          · obtain ⟨b', o', rfl, hcr⟩ := HR.out.at_ HP0.out
            have HCR := Lib.hid hcr
            clear hcr
            go_wp2_with (at_builtin; refine wpList_append_own_at _ rfl _ _ 28 rfl w.heap.size 3 i0 (.int .i64 0) 1 8 Try.underlying28 hi0 hz0 hz1 hz2 rfl (by decide) _ ys.length (ys.map iv) rfl HOW.out ⟨b', o', none⟩ r.length cc (r.map iv) rfl ?c1 ?c2 ?c3 ?c4 ?c5 ?c6 ?_)
            case c1 => simp
            case c2 => have := news_take (j := r.length) rfl HCR.out; rw [List.take_length] at this; exact this
            case c3 => exact ones_map _
            case c4 => have := HML.out; have := HRL.out; unfold maxLen; omega
            case c5 => have := HML.out; have := HRL.out; omega
            case c6 => exact hwz
            intro v' w5 hown' hgrow _ _
            have HU5 := Lib.hid (HU.out.pushs hown' hgrow)
            clear HOW hown' hgrow HU d1 HR HCR
            go_wp2
            go_roundw
            case rel => exact ⟨p + 1, by omega, by go_num, Lib.hid (by rw [HS.out]; exact HU5.out)⟩
            case measure => simp [intOf]; omega
        · obtain rfl : p = k := by omega
          have HN := Lib.hid (HU.out.new (by have := HCL.out p (Nat.le_refl p); omega) (fun y hy => by have := HCB.out p (Nat.le_refl p) y hy; omega))
          go_wp2
          go_ret
          exact HN.out
/-- Whether one number is below 0, and another one above. -/
def bothB (xs : List Int) : Bool := decide (lst xs < 0) && decide (0 < mxl xs)
end Go.Proofs.Ytfnpkfplmcgnbaa

/- Signs of the sums of cofactors, as both programs ask for them. Plain. -/
namespace Go.Proofs.Ytfnpkfplmcgnbaa
open V (sumN detN rowC colC cofN minorN skip sgn Asc Kern)

theorem mn_le {xs : List Int} : ∀ {k j : Nat}, j ≤ k → mn xs k ≤ gi xs j
  | 0, j, h => by obtain rfl : j = 0 := by omega
                  exact Int.le_refl _
  | k + 1, j, h => by
    rw [mn]
    by_cases e : j = k + 1
    · subst e; omega
    · have := mn_le (xs := xs) (k := k) (j := j) (by omega); omega
theorem mn_mem {xs : List Int} : ∀ k, ∃ j, j ≤ k ∧ mn xs k = gi xs j
  | 0 => ⟨0, Nat.le_refl _, rfl⟩
  | k + 1 => by
    obtain ⟨j, hj, e⟩ := mn_mem (xs := xs) k
    rw [mn]
    by_cases h : mn xs k ≤ gi xs (k + 1)
    · exact ⟨j, by omega, by omega⟩
    · exact ⟨k + 1, Nat.le_refl _, by omega⟩
theorem bothB_false {xs : List Int} (h0 : 0 < xs.length) : bothB xs = false ↔ (∀ p, p < xs.length → 0 ≤ gi xs p) ∨ ∀ p, p < xs.length → gi xs p ≤ 0 := by
  unfold bothB lst mxl
  rw [Bool.and_eq_false_iff, decide_eq_false_iff_not, decide_eq_false_iff_not]
  constructor
  · rintro (h | h)
    · exact .inl fun p hp => by have := mn_le (xs := xs) (k := xs.length - 1) (j := p) (by omega); omega
    · exact .inr fun p hp => by have := mx_ge xs (k := xs.length - 1) (j := p) (by omega); omega
  · rintro (h | h)
    · obtain ⟨j, hj, e⟩ := mn_mem (xs := xs) (xs.length - 1)
      exact .inl (by have := h j (by omega); omega)
    · obtain ⟨j, hj, e⟩ := mx_at xs (xs.length - 1)
      exact .inr (by have := h j (by omega); omega)
theorem gi_app_l {xs ys : List Int} {p : Nat} (h : p < xs.length) : gi (xs ++ ys) p = gi xs p := by
  rw [gi_get h, gi_get (by simp; omega), List.getElem_append_left h]
theorem gi_app_r {xs ys : List Int} {p : Nat} (h : p < ys.length) : gi (xs ++ ys) (xs.length + p) = gi ys p := by
  rw [gi_get h, gi_get (by simp; omega), List.getElem_append_right (by omega)]; congr 1; omega
theorem sgn_app {xs ys : List Int} {P : Int → Prop} : (∀ p, p < (xs ++ ys).length → P (gi (xs ++ ys) p)) ↔ (∀ p, p < xs.length → P (gi xs p)) ∧ ∀ p, p < ys.length → P (gi ys p) := by
  rw [List.length_append]
  constructor
  · intro h
    exact ⟨fun p hp => by rw [← gi_app_l (ys := ys) hp]; exact h p (by omega), fun p hp => by rw [← gi_app_r (xs := xs) hp]; exact h _ (by omega)⟩
  · rintro ⟨h1, h2⟩ p hp
    by_cases e : p < xs.length
    · rw [gi_app_l e]; exact h1 p e
    · obtain ⟨q, rfl⟩ : ∃ q, p = xs.length + q := ⟨p - xs.length, by omega⟩
      rw [gi_app_r (by omega)]; exact h2 q (by omega)

theorem rowC_det0 {k : Nat} (h1 : 1 ≤ k) (hk : k ≤ 3) (f : Nat → Nat → Int) (h : ∀ p, p < k → rowC k f p = 0) : detN k f = 0 := by
  have : k = 1 ∨ k = 2 ∨ k = 3 := by omega
  rcases this with rfl | rfl | rfl
  · have := h 0 (by omega)
    simp [rowC, sumN, cofN, sgn, detN] at this
  · have a := h 0 (by omega)
    have b := h 1 (by omega)
    simp [rowC, sumN, cofN, sgn, detN, minorN, skip] at a b ⊢
    grind
  · have a := h 0 (by omega)
    have b := h 1 (by omega)
    have c := h 2 (by omega)
    obtain ⟨e0, e1, e2⟩ := V.rowC3 f
    have e : detN 3 f = rowC 3 f 0 * f 0 0 + rowC 3 f 1 * f 1 0 + rowC 3 f 2 * f 2 0 := by rw [V.det3, e0, e1, e2]; grind
    rw [e, a, b, c]; omega
theorem colC_det0 {k : Nat} (h1 : 1 ≤ k) (hk : k ≤ 3) (f : Nat → Nat → Int) (h : ∀ p, p < k → colC k f p = 0) : detN k f = 0 := by
  have : k = 1 ∨ k = 2 ∨ k = 3 := by omega
  rcases this with rfl | rfl | rfl
  · have := h 0 (by omega)
    simp [colC, sumN, cofN, sgn, detN] at this
  · have a := h 0 (by omega)
    have b := h 1 (by omega)
    simp [colC, sumN, cofN, sgn, detN, minorN, skip] at a b ⊢
    grind
  · have a := h 0 (by omega)
    have b := h 1 (by omega)
    have c := h 2 (by omega)
    obtain ⟨e0, e1, e2⟩ := V.colC3 f
    have e : detN 3 f = colC 3 f 0 * f 0 0 + colC 3 f 1 * f 0 1 + colC 3 f 2 * f 0 2 := by rw [V.det3, e0, e1, e2]; grind
    rw [e, a, b, c]; omega
theorem kXY_sum {a : List (List Int)} {k : Nat} (hk : k ≤ 3) (r s : Nat → Nat) : sumN (gi (kX a r s k)) k = sumN (gi (kY a r s k)) k := by
  rw [sumN_congr (f := gi (kX a r s k)) (g := rowC k (kf a r s)) fun p hp => by unfold kX; rw [gi_cofL hp],
    sumN_congr (f := gi (kY a r s k)) (g := colC k (kf a r s)) fun p hp => by unfold kY; rw [gi_cofL hp, rowC_tr hk]]
  exact sumN_swap (fun i j => cofN k (kf a r s) i j) k k
/-- The one test is the other two. -/
theorem sgn_ok {a : List (List Int)} {k : Nat} {r s : Nat → Nat} (h1 : 1 ≤ k) (hk : k ≤ 3) (hd : detN k (kf a r s) ≠ 0) : bothB (kX a r s k ++ kY a r s k) = false ↔ ClrP (kX a r s k) ∧ ClrP (kY a r s k) := by
  have lx := kX_len a r s k
  have ly := kY_len a r s k
  have nx : ∃ p, p < (kX a r s k).length ∧ gi (kX a r s k) p ≠ 0 := by
    apply Classical.byContradiction; intro hn
    exact hd (rowC_det0 h1 hk _ fun p hp => by
      have h : ¬ gi (kX a r s k) p ≠ 0 := fun e => hn ⟨p, by omega, e⟩
      unfold kX at h; rw [gi_cofL hp] at h; omega)
  have ny : ∃ p, p < (kY a r s k).length ∧ gi (kY a r s k) p ≠ 0 := by
    apply Classical.byContradiction; intro hn
    exact hd (colC_det0 h1 hk _ fun p hp => by
      have h : ¬ gi (kY a r s k) p ≠ 0 := fun e => hn ⟨p, by omega, e⟩
      unfold kY at h; rw [gi_cofL hp, rowC_tr hk] at h; omega)
  rw [bothB_false (by rw [List.length_append]; omega), sgn_app (P := fun x => 0 ≤ x), sgn_app (P := fun x => x ≤ 0)]
  constructor
  · rintro (⟨p, q⟩ | ⟨p, q⟩)
    · exact ⟨⟨nx, .inl p⟩, ny, .inl q⟩
    · exact ⟨⟨nx, .inr p⟩, ny, .inr q⟩
  · rintro ⟨⟨_, hx⟩, _, hy⟩
    have e := kXY_sum (a := a) hk r s
    have pos : ∀ X : List Int, X.length = k → (∃ p, p < X.length ∧ gi X p ≠ 0) → (∀ p, p < X.length → 0 ≤ gi X p) → 0 < sumN (gi X) k := fun X hl ⟨p, hp, hn⟩ h =>
      sumN_pos (fun i hi => h i (by omega)) ⟨p, by omega, by have := h p hp; omega⟩
    have neg : ∀ X : List Int, X.length = k → (∃ p, p < X.length ∧ gi X p ≠ 0) → (∀ p, p < X.length → gi X p ≤ 0) → sumN (gi X) k < 0 := fun X hl ⟨p, hp, hn⟩ h => by
      have := sumN_pos (f := fun i => (-1) * gi X i) (n := k) (fun i hi => by have := h i (by omega); omega) ⟨p, by omega, by have := h p hp; omega⟩
      rw [sumN_mul] at this; omega
    rcases hx with hx | hx <;> rcases hy with hy | hy
    · exact .inl ⟨hx, hy⟩
    · have := pos _ lx nx hx; have := neg _ ly ny hy; omega
    · have := neg _ lx nx hx; have := pos _ ly ny hy; omega
    · exact .inr ⟨hx, hy⟩
theorem catL_two (xs ys : List Int) : catL [xs, ys] 2 = xs ++ ys := by simp [catL, gr]
end Go.Proofs.Ytfnpkfplmcgnbaa

/- Fields, by both programs. -/
namespace Go.Proofs.Ytfnpkfplmcgnbaa
open Go.RowKit

/-- A square of numbers of at least 1. -/
structure VF (a : List (List Int)) : Prop where
  q : VQ a
  p : ∀ i j, i < a.length → j < a.length → 1 ≤ g2 a i j

set_option maxRecDepth 100000 in
set_option maxHeartbeats 1600000 in
theorem validField_any (A : Option Addr) (n c : Nat) (a : List (List Int)) (w : World) (hx : IntRows w A n c a) :
    Calls Try.prog 94 #[.slice A n c] w fun e w' => e = .returned (.bool (pb (VF a))) ∧ Quiet w w' := by
  have HX := Lib.hid hx
  have hl := hx.len
  clear hx
  by_cases hv : VQ a
  · have HC := Lib.hid (pb_true hv ▸ validSquare_any A n c a w HX.out)
    have hm : (gr a 0).length = n := by have := hv.2; omega
    have hn3 := hv.1.n3
    rw [hl] at hn3
    obtain ⟨b, o, rb, ro, cc, rfl, tab⟩ := HX.out.tab hv.1
    rw [hm] at tab
    have HT := Lib.hid tab
    have HV := Lib.hid hv
    have HL := Lib.hid hl
    clear tab hm hv hl
    go_enter Try.func94, Try.ntmps94
    go_wp2_with fail
    refine HC.out.mono ?_
    rintro e w1 ⟨rfl, hq⟩
    have HQ1 := Lib.hid hq
    clear hq HC
    go_wp2
    go_loopw [3] (fun i_ wr => ∃ i : Nat, i ≤ n ∧ i_ = .int .i64 i ∧ Hid (∀ k j, k < i → j < n → 1 ≤ g2 a k j) ∧ Hid (Quiet w wr)) (fun i_ _ => n - (intOf i_).toNat)
    case atStart => exact ⟨0, Nat.zero_le _, rfl, Lib.hid (fun _ _ h => absurd h (by omega)), HQ1⟩
    case round =>
      clear HQ1
      obtain ⟨i, hi, rfl, HALL, HQ⟩ := hrel
      by_cases hlt : i < n
      · go_wp2
        go_loopw [4] (fun j_ wi => ∃ j : Nat, j ≤ n ∧ j_ = .int .i64 j ∧ Hid (∀ l, l < j → 1 ≤ g2 a i l) ∧ Hid (Quiet w wi)) (fun j_ _ => n - (intOf j_).toNat)
        case atStart => exact ⟨0, Nat.zero_le _, rfl, Lib.hid (fun _ h => absurd h (by omega)), HQ⟩
        case round =>
          clear HQ
          obtain ⟨j, hj, rfl, HROW, HQ⟩ := hrel
          by_cases hjl : j < n
          · have c1 := Keep.quiet HQ.out _ _ (HT.out.row i hlt)
            have c2 := Keep.quiet HQ.out _ _ (HT.out.cell i j hlt hjl)
            by_cases hp : g2 a i j < 1
            · have HN := Lib.hid (pb_false (p := VF a) (fun h => by have := h.p i j (by rw [HL.out]; exact hlt) (by rw [HL.out]; exact hjl); omega))
              generalize g2 a i j = x at *
              go_wp2
              go_ret
              exact ⟨ret_bool HN.out.symm, HQ.out⟩
            · have HN := Lib.hid (show ∀ l, l < j + 1 → 1 ≤ g2 a i l from fun l hl => by
                by_cases e : l = j
                · subst e; omega
                · exact HROW.out l (by omega))
              generalize g2 a i j = x at *
              go_wp2
              go_roundw
              case rel => exact ⟨j + 1, by omega, by go_num, HN, HQ⟩
              case measure => simp [intOf]; omega
          · obtain rfl : j = n := by omega
            have HN := Lib.hid (show ∀ k l, k < i + 1 → l < j → 1 ≤ g2 a k l from fun k l hk hl => by
                by_cases e : k = i
                · subst e; exact HROW.out l hl
                · exact HALL.out k l (by omega) hl)
            go_wp2
            go_roundw
            case rel => exact ⟨i + 1, by omega, by go_num, HN, HQ⟩
            case measure => simp [intOf]; omega
      · obtain rfl : i = n := by omega
        have HN := Lib.hid (pb_true (p := VF a) ⟨HV.out, fun k j hk hj => HALL.out k j (by rw [← HL.out]; exact hk) (by rw [← HL.out]; exact hj)⟩)
        go_wp2
        go_ret
        exact ⟨ret_bool HN.out.symm, HQ.out⟩
  · have HC := Lib.hid (pb_false hv ▸ validSquare_any A n c a w HX.out)
    have HN := Lib.hid (pb_false (p := VF a) (fun h => hv h.q))
    clear hv hl
    go_enter Try.func94, Try.ntmps94
    go_wp2_with fail
    refine HC.out.mono ?_
    rintro e w1 ⟨rfl, hq⟩
    go_wp2
    go_ret
    exact ⟨ret_bool HN.out.symm, hq⟩
/-- All the numbers of some lists, one behind the other. -/
theorem catL_all {xss : List (List Int)} {z : Int} : ∀ {i}, i ≤ xss.length → ((∀ x ∈ catL xss i, z ≤ x) ↔ ∀ p, p < i → ∀ x ∈ gr xss p, z ≤ x)
  | 0, _ => ⟨fun _ p h => absurd h (by omega), fun _ x h => by simp [catL] at h⟩
  | i + 1, hi => by
    have ih := catL_all (xss := xss) (z := z) (i := i) (by omega)
    constructor
    · intro h p hp x hx
      by_cases e : p = i
      · subst e; exact h x (by rw [catL, List.mem_append]; exact .inr hx)
      · exact ih.1 (fun y hy => h y (by rw [catL, List.mem_append]; exact .inl hy)) p (by omega) x hx
    · intro h x hx
      rw [catL, List.mem_append] at hx
      rcases hx with hx | hx
      · exact ih.2 (fun p hp => h p (by omega)) x hx
      · exact h i (by omega) x hx
theorem mem_gi {xs : List Int} {x : Int} (h : x ∈ xs) : ∃ k, k < xs.length ∧ gi xs k = x := by
  obtain ⟨k, hk, rfl⟩ := List.mem_iff_getElem.1 h
  exact ⟨k, hk, gi_get hk⟩
theorem lst_all {xs : List Int} {z : Int} (h0 : 0 < xs.length) : z ≤ lst xs ↔ ∀ x ∈ xs, z ≤ x := by
  constructor
  · intro h x hx
    obtain ⟨k, hk, rfl⟩ := mem_gi hx
    have := mn_le (xs := xs) (k := xs.length - 1) (j := k) (by omega)
    unfold lst at h
    omega
  · intro h
    obtain ⟨j, hj, e⟩ := mn_mem (xs := xs) (xs.length - 1)
    unfold lst
    rw [e]
    exact h _ (gi_mem (by omega))
theorem field_least {a : List (List Int)} (v : VQ a) (h0 : 0 < (catL a a.length).length) : VF a ↔ 1 ≤ lst (catL a a.length) := by
  rw [lst_all h0, catL_all (Nat.le_refl _)]
  constructor
  · intro h p hp x hx
    obtain ⟨k, hk, rfl⟩ := mem_gi hx
    have := (v.1.rows p hp).1
    exact h.p p k hp (by have := v.2; omega)
  · intro h
    refine ⟨v, fun i j hi hj => h i hi _ (gi_mem ?_)⟩
    have := (v.1.rows i hi).1
    have := v.2
    omega
theorem VT.smallrows {a : List (List Int)} (v : VT a) : ∀ p, p < a.length → (gr a p).length ≤ 3 ∧ 0 < (gr a p).length ∧ ∀ x ∈ gr a p, -1000000 ≤ x ∧ x ≤ 1000000 := fun p hp => by
  have h := v.rows p hp
  have h1 := h.1
  have := v.m1
  have := v.m3
  refine ⟨by omega, by omega, fun x hx => ?_⟩
  obtain ⟨k, hk, rfl⟩ := mem_gi hx
  have := h.2 k hk
  unfold InR at this
  omega
theorem catL_pos {a : List (List Int)} (v : VT a) : 0 < (catL a a.length).length := by
  obtain ⟨l, hl⟩ : ∃ l, a.length = l + 1 := ⟨a.length - 1, by have := v.n1; omega⟩
  rw [hl, catL, List.length_append]
  have := (v.smallrows l (by omega)).2.1
  omega

set_option maxRecDepth 100000 in
set_option maxHeartbeats 1600000 in
theorem ValidField_impl (A : Option Addr) (n c : Nat) (a : List (List Int)) (w : World) (hx : IntRows w A n c a) :
    Calls Try.prog 107 #[.slice A n c] w (Ret (.bool (pb (VF a))) w) := by
  have HX := Lib.hid hx
  have hl := hx.len
  clear hx
  by_cases hv : VQ a
  · have HC := Lib.hid (pb_true hv ▸ ValidSquare_impl A n c a w HX.out)
    have hn3 := hv.1.n3
    rw [hl] at hn3
    have HSR := Lib.hid hv.1.smallrows
    have HPOS := Lib.hid (by have := catL_pos hv.1; rw [hl] at this; exact this)
    have HFL := Lib.hid (by have := field_least hv (catL_pos hv.1); rw [hl] at this; exact this)
    have HK := Lib.hid (fun W (k : Quiet w W) => Concat_any A n c a W (HX.out.keep (Keep.quiet k)) (by omega) (fun p hp => (HSR.out p hp).1) (fun p hp => (HSR.out p hp).2.1) (fun p hp => (HSR.out p hp).2.2) HPOS.out)
    clear hv hl
    generalize catL a n = ys at *
    have d1 : ∀ z : Int, (decide (1 ≤ z)) = decide (1 ≤ z) := fun _ => rfl
    clear d1
    go_enter Try.func107, Try.ntmps107
    go_wp2_with fail
    refine HC.out.mono ?_
    rintro e w1 ⟨rfl, hq⟩
    have HC2 := Lib.hid (HK.out w1 hq)
    have HB1 := Lib.hid (show Below w.heap.size w w1 from hq.below)
    clear hq HC HK
    go_wp2_with fail
    refine HC2.out.mono ?_
    rintro e w2 ⟨A2, n2, c2, g2_, rfl, hn2, ho, hb⟩
    have HB2 := Lib.hid (below_up HB1.out hb)
    have HI := Lib.hid ho.ints
    have hp2 : 0 < n2 := by rw [hn2]; exact HPOS.out
    clear hn2 ho hb HC2 HB1
    have HC := Lib.hid (Min_any A2 n2 c2 ys w2 HI.out hp2)
    by_cases hge : 1 ≤ lst ys
    · have HN := Lib.hid (pb_true (HFL.out.2 hge))
      generalize lst ys = z at *
      go_wp2_with fail
      refine HC.out.mono ?_
      rintro e w3 ⟨rfl, hq⟩
      have HB3 := Lib.hid (below_quiet HB2.out hq)
      clear hq HC HB2
      go_wp2
      go_ret
      exact ⟨ret_bool HN.out.symm, HB3.out⟩
    · have HN := Lib.hid (pb_false (fun h => hge (HFL.out.1 h)))
      have hd : decide (1 ≤ lst ys) = false := decide_eq_false hge
      generalize lst ys = z at *
      go_wp2_with fail
      refine HC.out.mono ?_
      rintro e w3 ⟨rfl, hq⟩
      have HB3 := Lib.hid (below_quiet HB2.out hq)
      clear hq HC HB2
      go_wp2
      go_ret
      exact ⟨ret_bool HN.out.symm, HB3.out⟩
  · have HC := Lib.hid (pb_false hv ▸ ValidSquare_impl A n c a w HX.out)
    have HN := Lib.hid (pb_false (p := VF a) (fun h => hv h.q))
    clear hv hl
    go_enter Try.func107, Try.ntmps107
    go_wp2_with fail
    refine HC.out.mono ?_
    rintro e w1 ⟨rfl, hq⟩
    go_wp2
    go_ret
    exact ⟨ret_bool HN.out.symm, hq.below⟩

end Go.Proofs.Ytfnpkfplmcgnbaa

/- Pairs and pays, by both programs. -/
namespace Go.Proofs.Ytfnpkfplmcgnbaa
open Go.RowKit

/-- A field of two strategies. -/
def VP (a : List (List Int)) : Prop := VF a ∧ a.length = 2
set_option maxHeartbeats 400000 in
theorem validPair_any (A : Option Addr) (n c : Nat) (a : List (List Int)) (w : World) (hx : IntRows w A n c a) :
    Calls Try.prog 56 #[.slice A n c] w fun e w' => e = .returned (.bool (pb (VP a))) ∧ Quiet w w' := by
  have hl := hx.len
  by_cases hv : VF a
  · have HC := Lib.hid (pb_true hv ▸ validField_any A n c a w hx)
    by_cases h2 : a.length = 2
    · rw [pb_true (p := VP a) ⟨hv, h2⟩]
      obtain rfl : n = 2 := by omega
      clear h2 hl hv hx
      go_enter Try.func56, Try.ntmps56
      go_wp2_with fail
      refine HC.out.mono ?_
      rintro e w1 ⟨rfl, hq⟩
      go_wp2
      go_ret
      exact ⟨rfl, hq⟩
    · rw [pb_false (p := VP a) (fun h => h2 h.2)]
      have hz : ((n : Int) == 2) = false := by rw [beq_eq_false_iff_ne]; omega
      clear h2 hl hv hx
      go_enter Try.func56, Try.ntmps56
      go_wp2_with fail
      refine HC.out.mono ?_
      rintro e w1 ⟨rfl, hq⟩
      go_wp2
      go_ret
      exact ⟨rfl, hq⟩
  · rw [pb_false (p := VP a) (fun h => hv h.1)]
    have HC := Lib.hid (pb_false hv ▸ validField_any A n c a w hx)
    clear hv hx hl
    go_enter Try.func56, Try.ntmps56
    go_wp2_with fail
    refine HC.out.mono ?_
    rintro e w1 ⟨rfl, hq⟩
    go_wp2
    go_ret
    exact ⟨rfl, hq⟩
set_option maxHeartbeats 400000 in
theorem ValidPair_impl (A : Option Addr) (n c : Nat) (a : List (List Int)) (w : World) (hx : IntRows w A n c a) :
    Calls Try.prog 91 #[.slice A n c] w (Ret (.bool (pb (VP a))) w) := by
  have hl := hx.len
  by_cases hv : VF a
  · have HC := Lib.hid (pb_true hv ▸ ValidField_impl A n c a w hx)
    by_cases h2 : a.length = 2
    · rw [pb_true (p := VP a) ⟨hv, h2⟩]
      obtain rfl : n = 2 := by omega
      clear h2 hl hv hx
      go_enter Try.func91, Try.ntmps91
      go_wp2_with fail
      refine HC.out.mono ?_
      rintro e w1 ⟨rfl, hb⟩
      go_wp2
      go_ret
      exact ⟨rfl, hb⟩
    · rw [pb_false (p := VP a) (fun h => h2 h.2)]
      have hz : ((n : Int) == 2) = false := by rw [beq_eq_false_iff_ne]; omega
      clear h2 hl hv hx
      go_enter Try.func91, Try.ntmps91
      go_wp2_with fail
      refine HC.out.mono ?_
      rintro e w1 ⟨rfl, hb⟩
      go_wp2
      go_ret
      exact ⟨rfl, hb⟩
  · rw [pb_false (p := VP a) (fun h => hv h.1)]
    have HC := Lib.hid (pb_false hv ▸ ValidField_impl A n c a w hx)
    clear hv hx hl
    go_enter Try.func91, Try.ntmps91
    go_wp2_with fail
    refine HC.out.mono ?_
    rintro e w1 ⟨rfl, hb⟩
    go_wp2
    go_ret
    exact ⟨rfl, hb⟩

/-- What a player of the one strategy, and of the other one, has among n of whom i play the first one. -/
def pfA (a : List (List Int)) (n i : Nat) : Int := g2 a 0 0 * ((i : Int) - 1) + g2 a 0 1 * ((n : Int) - (i : Int))
def pgA (a : List (List Int)) (n i : Nat) : Int := g2 a 1 0 * (i : Int) + g2 a 1 1 * ((n : Int) - (i : Int) - 1)
/-- Two strategies and a number of players. -/
structure CR (a : List (List Int)) (n : Nat) : Prop where
  p : VP a
  n2 : 2 ≤ n
  n6 : n ≤ 6
theorem VP.bd {a : List (List Int)} (h : VP a) {i j : Nat} (hi : i < 2) (hj : j < 2) : 1 ≤ g2 a i j ∧ g2 a i j ≤ 9 := by
  have h1 := h.1.q.1.bd (i := i) (j := j) (by have := h.2; omega) (by have := h.1.q.2; have := h.2; omega)
  have h2 := h.1.p i j (by have := h.2; omega) (by have := h.2; omega)
  omega
theorem mul9 {x y : Int} (hx : 1 ≤ x ∧ x ≤ 9) (hy : 0 ≤ y) : y ≤ x * y ∧ x * y ≤ 9 * y := by
  have h1 : 1 * y ≤ x * y := Int.mul_le_mul_of_nonneg_right hx.1 hy
  have h2 : x * y ≤ 9 * y := Int.mul_le_mul_of_nonneg_right hx.2 hy
  omega
theorem CR.pf {a n} (h : CR a n) {i : Nat} (h1 : 1 ≤ i) (hi : i < n) : 1 ≤ pfA a n i ∧ pfA a n i ≤ 45 := by
  have b1 := mul9 (h.p.bd (i := 0) (j := 0) (by omega) (by omega)) (y := (i : Int) - 1) (by omega)
  have b2 := mul9 (h.p.bd (i := 0) (j := 1) (by omega) (by omega)) (y := (n : Int) - (i : Int)) (by omega)
  have := h.n6
  unfold pfA
  omega
theorem CR.pg {a n} (h : CR a n) {i : Nat} (h1 : 1 ≤ i) (hi : i < n) : 1 ≤ pgA a n i ∧ pgA a n i ≤ 45 := by
  have b1 := mul9 (h.p.bd (i := 1) (j := 0) (by omega) (by omega)) (y := (i : Int)) (by omega)
  have b2 := mul9 (h.p.bd (i := 1) (j := 1) (by omega) (by omega)) (y := (n : Int) - (i : Int) - 1) (by omega)
  have := h.n6
  unfold pgA
  omega
theorem CR.fg {a n} (h : CR a n) : FG (pfA a n) (pgA a n) (n - 1) :=
  ⟨by have := h.n6; omega, fun j h1 hj => h.pf h1 (by have := h.n2; omega), fun j h1 hj => h.pg h1 (by have := h.n2; omega)⟩
theorem CR.tab {a n A k c w} (h : CR a n) (hx : IntRows w A k c a) : ∃ b o rb ro cc, A = some ⟨b, o, none⟩ ∧ k = 2 ∧ Tab w b o rb ro cc 2 2 a := by
  obtain ⟨b, o, rb, ro, cc, rfl, tab⟩ := hx.tab h.p.1.q.1
  have hl := hx.len
  have h2 := h.p.2
  have h3 := h.p.1.q.2
  obtain rfl : k = 2 := by omega
  rw [show (gr a 0).length = 2 by omega] at tab
  exact ⟨b, o, rb, ro, cc, rfl, rfl, tab⟩

set_option maxRecDepth 100000 in
set_option maxHeartbeats 1600000 in
theorem pays_any (a : List (List Int)) (n i b o c : Nat) (rb ro cc : Nat → Nat) (w : World) (h : CR a n) (ht : Tab w b o rb ro cc 2 2 a) (h1 : 1 ≤ i) (hi : i < n) :
    Calls Try.prog 64 #[.slice (some ⟨b, o, none⟩) 2 c, .int .i64 n, .int .i64 i] w fun e w' => e = .returned (.tuple #[.int .i64 (pfA a n i), .int .i64 (pgA a n i)]) ∧ Quiet w w' := by
  have r0 := ht.row 0 (by omega)
  have r1 := ht.row 1 (by omega)
  have c00 := ht.cell 0 0 (by omega) (by omega)
  have c01 := ht.cell 0 1 (by omega) (by omega)
  have c10 := ht.cell 1 0 (by omega) (by omega)
  have c11 := ht.cell 1 1 (by omega) (by omega)
  simp only [Nat.add_zero] at r0 c00 c10
  obtain ⟨p1, p2⟩ := mul9 (h.p.bd (i := 0) (j := 0) (by omega) (by omega)) (y := (i : Int) - 1) (by omega)
  obtain ⟨p3, p4⟩ := mul9 (h.p.bd (i := 0) (j := 1) (by omega) (by omega)) (y := (n : Int) - (i : Int)) (by omega)
  obtain ⟨p5, p6⟩ := mul9 (h.p.bd (i := 1) (j := 0) (by omega) (by omega)) (y := (i : Int)) (by omega)
  obtain ⟨p7, p8⟩ := mul9 (h.p.bd (i := 1) (j := 1) (by omega) (by omega)) (y := (n : Int) - (i : Int) - 1) (by omega)
  have hn6 := h.n6
  unfold pfA pgA
  clear h ht
  generalize g2 a 0 0 = x at *
  generalize g2 a 0 1 = y at *
  generalize g2 a 1 0 = z at *
  generalize g2 a 1 1 = t at *
  go_enter Try.func64, Try.ntmps64
  go_wp2
  go_region
  all_goals go_wp2
  all_goals go_ret2
  all_goals exact ⟨rfl, ⟨_, rfl⟩⟩
end Go.Proofs.Ytfnpkfplmcgnbaa

/- PaysAt by both programs. -/
namespace Go.Proofs.Ytfnpkfplmcgnbaa
open Go.RowKit

/-- A pair and a number of players. -/
def CQ (a : List (List Int)) (n : Int) : Prop := VP a ∧ InR n 2 6
theorem CQ.cr {a : List (List Int)} {n : Nat} (h : CQ a n) : CR a n := ⟨h.1, by have := h.2; unfold InR at this; omega, by have := h.2; unfold InR at this; omega⟩
theorem CR.cq {a : List (List Int)} {n : Nat} (h : CR a n) : CQ a n := ⟨h.p, by have := h.n2; have := h.n6; unfold InR; omega⟩
theorem CQ.nat {a : List (List Int)} {n : Int} (h : CQ a n) : ∃ k : Nat, n = k ∧ CR a k := by
  obtain ⟨k, rfl⟩ : ∃ k : Nat, n = k := ⟨n.toNat, by have := h.2; unfold InR at this; omega⟩
  exact ⟨k, rfl, h.cr⟩
/-- What PaysAt is asked of. -/
def PQ (a : List (List Int)) (n i : Int) : Prop := CQ a n ∧ InR i 1 (n - 1)
noncomputable def paU (a : List (List Int)) (n i : Int) : Int := if pb (PQ a n i) = true then pfA a n.toNat i.toNat else -1
noncomputable def paV (a : List (List Int)) (n i : Int) : Int := if pb (PQ a n i) = true then pgA a n.toNat i.toNat else -1
theorem pa_no {a : List (List Int)} {n i : Int} (h : ¬ PQ a n i) : paU a n i = -1 ∧ paV a n i = -1 := by
  unfold paU paV; rw [if_neg (by rw [pb_false h]; decide), if_neg (by rw [pb_false h]; decide)]; exact ⟨rfl, rfl⟩
theorem pa_yes {a : List (List Int)} {n i : Nat} (h : CR a n) (h1 : 1 ≤ i) (h2 : i < n) : paU a n i = pfA a n i ∧ paV a n i = pgA a n i := by
  have hp : PQ a n i := ⟨h.cq, by unfold InR; omega⟩
  unfold paU paV; rw [if_pos (pb_true hp), if_pos (pb_true hp), Int.toNat_natCast, Int.toNat_natCast]; exact ⟨rfl, rfl⟩
set_option maxRecDepth 100000 in
set_option maxHeartbeats 1600000 in
theorem PaysAt_spec (A : Option Addr) (l c : Nat) (a : List (List Int)) (n i : Int) (w : World) (hx : IntRows w A l c a) (_ : Fit n) (_ : Fit i) :
    Calls Try.prog 26 #[.slice A l c, .int .i64 n, .int .i64 i] w (Ret (.tuple #[.int .i64 (paU a n i), .int .i64 (paV a n i)]) w) := by
  have HX := Lib.hid hx
  clear hx
  by_cases hv : VP a
  · by_cases hn : InR n 2 6
    · obtain ⟨n, rfl, hcr⟩ := (show CQ a n from ⟨hv, hn⟩).nat
      have hn6 := hcr.n6
      have hn2 := hcr.n2
      have HN := Lib.hid (fun W => pb_true hn ▸ inRange_any n 2 6 W)
      have HV := Lib.hid (pb_true hv ▸ validPair_any A l c a w HX.out)
      by_cases hi : InR i 1 ((n : Int) - 1)
      · obtain ⟨i, rfl⟩ : ∃ k : Nat, i = k := ⟨i.toNat, by unfold InR at hi; omega⟩
        have h1 : 1 ≤ i := by unfold InR at hi; omega
        have h2 : i < n := by unfold InR at hi; omega
        rw [(pa_yes hcr h1 h2).1, (pa_yes hcr h1 h2).2]
        have HI := Lib.hid (fun W => pb_true hi ▸ inRange_any i 1 ((n : Int) - 1) W)
        obtain ⟨b, o, rb, ro, cc, rfl, rfl, tab⟩ := hcr.tab HX.out
        have HT := Lib.hid tab
        have HCR := Lib.hid hcr
        clear tab hcr hv hn hi
        go_enter Try.func26, Try.ntmps26
        go_wp2_with fail
        refine HV.out.mono ?_
        rintro e w1 ⟨rfl, hq⟩
        have K1 := Lib.hid (Keep.quiet hq)
        have Q1 := Lib.hid hq
        clear hq HV
        go_wp2_with fail
        refine (HN.out _).mono ?_
        rintro e w2 ⟨rfl, rfl⟩
        go_wp2_with fail
        refine (HI.out _).mono ?_
        rintro e w3 ⟨rfl, rfl⟩
        have HC := Lib.hid (pays_any a n i b o c rb ro cc w1 HCR.out (HT.out.keep K1.out) h1 h2)
        go_wp2_with fail
        refine HC.out.mono ?_
        rintro e w4 ⟨rfl, hq⟩
        have Q2 := Lib.hid (Q1.out.trans hq)
        clear hq HC Q1 K1
        generalize pfA a n i = x at *
        generalize pgA a n i = y at *
        go_wp2
        go_ret2
        exact ⟨rfl, Q2.out.below⟩
      · rw [(pa_no (fun h => hi h.2)).1, (pa_no (fun h => hi h.2)).2]
        have HI := Lib.hid (fun W => pb_false hi ▸ inRange_any i 1 ((n : Int) - 1) W)
        clear hcr hv hn hi
        go_enter Try.func26, Try.ntmps26
        go_wp2_with fail
        refine HV.out.mono ?_
        rintro e w1 ⟨rfl, hq⟩
        go_wp2_with fail
        refine (HN.out _).mono ?_
        rintro e w2 ⟨rfl, rfl⟩
        go_wp2_with fail
        refine (HI.out _).mono ?_
        rintro e w3 ⟨rfl, rfl⟩
        go_wp2
        go_ret2
        exact ⟨rfl, hq.below⟩
    · rw [(pa_no (fun h => hn h.1.2)).1, (pa_no (fun h => hn h.1.2)).2]
      have HN := Lib.hid (fun W => pb_false hn ▸ inRange_any n 2 6 W)
      have HV := Lib.hid (pb_true hv ▸ validPair_any A l c a w HX.out)
      clear hv hn
      go_enter Try.func26, Try.ntmps26
      go_wp2_with fail
      refine HV.out.mono ?_
      rintro e w1 ⟨rfl, hq⟩
      go_wp2_with fail
      refine (HN.out _).mono ?_
      rintro e w2 ⟨rfl, rfl⟩
      go_wp2
      go_ret2
      exact ⟨rfl, hq.below⟩
  · rw [(pa_no (fun h => hv h.1.1)).1, (pa_no (fun h => hv h.1.1)).2]
    have HV := Lib.hid (pb_false hv ▸ validPair_any A l c a w HX.out)
    clear hv
    go_enter Try.func26, Try.ntmps26
    go_wp2_with fail
    refine HV.out.mono ?_
    rintro e w1 ⟨rfl, hq⟩
    go_wp2
    go_ret2
    exact ⟨rfl, hq.below⟩
set_option maxHeartbeats 400000 in
theorem isCrowd_any (A : Option Addr) (l c : Nat) (a : List (List Int)) (n : Int) (w : World) (hx : IntRows w A l c a) (hf : Fit n) :
    Calls Try.prog 53 #[.slice A l c, .int .i64 n] w (Ret (.bool (pb (CQ a n))) w) := by
  obtain ⟨f1, f2⟩ := hf
  by_cases hv : VP a
  · have HV := Lib.hid (pb_true hv ▸ ValidPair_impl A l c a w hx)
    by_cases h2 : n < 2
    · rw [pb_false (p := CQ a n) (fun h => by have := h.2; unfold InR at this; omega)]
      have g2 : decide ((2 : Int) ≤ n) = false := decide_eq_false (by omega)
      clear hv
      go_enter Try.func53, Try.ntmps53
      go_wp2_with fail
      refine HV.out.mono ?_
      rintro e w1 ⟨rfl, hb⟩
      go_wp2
      go_ret
      exact ⟨rfl, hb⟩
    · have g2 : decide ((2 : Int) ≤ n) = true := decide_eq_true (by omega)
      by_cases h6 : n ≤ 6
      · rw [pb_true (p := CQ a n) ⟨hv, by unfold InR; omega⟩]
        have g6 : decide (n ≤ (6 : Int)) = true := decide_eq_true h6
        clear hv
        go_enter Try.func53, Try.ntmps53
        go_wp2_with fail
        refine HV.out.mono ?_
        rintro e w1 ⟨rfl, hb⟩
        go_wp2
        go_ret
        exact ⟨rfl, hb⟩
      · rw [pb_false (p := CQ a n) (fun h => by have := h.2; unfold InR at this; omega)]
        have g6 : decide (n ≤ (6 : Int)) = false := decide_eq_false h6
        clear hv
        go_enter Try.func53, Try.ntmps53
        go_wp2_with fail
        refine HV.out.mono ?_
        rintro e w1 ⟨rfl, hb⟩
        go_wp2
        go_ret
        exact ⟨rfl, hb⟩
  · rw [pb_false (p := CQ a n) (fun h => hv h.1)]
    have HV := Lib.hid (pb_false hv ▸ ValidPair_impl A l c a w hx)
    clear hv
    go_enter Try.func53, Try.ntmps53
    go_wp2_with fail
    refine HV.out.mono ?_
    rintro e w1 ⟨rfl, hb⟩
    go_wp2
    go_ret
    exact ⟨rfl, hb⟩
set_option maxRecDepth 100000 in
set_option maxHeartbeats 1600000 in
theorem paysAt_any (a : List (List Int)) (n i b o c : Nat) (rb ro cc : Nat → Nat) (w : World) (h : CR a n) (ht : Tab w b o rb ro cc 2 2 a) (h1 : 1 ≤ i) (hi : i < n) :
    Calls Try.prog 67 #[.slice (some ⟨b, o, none⟩) 2 c, .int .i64 n, .int .i64 i] w (Ret (.tuple #[.int .i64 (pfA a n i), .int .i64 (pgA a n i)]) w) := by
  have hn6 := h.n6
  have HD1 := Lib.hid (show dotr a [(i : Int) - 1, (n : Int) - (i : Int)] 0 2 = pfA a n i by simp [dotr, pfA, gi])
  have HD2 := Lib.hid (show dotr a [(i : Int), (n : Int) - (i : Int) - 1] 1 2 = pgA a n i by simp [dotr, pgA, gi])
  have HB1 := Lib.hid (show ∀ j, j < 2 → 0 ≤ gi [(i : Int) - 1, (n : Int) - (i : Int)] j ∧ gi [(i : Int) - 1, (n : Int) - (i : Int)] j ≤ 1000 from fun j hj => by
    have h : j = 0 ∨ j = 1 := by omega
    rcases h with rfl | rfl <;> simp [gi] <;> omega)
  have HB2 := Lib.hid (show ∀ j, j < 2 → 0 ≤ gi [(i : Int), (n : Int) - (i : Int) - 1] j ∧ gi [(i : Int), (n : Int) - (i : Int) - 1] j ≤ 1000 from fun j hj => by
    have h : j = 0 ∨ j = 1 := by omega
    rcases h with rfl | rfl <;> simp [gi] <;> omega)
  have HT := Lib.hid ht
  clear h ht
  have HA := Lib.hid (below_alloc w (.cells #[iv ((i : Int) - 1), iv ((n : Int) - (i : Int))] 3))
  have HI := Lib.hid (Ints.two w ((i : Int) - 1) ((n : Int) - (i : Int)))
  have HC := Lib.hid (payAgainst_any a [(i : Int) - 1, (n : Int) - (i : Int)] 2 b o c 2 rb ro cc _ _ (HT.out.keep (Keep.below HA.out)) HI.out HB1.out)
  go_enter Try.func67, Try.ntmps67
  go_wp2_with fail
  refine HC.out.mono ?_
  rintro e w1 ⟨pa, pw, rfl, hp, hb⟩
  have B1 := Lib.hid (below_up HA.out hb)
  have P1 := Lib.hid hp
  clear hp hb HC HI HA HB1
  have hb := below_alloc w1 (.cells #[iv (i : Int), iv ((n : Int) - (i : Int) - 1)] 3)
  have B2 := Lib.hid (below_up B1.out hb)
  have P2 := Lib.hid (P1.out.keep (Keep.below hb))
  have HI := Lib.hid (Ints.two w1 (i : Int) ((n : Int) - (i : Int) - 1))
  have HC := Lib.hid (payAgainst_any a [(i : Int), (n : Int) - (i : Int) - 1] 2 b o c 2 rb ro cc _ _ (HT.out.keep (Keep.below B2.out)) HI.out HB2.out)
  clear hb
  go_wp2_with fail
  refine HC.out.mono ?_
  rintro e w2 ⟨pc, pd, rfl, hp, hb⟩
  have B3 := Lib.hid (below_up B2.out hb)
  have P3 := Lib.hid (P2.out.keep (Keep.below hb))
  have R3 := Lib.hid hp
  clear hp hb HC HI HB2 P1 P2 B1 B2
  have HC := Lib.hid (HD1.out ▸ payAt_any a _ 2 pa pw b o c 2 rb ro cc _ w2 P3.out 0 (by omega))
  go_wp2_with fail
  refine HC.out.mono ?_
  rintro e w3 ⟨rfl, hb⟩
  have B4 := Lib.hid (below_up B3.out hb)
  have R4 := Lib.hid (R3.out.keep (Keep.below hb))
  clear hb HC P3 R3 B3
  have HC := Lib.hid (HD2.out ▸ payAt_any a _ 2 pc pd b o c 2 rb ro cc _ w3 R4.out 1 (by omega))
  go_wp2_with fail
  refine HC.out.mono ?_
  rintro e w4 ⟨rfl, hb⟩
  have B5 := Lib.hid (below_up B4.out hb)
  clear hb HC R4 B4
  go_wp2
  go_ret2
  exact ⟨rfl, B5.out⟩
set_option maxRecDepth 100000 in
set_option maxHeartbeats 1600000 in
theorem PaysAt_impl (A : Option Addr) (l c : Nat) (a : List (List Int)) (n i : Int) (w : World) (hx : IntRows w A l c a) (hn : Fit n) (hi : Fit i) :
    Calls Try.prog 25 #[.slice A l c, .int .i64 n, .int .i64 i] w (Ret (.tuple #[.int .i64 (paU a n i), .int .i64 (paV a n i)]) w) := by
  have HX := Lib.hid hx
  have HV := Lib.hid (isCrowd_any A l c a n w hx hn)
  obtain ⟨n1, n2⟩ := hn
  obtain ⟨i1, i2⟩ := hi
  clear hx
  by_cases hv : CQ a n
  · rw [pb_true hv] at HV
    by_cases h1 : i < 1
    · rw [(pa_no (fun h => by have := h.2; unfold InR at this; omega)).1, (pa_no (fun h => by have := h.2; unfold InR at this; omega)).2]
      have g1 : decide (i < 1) = true := decide_eq_true h1
      clear hv
      go_enter Try.func25, Try.ntmps25
      go_wp2_with fail
      refine HV.out.mono ?_
      rintro e w1 ⟨rfl, hb⟩
      go_wp2
      go_ret2
      exact ⟨rfl, hb⟩
    · have g1 : decide (i < 1) = false := decide_eq_false h1
      by_cases h2 : n ≤ i
      · rw [(pa_no (fun h => by have := h.2; unfold InR at this; omega)).1, (pa_no (fun h => by have := h.2; unfold InR at this; omega)).2]
        have g2 : decide (n ≤ i) = true := decide_eq_true h2
        clear hv
        go_enter Try.func25, Try.ntmps25
        go_wp2_with fail
        refine HV.out.mono ?_
        rintro e w1 ⟨rfl, hb⟩
        go_wp2
        go_ret2
        exact ⟨rfl, hb⟩
      · obtain ⟨n, rfl, hcr⟩ := hv.nat
        obtain ⟨i, rfl⟩ : ∃ k : Nat, i = k := ⟨i.toNat, by omega⟩
        have e1 : 1 ≤ i := by omega
        have e2 : i < n := by omega
        have g2 : decide ((n : Int) ≤ (i : Int)) = false := decide_eq_false h2
        rw [(pa_yes hcr e1 e2).1, (pa_yes hcr e1 e2).2]
        obtain ⟨b, o, rb, ro, cc, rfl, rfl, tab⟩ := hcr.tab HX.out
        have HT := Lib.hid tab
        have HCR := Lib.hid hcr
        clear tab hcr hv
        go_enter Try.func25, Try.ntmps25
        go_wp2_with fail
        refine HV.out.mono ?_
        rintro e w1 ⟨rfl, hb⟩
        have B1 := Lib.hid hb
        have HC := Lib.hid (paysAt_any a n i b o c rb ro cc w1 HCR.out (HT.out.keep (Keep.below hb)) e1 e2)
        clear hb HV
        go_wp2_with fail
        refine HC.out.mono ?_
        rintro e w2 ⟨rfl, hb⟩
        have B2 := Lib.hid (below_up B1.out hb)
        clear hb HC B1
        generalize pfA a n i = x at *
        generalize pgA a n i = y at *
        go_wp2
        go_ret2
        exact ⟨rfl, B2.out⟩
  · rw [(pa_no (fun h => hv h.1)).1, (pa_no (fun h => hv h.1)).2]
    rw [pb_false hv] at HV
    clear hv
    go_enter Try.func25, Try.ntmps25
    go_wp2_with fail
    refine HV.out.mono ?_
    rintro e w1 ⟨rfl, hb⟩
    go_wp2
    go_ret2
    exact ⟨rfl, hb⟩
end Go.Proofs.Ytfnpkfplmcgnbaa

/- Fractions of whole numbers; one alone is a share; the pure rests. Plain. -/
namespace Go.Proofs.Ytfnpkfplmcgnbaa

theorem fr_one (u : Int) : frU u 1 = u ∧ frD u 1 = 1 := by
  have g : gcdI u 1 = 1 := by unfold gcdI; simp
  unfold frU frD; rw [g]; simp
theorem frV_one (u : Int) : frV u 1 = .agg #[.int .i64 u, .int .i64 1] := by unfold frV; rw [(fr_one u).1, (fr_one u).2]
theorem onl_VS {n i : Nat} (hi : i < n) : VS (onl n i) n :=
  ⟨by rw [onl_len], fun j hj => by rw [onl_len] at hj; have := onl_bd (n := n) (i := i) hj; exact ⟨this.1, by omega⟩, by rw [tot_onl hi]; omega⟩
theorem rowRests_mem {a b : List (List Int)} {n m i : Nat} {r : List Int} : ∀ {j : Nat}, r ∈ rowRests a b n m i j ↔ ∃ l, l < j ∧ r = [(i : Int), (l : Int)] ∧ RestAt a b n m i l
  | 0 => by simp [rowRests]
  | j + 1 => by
    rw [rowRests, List.mem_append, rowRests_mem]
    constructor
    · rintro (⟨l, h1, h2⟩ | h)
      · exact ⟨l, by omega, h2⟩
      · split at h
        · rename_i hp
          simp only [List.mem_singleton] at h
          exact ⟨j, by omega, h, pb_iff.1 hp⟩
        · simp at h
    · rintro ⟨l, h1, h2, h3⟩
      by_cases e : l = j
      · subst e
        right
        rw [if_pos (pb_true h3), h2]; simp
      · exact .inl ⟨l, by omega, h2, h3⟩
theorem allRests_mem {a b : List (List Int)} {n m : Nat} {r : List Int} : ∀ {i : Nat}, r ∈ allRests a b n m i ↔ ∃ k l, k < i ∧ l < m ∧ r = [(k : Int), (l : Int)] ∧ RestAt a b n m k l
  | 0 => by simp [allRests]
  | i + 1 => by
    rw [allRests, List.mem_append, allRests_mem, rowRests_mem]
    constructor
    · rintro (⟨k, l, h1, h2⟩ | ⟨l, h2⟩)
      · exact ⟨k, l, by omega, h2⟩
      · exact ⟨i, l, by omega, h2⟩
    · rintro ⟨k, l, h1, h2⟩
      by_cases e : k = i
      · subst e; exact .inr ⟨l, h2⟩
      · exact .inl ⟨k, l, by omega, h2⟩
end Go.Proofs.Ytfnpkfplmcgnbaa

/- Rests, by both programs. -/
namespace Go.Proofs.Ytfnpkfplmcgnbaa
open Go.RowKit

/-- No strategy has more than one with a share. -/
def RestP (a : List (List Int)) (w : List Int) (n : Nat) : Prop := ∀ i, i < n → 0 < gi w i → ∀ k, k < n → dotr a w k n ≤ dotr a w i n
structure RQ (a : List (List Int)) (w : List Int) : Prop where
  q : VQ a
  s : VS w a.length
  r : RestP a w a.length


/-- The greatest of the first k values. -/
def mxd (f : Nat → Int) : Nat → Int
  | 0 => 0
  | k + 1 => if k = 0 ∨ mxd f k < f k then f k else mxd f k
theorem mxd_up {f : Nat → Int} {k : Nat} (h : k = 0 ∨ mxd f k < f k) : mxd f (k + 1) = f k := by rw [mxd, if_pos h]
theorem mxd_same {f : Nat → Int} {k : Nat} (h : ¬ (k = 0 ∨ mxd f k < f k)) : mxd f (k + 1) = mxd f k := by rw [mxd, if_neg h]
theorem mxd_ge (f : Nat → Int) : ∀ {k i}, i < k → f i ≤ mxd f k
  | 0, _, h => absurd h (by omega)
  | k + 1, i, h => by
    by_cases hu : k = 0 ∨ mxd f k < f k
    · rw [mxd_up hu]
      by_cases e : i = k
      · subst e; exact Int.le_refl _
      · have := mxd_ge f (k := k) (i := i) (by omega)
        omega
    · rw [mxd_same hu]
      by_cases e : i = k
      · subst e; omega
      · exact mxd_ge f (by omega)
theorem mxd_at (f : Nat → Int) : ∀ {k}, 0 < k → ∃ i, i < k ∧ mxd f k = f i
  | 0, h => absurd h (by omega)
  | k + 1, _ => by
    by_cases hu : k = 0 ∨ mxd f k < f k
    · exact ⟨k, by omega, mxd_up hu⟩
    · obtain ⟨i, hi, e⟩ := mxd_at f (k := k) (by omega)
      exact ⟨i, by omega, (mxd_same hu).trans e⟩
/-- At rest all that is there has the most. -/
theorem rest_most (a : List (List Int)) (w : List Int) (n : Nat) (hn : 0 < n) : RestP a w n ↔ ∀ i, i < n → 0 < gi w i → dotr a w i n = mxd (fun i => dotr a w i n) n := by
  constructor
  · intro h i hi hp
    obtain ⟨k, hk, e⟩ := mxd_at (fun i => dotr a w i n) hn
    have h1 := h i hi hp k hk
    have h2 := mxd_ge (fun i => dotr a w i n) hi
    have e' : mxd (fun i => dotr a w i n) n = dotr a w k n := e
    have h2' : dotr a w i n ≤ mxd (fun i => dotr a w i n) n := h2
    omega
  · intro h i hi hp k hk
    rw [h i hi hp]
    exact mxd_ge (fun i => dotr a w i n) hk
theorem mxd_bd {f : Nat → Int} {B : Int} (hB : 0 ≤ B) : ∀ {k}, (∀ i, i < k → -B ≤ f i ∧ f i ≤ B) → -B ≤ mxd f k ∧ mxd f k ≤ B
  | 0, _ => by simp only [mxd]; omega
  | k + 1, h => by
    by_cases hu : k = 0 ∨ mxd f k < f k
    · rw [mxd_up hu]; exact h k (by omega)
    · rw [mxd_same hu]; exact mxd_bd hB fun i hi => h i (by omega)

end Go.Proofs.Ytfnpkfplmcgnbaa

/- At rest no one has more than the mean, and each one with a share has it. Plain. -/
namespace Go.Proofs.Ytfnpkfplmcgnbaa

theorem payR_dot' (a : List (List Int)) (x y : List Int) (i : Nat) : ∀ j, payR a x y i j = gi x i * dotr a y i j
  | 0 => by simp [payR, dotr]
  | j + 1 => by
    rw [payR, dotr, payR_dot' a x y i j, Int.mul_add]
    congr 1
    grind
theorem payU_next (a : List (List Int)) (x y : List Int) (m k : Nat) : payU a x y m (k + 1) = payU a x y m k + gi x k * dotr a y k m := by
  rw [payU, payR_dot']
theorem payU_same {a : List (List Int)} {x : List Int} {n : Nat} {M : Int} : ∀ {k}, (∀ i, i < k → 0 ≤ gi x i) → (∀ i, i < k → 0 < gi x i → dotr a x i n = M) → payU a x x n k = M * sm x k
  | 0, _, _ => by simp [payU, sm]
  | k + 1, h0, h => by
    rw [payU_next, sm, payU_same (fun i hi => h0 i (by omega)) (fun i hi => h i (by omega)), Int.mul_add]
    congr 1
    by_cases e : 0 < gi x k
    · rw [h k (by omega) e, Int.mul_comm]
    · have : gi x k = 0 := by have := h0 k (by omega); omega
      rw [this]; simp
theorem sm_one {x : List Int} : ∀ {k}, (∀ j, j < k → 0 ≤ gi x j) → 0 < sm x k → ∃ j, j < k ∧ 0 < gi x j
  | 0, _, h => by simp [sm] at h
  | k + 1, h0, h => by
    by_cases e : 0 < gi x k
    · exact ⟨k, by omega, e⟩
    · rw [sm] at h
      obtain ⟨j, hj, hp⟩ := sm_one (k := k) (fun j hj => h0 j (by omega)) (by have := h0 k (by omega); omega)
      exact ⟨j, by omega, hp⟩
/-- Strategy i has no more than the mean, and has it if it has a share. -/
def MeanOk (a : List (List Int)) (x : List Int) (n : Nat) (i : Nat) : Prop := ¬ payU a x x n n < dotr a x i n * tot x ∧ (0 < gi x i → dotr a x i n * tot x = payU a x x n n)
theorem rest_mean {a : List (List Int)} {x : List Int} {n : Nat} (hx : VS x n) : RestP a x n ↔ ∀ i, i < n → MeanOk a x n i := by
  have hl : x.length = n := by have := hx.1; omega
  have h0 : ∀ j, j < n → 0 ≤ gi x j := fun j hj => (VS.bds hx j hj).1
  have ht : tot x = sm x n := by unfold tot; rw [hl]
  have hp : 0 < tot x := hx.2.2
  constructor
  · intro h
    obtain ⟨j, hj, hjp⟩ := sm_one h0 (by rw [← ht]; exact hp)
    have hP : payU a x x n n = dotr a x j n * tot x := by
      rw [ht]
      exact payU_same h0 fun i hi hip => by have := h i hi hip j hj; have := h j hj hjp i hi; omega
    intro i hi
    refine ⟨?_, fun hip => ?_⟩
    · rw [hP]
      have := Int.mul_le_mul_of_nonneg_right (h j hj hjp i hi) (Int.le_of_lt hp)
      omega
    · rw [hP]
      have e : dotr a x i n = dotr a x j n := by have := h i hi hip j hj; have := h j hj hjp i hi; omega
      rw [e]
  · intro h i hi hip k hk
    have h1 := (h i hi).2 hip
    have h2 := (h k hk).1
    rw [← h1] at h2
    exact Int.le_of_mul_le_mul_right (by omega) hp
/-- The fractions that the law compares. -/
theorem mean_frac {P d T : Int} (hT : 0 < T) : (lessB (frU P (T * T)) (frD P (T * T)) (frU d T) (frD d T) = decide (P < d * T)) ∧ ((frU d T = frU P (T * T) ∧ frD d T = frD P (T * T)) ↔ d * T = P) := by
  have hTT : 0 < T * T := Int.mul_pos hT hT
  have e1 : d * (T * T) = d * T * T := by rw [Int.mul_assoc]
  constructor
  · unfold lessB
    rw [decide_eq_decide, fr_lt hTT hT, e1]
    exact ⟨fun h => Int.lt_of_mul_lt_mul_right h (Int.le_of_lt hT), fun h => Int.mul_lt_mul_of_pos_right h hT⟩
  · constructor
    · rintro ⟨h1, h2⟩
      have k1 := fr_lt (u := d) (d := T) (v := P) (e := T * T) hT hTT
      have k2 := fr_lt (u := P) (d := T * T) (v := d) (e := T) hTT hT
      rw [h1, h2] at k1 k2
      have n1 : ¬ d * (T * T) < P * T := fun h => by have := k1.2 h; omega
      have n2 : ¬ P * T < d * (T * T) := fun h => by have := k2.2 h; omega
      rw [e1] at n1 n2
      exact Int.eq_of_mul_eq_mul_right (by omega) (show d * T * T = P * T by omega)
    · intro h
      exact fr_eq hT hTT (by rw [e1, h])
end Go.Proofs.Ytfnpkfplmcgnbaa

/- One block alone has turned: what is elsewhere stays; new lists whose block is known. -/
namespace Go.Proofs.Ytfnpkfplmcgnbaa
open Go.RowKit
theorem eqI_same (xs : List Int) : eqI xs xs = true := eqI_yes rfl fun _ _ => rfl
theorem OwnI.one {lo hi g w w' b A n c xs} (h : OwnI lo hi w b A n c xs) (k : One g w w') (hne : b ≠ g) : OwnI lo hi w' b A n c xs := h.of_block fun _ => k.block b hne
theorem One.below {S g : Nat} {a w w' : World} (h : Below S a w) (k : One g w w') (hg : S ≤ g) : Below S a w' := Touch.below h (k.touch (Nat.le_refl g) (Nat.lt_succ_self g)) hg
theorem NewI.ge {w w' : World} {ys : List Int} {e : Ending} (h : NewI w ys e w') :
    ∃ Av c gg, e = .returned (.slice Av ys.length c) ∧ OwnI w.heap.size w'.heap.size w' gg Av ys.length c ys ∧ w.heap.size ≤ gg ∧ Below w.heap.size w w' := by
  obtain ⟨Av, n, c, gg, rfl, rfl, ho, hb⟩ := h
  by_cases h0 : 0 < ys.length
  · obtain ⟨o, e, h1, h2, hf⟩ := ho.own h0
    exact ⟨Av, c, gg, rfl, ho, h1, hb⟩
  · exact ⟨Av, c, w.heap.size, rfl, ⟨ho.ints, fun hn => absurd hn h0⟩, Nat.le_refl _, hb⟩
end Go.Proofs.Ytfnpkfplmcgnbaa

