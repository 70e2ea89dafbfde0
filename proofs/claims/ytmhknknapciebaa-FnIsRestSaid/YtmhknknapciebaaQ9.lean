/- Texts merged: W6 Math12 K6 Pl1 Math19 Z2 Z3 K1 K4 Math25 K5 Math20 Z4 Mix Ones. -/
import Derived.Test.YtmhknknapciebaaQ8
import Derived.Lib.AppendZerosOnto
import Derived.Lib.AppendZeros
/- Lists one behind the other; whether numbers have both signs: by the program. -/
namespace Go.Proofs.Ytmhknknapciebaa
open Go.RowKit Go.Lib

def Grown (n : Nat) (w : World) (e : Ending) (w' : World) : Prop :=
  ∃ G, n ≤ G ∧ e = .returned (.slice (some ⟨w.heap.size, 0, none⟩) 0 G) ∧ IU w (.slice (some ⟨w.heap.size, 0, none⟩) 0 G) [] w'
set_option maxRecDepth 100000 in
set_option maxHeartbeats 2000000 in
theorem Grow_any (n : Nat) (w : World) (h1 : 1 ≤ n) (hn : n ≤ 100) : Calls Try.prog 100 #[.slice none 0 0, .int .i64 n] w (Grown n w) := by
  obtain ⟨i0, hi0, hz0, hs0, hb0⟩ := info_parts Try.infoI
  have hr := run_append_grow_zeros (P := Try.prog) w 23 3 23 3 i0 (.int .i64 0) .i64 .i64 Try.underlying23 Try.underlying3 hi0 hz0 none 0 0 [] (run_firstCells_none w.drew i0.size 0 0 0) n (by omega) (by omega) (by omega) (by omega) (by rw [hb0]; omega) (growslice_fits (by omega) (by rw [hb0]; omega))
  rw [Nat.zero_add] at hr
  have hG1 := grownCap_ge w n 0 3
  have hG2 := grownCap_le_maxLen w n 0 3 (by unfold maxLen; omega)
  generalize grownCap w n 0 3 = G at *
  have HU : Hid (IU w (.slice (some ⟨w.heap.size, 0, none⟩) 0 G) [] (w.drew.alloc (.cells (([] : List Value).toArray ++ Builtin.zeroCells (Value.int .i64 0).cells n ++ Builtin.zeroCells (Value.int .i64 0).cells (G - n)) 3))) := Lib.hid (by
    refine ⟨⟨World.ownsRow_made (e := 3) (size := 1) w.drew _ G (Nat.le_refl _) hG2 ?_, fun k hk => ?_⟩, below_up ((Below.refl w.heap.size w).drew) (below_alloc w.drew _)⟩
    · simp [Builtin.zeroCells, Value.cells]; omega
    · simp [Value.ownBlock] at hk; simp; omega)
  have h2 : ¬ ((n : Int) < 0) := by omega
  have h3 : (0 : Int) < (n : Int) := by omega
  have HG1 := Lib.hid hG1
  unfold maxLen at hG2
  generalize w.drew.alloc (.cells (([] : List Value).toArray ++ Builtin.zeroCells (Value.int .i64 0).cells n ++ Builtin.zeroCells (Value.int .i64 0).cells (G - n)) 3) = W1 at *
  have HR := Lib.hid hr
  clear hr
  go_enter Try.func100, Try.ntmps100
  go_wp2_with (at_builtin; refine wpList_append_run _ rfl _ _ _ _ rfl _ _ rfl rfl _ _ HR.out ?_)
  go_ret
  exact ⟨G, HG1.out, rfl, HU.out⟩

/-- The first i lists, one behind the other. -/
def catL (xss : List (List Int)) : Nat → List Int
  | 0 => []
  | i + 1 => catL xss i ++ gr xss i
theorem catL_len (xss : List (List Int)) (h : ∀ p, p < xss.length → (gr xss p).length ≤ 3) : ∀ {i}, i ≤ xss.length → (catL xss i).length ≤ 3 * i
  | 0, _ => by simp [catL]
  | i + 1, hi => by
    have := catL_len xss h (i := i) (by omega)
    have := h i (by omega)
    rw [catL, List.length_append]; omega
theorem catL_bd {xss : List (List Int)} (h : ∀ p, p < xss.length → ∀ x ∈ gr xss p, -1000000 ≤ x ∧ x ≤ 1000000) : ∀ {i}, i ≤ xss.length → ∀ x ∈ catL xss i, -1000000 ≤ x ∧ x ≤ 1000000
  | 0, _, x, hx => by simp [catL] at hx
  | i + 1, hi, x, hx => by
    rcases List.mem_append.1 hx with hx | hx
    · exact catL_bd h (i := i) (by omega) x hx
    · exact h i (by omega) x hx

set_option maxRecDepth 100000 in
set_option maxHeartbeats 2000000 in
theorem Concat_any (A : Option Addr) (n c : Nat) (xss : List (List Int)) (w : World) (hx : IntRows w A n c xss) (hn : n ≤ 8) (hl : ∀ p, p < xss.length → (gr xss p).length ≤ 3) (hp0 : ∀ p, p < xss.length → 0 < (gr xss p).length) (hb : ∀ p, p < xss.length → ∀ x ∈ gr xss p, -1000000 ≤ x ∧ x ≤ 1000000) (h1 : 1 ≤ (catL xss n).length) :
    Calls Try.prog 71 #[.slice A n c] w (NewI w (catL xss n)) := by
  have HX := Lib.hid hx
  have HL := Lib.hid hl
  have HPP := Lib.hid hp0
  have LX := Lib.hid hx.len
  have HCL := Lib.hid (fun i (hi : i ≤ n) => catL_len xss hl (i := i) (by rw [LX.out]; exact hi))
  have HCB := Lib.hid (fun i (hi : i ≤ n) => catL_bd hb (i := i) (by rw [LX.out]; exact hi))
  have HZ : Hid ((catL xss 0).length = 0 ∧ catL xss 0 = []) := Lib.hid ⟨rfl, rfl⟩
  clear hx hl hb hp0
  go_enter Try.func71, Try.ntmps71
  go_wp2
  go_loop [3, 11] (fun s i => ∃ k : Nat, k ≤ n ∧ i = .int .i64 k ∧ s = .int .i64 (catL xss k).length) (fun _ i => n - (intOf i).toNat)
  case atStart => exact ⟨0, Nat.zero_le _, rfl, by rw [HZ.out.1]; rfl⟩
  case round =>
    obtain ⟨k, hk, rfl, rfl⟩ := hrel
    by_cases hlt : k < n
    · obtain ⟨b, o, rfl, hc⟩ := HX.out.at_ (by omega)
      obtain ⟨R, cc, c1, hR⟩ := hc k hlt
      have hb1 := HCL.out k hk
      have hb2 := HL.out k (by rw [LX.out]; exact hlt)
      have HS : Hid ((catL xss (k + 1)).length = (catL xss k).length + (gr xss k).length) := Lib.hid (by rw [catL, List.length_append])
      have hnn : ¬ (((catL xss k).length : Int) + ((gr xss k).length : Int) < 0) := by omega
      clear hc hR
      generalize (catL xss k).length = L at *
      generalize (gr xss k).length = M at *
      go_wp2
      go_round
      case rel => exact ⟨k + 1, by omega, by go_num, by rw [HS.out]; go_num⟩
      case measure => simp [intOf]; omega
    · obtain rfl : k = n := by omega
      have HG := Lib.hid (Grow_any (catL xss k).length w h1 (by have := HCL.out k (Nat.le_refl k); omega))
      go_wp2_with fail
      refine HG.out.mono ?_
      rintro e w1 ⟨G, hG, rfl, hu⟩
      have HU := Lib.hid hu
      clear hu hG HG
      rw [← HZ.out.2] at HU
      go_wp2
      go_loopw [6, 27] (fun v i wr => ∃ p : Nat, p ≤ k ∧ i = .int .i64 p ∧ Hid (IU w v (catL xss p) wr)) (fun _ i _ => k - (intOf i).toNat)
      case atStart => exact ⟨0, Nat.zero_le _, rfl, HU⟩
      case round =>
        clear HU
        obtain ⟨p, hp, rfl, HU⟩ := hrel
        obtain ⟨Av, cv, rfl⟩ := HU.out.bi.form
        by_cases hlp : p < k
        · obtain ⟨b, o, rfl, hc⟩ := HX.out.at_ (by omega)
          obtain ⟨R, cc, c1, hR⟩ := hc p hlp
          have d1 := Keep.below HU.out.up _ _ c1
          have HR := Lib.hid (hR.keep (Keep.below HU.out.up))
          have HML := Lib.hid (HCL.out p hp)
          have HRL := Lib.hid (HL.out p (by rw [LX.out]; exact hlp))
          have HS : Hid (catL xss (p + 1) = catL xss p ++ gr xss p) := Lib.hid rfl
          have HP0 := Lib.hid (HPP.out p (by rw [LX.out]; exact hlp))
          clear hc c1 hR
          generalize gr xss p = r at *
          generalize catL xss p = ys at *
          have HOW := Lib.hid (show wr.ownsRow w.heap.size 3 1 (.slice Av ys.length cv) ys.length (ys.map iv) from HU.out.bi.own)
          have hwz := HU.out.up.size
          obtain ⟨i0, hi0, hz0, hz1, hz2⟩ := info_parts Try.info_int
          · obtain ⟨b', o', rfl, hcr⟩ := HR.out.at_ HP0.out
            have HCR := Lib.hid hcr
            clear hcr
            go_wp2_with (at_builtin; refine wpList_append_own_at _ rfl _ _ 23 rfl w.heap.size 3 i0 (.int .i64 0) 1 8 Try.underlying23 hi0 hz0 hz1 hz2 rfl (by decide) _ ys.length (ys.map iv) rfl HOW.out ⟨b', o', none⟩ r.length cc (r.map iv) rfl ?c1 ?c2 ?c3 ?c4 ?c5 ?c6 ?_)
            case c1 => simp
            case c2 => have := news_take (j := r.length) rfl HCR.out; rw [List.take_length] at this; exact this
            case c3 => exact ones_map _
            case c4 => have := HML.out; have := HRL.out; unfold maxLen; omega
            case c5 => have := HML.out; have := HRL.out; omega
            case c6 => exact hwz
            intro v' w5 hown' hgrow _ _
            have HU5 := Lib.hid (HU.out.pushs hown' hgrow)
            clear HOW hown' hgrow HU d1 HR HCR
            go_wp2
            go_roundw
            case rel => exact ⟨p + 1, by omega, by go_num, Lib.hid (by rw [HS.out]; exact HU5.out)⟩
            case measure => simp [intOf]; omega
        · obtain rfl : p = k := by omega
          have HN := Lib.hid (HU.out.new (by have := HCL.out p (Nat.le_refl p); omega) (fun y hy => by have := HCB.out p (Nat.le_refl p) y hy; omega))
          go_wp2
          go_ret
          exact HN.out
/-- Whether one number is below 0, and another one above. -/
def bothB (xs : List Int) : Bool := decide (lst xs < 0) && decide (0 < mxl xs)
set_option maxHeartbeats 1000000 in
theorem haveBothSigns_any (A : Option Addr) (n c : Nat) (xs : List Int) (w : World) (hx : Ints w A n c xs) (h0 : 0 < n) :
    Calls Try.prog 112 #[.slice A n c] w fun e w' => e = .returned (.bool (bothB xs)) ∧ Quiet w w' := by
  have HX := Lib.hid hx
  have HC := Lib.hid (Min_any A n c xs w hx h0)
  clear hx
  by_cases hm : lst xs < 0
  · have hd : decide (lst xs < 0) = true := by simpa using hm
    have HE : Hid (bothB xs = decide (0 < mxl xs)) := Lib.hid (by unfold bothB; rw [hd, Bool.true_and])
    generalize lst xs = L at *
    go_enter Try.func112, Try.ntmps112
    go_wp2_with fail
    refine HC.out.mono ?_
    rintro e w2 ⟨rfl, q, rfl⟩
    have HC2 := Lib.hid (Max_any A n c xs _ (HX.out.keep (Keep.drewN w q)) h0)
    clear HC
    by_cases hx : 0 < mxl xs
    · have hd2 : decide (0 < mxl xs) = true := by simpa using hx
      rw [hd2] at HE
      generalize mxl xs = M at *
      go_wp2_with fail
      refine HC2.out.mono ?_
      rintro e w3 ⟨rfl, q2, rfl⟩
      go_wp2
      go_ret
      exact ⟨ret_bool HE.out.symm, ⟨_, rfl⟩⟩
    · have hd2 : decide (0 < mxl xs) = false := by simpa using hx
      rw [hd2] at HE
      generalize mxl xs = M at *
      go_wp2_with fail
      refine HC2.out.mono ?_
      rintro e w3 ⟨rfl, q2, rfl⟩
      go_wp2
      go_ret
      exact ⟨ret_bool HE.out.symm, ⟨_, rfl⟩⟩
  · have hd : decide (lst xs < 0) = false := by simpa using hm
    have HE : Hid (bothB xs = false) := Lib.hid (by unfold bothB; rw [hd, Bool.false_and])
    generalize lst xs = L at *
    go_enter Try.func112, Try.ntmps112
    go_wp2_with fail
    refine HC.out.mono ?_
    rintro e w2 ⟨rfl, q, rfl⟩
    clear HC
    go_wp2
    go_ret
    exact ⟨ret_bool HE.out.symm, ⟨_, rfl⟩⟩
end Go.Proofs.Ytmhknknapciebaa

/- Signs of the sums of cofactors, as both programs ask for them. Plain. -/
namespace Go.Proofs.Ytmhknknapciebaa
open V (sumN detN rowC colC cofN minorN skip sgn Asc Kern)

theorem mn_le {xs : List Int} : ∀ {k j : Nat}, j ≤ k → mn xs k ≤ gi xs j
  | 0, j, h => by obtain rfl : j = 0 := by omega
                  exact Int.le_refl _
  | k + 1, j, h => by
    rw [mn]
    by_cases e : j = k + 1
    · subst e; omega
    · have := mn_le (xs := xs) (k := k) (j := j) (by omega); omega
theorem mn_mem {xs : List Int} : ∀ k, ∃ j, j ≤ k ∧ mn xs k = gi xs j
  | 0 => ⟨0, Nat.le_refl _, rfl⟩
  | k + 1 => by
    obtain ⟨j, hj, e⟩ := mn_mem (xs := xs) k
    rw [mn]
    by_cases h : mn xs k ≤ gi xs (k + 1)
    · exact ⟨j, by omega, by omega⟩
    · exact ⟨k + 1, Nat.le_refl _, by omega⟩
theorem bothB_false {xs : List Int} (h0 : 0 < xs.length) : bothB xs = false ↔ (∀ p, p < xs.length → 0 ≤ gi xs p) ∨ ∀ p, p < xs.length → gi xs p ≤ 0 := by
  unfold bothB lst mxl
  rw [Bool.and_eq_false_iff, decide_eq_false_iff_not, decide_eq_false_iff_not]
  constructor
  · rintro (h | h)
    · exact .inl fun p hp => by have := mn_le (xs := xs) (k := xs.length - 1) (j := p) (by omega); omega
    · exact .inr fun p hp => by have := mx_ge xs (k := xs.length - 1) (j := p) (by omega); omega
  · rintro (h | h)
    · obtain ⟨j, hj, e⟩ := mn_mem (xs := xs) (xs.length - 1)
      exact .inl (by have := h j (by omega); omega)
    · obtain ⟨j, hj, e⟩ := mx_at xs (xs.length - 1)
      exact .inr (by have := h j (by omega); omega)
theorem gi_app_l {xs ys : List Int} {p : Nat} (h : p < xs.length) : gi (xs ++ ys) p = gi xs p := by
  rw [gi_get h, gi_get (by simp; omega), List.getElem_append_left h]
theorem gi_app_r {xs ys : List Int} {p : Nat} (h : p < ys.length) : gi (xs ++ ys) (xs.length + p) = gi ys p := by
  rw [gi_get h, gi_get (by simp; omega), List.getElem_append_right (by omega)]; congr 1; omega
theorem sgn_app {xs ys : List Int} {P : Int → Prop} : (∀ p, p < (xs ++ ys).length → P (gi (xs ++ ys) p)) ↔ (∀ p, p < xs.length → P (gi xs p)) ∧ ∀ p, p < ys.length → P (gi ys p) := by
  rw [List.length_append]
  constructor
  · intro h
    exact ⟨fun p hp => by rw [← gi_app_l (ys := ys) hp]; exact h p (by omega), fun p hp => by rw [← gi_app_r (xs := xs) hp]; exact h _ (by omega)⟩
  · rintro ⟨h1, h2⟩ p hp
    by_cases e : p < xs.length
    · rw [gi_app_l e]; exact h1 p e
    · obtain ⟨q, rfl⟩ : ∃ q, p = xs.length + q := ⟨p - xs.length, by omega⟩
      rw [gi_app_r (by omega)]; exact h2 q (by omega)

theorem rowC_det0 {k : Nat} (h1 : 1 ≤ k) (hk : k ≤ 3) (f : Nat → Nat → Int) (h : ∀ p, p < k → rowC k f p = 0) : detN k f = 0 := by
  have : k = 1 ∨ k = 2 ∨ k = 3 := by omega
  rcases this with rfl | rfl | rfl
  · have := h 0 (by omega)
    simp [rowC, sumN, cofN, sgn, detN] at this
  · have a := h 0 (by omega)
    have b := h 1 (by omega)
    simp [rowC, sumN, cofN, sgn, detN, minorN, skip] at a b ⊢
    grind
  · have a := h 0 (by omega)
    have b := h 1 (by omega)
    have c := h 2 (by omega)
    obtain ⟨e0, e1, e2⟩ := V.rowC3 f
    have e : detN 3 f = rowC 3 f 0 * f 0 0 + rowC 3 f 1 * f 1 0 + rowC 3 f 2 * f 2 0 := by rw [V.det3, e0, e1, e2]; grind
    rw [e, a, b, c]; omega
theorem colC_det0 {k : Nat} (h1 : 1 ≤ k) (hk : k ≤ 3) (f : Nat → Nat → Int) (h : ∀ p, p < k → colC k f p = 0) : detN k f = 0 := by
  have : k = 1 ∨ k = 2 ∨ k = 3 := by omega
  rcases this with rfl | rfl | rfl
  · have := h 0 (by omega)
    simp [colC, sumN, cofN, sgn, detN] at this
  · have a := h 0 (by omega)
    have b := h 1 (by omega)
    simp [colC, sumN, cofN, sgn, detN, minorN, skip] at a b ⊢
    grind
  · have a := h 0 (by omega)
    have b := h 1 (by omega)
    have c := h 2 (by omega)
    obtain ⟨e0, e1, e2⟩ := V.colC3 f
    have e : detN 3 f = colC 3 f 0 * f 0 0 + colC 3 f 1 * f 0 1 + colC 3 f 2 * f 0 2 := by rw [V.det3, e0, e1, e2]; grind
    rw [e, a, b, c]; omega
theorem kXY_sum {a : List (List Int)} {k : Nat} (hk : k ≤ 3) (r s : Nat → Nat) : sumN (gi (kX a r s k)) k = sumN (gi (kY a r s k)) k := by
  rw [sumN_congr (f := gi (kX a r s k)) (g := rowC k (kf a r s)) fun p hp => by unfold kX; rw [gi_cofL hp],
    sumN_congr (f := gi (kY a r s k)) (g := colC k (kf a r s)) fun p hp => by unfold kY; rw [gi_cofL hp, rowC_tr hk]]
  exact sumN_swap (fun i j => cofN k (kf a r s) i j) k k
/-- The one test is the other two. -/
theorem sgn_ok {a : List (List Int)} {k : Nat} {r s : Nat → Nat} (h1 : 1 ≤ k) (hk : k ≤ 3) (hd : detN k (kf a r s) ≠ 0) : bothB (kX a r s k ++ kY a r s k) = false ↔ ClrP (kX a r s k) ∧ ClrP (kY a r s k) := by
  have lx := kX_len a r s k
  have ly := kY_len a r s k
  have nx : ∃ p, p < (kX a r s k).length ∧ gi (kX a r s k) p ≠ 0 := by
    apply Classical.byContradiction; intro hn
    exact hd (rowC_det0 h1 hk _ fun p hp => by
      have h : ¬ gi (kX a r s k) p ≠ 0 := fun e => hn ⟨p, by omega, e⟩
      unfold kX at h; rw [gi_cofL hp] at h; omega)
  have ny : ∃ p, p < (kY a r s k).length ∧ gi (kY a r s k) p ≠ 0 := by
    apply Classical.byContradiction; intro hn
    exact hd (colC_det0 h1 hk _ fun p hp => by
      have h : ¬ gi (kY a r s k) p ≠ 0 := fun e => hn ⟨p, by omega, e⟩
      unfold kY at h; rw [gi_cofL hp, rowC_tr hk] at h; omega)
  rw [bothB_false (by rw [List.length_append]; omega), sgn_app (P := fun x => 0 ≤ x), sgn_app (P := fun x => x ≤ 0)]
  constructor
  · rintro (⟨p, q⟩ | ⟨p, q⟩)
    · exact ⟨⟨nx, .inl p⟩, ny, .inl q⟩
    · exact ⟨⟨nx, .inr p⟩, ny, .inr q⟩
  · rintro ⟨⟨_, hx⟩, _, hy⟩
    have e := kXY_sum (a := a) hk r s
    have pos : ∀ X : List Int, X.length = k → (∃ p, p < X.length ∧ gi X p ≠ 0) → (∀ p, p < X.length → 0 ≤ gi X p) → 0 < sumN (gi X) k := fun X hl ⟨p, hp, hn⟩ h =>
      sumN_pos (fun i hi => h i (by omega)) ⟨p, by omega, by have := h p hp; omega⟩
    have neg : ∀ X : List Int, X.length = k → (∃ p, p < X.length ∧ gi X p ≠ 0) → (∀ p, p < X.length → gi X p ≤ 0) → sumN (gi X) k < 0 := fun X hl ⟨p, hp, hn⟩ h => by
      have := sumN_pos (f := fun i => (-1) * gi X i) (n := k) (fun i hi => by have := h i (by omega); omega) ⟨p, by omega, by have := h p hp; omega⟩
      rw [sumN_mul] at this; omega
    rcases hx with hx | hx <;> rcases hy with hy | hy
    · exact .inl ⟨hx, hy⟩
    · have := pos _ lx nx hx; have := neg _ ly ny hy; omega
    · have := neg _ lx nx hx; have := pos _ ly ny hy; omega
    · exact .inr ⟨hx, hy⟩
theorem catL_two (xs ys : List Int) : catL [xs, ys] 2 = xs ++ ys := by simp [catL, gr]
end Go.Proofs.Ytmhknknapciebaa

/- Fields, by both programs. -/
namespace Go.Proofs.Ytmhknknapciebaa
open Go.RowKit

/-- A square of numbers of at least 1. -/
structure VF (a : List (List Int)) : Prop where
  q : VQ a
  p : ∀ i j, i < a.length → j < a.length → 1 ≤ g2 a i j

set_option maxRecDepth 100000 in
set_option maxHeartbeats 1600000 in
theorem validField_any (A : Option Addr) (n c : Nat) (a : List (List Int)) (w : World) (hx : IntRows w A n c a) :
    Calls Try.prog 72 #[.slice A n c] w fun e w' => e = .returned (.bool (pb (VF a))) ∧ Quiet w w' := by
  have HX := Lib.hid hx
  have hl := hx.len
  clear hx
  by_cases hv : VQ a
  · have HC := Lib.hid (pb_true hv ▸ validSquare_any A n c a w HX.out)
    have hm : (gr a 0).length = n := by have := hv.2; omega
    have hn3 := hv.1.n3
    rw [hl] at hn3
    obtain ⟨b, o, rb, ro, cc, rfl, tab⟩ := HX.out.tab hv.1
    rw [hm] at tab
    have HT := Lib.hid tab
    have HV := Lib.hid hv
    have HL := Lib.hid hl
    clear tab hm hv hl
    go_enter Try.func72, Try.ntmps72
    go_wp2_with fail
    refine HC.out.mono ?_
    rintro e w1 ⟨rfl, hq⟩
    have HQ1 := Lib.hid hq
    clear hq HC
    go_wp2
    go_loopw [3] (fun i_ wr => ∃ i : Nat, i ≤ n ∧ i_ = .int .i64 i ∧ Hid (∀ k j, k < i → j < n → 1 ≤ g2 a k j) ∧ Hid (Quiet w wr)) (fun i_ _ => n - (intOf i_).toNat)
    case atStart => exact ⟨0, Nat.zero_le _, rfl, Lib.hid (fun _ _ h => absurd h (by omega)), HQ1⟩
    case round =>
      clear HQ1
      obtain ⟨i, hi, rfl, HALL, HQ⟩ := hrel
      by_cases hlt : i < n
      · go_wp2
        go_loopw [4] (fun j_ wi => ∃ j : Nat, j ≤ n ∧ j_ = .int .i64 j ∧ Hid (∀ l, l < j → 1 ≤ g2 a i l) ∧ Hid (Quiet w wi)) (fun j_ _ => n - (intOf j_).toNat)
        case atStart => exact ⟨0, Nat.zero_le _, rfl, Lib.hid (fun _ h => absurd h (by omega)), HQ⟩
        case round =>
          clear HQ
          obtain ⟨j, hj, rfl, HROW, HQ⟩ := hrel
          by_cases hjl : j < n
          · have c1 := Keep.quiet HQ.out _ _ (HT.out.row i hlt)
            have c2 := Keep.quiet HQ.out _ _ (HT.out.cell i j hlt hjl)
            by_cases hp : g2 a i j < 1
            · have HN := Lib.hid (pb_false (p := VF a) (fun h => by have := h.p i j (by rw [HL.out]; exact hlt) (by rw [HL.out]; exact hjl); omega))
              generalize g2 a i j = x at *
              go_wp2
              go_ret
              exact ⟨ret_bool HN.out.symm, HQ.out⟩
            · have HN := Lib.hid (show ∀ l, l < j + 1 → 1 ≤ g2 a i l from fun l hl => by
                by_cases e : l = j
                · subst e; omega
                · exact HROW.out l (by omega))
              generalize g2 a i j = x at *
              go_wp2
              go_roundw
              case rel => exact ⟨j + 1, by omega, by go_num, HN, HQ⟩
              case measure => simp [intOf]; omega
          · obtain rfl : j = n := by omega
            have HN := Lib.hid (show ∀ k l, k < i + 1 → l < j → 1 ≤ g2 a k l from fun k l hk hl => by
                by_cases e : k = i
                · subst e; exact HROW.out l hl
                · exact HALL.out k l (by omega) hl)
            go_wp2
            go_roundw
            case rel => exact ⟨i + 1, by omega, by go_num, HN, HQ⟩
            case measure => simp [intOf]; omega
      · obtain rfl : i = n := by omega
        have HN := Lib.hid (pb_true (p := VF a) ⟨HV.out, fun k j hk hj => HALL.out k j (by rw [← HL.out]; exact hk) (by rw [← HL.out]; exact hj)⟩)
        go_wp2
        go_ret
        exact ⟨ret_bool HN.out.symm, HQ.out⟩
  · have HC := Lib.hid (pb_false hv ▸ validSquare_any A n c a w HX.out)
    have HN := Lib.hid (pb_false (p := VF a) (fun h => hv h.q))
    clear hv hl
    go_enter Try.func72, Try.ntmps72
    go_wp2_with fail
    refine HC.out.mono ?_
    rintro e w1 ⟨rfl, hq⟩
    go_wp2
    go_ret
    exact ⟨ret_bool HN.out.symm, hq⟩
theorem ValidField_spec (A : Option Addr) (n c : Nat) (a : List (List Int)) (w : World) (hx : IntRows w A n c a) :
    Calls Try.prog 31 #[.slice A n c] w (Ret (.bool (pb (VF a))) w) := by
  go_enter Try.func31, Try.ntmps31
  go_wp2_with fail
  refine (validField_any A n c a w hx).mono ?_
  rintro e w1 ⟨rfl, hq⟩
  go_wp2
  go_ret
  exact ⟨rfl, hq.below⟩

/-- All the numbers of some lists, one behind the other. -/
theorem catL_all {xss : List (List Int)} {z : Int} : ∀ {i}, i ≤ xss.length → ((∀ x ∈ catL xss i, z ≤ x) ↔ ∀ p, p < i → ∀ x ∈ gr xss p, z ≤ x)
  | 0, _ => ⟨fun _ p h => absurd h (by omega), fun _ x h => by simp [catL] at h⟩
  | i + 1, hi => by
    have ih := catL_all (xss := xss) (z := z) (i := i) (by omega)
    constructor
    · intro h p hp x hx
      by_cases e : p = i
      · subst e; exact h x (by rw [catL, List.mem_append]; exact .inr hx)
      · exact ih.1 (fun y hy => h y (by rw [catL, List.mem_append]; exact .inl hy)) p (by omega) x hx
    · intro h x hx
      rw [catL, List.mem_append] at hx
      rcases hx with hx | hx
      · exact ih.2 (fun p hp => h p (by omega)) x hx
      · exact h i (by omega) x hx
theorem mem_gi {xs : List Int} {x : Int} (h : x ∈ xs) : ∃ k, k < xs.length ∧ gi xs k = x := by
  obtain ⟨k, hk, rfl⟩ := List.mem_iff_getElem.1 h
  exact ⟨k, hk, gi_get hk⟩
theorem lst_all {xs : List Int} {z : Int} (h0 : 0 < xs.length) : z ≤ lst xs ↔ ∀ x ∈ xs, z ≤ x := by
  constructor
  · intro h x hx
    obtain ⟨k, hk, rfl⟩ := mem_gi hx
    have := mn_le (xs := xs) (k := xs.length - 1) (j := k) (by omega)
    unfold lst at h
    omega
  · intro h
    obtain ⟨j, hj, e⟩ := mn_mem (xs := xs) (xs.length - 1)
    unfold lst
    rw [e]
    exact h _ (gi_mem (by omega))
theorem field_least {a : List (List Int)} (v : VQ a) (h0 : 0 < (catL a a.length).length) : VF a ↔ 1 ≤ lst (catL a a.length) := by
  rw [lst_all h0, catL_all (Nat.le_refl _)]
  constructor
  · intro h p hp x hx
    obtain ⟨k, hk, rfl⟩ := mem_gi hx
    have := (v.1.rows p hp).1
    exact h.p p k hp (by have := v.2; omega)
  · intro h
    refine ⟨v, fun i j hi hj => h i hi _ (gi_mem ?_)⟩
    have := (v.1.rows i hi).1
    have := v.2
    omega
theorem VT.smallrows {a : List (List Int)} (v : VT a) : ∀ p, p < a.length → (gr a p).length ≤ 3 ∧ 0 < (gr a p).length ∧ ∀ x ∈ gr a p, -1000000 ≤ x ∧ x ≤ 1000000 := fun p hp => by
  have h := v.rows p hp
  have h1 := h.1
  have := v.m1
  have := v.m3
  refine ⟨by omega, by omega, fun x hx => ?_⟩
  obtain ⟨k, hk, rfl⟩ := mem_gi hx
  have := h.2 k hk
  unfold InR at this
  omega
theorem catL_pos {a : List (List Int)} (v : VT a) : 0 < (catL a a.length).length := by
  obtain ⟨l, hl⟩ : ∃ l, a.length = l + 1 := ⟨a.length - 1, by have := v.n1; omega⟩
  rw [hl, catL, List.length_append]
  have := (v.smallrows l (by omega)).2.1
  omega

set_option maxRecDepth 100000 in
set_option maxHeartbeats 1600000 in
theorem ValidField_impl (A : Option Addr) (n c : Nat) (a : List (List Int)) (w : World) (hx : IntRows w A n c a) :
    Calls Try.prog 30 #[.slice A n c] w (Ret (.bool (pb (VF a))) w) := by
  have HX := Lib.hid hx
  have hl := hx.len
  clear hx
  by_cases hv : VQ a
  · have HC := Lib.hid (pb_true hv ▸ ValidSquare_impl A n c a w HX.out)
    have hn3 := hv.1.n3
    rw [hl] at hn3
    have HSR := Lib.hid hv.1.smallrows
    have HPOS := Lib.hid (by have := catL_pos hv.1; rw [hl] at this; exact this)
    have HFL := Lib.hid (by have := field_least hv (catL_pos hv.1); rw [hl] at this; exact this)
    have HK := Lib.hid (fun W (k : Quiet w W) => Concat_any A n c a W (HX.out.keep (Keep.quiet k)) (by omega) (fun p hp => (HSR.out p hp).1) (fun p hp => (HSR.out p hp).2.1) (fun p hp => (HSR.out p hp).2.2) HPOS.out)
    clear hv hl
    generalize catL a n = ys at *
    have d1 : ∀ z : Int, (decide (1 ≤ z)) = decide (1 ≤ z) := fun _ => rfl
    clear d1
    go_enter Try.func30, Try.ntmps30
    go_wp2_with fail
    refine HC.out.mono ?_
    rintro e w1 ⟨rfl, hq⟩
    have HC2 := Lib.hid (HK.out w1 hq)
    have HB1 := Lib.hid (show Below w.heap.size w w1 from hq.below)
    clear hq HC HK
    go_wp2_with fail
    refine HC2.out.mono ?_
    rintro e w2 ⟨A2, n2, c2, g2_, rfl, hn2, ho, hb⟩
    have HB2 := Lib.hid (below_up HB1.out hb)
    have HI := Lib.hid ho.ints
    have hp2 : 0 < n2 := by rw [hn2]; exact HPOS.out
    clear hn2 ho hb HC2 HB1
    have HC := Lib.hid (Min_any A2 n2 c2 ys w2 HI.out hp2)
    by_cases hge : 1 ≤ lst ys
    · have HN := Lib.hid (pb_true (HFL.out.2 hge))
      generalize lst ys = z at *
      go_wp2_with fail
      refine HC.out.mono ?_
      rintro e w3 ⟨rfl, hq⟩
      have HB3 := Lib.hid (below_quiet HB2.out hq)
      clear hq HC HB2
      go_wp2
      go_ret
      exact ⟨ret_bool HN.out.symm, HB3.out⟩
    · have HN := Lib.hid (pb_false (fun h => hge (HFL.out.1 h)))
      have hd : decide (1 ≤ lst ys) = false := decide_eq_false hge
      generalize lst ys = z at *
      go_wp2_with fail
      refine HC.out.mono ?_
      rintro e w3 ⟨rfl, hq⟩
      have HB3 := Lib.hid (below_quiet HB2.out hq)
      clear hq HC HB2
      go_wp2
      go_ret
      exact ⟨ret_bool HN.out.symm, HB3.out⟩
  · have HC := Lib.hid (pb_false hv ▸ ValidSquare_impl A n c a w HX.out)
    have HN := Lib.hid (pb_false (p := VF a) (fun h => hv h.q))
    clear hv hl
    go_enter Try.func30, Try.ntmps30
    go_wp2_with fail
    refine HC.out.mono ?_
    rintro e w1 ⟨rfl, hq⟩
    go_wp2
    go_ret
    exact ⟨ret_bool HN.out.symm, hq.below⟩

end Go.Proofs.Ytmhknknapciebaa

/- Fractions of whole numbers; one alone is a share; the pure rests. Plain. -/
namespace Go.Proofs.Ytmhknknapciebaa

theorem fr_one (u : Int) : frU u 1 = u ∧ frD u 1 = 1 := by
  have g : gcdI u 1 = 1 := by unfold gcdI; simp
  unfold frU frD; rw [g]; simp
theorem frV_one (u : Int) : frV u 1 = .agg #[.int .i64 u, .int .i64 1] := by unfold frV; rw [(fr_one u).1, (fr_one u).2]
theorem onl_VS {n i : Nat} (hi : i < n) : VS (onl n i) n :=
  ⟨by rw [onl_len], fun j hj => by rw [onl_len] at hj; have := onl_bd (n := n) (i := i) hj; exact ⟨this.1, by omega⟩, by rw [tot_onl hi]; omega⟩
theorem rowRests_mem {a b : List (List Int)} {n m i : Nat} {r : List Int} : ∀ {j : Nat}, r ∈ rowRests a b n m i j ↔ ∃ l, l < j ∧ r = [(i : Int), (l : Int)] ∧ RestAt a b n m i l
  | 0 => by simp [rowRests]
  | j + 1 => by
    rw [rowRests, List.mem_append, rowRests_mem]
    constructor
    · rintro (⟨l, h1, h2⟩ | h)
      · exact ⟨l, by omega, h2⟩
      · split at h
        · rename_i hp
          simp only [List.mem_singleton] at h
          exact ⟨j, by omega, h, pb_iff.1 hp⟩
        · simp at h
    · rintro ⟨l, h1, h2, h3⟩
      by_cases e : l = j
      · subst e
        right
        rw [if_pos (pb_true h3), h2]; simp
      · exact .inl ⟨l, by omega, h2, h3⟩
theorem allRests_mem {a b : List (List Int)} {n m : Nat} {r : List Int} : ∀ {i : Nat}, r ∈ allRests a b n m i ↔ ∃ k l, k < i ∧ l < m ∧ r = [(k : Int), (l : Int)] ∧ RestAt a b n m k l
  | 0 => by simp [allRests]
  | i + 1 => by
    rw [allRests, List.mem_append, allRests_mem, rowRests_mem]
    constructor
    · rintro (⟨k, l, h1, h2⟩ | ⟨l, h2⟩)
      · exact ⟨k, l, by omega, h2⟩
      · exact ⟨i, l, by omega, h2⟩
    · rintro ⟨k, l, h1, h2⟩
      by_cases e : k = i
      · subst e; exact .inr ⟨l, h2⟩
      · exact .inl ⟨k, l, by omega, h2⟩
end Go.Proofs.Ytmhknknapciebaa

/- Sums of a row with shares. -/
namespace Go.Proofs.Ytmhknknapciebaa

/-- What row i has against shares: the terms, and the sum of the first j of them. -/
def dotr (a : List (List Int)) (w : List Int) (i : Nat) : Nat → Int
  | 0 => 0
  | j + 1 => dotr a w i j + g2 a i j * gi w j
def termL (a : List (List Int)) (w : List Int) (i : Nat) : Nat → List Int
  | 0 => []
  | j + 1 => termL a w i j ++ [g2 a i j * gi w j]
theorem termL_len (a : List (List Int)) (w : List Int) (i : Nat) : ∀ j, (termL a w i j).length = j
  | 0 => rfl
  | j + 1 => by rw [termL, List.length_append, termL_len a w i j]; rfl
theorem termL_tot (a : List (List Int)) (w : List Int) (i : Nat) : ∀ j, tot (termL a w i j) = dotr a w i j
  | 0 => rfl
  | j + 1 => by rw [termL, tot_snoc, termL_tot a w i j, dotr]
theorem termL_bd {a : List (List Int)} {w : List Int} {i m : Nat} (ha : ∀ j, j < m → -9 ≤ g2 a i j ∧ g2 a i j ≤ 9) (hw : ∀ j, j < m → 0 ≤ gi w j ∧ gi w j ≤ 1000) :
    ∀ {j}, j ≤ m → ∀ t ∈ termL a w i j, -9000 ≤ t ∧ t ≤ 9000
  | 0, _, t, h => by simp [termL] at h
  | j + 1, hj, t, h => by
    rw [termL, List.mem_append] at h
    rcases h with h | h
    · exact termL_bd ha hw (j := j) (by omega) t h
    · simp only [List.mem_singleton] at h; subst h
      exact mul_bd3 (hw j (by omega)) (ha j (by omega))
theorem dotr_bd {a : List (List Int)} {w : List Int} {i m : Nat} (ha : ∀ j, j < m → -9 ≤ g2 a i j ∧ g2 a i j ≤ 9) (hw : ∀ j, j < m → 0 ≤ gi w j ∧ gi w j ≤ 1000) :
    ∀ {j}, j ≤ m → -9000 * (j : Int) ≤ dotr a w i j ∧ dotr a w i j ≤ 9000 * (j : Int)
  | 0, _ => by simp [dotr]
  | j + 1, hj => by
    have h1 := dotr_bd ha hw (j := j) (by omega)
    have h2 := mul_bd3 (hw j (by omega)) (ha j (by omega))
    simp only [dotr]
    omega
/-- .. against one strategy alone: a number of the table. -/
theorem dotr_onl (a : List (List Int)) (n i k : Nat) : ∀ {j}, j ≤ n → dotr a (onl n k) i j = if k < j then g2 a i k else 0
  | 0, _ => by simp [dotr]
  | j + 1, h => by
    rw [dotr, dotr_onl a n i k (j := j) (by omega), gi_onl (by omega)]
    by_cases e : j = k
    · subst e; rw [if_neg (by omega), if_pos rfl, if_pos (by omega)]; simp
    · rw [if_neg e]
      by_cases h2 : k < j
      · rw [if_pos h2, if_pos (by omega)]; simp
      · rw [if_neg h2, if_neg (by omega)]; simp
theorem dotr_alone (a : List (List Int)) (n i k : Nat) (hk : k < n) : dotr a (onl n k) i n = g2 a i k := by
  rw [dotr_onl a n i k (Nat.le_refl n), if_pos hk]
theorem payR_row (a : List (List Int)) (w : List Int) (n i k : Nat) (hk : k < n) : ∀ j, payR a (onl n i) w k j = if k = i then dotr a w i j else 0
  | 0 => by simp [payR, dotr]
  | j + 1 => by
    rw [payR, payR_row a w n i k hk j, gi_onl hk, dotr]
    by_cases e : k = i
    · subst e; rw [if_pos rfl, if_pos rfl, if_pos rfl, Int.one_mul, Int.mul_comm (gi w j)]
    · rw [if_neg e, if_neg e, if_neg e]; simp
theorem payU_row (a : List (List Int)) (w : List Int) (n m i : Nat) : ∀ {k}, k ≤ n → payU a (onl n i) w m k = if i < k then dotr a w i m else 0
  | 0, _ => by simp [payU]
  | k + 1, h => by
    rw [payU, payU_row a w n m i (k := k) (by omega), payR_row a w n i k (by omega)]
    by_cases e : k = i
    · subst e; rw [if_neg (by omega), if_pos rfl, if_pos (by omega)]; simp
    · rw [if_neg e]
      by_cases h2 : i < k
      · rw [if_pos h2, if_pos (by omega)]; simp
      · rw [if_neg h2, if_neg (by omega)]; simp
/-- The model's sum with one strategy alone is that of its row. -/
theorem payU_alone (a : List (List Int)) (w : List Int) (n m i : Nat) (hi : i < n) : payU a (onl n i) w m n = dotr a w i m := by
  rw [payU_row a w n m i (Nat.le_refl n), if_pos hi]
end Go.Proofs.Ytmhknknapciebaa

/- When one strategy holds against another one, by the model. -/
namespace Go.Proofs.Ytmhknknapciebaa
open Go.RowKit

/-- Strategy i holds against j: more against i, or as much, and more against j. -/
def HoldP (a : List (List Int)) (i j : Nat) : Prop := g2 a j i < g2 a i i ∨ g2 a i i = g2 a j i ∧ g2 a j j < g2 a i j

end Go.Proofs.Ytmhknknapciebaa

/- Stable strategies, by the model. -/
namespace Go.Proofs.Ytmhknknapciebaa
open Go.RowKit

/-- Strategy i holds against all others before number l. -/
def StP (a : List (List Int)) (i l : Nat) : Prop := ∀ j, j < l → i = j ∨ HoldP a i j
theorem StP.zero (a : List (List Int)) (i : Nat) : StP a i 0 := fun _ h => absurd h (by omega)
theorem StP.succ {a : List (List Int)} {i l : Nat} : StP a i (l + 1) ↔ StP a i l ∧ (i = l ∨ HoldP a i l) := by
  constructor
  · exact fun h => ⟨fun j hj => h j (by omega), h l (by omega)⟩
  · rintro ⟨h1, h2⟩ j hj
    by_cases e : j = l
    · subst e; exact h2
    · exact h1 j (by omega)
/-- The strategies before number k that hold against all n. -/
noncomputable def stL (a : List (List Int)) (n : Nat) : Nat → List Int
  | 0 => []
  | k + 1 => stL a n k ++ (if pb (StP a k n) = true then [(k : Int)] else [])
theorem stL_yes {a : List (List Int)} {n k : Nat} (h : StP a k n) : stL a n (k + 1) = stL a n k ++ [(k : Int)] := by rw [stL, if_pos (pb_true h)]
theorem stL_no {a : List (List Int)} {n k : Nat} (h : ¬ StP a k n) : stL a n (k + 1) = stL a n k := by rw [stL, if_neg (by rw [pb_false h]; decide), List.append_nil]
theorem stL_len (a : List (List Int)) (n : Nat) : ∀ k, (stL a n k).length ≤ k
  | 0 => by simp [stL]
  | k + 1 => by
    have := stL_len a n k
    rw [stL, List.length_append]
    split <;> simp <;> omega
theorem stL_bd (a : List (List Int)) (n : Nat) : ∀ k, ∀ y ∈ stL a n k, 0 ≤ y ∧ y < (k : Int)
  | 0, y, h => by simp [stL] at h
  | k + 1, y, h => by
    rw [stL, List.mem_append] at h
    rcases h with h | h
    · have := stL_bd a n k y h; omega
    · split at h
      · simp only [List.mem_singleton] at h; omega
      · simp at h
/-- What StableOf answers. -/
noncomputable def stF (a : List (List Int)) : List Int := if pb (VQ a) = true then stL a a.length a.length else []
theorem NewI.quiet {w w1 w' : World} {ys : List Int} {e : Ending} (h : Quiet w w1) (k : NewI w1 ys e w') : NewI w ys e w' := by
  obtain ⟨m, rfl⟩ := h
  obtain ⟨A, n, c, g, e1, e2, ho, hb⟩ := k
  exact ⟨A, n, c, g, e1, e2, ho, ⟨hb.os, hb.tape, hb.output, hb.size, hb.block⟩⟩
theorem IU.quiet {wb v ys w w'} (h : IU wb v ys w) (k : Quiet w w') : IU wb v ys w' := h.next k.below

end Go.Proofs.Ytmhknknapciebaa

/- What strategies have against shares, told by a closure; which hold: by the program. -/
namespace Go.Proofs.Ytmhknknapciebaa
open Go.RowKit

theorem VS.bds {w : List Int} {n : Nat} (h : VS w n) : ∀ j, j < n → 0 ≤ gi w j ∧ gi w j ≤ 1000 := fun j hj => h.2.1 j (by have := h.1; omega)
theorem onl_bds (n k : Nat) : ∀ j, j < n → 0 ≤ gi (onl n k) j ∧ gi (onl n k) j ≤ 1000 := fun j hj => by have := onl_bd (n := n) (i := k) hj; omega
/-- Where the closure finds the table and the shares. -/
structure PA (a : List (List Int)) (w : List Int) (n : Nat) (pa pw b o c cw : Nat) (rb ro cc : Nat → Nat) (Y : Option Addr) (W : World) : Prop where
  tab : Tab W b o rb ro cc n n a
  sh : Ints W Y n cw w
  bd : ∀ j, j < n → 0 ≤ gi w j ∧ gi w j ≤ 1000
  ca : W.cell? ⟨pa, 0, none⟩ = some (.slice (some ⟨b, o, none⟩) n c)
  cs : W.cell? ⟨pw, 0, none⟩ = some (.slice Y n cw)
theorem PA.keep {a w n pa pw b o c cw rb ro cc Y W W'} (h : PA a w n pa pw b o c cw rb ro cc Y W) (k : Keep W W') : PA a w n pa pw b o c cw rb ro cc Y W' :=
  ⟨h.tab.keep k, h.sh.keep k, h.bd, k _ _ h.ca, k _ _ h.cs⟩

set_option maxRecDepth 100000 in
set_option maxHeartbeats 1600000 in
theorem payAt_any (a : List (List Int)) (w : List Int) (n pa pw b o c cw : Nat) (rb ro cc : Nat → Nat) (Y : Option Addr) (W : World) (h : PA a w n pa pw b o c cw rb ro cc Y W) (i : Nat) (hi : i < n) :
    Calls Try.prog 101 #[.int .i64 i, .pointer (some ⟨pa, 0, none⟩), .pointer (some ⟨pw, 0, none⟩)] W (Ret (.int .i64 (dotr a w i n)) W) := by
  have H := Lib.hid h
  have hn1 := h.tab.n1
  have hn3 := h.tab.n3
  have q1 := h.ca
  have q2 := h.cs
  have q3 := h.tab.row i hi
  have HB := Lib.hid (fun j (hj : j < n) => h.tab.bd i j hi hj)
  obtain ⟨by_, oy, rfl, hcy⟩ := h.sh.at_ (by omega)
  have HY := Lib.hid hcy
  have HS0 := Lib.hid (IU.nil W)
  have HZ : Hid (termL a w i 0 = []) := Lib.hid rfl
  clear h hcy
  go_enter Try.func101, Try.ntmps101
  go_wp2
  clear q1 q2 q3
  go_loopw [5, 13] (fun v i_ wr => ∃ k : Nat, k ≤ n ∧ i_ = .int .i64 k ∧ Hid (IU W v (termL a w i k) wr)) (fun _ i_ _ => n - (intOf i_).toNat)
  case atStart => exact ⟨0, Nat.zero_le _, rfl, Lib.hid (by rw [HZ.out]; exact HS0.out)⟩
  case round =>
    clear HS0 HZ
    obtain ⟨k, hk, rfl, HI⟩ := hrel
    obtain ⟨Av, cv, rfl⟩ := HI.out.bi.form
    by_cases hlt : k < n
    · have c1 := Keep.below HI.out.up _ _ (H.out.tab.cell i k hi hlt)
      have c2 := Keep.below HI.out.up _ _ H.out.cs
      have c3 := Keep.below HI.out.up _ _ (HY.out k hlt)
      obtain ⟨z1, z2⟩ := HB.out k hlt
      obtain ⟨x1, x2⟩ := H.out.bd k hlt
      obtain ⟨p1, p2⟩ := mul_bd3 ⟨x1, x2⟩ ⟨z1, z2⟩
      have HCS : Hid (termL a w i (k + 1) = termL a w i k ++ [g2 a i k * gi w k]) := Lib.hid rfl
      have HML := Lib.hid (termL_len a w i k)
      have hb := below_alloc wr (.cells #[iv (g2 a i k * gi w k)] 3)
      have HB4 := Lib.hid (HI.out.bi.below hb).own
      have HN := Lib.hid (cell_one_new wr (iv (g2 a i k * gi w k)) 3)
      have hwz := HI.out.up.size
      clear hb
      generalize termL a w i k = ys at *
      generalize g2 a i k = g at *
      generalize gi w k = s at *
      obtain ⟨i0, hi0, hz0, hz1, hz2⟩ := info_parts Try.info_int
      go_wp2_with (at_builtin; refine wpList_append_own_at _ rfl _ _ 23 rfl W.heap.size 3 i0 (.int .i64 0) 1 8 Try.underlying23 hi0 hz0 hz1 hz2 rfl (by decide) _ ys.length (ys.map iv) rfl HB4.out ⟨wr.heap.size, 0, none⟩ 1 1 [iv (g * s)] rfl rfl ?c1 ?c2 ?c3 ?c4 ?c5 ?_)
      case c1 => exact HN.out
      case c2 => intro u hu; simp at hu; subst hu; rfl
      case c3 => have := HML.out; unfold maxLen; omega
      case c4 => have := HML.out; omega
      case c5 => simp; omega
      intro v' w5 hown' hgrow _ hat
      have HI5 := Lib.hid (HI.out.push hown' hgrow (by simpa using hat))
      clear HB4 HN hown' hgrow hat HI c1 c2 c3
      go_wp2
      go_roundw
      case rel => exact ⟨k + 1, by omega, by go_num, Lib.hid (by rw [HCS.out]; exact HI5.out)⟩
      case measure => simp [intOf]; omega
    · obtain rfl : k = n := by omega
      have HL := Lib.hid (termL_len a w i k)
      have HTB := Lib.hid (termL_bd HB.out H.out.bd (Nat.le_refl k))
      have HSM := Lib.hid (show SumOk (termL a w i k) from ⟨by rw [HL.out]; omega, fun j hj => by have := HTB.out _ (gi_mem hj); omega⟩)
      have HTT := Lib.hid (termL_tot a w i k)
      have HIN := Lib.hid (HI.out.ints (by rw [HL.out]; omega) (fun y hy => by have := HTB.out y hy; omega))
      have HUP := Lib.hid HI.out.up
      have HC := Lib.hid (HTT.out ▸ sumOf_any _ _ _ _ wr HIN.out HSM.out)
      clear HI
      go_wp2_with fail
      refine HC.out.mono ?_
      rintro e w2 ⟨rfl, hq⟩
      have HB2 := Lib.hid (below_quiet HUP.out hq)
      clear hq HC
      go_wp2
      go_ret
      exact ⟨rfl, HB2.out⟩

/-- The closure of two boxes. -/
def MadeP (a : List (List Int)) (w : List Int) (n b o c cw : Nat) (rb ro cc : Nat → Nat) (Y : Option Addr) (W : World) (e : Ending) (W' : World) : Prop :=
  ∃ pa pw, e = .returned (.func (.func 101) #[] #[.pointer (some ⟨pa, 0, none⟩), .pointer (some ⟨pw, 0, none⟩)]) ∧ PA a w n pa pw b o c cw rb ro cc Y W' ∧ Below W.heap.size W W'

set_option maxRecDepth 100000 in
set_option maxHeartbeats 400000 in
theorem payAgainst_far (a : List (List Int)) (w : List Int) (n b o c cw : Nat) (rb ro cc : Nat → Nat) (Y : Option Addr) (W : World) (ht : Tab W b o rb ro cc n n a) (hw : Ints W Y n cw w) (hb : ∀ j, j < n → 0 ≤ gi w j ∧ gi w j ≤ 1000) :
    Calls Try.prog 79 #[.slice (some ⟨b, o, none⟩) n c, .slice Y n cw] W (fun e W' => ∃ pa pw, e = .returned (.func (.func 101) #[] #[.pointer (some ⟨pa, 0, none⟩), .pointer (some ⟨pw, 0, none⟩)]) ∧ (PA a w n pa pw b o c cw rb ro cc Y W' ∧ Below W.heap.size W W') ∧ W.heap.size ≤ pa ∧ W.heap.size ≤ pw) := by
  have hmf : ∀ (fn : Fn) (first cap : Array Value) (w : World), (Instr.makeFunc fn first cap).run Try.prog w = .ok (.func fn first cap) w := fun _ _ _ _ => rfl
  have h1 := below_alloc W (.cells #[.slice (some ⟨b, o, none⟩) n c] 22)
  have h2 := below_alloc (W.alloc (.cells #[.slice (some ⟨b, o, none⟩) n c] 22)) (.cells #[.slice Y n cw] 23)
  have hbb := below_up h1 h2
  have HP := Lib.hid (show PA a w n W.heap.size (W.alloc (.cells #[.slice (some ⟨b, o, none⟩) n c] 22)).heap.size b o c cw rb ro cc Y ((W.alloc (.cells #[.slice (some ⟨b, o, none⟩) n c] 22)).alloc (.cells #[.slice Y n cw] 23)) from
    ⟨ht.keep (Keep.below hbb), hw.keep (Keep.below hbb), hb, Keep.below h2 _ _ (blk_cell (blk_new _ _ _) rfl), blk_cell (blk_new _ _ _) rfl⟩)
  have HBB := Lib.hid hbb
  clear h1 h2 hbb ht hw hb
  go_enter Try.func79, Try.ntmps79
  go_wp2
  go_ret
  exact ⟨_, _, rfl, ⟨by have h := HP.out; rw [World.size_alloc] at h; exact h, HBB.out⟩, Nat.le_refl _, Nat.le_succ _⟩
theorem payAgainst_any (a : List (List Int)) (w : List Int) (n b o c cw : Nat) (rb ro cc : Nat → Nat) (Y : Option Addr) (W : World) (ht : Tab W b o rb ro cc n n a) (hw : Ints W Y n cw w) (hb : ∀ j, j < n → 0 ≤ gi w j ∧ gi w j ≤ 1000) :
    Calls Try.prog 79 #[.slice (some ⟨b, o, none⟩) n c, .slice Y n cw] W (MadeP a w n b o c cw rb ro cc Y W) :=
  (payAgainst_far a w n b o c cw rb ro cc Y W ht hw hb).mono fun _ _ ⟨pa, pw, he, ⟨h1, h2⟩, _⟩ => ⟨pa, pw, he, h1, h2⟩
end Go.Proofs.Ytmhknknapciebaa

/- Rests, by both programs. -/
namespace Go.Proofs.Ytmhknknapciebaa
open Go.RowKit

/-- No strategy has more than one with a share. -/
def RestP (a : List (List Int)) (w : List Int) (n : Nat) : Prop := ∀ i, i < n → 0 < gi w i → ∀ k, k < n → dotr a w k n ≤ dotr a w i n
structure RQ (a : List (List Int)) (w : List Int) : Prop where
  q : VQ a
  s : VS w a.length
  r : RestP a w a.length

set_option maxRecDepth 100000 in
set_option maxHeartbeats 3200000 in
theorem noneHasMore_any (a : List (List Int)) (w : List Int) (n pa pw b o c cw : Nat) (rb ro cc : Nat → Nat) (Y : Option Addr) (W : World) (h : PA a w n pa pw b o c cw rb ro cc Y W) :
    Calls Try.prog 78 #[.func (.func 101) #[] #[.pointer (some ⟨pa, 0, none⟩), .pointer (some ⟨pw, 0, none⟩)], .slice Y n cw] W (Ret (.bool (pb (RestP a w n))) W) := by
  have H := Lib.hid h
  have hn1 := h.tab.n1
  have hn3 := h.tab.n3
  obtain ⟨by_, oy, rfl, hcy⟩ := h.sh.at_ (by omega)
  have HY := Lib.hid hcy
  clear h hcy
  go_enter Try.func78, Try.ntmps78
  go_wp2
  go_loopw [10] (fun i_ wr => ∃ i : Nat, i ≤ n ∧ i_ = .int .i64 i ∧ Hid (∀ j, j < i → 0 < gi w j → ∀ k, k < n → dotr a w k n ≤ dotr a w j n) ∧ Hid (Below W.heap.size W wr)) (fun i_ _ => n - (intOf i_).toNat)
  case atStart => exact ⟨0, Nat.zero_le _, rfl, Lib.hid (fun _ h => absurd h (by omega)), Lib.hid (Below.refl _ _)⟩
  case round =>
    obtain ⟨i, hi, rfl, HALL, HB⟩ := hrel
    by_cases hlt : i < n
    · have c1 := Keep.below HB.out _ _ (HY.out i hlt)
      have HSI := Lib.hid (H.out.bd i hlt)
      generalize hs : gi w i = s at *
      have HS := Lib.hid hs
      clear hs
      go_wp2
      clear c1
      go_loopw [17] (fun k_ wi => ∃ k : Nat, k ≤ n ∧ k_ = .int .i64 k ∧ Hid (0 < s → ∀ l, l < k → dotr a w l n ≤ dotr a w i n) ∧ Hid (Below W.heap.size W wi)) (fun k_ _ => n - (intOf k_).toNat)
      case atStart => exact ⟨0, Nat.zero_le _, rfl, Lib.hid (fun _ _ h => absurd h (by omega)), HB⟩
      case round =>
        clear HB
        obtain ⟨k, hk, rfl, HK, HB⟩ := hrel
        by_cases hkl : k < n
        · by_cases hp : 0 < s
          · have HC := Lib.hid (payAt_any a w n pa pw b o c cw rb ro cc _ wr (H.out.keep (Keep.below HB.out)) k hkl)
            by_cases hle : dotr a w k n ≤ dotr a w i n
            · have HN := Lib.hid (show 0 < s → ∀ l, l < k + 1 → dotr a w l n ≤ dotr a w i n from fun h l hl => by
                by_cases e : l = k
                · subst e; exact hle
                · exact HK.out h l (by omega))
              have hng : ¬ dotr a w i n < dotr a w k n := by omega
              generalize hgx : dotr a w k n = x at *
              generalize hgy : dotr a w i n = y at *
              have HXX := Lib.hid hgx
              have HYY := Lib.hid hgy
              clear hgx hgy
              have HP := Lib.hid hp
              go_wp2_with fail
              refine HC.out.mono ?_
              rintro e w1 ⟨rfl, hb⟩
              have HB1 := Lib.hid (below_up HB.out hb)
              clear hb HC HB
              have HC := Lib.hid (HYY.out ▸ payAt_any a w n pa pw b o c cw rb ro cc _ w1 (H.out.keep (Keep.below HB1.out)) i hlt)
              go_wp2_with fail
              refine HC.out.mono ?_
              rintro e w2 ⟨rfl, hb⟩
              have HB2 := Lib.hid (below_up HB1.out hb)
              clear hb HC HB1
              go_wp2
              go_roundw
              case rel => exact ⟨k + 1, by omega, by go_num, HN, HB2⟩
              case measure => simp [intOf]; omega
            · have HN := Lib.hid (pb_false (p := RestP a w n) (fun h => hle (h i hlt (by rw [HS.out]; exact hp) k hkl)))
              have hng : dotr a w i n < dotr a w k n := by omega
              generalize hgx : dotr a w k n = x at *
              generalize hgy : dotr a w i n = y at *
              have HYY := Lib.hid hgy
              clear hgx hgy
              go_wp2_with fail
              refine HC.out.mono ?_
              rintro e w1 ⟨rfl, hb⟩
              have HB1 := Lib.hid (below_up HB.out hb)
              clear hb HC HB
              have HC := Lib.hid (HYY.out ▸ payAt_any a w n pa pw b o c cw rb ro cc _ w1 (H.out.keep (Keep.below HB1.out)) i hlt)
              go_wp2_with fail
              refine HC.out.mono ?_
              rintro e w2 ⟨rfl, hb⟩
              have HB2 := Lib.hid (below_up HB1.out hb)
              clear hb HC HB1
              go_wp2
              go_ret
              exact ⟨ret_bool HN.out.symm, HB2.out⟩
          · have hd : decide (0 < s) = false := decide_eq_false hp
            have HN := Lib.hid (show 0 < s → ∀ l, l < k + 1 → dotr a w l n ≤ dotr a w i n from fun h => absurd h hp)
            go_wp2
            go_roundw
            case rel => exact ⟨k + 1, by omega, by go_num, HN, HB⟩
            case measure => simp [intOf]; omega
        · obtain rfl : k = n := by omega
          have HN := Lib.hid (show ∀ j, j < i + 1 → 0 < gi w j → ∀ l, l < k → dotr a w l k ≤ dotr a w j k from fun j hj hp l hl => by
            by_cases e : j = i
            · subst e; exact HK.out (by rw [← HS.out]; exact hp) l hl
            · exact HALL.out j (by omega) hp l hl)
          go_wp2
          go_roundw
          case rel => exact ⟨i + 1, by omega, by go_num, HN, HB⟩
          case measure => simp [intOf]; omega
    · obtain rfl : i = n := by omega
      have HN := Lib.hid (pb_true (p := RestP a w i) (fun j hj hp k hk => HALL.out j hj hp k hk))
      go_wp2
      go_ret
      exact ⟨ret_bool HN.out.symm, HB.out⟩

/-- The greatest of the first k values. -/
def mxd (f : Nat → Int) : Nat → Int
  | 0 => 0
  | k + 1 => if k = 0 ∨ mxd f k < f k then f k else mxd f k
theorem mxd_up {f : Nat → Int} {k : Nat} (h : k = 0 ∨ mxd f k < f k) : mxd f (k + 1) = f k := by rw [mxd, if_pos h]
theorem mxd_same {f : Nat → Int} {k : Nat} (h : ¬ (k = 0 ∨ mxd f k < f k)) : mxd f (k + 1) = mxd f k := by rw [mxd, if_neg h]
theorem mxd_ge (f : Nat → Int) : ∀ {k i}, i < k → f i ≤ mxd f k
  | 0, _, h => absurd h (by omega)
  | k + 1, i, h => by
    by_cases hu : k = 0 ∨ mxd f k < f k
    · rw [mxd_up hu]
      by_cases e : i = k
      · subst e; exact Int.le_refl _
      · have := mxd_ge f (k := k) (i := i) (by omega)
        omega
    · rw [mxd_same hu]
      by_cases e : i = k
      · subst e; omega
      · exact mxd_ge f (by omega)
theorem mxd_at (f : Nat → Int) : ∀ {k}, 0 < k → ∃ i, i < k ∧ mxd f k = f i
  | 0, h => absurd h (by omega)
  | k + 1, _ => by
    by_cases hu : k = 0 ∨ mxd f k < f k
    · exact ⟨k, by omega, mxd_up hu⟩
    · obtain ⟨i, hi, e⟩ := mxd_at f (k := k) (by omega)
      exact ⟨i, by omega, (mxd_same hu).trans e⟩
/-- At rest all that is there has the most. -/
theorem rest_most (a : List (List Int)) (w : List Int) (n : Nat) (hn : 0 < n) : RestP a w n ↔ ∀ i, i < n → 0 < gi w i → dotr a w i n = mxd (fun i => dotr a w i n) n := by
  constructor
  · intro h i hi hp
    obtain ⟨k, hk, e⟩ := mxd_at (fun i => dotr a w i n) hn
    have h1 := h i hi hp k hk
    have h2 := mxd_ge (fun i => dotr a w i n) hi
    have e' : mxd (fun i => dotr a w i n) n = dotr a w k n := e
    have h2' : dotr a w i n ≤ mxd (fun i => dotr a w i n) n := h2
    omega
  · intro h i hi hp k hk
    rw [h i hi hp]
    exact mxd_ge (fun i => dotr a w i n) hk
theorem mxd_bd {f : Nat → Int} {B : Int} (hB : 0 ≤ B) : ∀ {k}, (∀ i, i < k → -B ≤ f i ∧ f i ≤ B) → -B ≤ mxd f k ∧ mxd f k ≤ B
  | 0, _ => by simp only [mxd]; omega
  | k + 1, h => by
    by_cases hu : k = 0 ∨ mxd f k < f k
    · rw [mxd_up hu]; exact h k (by omega)
    · rw [mxd_same hu]; exact mxd_bd hB fun i hi => h i (by omega)

set_option maxRecDepth 100000 in
set_option maxHeartbeats 3200000 in
theorem fits_any (b o : Nat) (rb ro cc : Nat → Nat) (n c cw : Nat) (Y : Option Addr) (a : List (List Int)) (w : List Int) (W : World) (ht : Tab W b o rb ro cc n n a) (hw : Ints W Y n cw w) (hbd : ∀ j, j < n → 0 ≤ gi w j ∧ gi w j ≤ 1000) :
    Calls Try.prog 80 #[.slice (some ⟨b, o, none⟩) n c, .slice Y n cw] W (Ret (.bool (pb (RestP a w n))) W) := by
  have HT := Lib.hid ht
  have HW := Lib.hid hw
  have hn1 := ht.n1
  have hn3 := ht.n3
  have HPB := Lib.hid (fun i => (⟨ht.bd, onl_bds n i, hbd⟩ : PB a (onl n i) w n n))
  obtain ⟨by_, oy, rfl, hcy⟩ := hw.at_ (by omega)
  have HY := Lib.hid hcy
  have HBD := Lib.hid hbd
  have HPU := Lib.hid (fun i (hi : i < n) => payU_alone a w n n i hi)
  have HRM := Lib.hid (rest_most a w n (by omega))
  clear ht hw hcy hbd
  have HZ : Hid (mxd (fun i => dotr a w i n) 0 = 0) := Lib.hid rfl
  go_enter Try.func80, Try.ntmps80
  go_wp2
  go_loopw [5, 6, 7] (fun m f i_ wr => ∃ i : Nat, i ≤ n ∧ i_ = .int .i64 i ∧ m = .int .i64 (mxd (fun i => dotr a w i n) i) ∧ f = .bool (decide (i = 0)) ∧ Hid (Below W.heap.size W wr)) (fun _ _ i_ _ => n - (intOf i_).toNat)
  case atStart => exact ⟨0, Nat.zero_le _, rfl, by rw [HZ.out], rfl, Lib.hid (Below.refl _ _)⟩
  case round =>
    clear HZ
    obtain ⟨i, hi, rfl, rfl, rfl, HB⟩ := hrel
    by_cases hlt : i < n
    · have HC := Lib.hid (alone_spec n i wr (by omega) hlt)
      have HMU := Lib.hid (fun h => mxd_up (f := fun i => dotr a w i n) (k := i) h)
      have HMS := Lib.hid (fun h => mxd_same (f := fun i => dotr a w i n) (k := i) h)
      go_wp2_with fail
      refine HC.out.mono ?_
      rintro e w1 ⟨rfl, ho, hb⟩
      have HB1 := Lib.hid (below_up HB.out hb)
      have HC := Lib.hid (HPU.out i hlt ▸ payUp_any b o rb ro cc n n c n cw _ _ a (onl n i) w w1 (HT.out.keep (Keep.below HB1.out)) ho.ints (HW.out.keep (Keep.below HB1.out)) (HPB.out i))
      clear ho hb HB
      generalize hgx : dotr a w i n = x at *
      generalize hgm : mxd (fun i => dotr a w i n) i = M at *
      clear hgm
      go_wp2_with fail
      refine HC.out.mono ?_
      rintro e w2 ⟨rfl, hq⟩
      have HB2 := Lib.hid (below_quiet HB1.out hq)
      clear hq HC HB1 hgx
      by_cases h0 : i = 0
      · have hd : decide (i = 0) = true := decide_eq_true h0
        have HN := Lib.hid (HMU.out (.inl h0))
        clear HMU HMS
        go_wp2
        go_roundw
        case rel => exact ⟨i + 1, by omega, by go_num, by rw [HN.out], by rw [decide_eq_false (by omega)], HB2⟩
        case measure => simp [intOf]; omega
      · have hd : decide (i = 0) = false := decide_eq_false h0
        by_cases hm : M < x
        · have HN := Lib.hid (HMU.out (.inr hm))
          clear HMU HMS
          go_wp2
          go_roundw
          case rel => exact ⟨i + 1, by omega, by go_num, by rw [HN.out], by rw [decide_eq_false (by omega)], HB2⟩
          case measure => simp [intOf]; omega
        · have HN := Lib.hid (HMS.out (by omega))
          have hm' : decide (M < x) = false := decide_eq_false hm
          clear HMU HMS
          go_wp2
          go_roundw
          case rel => exact ⟨i + 1, by omega, by go_num, by rw [HN.out], by rw [decide_eq_false (by omega)], HB2⟩
          case measure => simp [intOf]; omega
    · obtain rfl : i = n := by omega
      generalize mxd (fun j => dotr a w j i) i = M at *
      generalize wr = W0 at *
      have HB0 := HB
      clear HB
      go_wp2
      go_loopw [9] (fun k_ wi => ∃ k : Nat, k ≤ i ∧ k_ = .int .i64 k ∧ Hid (∀ l, l < k → 0 < gi w l → dotr a w l i = M) ∧ Hid (Below W.heap.size W wi)) (fun k_ _ => i - (intOf k_).toNat)
      case atStart => exact ⟨0, Nat.zero_le _, rfl, Lib.hid (fun _ h => absurd h (by omega)), HB0⟩
      case round =>
        clear HB0
        obtain ⟨k, hk, rfl, HALL, HB⟩ := hrel
        by_cases hkl : k < i
        · have c1 := Keep.below HB.out _ _ (HY.out k hkl)
          by_cases hp : 0 < gi w k
          · have HC := Lib.hid (alone_spec i k wr (by omega) hkl)
            have HP := Lib.hid hp
            have HNO := Lib.hid (fun (h : dotr a w k i ≠ M) => pb_false (p := RestP a w i) (fun r => h (HRM.out.1 r k hkl hp)))
            have HYES := Lib.hid (fun (h : dotr a w k i = M) => (fun l hl hp => by
                by_cases e : l = k
                · subst e; exact h
                · exact HALL.out l (by omega) hp : ∀ l, l < k + 1 → 0 < gi w l → dotr a w l i = M))
            generalize gi w k = s at *
            go_wp2_with fail
            refine HC.out.mono ?_
            rintro e w1 ⟨rfl, ho, hb⟩
            have HB1 := Lib.hid (below_up HB.out hb)
            have HC := Lib.hid (HPU.out k hkl ▸ payUp_any b o rb ro cc i i c i cw _ _ a (onl i k) w w1 (HT.out.keep (Keep.below HB1.out)) ho.ints (HW.out.keep (Keep.below HB1.out)) (HPB.out k))
            clear ho hb HB c1
            by_cases he : dotr a w k i = M
            · have HN := Lib.hid (HYES.out he)
              rw [he] at HC
              clear HYES HNO he
              have hne : (M != M) = false := by simp
              go_wp2_with fail
              refine HC.out.mono ?_
              rintro e w2 ⟨rfl, hq⟩
              have HB2 := Lib.hid (below_quiet HB1.out hq)
              clear hq HC HB1
              go_wp2
              go_roundw
              case rel => exact ⟨k + 1, by omega, by go_num, HN, HB2⟩
              case measure => simp [intOf]; omega
            · have HN := Lib.hid (HNO.out he)
              have hne : (dotr a w k i != M) = true := by simpa using he
              clear HYES HNO he
              generalize dotr a w k i = x at *
              go_wp2_with fail
              refine HC.out.mono ?_
              rintro e w2 ⟨rfl, hq⟩
              have HB2 := Lib.hid (below_quiet HB1.out hq)
              clear hq HC HB1
              go_wp2
              go_ret
              exact ⟨ret_bool HN.out.symm, HB2.out⟩
          · have hd : decide (0 < gi w k) = false := decide_eq_false hp
            have HN := Lib.hid (show ∀ l, l < k + 1 → 0 < gi w l → dotr a w l i = M from fun l hl h => by
                by_cases e : l = k
                · subst e; exact absurd h hp
                · exact HALL.out l (by omega) h)
            generalize gi w k = s at *
            go_wp2
            go_roundw
            case rel => exact ⟨k + 1, by omega, by go_num, HN, HB⟩
            case measure => simp [intOf]; omega
        · obtain rfl : k = i := by omega
          have HN := Lib.hid (HALL.out)
          go_wp2
          go_ret
          exact ⟨ret_bool (pb_true (HRM.out.2 HN.out)).symm, HB.out⟩
end Go.Proofs.Ytmhknknapciebaa

/- At rest no one has more than the mean, and each one with a share has it. Plain. -/
namespace Go.Proofs.Ytmhknknapciebaa

theorem payR_dot' (a : List (List Int)) (x y : List Int) (i : Nat) : ∀ j, payR a x y i j = gi x i * dotr a y i j
  | 0 => by simp [payR, dotr]
  | j + 1 => by
    rw [payR, dotr, payR_dot' a x y i j, Int.mul_add]
    congr 1
    grind
theorem payU_next (a : List (List Int)) (x y : List Int) (m k : Nat) : payU a x y m (k + 1) = payU a x y m k + gi x k * dotr a y k m := by
  rw [payU, payR_dot']
theorem payU_same {a : List (List Int)} {x : List Int} {n : Nat} {M : Int} : ∀ {k}, (∀ i, i < k → 0 ≤ gi x i) → (∀ i, i < k → 0 < gi x i → dotr a x i n = M) → payU a x x n k = M * sm x k
  | 0, _, _ => by simp [payU, sm]
  | k + 1, h0, h => by
    rw [payU_next, sm, payU_same (fun i hi => h0 i (by omega)) (fun i hi => h i (by omega)), Int.mul_add]
    congr 1
    by_cases e : 0 < gi x k
    · rw [h k (by omega) e, Int.mul_comm]
    · have : gi x k = 0 := by have := h0 k (by omega); omega
      rw [this]; simp
theorem sm_one {x : List Int} : ∀ {k}, (∀ j, j < k → 0 ≤ gi x j) → 0 < sm x k → ∃ j, j < k ∧ 0 < gi x j
  | 0, _, h => by simp [sm] at h
  | k + 1, h0, h => by
    by_cases e : 0 < gi x k
    · exact ⟨k, by omega, e⟩
    · rw [sm] at h
      obtain ⟨j, hj, hp⟩ := sm_one (k := k) (fun j hj => h0 j (by omega)) (by have := h0 k (by omega); omega)
      exact ⟨j, by omega, hp⟩
/-- Strategy i has no more than the mean, and has it if it has a share. -/
def MeanOk (a : List (List Int)) (x : List Int) (n : Nat) (i : Nat) : Prop := ¬ payU a x x n n < dotr a x i n * tot x ∧ (0 < gi x i → dotr a x i n * tot x = payU a x x n n)
theorem rest_mean {a : List (List Int)} {x : List Int} {n : Nat} (hx : VS x n) : RestP a x n ↔ ∀ i, i < n → MeanOk a x n i := by
  have hl : x.length = n := by have := hx.1; omega
  have h0 : ∀ j, j < n → 0 ≤ gi x j := fun j hj => (VS.bds hx j hj).1
  have ht : tot x = sm x n := by unfold tot; rw [hl]
  have hp : 0 < tot x := hx.2.2
  constructor
  · intro h
    obtain ⟨j, hj, hjp⟩ := sm_one h0 (by rw [← ht]; exact hp)
    have hP : payU a x x n n = dotr a x j n * tot x := by
      rw [ht]
      exact payU_same h0 fun i hi hip => by have := h i hi hip j hj; have := h j hj hjp i hi; omega
    intro i hi
    refine ⟨?_, fun hip => ?_⟩
    · rw [hP]
      have := Int.mul_le_mul_of_nonneg_right (h j hj hjp i hi) (Int.le_of_lt hp)
      omega
    · rw [hP]
      have e : dotr a x i n = dotr a x j n := by have := h i hi hip j hj; have := h j hj hjp i hi; omega
      rw [e]
  · intro h i hi hip k hk
    have h1 := (h i hi).2 hip
    have h2 := (h k hk).1
    rw [← h1] at h2
    exact Int.le_of_mul_le_mul_right (by omega) hp
/-- The fractions that the law compares. -/
theorem mean_frac {P d T : Int} (hT : 0 < T) : (lessB (frU P (T * T)) (frD P (T * T)) (frU d T) (frD d T) = decide (P < d * T)) ∧ ((frU d T = frU P (T * T) ∧ frD d T = frD P (T * T)) ↔ d * T = P) := by
  have hTT : 0 < T * T := Int.mul_pos hT hT
  have e1 : d * (T * T) = d * T * T := by rw [Int.mul_assoc]
  constructor
  · unfold lessB
    rw [decide_eq_decide, fr_lt hTT hT, e1]
    exact ⟨fun h => Int.lt_of_mul_lt_mul_right h (Int.le_of_lt hT), fun h => Int.mul_lt_mul_of_pos_right h hT⟩
  · constructor
    · rintro ⟨h1, h2⟩
      have k1 := fr_lt (u := d) (d := T) (v := P) (e := T * T) hT hTT
      have k2 := fr_lt (u := P) (d := T * T) (v := d) (e := T) hTT hT
      rw [h1, h2] at k1 k2
      have n1 : ¬ d * (T * T) < P * T := fun h => by have := k1.2 h; omega
      have n2 : ¬ P * T < d * (T * T) := fun h => by have := k2.2 h; omega
      rw [e1] at n1 n2
      exact Int.eq_of_mul_eq_mul_right (by omega) (show d * T * T = P * T by omega)
    · intro h
      exact fr_eq hT hTT (by rw [e1, h])
end Go.Proofs.Ytmhknknapciebaa

/- IsRest and MeanPay, by both programs. -/
namespace Go.Proofs.Ytmhknknapciebaa
open Go.RowKit

theorem VQ.len {a : List (List Int)} {n : Nat} (v : VQ a) (hl : a.length = n) : (gr a 0).length = n := by have := v.2; omega

set_option maxRecDepth 100000 in
set_option maxHeartbeats 1600000 in
theorem IsRest_spec (A : Option Addr) (n c : Nat) (a : List (List Int)) (X : Option Addr) (nx cx : Nat) (x : List Int) (w : World) (ha : IntRows w A n c a) (hx : Ints w X nx cx x) :
    Calls Try.prog 38 #[.slice A n c, .slice X nx cx] w (Ret (.bool (pb (RQ a x))) w) := by
  have HX := Lib.hid ha
  have HY := Lib.hid hx
  have hl := ha.len
  have hlx := hx.len
  have B0 := Lib.hid (Below.refl w.heap.size w)
  clear ha hx
  by_cases hv : VQ a
  · have HC := Lib.hid (pb_true hv ▸ validSquare_any A n c a w HX.out)
    have hn1 := hv.1.n1
    have hn3 := hv.1.n3
    rw [hl] at hn1 hn3
    by_cases hs : VS x (n : Int)
    · have HRQ := Lib.hid (show pb (RQ a x) = pb (RestP a x n) from pb_congr ⟨fun h => by rw [← hl]; exact h.r, fun h => ⟨hv, by rw [hl]; exact hs, by rw [hl]; exact h⟩⟩)
      have hm := hv.len hl
      obtain ⟨b, o, rb, ro, cc, rfl, tab⟩ := HX.out.tab hv.1
      rw [hm] at tab
      have HT := Lib.hid tab
      have HBS := Lib.hid (VS.bds (n := n) hs)
      have HS := Lib.hid (fun W (k : Keep w W) => pb_true hs ▸ validShares_any X nx cx x (n : Int) W (HY.out.keep k) (by omega))
      obtain rfl : n = nx := by have := hs.1; omega
      clear hm tab hv hs hl hlx
      go_enter Try.func38, Try.ntmps38
      go_wp2_with fail
      refine HC.out.mono ?_
      rintro e w1 ⟨rfl, hb⟩
      have B1 := Lib.hid (below_quiet B0.out hb)
      clear hb HC B0
      have HC := Lib.hid (HS.out w1 (Keep.below B1.out))
      go_wp2_with fail
      refine HC.out.mono ?_
      rintro e w2 ⟨rfl, hb⟩
      have B2 := Lib.hid (below_quiet B1.out hb)
      clear hb HC B1
      have HC := Lib.hid (fits_any b o rb ro cc n c cx X a x w2 (HT.out.keep (Keep.below B2.out)) (HY.out.keep (Keep.below B2.out)) HBS.out)
      go_wp2_with fail
      refine HC.out.mono ?_
      rintro e w3 ⟨rfl, hb⟩
      have B3 := Lib.hid (below_up B2.out hb)
      clear hb HC B2
      go_wp2
      go_ret
      exact ⟨ret_bool HRQ.out.symm, B3.out⟩
    · have HNO := Lib.hid (pb_false (p := RQ a x) (fun h => hs (by have := h.s; rw [hl] at this; exact this)))
      have HS := Lib.hid (fun W (k : Keep w W) => pb_false hs ▸ validShares_any X nx cx x (n : Int) W (HY.out.keep k) (by omega))
      clear hv hs hl hlx
      go_enter Try.func38, Try.ntmps38
      go_wp2_with fail
      refine HC.out.mono ?_
      rintro e w1 ⟨rfl, hb⟩
      have B1 := Lib.hid (below_quiet B0.out hb)
      clear hb HC B0
      have HC := Lib.hid (HS.out w1 (Keep.below B1.out))
      go_wp2_with fail
      refine HC.out.mono ?_
      rintro e w2 ⟨rfl, hb⟩
      have B2 := Lib.hid (below_quiet B1.out hb)
      clear hb HC B1
      go_wp2
      go_ret
      exact ⟨ret_bool HNO.out.symm, B2.out⟩
  · have HNO := Lib.hid (pb_false (p := RQ a x) (fun h => hv h.q))
    have HC := Lib.hid (pb_false hv ▸ validSquare_any A n c a w HX.out)
    clear hv hl hlx
    go_enter Try.func38, Try.ntmps38
    go_wp2_with fail
    refine HC.out.mono ?_
    rintro e w1 ⟨rfl, hb⟩
    have B1 := Lib.hid (below_quiet B0.out hb)
    clear hb HC B0
    go_wp2
    go_ret
    exact ⟨ret_bool HNO.out.symm, B1.out⟩

set_option maxRecDepth 100000 in
set_option maxHeartbeats 1600000 in
theorem IsRest_impl (A : Option Addr) (n c : Nat) (a : List (List Int)) (X : Option Addr) (nx cx : Nat) (x : List Int) (w : World) (ha : IntRows w A n c a) (hx : Ints w X nx cx x) :
    Calls Try.prog 37 #[.slice A n c, .slice X nx cx] w (Ret (.bool (pb (RQ a x))) w) := by
  have HX := Lib.hid ha
  have HY := Lib.hid hx
  have hl := ha.len
  have hlx := hx.len
  have B0 := Lib.hid (Below.refl w.heap.size w)
  clear ha hx
  by_cases hv : VQ a
  · have HC := Lib.hid (pb_true hv ▸ ValidSquare_impl A n c a w HX.out)
    have hn1 := hv.1.n1
    have hn3 := hv.1.n3
    rw [hl] at hn1 hn3
    have HVS := Lib.hid (show pb (VS x (n : Int)) = pb (VSn x (n : Int)) by rw [← hl]; exact (hv.1.vsn x).symm)
    by_cases hs : VS x (n : Int)
    · have HRQ := Lib.hid (show pb (RQ a x) = pb (RestP a x n) from pb_congr ⟨fun h => by rw [← hl]; exact h.r, fun h => ⟨hv, by rw [hl]; exact hs, by rw [hl]; exact h⟩⟩)
      have hm := hv.len hl
      obtain ⟨b, o, rb, ro, cc, rfl, tab⟩ := HX.out.tab hv.1
      rw [hm] at tab
      have HT := Lib.hid tab
      have HBS := Lib.hid (VS.bds (n := n) hs)
      have HS := Lib.hid (fun W (k : Keep w W) => HVS.out.symm.trans (pb_true hs) ▸ ValidShares_impl X nx cx x (n : Int) W (HY.out.keep k))
      obtain rfl : n = nx := by have := hs.1; omega
      clear hm tab hv hs hl hlx
      go_enter Try.func37, Try.ntmps37
      go_wp2_with fail
      refine HC.out.mono ?_
      rintro e w1 ⟨rfl, hb⟩
      have B1 := Lib.hid (below_quiet B0.out hb)
      clear hb HC B0
      have HC := Lib.hid (HS.out w1 (Keep.below B1.out))
      go_wp2_with fail
      refine HC.out.mono ?_
      rintro e w2 ⟨rfl, hb⟩
      have B2 := Lib.hid (below_quiet B1.out hb)
      clear hb HC B1
      have HC := Lib.hid (payAgainst_any a x n b o c cx rb ro cc X w2 (HT.out.keep (Keep.below B2.out)) (HY.out.keep (Keep.below B2.out)) HBS.out)
      go_wp2_with fail
      refine HC.out.mono ?_
      rintro e w3 ⟨pa, pw, rfl, hp, hb⟩
      have B3 := Lib.hid (below_up B2.out hb)
      have P := Lib.hid hp
      clear hb hp HC B2
      have HC := Lib.hid (noneHasMore_any a x n pa pw b o c cx rb ro cc X w3 P.out)
      go_wp2_with fail
      refine HC.out.mono ?_
      rintro e w4 ⟨rfl, hb⟩
      have B4 := Lib.hid (below_up B3.out hb)
      clear hb HC B3
      go_wp2
      go_ret
      exact ⟨ret_bool HRQ.out.symm, B4.out⟩
    · have HNO := Lib.hid (pb_false (p := RQ a x) (fun h => hs (by have := h.s; rw [hl] at this; exact this)))
      have HS := Lib.hid (fun W (k : Keep w W) => HVS.out.symm.trans (pb_false hs) ▸ ValidShares_impl X nx cx x (n : Int) W (HY.out.keep k))
      clear hv hs hl hlx
      go_enter Try.func37, Try.ntmps37
      go_wp2_with fail
      refine HC.out.mono ?_
      rintro e w1 ⟨rfl, hb⟩
      have B1 := Lib.hid (below_quiet B0.out hb)
      clear hb HC B0
      have HC := Lib.hid (HS.out w1 (Keep.below B1.out))
      go_wp2_with fail
      refine HC.out.mono ?_
      rintro e w2 ⟨rfl, hb⟩
      have B2 := Lib.hid (below_quiet B1.out hb)
      clear hb HC B1
      go_wp2
      go_ret
      exact ⟨ret_bool HNO.out.symm, B2.out⟩
  · have HNO := Lib.hid (pb_false (p := RQ a x) (fun h => hv h.q))
    have HC := Lib.hid (pb_false hv ▸ ValidSquare_impl A n c a w HX.out)
    clear hv hl hlx
    go_enter Try.func37, Try.ntmps37
    go_wp2_with fail
    refine HC.out.mono ?_
    rintro e w1 ⟨rfl, hb⟩
    have B1 := Lib.hid (below_quiet B0.out hb)
    clear hb HC B0
    go_wp2
    go_ret
    exact ⟨ret_bool HNO.out.symm, B1.out⟩

theorem POk_sq (a : List (List Int)) (x : List Int) : POk a x x ↔ VQ a ∧ VS x a.length := by
  constructor
  · rintro ⟨v, h1, h2⟩
    refine ⟨⟨v, ?_⟩, h1⟩
    have e1 := h1.1
    have e2 := h2.1
    omega
  · rintro ⟨v, h⟩
    exact ⟨v.1, h, by rw [← v.2]; exact h⟩

set_option maxRecDepth 100000 in
set_option maxHeartbeats 1600000 in
theorem MeanPay_impl (A : Option Addr) (n c : Nat) (a : List (List Int)) (X : Option Addr) (nx cx : Nat) (x : List Int) (w : World) (ha : IntRows w A n c a) (hx : Ints w X nx cx x) :
    Calls Try.prog 40 #[.slice A n c, .slice X nx cx] w (Ret (.tuple #[payF a x x, .bool (pb (POk a x x))]) w) := by
  have HPF := Lib.hid (PF.start w)
  have HC := Lib.hid (PayOf_impl A X X n c nx cx nx cx a x x _ (ha.keep HPF.out.keep) (hx.keep HPF.out.keep) (hx.keep HPF.out.keep))
  obtain ⟨U, D, hf⟩ := payF_form a x x
  rw [hf] at HC ⊢
  generalize pb (POk a x x) = K at *
  clear hf ha hx
  go_enter Try.func40, Try.ntmps40
  go_wp2_with fail
  refine HC.out.mono ?_
  rintro e w1 ⟨rfl, hb⟩
  have HPF1 := Lib.hid (HPF.out.up hb)
  clear hb HC HPF
  have HPF := HPF1
  clear HPF1
  have c0 := blk_cell HPF.out.box (i := 0) rfl
  have c1 := blk_cell HPF.out.box (i := 1) rfl
  have f0 := blk_frozen HPF.out.box 0
  have f1 := blk_frozen HPF.out.box 1
  go_wp2
  clear c0 c1 f0 f1
  have B1 := blk_set (blk_set HPF.out.box 0 (.int .i64 U)) 1 (.int .i64 D)
  have r0 := blk_cell B1 (i := 0) (v := .int .i64 U) rfl
  have r1 := blk_cell B1 (i := 1) (v := .int .i64 D) rfl
  have HBX := Lib.hid ((HPF.out.below.setCell (p := ⟨w.heap.size, 0, none⟩) (Nat.le_refl _) (.int .i64 U)).setCell (p := ⟨w.heap.size, 1, none⟩) (Nat.le_refl _) (.int .i64 D))
  clear B1 HPF
  generalize (w1.setCell ⟨w.heap.size, 0, none⟩ (.int .i64 U)).setCell ⟨w.heap.size, 1, none⟩ (.int .i64 D) = WE at *
  refine bodyPost_ret (v := .tuple #[.agg #[.int .i64 U, .int .i64 D], .bool K]) (by simp [results, Try.results40, go_sem, r0, r1]) rfl ?_
  exact ⟨rfl, HBX.out⟩

end Go.Proofs.Ytmhknknapciebaa

/- Shares at which some strategies have as much: the sums of the cofactors of the columns, and the differences to the first row. Plain. -/
namespace Go.Proofs.Ytmhknknapciebaa
open V (sumN detN rowC colC cofN minorN skip sgn Asc)

/-- The square of a part, as it is. -/
def lf (a : List (List Int)) (r : Nat → Nat) : Nat → Nat → Int := fun p q => g2 a (r p) (r q) + 0
/-- The differences to the first row, behind a row of ones. -/
def mf (a : List (List Int)) (r : Nat → Nat) : Nat → Nat → Int := fun p q => if p = 0 then 1 else g2 a (r p) (r q) - g2 a (r 0) (r q)

theorem rowC_shift {k : Nat} (hk : k ≤ 3) {f g : Nat → Nat → Int} (z : Int) (h : ∀ p q, g p q = f p q + z) {p : Nat} (hp : p < k) : rowC k g p = rowC k f p := by
  have : k = 1 ∨ k = 2 ∨ k = 3 := by omega
  rcases this with rfl | rfl | rfl
  · simp [rowC, sumN, cofN, detN]
  · have : p = 0 ∨ p = 1 := by omega
    rcases this with rfl | rfl <;> simp [rowC, sumN, cofN, sgn, detN, minorN, skip, h] <;> omega
  · obtain ⟨e0, e1, e2⟩ := V.rowC3 f
    obtain ⟨d0, d1, d2⟩ := V.rowC3 g
    have : p = 0 ∨ p = 1 ∨ p = 2 := by omega
    rcases this with rfl | rfl | rfl
    · rw [e0, d0]; simp only [h]; grind
    · rw [e1, d1]; simp only [h]; grind
    · rw [e2, d2]; simp only [h]; grind
theorem lf_kY (a : List (List Int)) (r : Nat → Nat) {k : Nat} (hk : k ≤ 3) : cofL k (trN (lf a r)) k = kY a r r k := by
  unfold kY cofL
  refine List.map_congr_left fun p hp => ?_
  exact (rowC_shift hk 18 (f := trN (lf a r)) (g := trN (kf a r r)) (fun p q => by unfold trN lf kf; omega) (List.mem_range.1 hp)).symm
theorem gi_kY {a : List (List Int)} {r : Nat → Nat} {k : Nat} (hk : k ≤ 3) {c : Nat} (hc : c < k) : gi (kY a r r k) c = colC k (kf a r r) c := by
  unfold kY; rw [gi_cofL hc, rowC_tr hk]
theorem mf_cof {a : List (List Int)} {r : Nat → Nat} {k : Nat} (hk : k ≤ 3) {c : Nat} (hc : c < k) : cofN k (mf a r) 0 c = gi (kY a r r k) c := by
  rw [gi_kY hk hc]
  have : k = 1 ∨ k = 2 ∨ k = 3 := by omega
  rcases this with rfl | rfl | rfl
  · obtain rfl : c = 0 := by omega
    simp [colC, sumN, cofN, sgn, detN]
  · have : c = 0 ∨ c = 1 := by omega
    rcases this with rfl | rfl <;> simp [colC, sumN, cofN, sgn, detN, minorN, skip, mf, kf] <;> omega
  · obtain ⟨e0, e1, e2⟩ := V.colC3 (kf a r r)
    have : c = 0 ∨ c = 1 ∨ c = 2 := by omega
    rcases this with rfl | rfl | rfl
    · rw [e0]; simp [sumN, cofN, sgn, detN, minorN, skip, mf, kf]; grind
    · rw [e1]; simp [sumN, cofN, sgn, detN, minorN, skip, mf, kf]; grind
    · rw [e2]; simp [sumN, cofN, sgn, detN, minorN, skip, mf, kf]; grind
theorem mf_det {a : List (List Int)} {r : Nat → Nat} {k : Nat} (h1 : 1 ≤ k) (hk : k ≤ 3) : detN k (mf a r) = sumN (gi (kY a r r k)) k := by
  obtain ⟨l, rfl⟩ : ∃ l, k = l + 1 := ⟨k - 1, by omega⟩
  rw [detN]
  refine sumN_congr fun j hj => ?_
  rw [← mf_cof hk hj]
  unfold cofN
  rw [Nat.zero_add, show mf a r 0 j = 1 from rfl, Nat.add_sub_cancel, Int.one_mul]
theorem mf_ab {a : List (List Int)} (v : VT a) (h : a.length = (gr a 0).length) {r : Nat → Nat} {k : Nat} (hr : Asc a.length k r) : Ab k (mf a r) := fun p q hp hq => by
  unfold mf
  have h0 := hr.1 0 (by omega)
  have hpp := hr.1 p hp
  have hqq := hr.1 q hq
  have e1 := v.bd hpp (j := r q) (by omega)
  have e2 := v.bd h0 (j := r q) (by omega)
  split <;> omega

/-- All numbers more than 0, or all less. -/
def LevP (X : List Int) : Prop := (∀ p, p < X.length → 0 < gi X p) ∨ ∀ p, p < X.length → gi X p < 0
theorem LevP.clr {X : List Int} (h : LevP X) (h0 : 0 < X.length) : ClrP X := by
  rcases h with h | h
  · exact ⟨⟨0, h0, by have := h 0 h0; omega⟩, .inl fun p hp => by have := h p hp; omega⟩
  · exact ⟨⟨0, h0, by have := h 0 h0; omega⟩, .inr fun p hp => by have := h p hp; omega⟩
def levB (xs : List Int) : Bool := decide (lst xs ≤ 0) && decide (0 ≤ mxl xs)
theorem levB_iff {xs : List Int} (h0 : 0 < xs.length) : levB xs = false ↔ LevP xs := by
  unfold levB lst mxl LevP
  rw [Bool.and_eq_false_iff, decide_eq_false_iff_not, decide_eq_false_iff_not]
  constructor
  · rintro (h | h)
    · exact .inl fun p hp => by have := mn_le (xs := xs) (k := xs.length - 1) (j := p) (by omega); omega
    · exact .inr fun p hp => by have := mx_ge xs (k := xs.length - 1) (j := p) (by omega); omega
  · rintro (h | h)
    · obtain ⟨j, hj, e⟩ := mn_mem (xs := xs) (xs.length - 1)
      exact .inl (by have := h j (by omega); omega)
    · obtain ⟨j, hj, e⟩ := mx_at xs (xs.length - 1)
      exact .inr (by have := h j (by omega); omega)

/-- The first c numbers, times z. -/
def sgL (X : List Int) (z : Int) (c : Nat) : List Int := (List.range c).map fun p => z * gi X p
theorem sgL_succ (X : List Int) (z : Int) (c : Nat) : sgL X z (c + 1) = sgL X z c ++ [z * gi X c] := by simp [sgL, List.range_succ]
theorem sgL_len (X : List Int) (z : Int) (c : Nat) : (sgL X z c).length = c := by simp [sgL]
theorem gi_sgL {X : List Int} {z : Int} {c p : Nat} (h : p < c) : gi (sgL X z c) p = z * gi X p := by
  rw [gi_get (by rw [sgL_len]; exact h)]; simp [sgL]
theorem gcdL_sgL {X : List Int} {z : Int} (hz : z = 1 ∨ z = -1) {k : Nat} : ∀ {j}, j ≤ k → gcdL (sgL X z k) j = gcdL X j
  | 0, _ => rfl
  | j + 1, h => by
    rw [gcdL, gcdL, gcdL_sgL hz (by omega), gi_sgL (by omega)]
    rcases hz with rfl | rfl
    · rw [Int.one_mul]
    · unfold gcdI; rw [Int.neg_one_mul, Int.gcd_neg]
theorem shr_sgL {X : List Int} {z : Int} (hz : z = 1 ∨ z = -1) {n k : Nat} {r : Nat → Nat} (hl : X.length = k) : shr n r (sgL X z k) k = shr n r X k := by
  unfold shr
  rw [sgL_len, hl, gcdL_sgL hz (Nat.le_refl _)]
  congr 1
  unfold clrL
  refine List.map_congr_left fun p hp => ?_
  rw [gi_sgL (List.mem_range.1 hp)]
  rcases hz with rfl | rfl
  · rw [Int.one_mul]
  · rw [show max (-1 * gi X p) (-(-1 * gi X p)) = max (gi X p) (-(gi X p)) by omega]
/-- The sign of the sum. -/
def zsg (X : List Int) (k : Nat) : Int := if sumN (gi X) k < 0 then -1 else 1
theorem zsg_or (X : List Int) (k : Nat) : zsg X k = 1 ∨ zsg X k = -1 := by unfold zsg; split <;> simp
theorem lev_sum {X : List Int} (h : LevP X) (h0 : 0 < X.length) : sumN (gi X) X.length ≠ 0 ∧ ∀ p, p < X.length → 0 < zsg X X.length * gi X p := by
  rcases h with h | h
  · have hs := sumN_pos (f := gi X) (n := X.length) (fun i hi => by have := h i hi; omega) ⟨0, h0, h 0 h0⟩
    refine ⟨by omega, fun p hp => ?_⟩
    unfold zsg; rw [if_neg (by omega), Int.one_mul]; exact h p hp
  · have hs := sumN_pos (f := fun i => (-1) * gi X i) (n := X.length) (fun i hi => by have := h i hi; omega) ⟨0, h0, by have := h 0 h0; omega⟩
    rw [sumN_mul] at hs
    refine ⟨by omega, fun p hp => ?_⟩
    unfold zsg; rw [if_pos (by omega)]; have := h p hp; omega
theorem lev_of {X : List Int} {z : Int} (hz : z = 1 ∨ z = -1) (h : ∀ p, p < X.length → 0 < z * gi X p) : LevP X := by
  rcases hz with rfl | rfl
  · exact .inl fun p hp => by have := h p hp; omega
  · exact .inr fun p hp => by have := h p hp; omega

theorem memL_ge : ∀ R, R < 8 → ∀ n, n < 4 → 1 ≤ R → R < 2 ^ n → 1 ≤ (memL R n).length := by decide
/-- The shares of some strategies are the only ones at which these have as much, and no other one has more. -/
def LevAt (a : List (List Int)) (k : Nat) (r : Nat → Nat) : Prop := LevP (kY a r r k) ∧ RestP a (shr a.length r (kY a r r k) k) a.length
def lvl (a : List (List Int)) (s : Nat) : List Int := shr a.length (idx s a.length) (kY a (idx s a.length) (idx s a.length) (memL s a.length).length) (memL s a.length).length
def LvP (a : List (List Int)) (s : Nat) : Prop := 1 ≤ s ∧ s < 2 ^ a.length ∧ LevAt a (memL s a.length).length (idx s a.length)
noncomputable def resR (a : List (List Int)) : Nat → List (List Int)
  | 0 => []
  | s + 1 => if pb (LvP a s) = true then resR a s ++ [lvl a s] else resR a s
noncomputable def resF (a : List (List Int)) : List (List Int) := if pb (VQ a) = true then resR a 8 else []
theorem resR_yes {a : List (List Int)} {s : Nat} (h : LvP a s) : resR a (s + 1) = resR a s ++ [lvl a s] := by rw [resR, if_pos (pb_true h)]
theorem resR_no {a : List (List Int)} {s : Nat} (h : ¬ LvP a s) : resR a (s + 1) = resR a s := by rw [resR, if_neg (by rw [pb_false h]; decide)]
theorem lvl_len (a : List (List Int)) (s : Nat) : (lvl a s).length = a.length := putL_len _ _ _ _
theorem resR_one (a : List (List Int)) : resR a 1 = [] := by rw [resR_no (fun h => by have := h.1; omega)]; rfl
theorem resR_len (a : List (List Int)) : ∀ s, (resR a s).length ≤ s
  | 0 => by simp [resR]
  | s + 1 => by
    have := resR_len a s
    by_cases h : LvP a s
    · rw [resR_yes h, List.length_append, List.length_singleton]; omega
    · rw [resR_no h]; omega
theorem resR_end {a : List (List Int)} : ∀ {d}, resR a (2 ^ a.length + d) = resR a (2 ^ a.length)
  | 0 => rfl
  | d + 1 => by rw [← Nat.add_assoc, resR_no (fun h => by have := h.2.1; omega), resR_end]
theorem resR_all {a : List (List Int)} (h : a.length ≤ 3) : resR a 8 = resR a (2 ^ a.length) := by
  have h8 : 2 ^ a.length ≤ 8 := pow_le8 h
  have := resR_end (a := a) (d := 8 - 2 ^ a.length)
  rwa [show 2 ^ a.length + (8 - 2 ^ a.length) = 8 by omega] at this
theorem mem_resR {a : List (List Int)} {x : List Int} : ∀ {k}, x ∈ resR a k ↔ ∃ s, s < k ∧ LvP a s ∧ x = lvl a s
  | 0 => by simp [resR]
  | k + 1 => by
    have ih := mem_resR (a := a) (x := x) (k := k)
    by_cases h : LvP a k
    · rw [resR_yes h, List.mem_append, List.mem_singleton, ih]
      constructor
      · rintro (⟨s, h1, h2, h3⟩ | h1)
        · exact ⟨s, by omega, h2, h3⟩
        · exact ⟨k, by omega, h, h1⟩
      · rintro ⟨s, h1, h2, h3⟩
        by_cases e : s = k
        · subst e; exact .inr h3
        · exact .inl ⟨s, by omega, h2, h3⟩
    · rw [resR_no h, ih]
      constructor
      · rintro ⟨s, h1, h2, h3⟩; exact ⟨s, by omega, h2, h3⟩
      · rintro ⟨s, h1, h2, h3⟩
        by_cases e : s = k
        · subst e; exact absurd h2 h
        · exact ⟨s, by omega, h2, h3⟩
theorem lvl_VS {a : List (List Int)} (q : VQ a) {s : Nat} (h : LvP a s) (h8 : s < 8) : VS (lvl a s) a.length := by
  have hk3 : (memL s a.length).length ≤ 3 := by have := memL_le s a.length; have := q.1.n3; omega
  have h1 := memL_ge s h8 a.length (by have := q.1.n3; omega) h.1 h.2.1
  have hr := idx_asc s a.length
  exact shr_VS (kY_len _ _ _ _) hr (h.2.2.1.clr (by rw [kY_len]; omega)) (fun p hp => kY_bd q.1 hk3 hr (by rw [← q.2]; exact hr) hp)
end Go.Proofs.Ytmhknknapciebaa

/- The shares of some strategies at which these have as much, by the model. -/
namespace Go.Proofs.Ytmhknknapciebaa
open Go.RowKit
open V (sumN detN rowC colC cofN minorN skip sgn Asc)

/-- The first j numbers of row p of the differences; the first i rows. -/
def dfR (a : List (List Int)) (r : Nat → Nat) (p j : Nat) : List Int := (List.range j).map fun q => mf a r p q
def dfL (a : List (List Int)) (r : Nat → Nat) (k i : Nat) : List (List Int) := (List.range i).map fun p => dfR a r p k
theorem dfR_succ (a : List (List Int)) (r : Nat → Nat) (p j : Nat) : dfR a r p (j + 1) = dfR a r p j ++ [mf a r p j] := by simp [dfR, List.range_succ]
theorem dfL_succ (a : List (List Int)) (r : Nat → Nat) (k i : Nat) : dfL a r k (i + 1) = dfL a r k i ++ [dfR a r i k] := by simp [dfL, List.range_succ]
theorem dfR_len (a : List (List Int)) (r : Nat → Nat) (p j : Nat) : (dfR a r p j).length = j := by simp [dfR]
theorem dfL_len (a : List (List Int)) (r : Nat → Nat) (k i : Nat) : (dfL a r k i).length = i := by simp [dfL]
theorem dfL_sq (a : List (List Int)) (r : Nat → Nat) (k : Nat) : Sq k (dfL a r k k) (mf a r) :=
  ⟨dfL_len _ _ _ _, fun p hp => by rw [gr_get (by rw [dfL_len]; exact hp)]; simp [dfL, dfR], fun p q hp hq => by
    unfold g2; rw [gr_get (by rw [dfL_len]; exact hp), gi_get (by simp [dfL, dfR]; exact hq)]; simp [dfL, dfR]⟩
theorem dfR_zero {a : List (List Int)} {r : Nat → Nat} {p j : Nat} (h : p = 0) : dfR a r p (j + 1) = dfR a r p j ++ [1] := by subst h; exact dfR_succ _ _ _ _
theorem dfR_next {a : List (List Int)} {r : Nat → Nat} {p j : Nat} (h : p ≠ 0) : dfR a r p (j + 1) = dfR a r p j ++ [g2 a (r p) (r j) - g2 a (r 0) (r j)] := by
  rw [dfR_succ, mf, if_neg h]
theorem mf_odd {a : List (List Int)} {r : Nat → Nat} {k c : Nat} (hk : k ≤ 3) (hc : c < k) (h : c % 2 = 1) : gi (kY a r r k) c = -(detN (k - 1) (minorN (mf a r) 0 c)) := by
  rw [← mf_cof hk hc, cofN_odd (by omega)]
theorem mf_even {a : List (List Int)} {r : Nat → Nat} {k c : Nat} (hk : k ≤ 3) (hc : c < k) (h : ¬ c % 2 = 1) : gi (kY a r r k) c = detN (k - 1) (minorN (mf a r) 0 c) := by
  rw [← mf_cof hk hc, cofN_even (by omega)]

/-- Shares of some strategies at which these have as much, and that they are at rest; or that there are none. -/
def NewW (w : World) (a : List (List Int)) (k : Nat) (r : Nat → Nat) (e : Ending) (w' : World) : Prop :=
  (LevAt a k r ∧ ∃ A1 c1 g, e = .returned (.tuple #[.slice A1 a.length c1, .bool true]) ∧ OwnI w.heap.size w'.heap.size w' g A1 a.length c1 (shr a.length r (kY a r r k) k) ∧ Below w.heap.size w w') ∨
  (¬ LevAt a k r ∧ ∃ v, e = .returned (.tuple #[v, .bool false]) ∧ Below w.heap.size w w')

theorem newW_of {w w' : World} {a : List (List Int)} {k n : Nat} {r : Nat → Nat} {A : Option Addr} {c g : Nat} (hl : a.length = n) (ho : OwnI w.heap.size w'.heap.size w' g A n c (shr n r (kY a r r k) k)) (hb : Below w.heap.size w w') :
    NewW w a k r (.returned (.tuple #[.slice A n c, .bool (pb (LevAt a k r))])) w' := by
  subst hl
  by_cases h : LevAt a k r
  · rw [pb_true h]; exact .inl ⟨h, A, c, g, rfl, ho, hb⟩
  · rw [pb_false h]; exact .inr ⟨h, _, rfl, hb⟩

set_option maxRecDepth 100000 in
set_option maxHeartbeats 6400000 in
theorem restOn_any (b o : Nat) (rb ro cc : Nat → Nat) (n c k cx : Nat) (X : Option Addr) (a : List (List Int)) (r : Nat → Nat) (w : World) (ht : Tab w b o rb ro cc n n a) (hx : Pl w X k cx r n) (hq : VQ a) (hl : a.length = n) (h1 : 1 ≤ k) (hk : k ≤ 3) (hr : Asc n k r) :
    Calls Try.prog 85 #[.slice (some ⟨b, o, none⟩) n c, .slice X k cx] w (NewW w a k r) := by
  have HT := Lib.hid ht
  have HX := Lib.hid hx
  have HV := Lib.hid hq
  have HL := Lib.hid hl
  have HR := Lib.hid (show Asc a.length k r by rw [hl]; exact hr)
  have hn3 := ht.n3
  have HAB := Lib.hid (mf_ab hq.1 hq.2 (show Asc a.length k r by rw [hl]; exact hr))
  obtain ⟨bx, ox, rfl, hcx⟩ := hx.ints.at_ (by omega)
  have c0 := hcx 0 (by omega)
  rw [gi_lstN (by omega)] at c0
  simp only [Nat.add_zero] at c0
  have HC0 := Lib.hid c0
  have hr0 := hx.lt 0 (by omega)
  have HR0 := Lib.hid (ht.row (r 0) hr0)
  have HCX := Lib.hid hcx
  have HS0 := Lib.hid (TM.start w)
  obtain ⟨i0, hi0, hz0, hz1, hz2⟩ := info_parts Try.infoI
  clear ht hx hq hl hr hcx c0
  go_enter Try.func85, Try.ntmps85
  go_wp2
  go_loopw [7, 8] (fun v i wr => ∃ (p : Nat) (vs : List Value), p ≤ k ∧ i = .int .i64 p ∧ Hid (TM w v vs (dfL a r k p) wr)) (fun _ i _ => k - (intOf i).toNat)
  case atStart => exact ⟨0, [], Nat.zero_le _, rfl, HS0⟩
  case round =>
    clear HS0
    obtain ⟨p, vs, hp, rfl, HTM⟩ := hrel
    obtain ⟨Av, cv, rfl⟩ := HTM.out.bo.form
    by_cases hlt : p < k
    · have HI := Lib.hid HTM.out.row
      clear HTM
      have c1 := HCX.out p hlt
      rw [gi_lstN hlt] at c1
      have HC1 := Lib.hid c1
      have hrp := HX.out.lt p hlt
      have HRW := Lib.hid (HT.out.row (r p) hrp)
      clear c1
      go_wp2
      generalize wr.heap.size = N at *
      go_loopw [9, 10] (fun u j wi => ∃ (q : Nat), q ≤ k ∧ j = .int .i64 q ∧ Hid (TN w N (.slice Av (dfL a r k p).length cv) vs (dfL a r k p) u (dfR a r p q) wi)) (fun _ j _ => k - (intOf j).toNat)
      case atStart => exact ⟨0, Nat.zero_le _, rfl, HI⟩
      case round =>
        clear HI
        obtain ⟨q, hq, rfl, HI⟩ := hrel
        obtain ⟨Au, cu, rfl⟩ := HI.out.bi.form
        by_cases hlm : q < k
        · have HML := Lib.hid (dfR_len a r p q)
          by_cases hp0 : p = 0
          · have hpz : ((p : Int) == 0) = true := by simp; omega
            have HRS := Lib.hid (dfR_zero (a := a) (r := r) (j := q) hp0)
            clear hp0
            have hHs := HI.out.hs
            have hlh := HI.out.lh
            generalize dfR a r p q = ys at *
            have hb := below_alloc wr (.cells #[iv 1] 3)
            have HB4 := Lib.hid ((HI.out.bi.below hb).own)
            have HN := Lib.hid (cell_one_new wr (iv 1) 3)
            have hyl : ys.length ≤ 3 := by have := HML.out; omega
            clear hb
            go_wp2_with (at_builtin; refine wpList_append_own_at _ rfl _ _ 23 rfl N 3 i0 (.int .i64 0) 1 8 Try.underlying23 hi0 hz0 hz1 hz2 rfl (by decide) _ ys.length (ys.map iv) rfl HB4.out ⟨wr.heap.size, 0, none⟩ 1 1 [iv 1] rfl rfl ?c1 ?c2 ?c3 ?c4 ?c5 ?_)
            case c1 => exact HN.out
            case c2 => intro u hu; simp at hu; subst hu; rfl
            case c3 => unfold maxLen; omega
            case c4 => omega
            case c5 => simp; omega
            intro v' w5 hown' hgrow _ hat
            have HI5 := Lib.hid (HI.out.push hown' hgrow (by simpa using hat))
            clear HB4 HN hown' hgrow hat HI
            go_wp2
            go_roundw
            case rel => exact ⟨q + 1, by omega, by go_num, Lib.hid (by rw [HRS.out]; exact HI5.out)⟩
            case measure => simp [intOf]; omega
          · have hpz : ((p : Int) == 0) = false := by simp; omega
            have HRS := Lib.hid (dfR_next (a := a) (r := r) (p := p) (j := q) hp0)
            have c2 := HCX.out q hlm
            rw [gi_lstN hlm] at c2
            have hsq := HX.out.lt q hlm
            have c3 := HT.out.cell (r p) (r q) hrp hsq
            have c4 := HT.out.cell (r 0) (r q) hr0 hsq
            obtain ⟨z1, z2⟩ := HT.out.bd (r p) (r q) hrp hsq
            obtain ⟨z3, z4⟩ := HT.out.bd (r 0) (r q) hr0 hsq
            have HKA := Lib.hid (And.intro (And.intro (And.intro HC1.out HRW.out) (And.intro c2 c3)) (And.intro (And.intro HC0.out HR0.out) c4))
            have HKB := Lib.hid (show (_ ∧ _) ∧ _ from And.intro (And.intro (And.intro (Keep.below HI.out.up _ _ HC1.out) (Keep.below HI.out.up _ _ HRW.out)) (And.intro (Keep.below HI.out.up _ _ c2) (Keep.below HI.out.up _ _ c3))) (And.intro (And.intro (Keep.below HI.out.up _ _ HC0.out) (Keep.below HI.out.up _ _ HR0.out)) (Keep.below HI.out.up _ _ c4)))
            have hHs := HI.out.hs
            have hlh := HI.out.lh
            have hk0 : 0 < k := by omega
            have hk0' : (0 : Int) < (k : Int) := by omega
            have HPR := Lib.hid hrp
            have HSQ := Lib.hid hsq
            clear c2 c3 c4
            generalize g2 a (r p) (r q) = x at *
            generalize g2 a (r 0) (r q) = y at *
            generalize dfR a r p q = ys at *
            have hyl : ys.length ≤ 3 := by have := HML.out; omega
            generalize hrr : r p = R at *
            have HRR := Lib.hid hrr
            generalize hss : r q = S at *
            have HSS := Lib.hid hss
            generalize hzz : r 0 = Z at *
            have HZZ := Lib.hid hzz
            clear hrr hss hzz
            have HW : Hid (IntKind.i64.wrap (x - y) = x - y) := Lib.hid (wrapIn (by omega))
            have k1 := HKB.out.1.1.1
            have k2 := HKB.out.1.1.2
            have k3 := HKB.out.1.2.1
            have k4 := HKB.out.1.2.2
            have k5 := HKB.out.2.1.1
            have k6 := HKB.out.2.1.2
            have k7 := HKB.out.2.2
            go_wp2
            go_region_held3 (fun W => ((W.cell? ⟨bx, ox + p, none⟩ = some (.int .i64 R) ∧ W.cell? ⟨b, o + R, none⟩ = some (.slice (some ⟨rb R, ro R, none⟩) n (cc R))) ∧ (W.cell? ⟨bx, ox + q, none⟩ = some (.int .i64 S) ∧ W.cell? ⟨rb R, ro R + S, none⟩ = some (.int .i64 x))) ∧ ((W.cell? ⟨bx, ox, none⟩ = some (.int .i64 Z) ∧ W.cell? ⟨b, o + Z, none⟩ = some (.slice (some ⟨rb Z, ro Z, none⟩) n (cc Z))) ∧ W.cell? ⟨rb Z, ro Z + S, none⟩ = some (.int .i64 y)))
              (first | exact HKK.out | exact HKB.out | go_keep)
              ((refine step_append_lies _ (by rfl) _ _ _ (by rfl) N 3 i0 _ 1 8 Try.underlying23 hi0 hz0 hz1 hz2 rfl (by omega) (.slice Au ys.length cu) ys.length (ys.map iv) (by rfl) ((HI.out.bi.own.alloc _).drew) ⟨wr.heap.size, 0, none⟩ 1 1 [iv (IntKind.i64.wrap (x - y))] (by rfl) (by rfl) (World.news_of_block (w := (wr.alloc (.cells #[iv (IntKind.i64.wrap (x - y))] 3)).drew) (cs := #[iv (IntKind.i64.wrap (x - y))]) (t := 3) (fr := (0, 0)) (heap_alloc_new wr _)) (by simp [Value.oneCell', iv]) (by omega) (by unfold maxLen; omega) (by omega) (by simp; omega) (wr.heap.size + 1) (by simp) ?_; intro gg cap w1 hown1 hgrow hat hlt1; rw [HW.out] at hown1; have HI2 := Lib.hid (HI.out.push2 ((below_alloc wr _).drew) hown1 hgrow hlt1); have HKK := Lib.hid (And.intro (And.intro (And.intro (Keep.below HI2.out.up _ _ HKA.out.1.1.1) (Keep.below HI2.out.up _ _ HKA.out.1.1.2)) (And.intro (Keep.below HI2.out.up _ _ HKA.out.1.2.1) (Keep.below HI2.out.up _ _ HKA.out.1.2.2))) (And.intro (And.intro (Keep.below HI2.out.up _ _ HKA.out.2.1.1) (Keep.below HI2.out.up _ _ HKA.out.2.1.2)) (Keep.below HI2.out.up _ _ HKA.out.2.2))); clear hown1 hgrow hat hlt1 HI))
            clear k1 k2 k3 k4 k5 k6 k7
            go_wp2
            go_roundw
            case rel => exact ⟨q + 1, by omega, by go_num, Lib.hid (by rw [HRS.out]; first | exact HI2.out | exact HI2.out.qu ⟨1, rfl⟩ | exact HI2.out.qu ⟨_, rfl⟩)⟩
            case measure => simp [intOf]; omega
        · obtain rfl : q = k := by omega
          have HBD := Lib.hid (show ∀ x ∈ dfR a r p q, -27 ≤ x ∧ x ≤ 27 from fun x hx => by
            obtain ⟨j, hj, rfl⟩ := List.mem_map.1 hx
            exact HAB.out p j hlt (List.mem_range.1 hj))
          obtain ⟨Ar, nr, cr, gg, e, rfl, ho, _⟩ := HI.out.bi.owns (by rw [dfR_len]; omega) (fun x hx => by have := HBD.out x hx; omega)
          injection e with e1 _ e3
          subst e1
          subst e3
          have HO := Lib.hid ho
          have HML := Lib.hid (dfR_len a r p q)
          have HTL := Lib.hid (dfL_len a r q p)
          have HMS := Lib.hid (dfL_succ a r q p)
          have hb := below_alloc wr (.cells #[.slice Au (dfR a r p q).length cu] 23)
          have HB4 := Lib.hid (HI.out.bo.below hb).own
          have HN := Lib.hid (cell_one_new wr (.slice Au (dfR a r p q).length cu) 23)
          have hHs := HI.out.hs
          have hlh := HI.out.lh
          clear hb ho HBD
          generalize dfR a r p q = ys at *
          generalize dfL a r q p = ms at *
          obtain ⟨i0', hi0', hz0', hz1', hz2'⟩ := info_parts Try.info_row
          go_wp2_with (at_builtin; refine wpList_append_own_at _ rfl _ _ 22 rfl w.heap.size 23 i0' (.slice none 0 0) 1 24 Try.underlying22 hi0' hz0' hz1' hz2' rfl (by decide) _ ms.length vs rfl HB4.out ⟨wr.heap.size, 0, none⟩ 1 1 [.slice Au ys.length cu] rfl rfl ?d1 ?d2 ?d3 ?d4 ?d5 ?_)
          case d2 => rfl
          case d3 => have := HTL.out; unfold maxLen; omega
          case d4 => have := HTL.out; omega
          case d5 => omega
          intro v' w5 hown' hgrow _ hat
          have HT5 := Lib.hid (HI.out.done HO.out hown' hgrow (by simpa using hat))
          clear HB4 HN hown' hgrow hat HI HO
          go_wp2
          go_roundw
          case rel => exact ⟨p + 1, _, by omega, by go_num, Lib.hid (by rw [HMS.out]; exact HT5.out)⟩
          case measure => simp [intOf]; omega
    · obtain rfl : p = k := by omega
      obtain ⟨A', n', c', gg, e, hn', hown⟩ := HTM.out.bo.owns (by rw [dfL_len]; omega)
      injection e with e1 e2 e3
      subst e1
      subst e2
      subst e3
      have HSQ := Lib.hid (dfL_sq a r p)
      have HML := Lib.hid HSQ.out.len
      have HIR := Lib.hid hown.rows
      rw [HML.out] at HIR ⊢
      have HB := Lib.hid HTM.out.up
      have HSM := Lib.hid (HSQ.out.small hk HAB.out)
      have HDT := Lib.hid (mf_det (a := a) (r := r) h1 hk)
      have HYL := Lib.hid (kY_len a r r p)
      have HBD := Lib.hid (det_small hk HAB.out)
      clear hown HTM hn'
      have HC := Lib.hid (det_any p hk _ _ _ _ wr HIR.out HSQ.out HAB.out)
      by_cases hd0 : detN p (mf a r) = 0
      · have HNO := Lib.hid (show ¬ LevAt a p r from fun h => by
          have := (lev_sum h.1 (by rw [kY_len]; omega)).1
          rw [kY_len, ← HDT.out] at this
          exact this hd0)
        rw [hd0] at HC
        clear hd0
        go_wp2_with fail
        refine HC.out.mono ?_
        rintro e w1 ⟨rfl, hb⟩
        have HB1 := Lib.hid (below_up HB.out hb)
        clear hb HC
        go_wp2
        go_ret2
        exact .inr ⟨HNO.out, _, rfl, HB1.out⟩
      have hdz : (detN p (mf a r) == 0) = false := by simpa using hd0
      have HD0 := Lib.hid hd0
      clear hd0
      generalize hD : detN p (mf a r) = D at *
      have HDD := Lib.hid hD
      obtain ⟨D1, D2⟩ := HBD.out
      clear hD
      go_wp2_with fail
      refine HC.out.mono ?_
      rintro e w1 ⟨rfl, hb⟩
      have HB1 := Lib.hid (below_up HB.out hb)
      have HIR1 := Lib.hid (HIR.out.keep (Keep.below hb))
      clear hb HC HB HIR
      have HS1 := Lib.hid (IU.start w1)
      have HZ : Hid (zsg (kY a r r p) p = if D < 0 then -1 else 1) := Lib.hid (by unfold zsg; rw [← HDT.out])
      have HZO := Lib.hid (zsg_or (kY a r r p) p)
      have HYB := Lib.hid (fun q (hq : q < p) => kY_bd HV.out.1 hk HR.out (by rw [← HV.out.2]; exact HR.out) (p := q) (by rw [kY_len]; exact hq))
      go_wp2
      generalize zsg (kY a r r p) p = z at *
      go_loopw [11, 12] (fun v i wr => ∃ (c : Nat), c ≤ p ∧ i = .int .i64 c ∧ Hid (IU w1 v (sgL (kY a r r p) z c) wr) ∧ Hid (∀ q, q < c → 0 < z * gi (kY a r r p) q)) (fun _ i _ => p - (intOf i).toNat)
      case atStart => exact ⟨0, Nat.zero_le _, rfl, HS1, Lib.hid (fun _ h => absurd h (by omega))⟩
      case round =>
        clear HS1
        obtain ⟨c, hc, rfl, HI, HALL⟩ := hrel
        obtain ⟨Av, cv, rfl⟩ := HI.out.bi.form
        by_cases hlt : c < p
        · have HC := Lib.hid (minor_any _ p _ _ 0 c wr (HIR1.out.keep (Keep.below HI.out.up)) HSM.out HSQ.out.even (by omega) (by omega))
          have HYC := HYB.out c hlt
          have HBC := Lib.hid (det_small (k := p - 1) (by omega) (HAB.out.minor' (by omega) 0 c))
          have HOD := Lib.hid (mf_odd (a := a) (r := r) hk hlt)
          have HEV := Lib.hid (mf_even (a := a) (r := r) hk hlt)
          have HSS := Lib.hid (sgL_succ (kY a r r p) z c)
          have HSL := Lib.hid (sgL_len (kY a r r p) z c)
          have HNX : Hid (0 < z * gi (kY a r r p) c → ∀ q, q < c + 1 → 0 < z * gi (kY a r r p) q) := Lib.hid (fun h q hq => by
            by_cases e : q = c
            · subst e; exact h
            · exact HALL.out q (by omega))
          have HNO : Hid (¬ 0 < z * gi (kY a r r p) c → ¬ LevAt a p r) := Lib.hid (fun h l => by
            have := (lev_sum l.1 (by rw [kY_len]; omega)).2 c (by rw [kY_len]; exact hlt)
            rw [kY_len] at this
            have e : zsg (kY a r r p) p = z := by rw [HZ.out]; unfold zsg; rw [← HDT.out]
            rw [e] at this; exact h this)
          go_wp2_with fail
          refine HC.out.mono ?_
          rintro e w2 ⟨A2, n2, c2, g2_, rfl, hn2, ho, hb⟩
          have HI2 := Lib.hid (HI.out.next hb)
          have HQ2 := Lib.hid (HSQ.out.minor' (r := 0) (c := c) (by omega) hlt)
          have HO2 := Lib.hid ho.rows
          obtain rfl : n2 = p - 1 := hn2.trans HQ2.out.len
          clear hb HC hn2 ho HI
          have HC := Lib.hid (det_any (p - 1) (by omega) _ _ _ _ w2 HO2.out HQ2.out (HAB.out.minor' (by omega) 0 c))
          have HBN := HBC.out
          generalize detN (p - 1) (minorN (mf a r) 0 c) = d at *
          generalize hyy : gi (kY a r r p) c = y at *
          have HYY := Lib.hid hyy
          clear hyy
          go_wp2_with fail
          refine HC.out.mono ?_
          rintro e w3 ⟨rfl, hb⟩
          have HI3 := Lib.hid (HI2.out.next hb)
          have HIR3 := Lib.hid (HIR1.out.keep (Keep.below HI3.out.up))
          clear hb HC HI2 HO2 HQ2
          have HC := Lib.hid (HDD.out ▸ det_any p hk _ _ _ _ w3 HIR3.out HSQ.out HAB.out)
          obtain ⟨y1, y2⟩ := HYC
          obtain ⟨b1, b2⟩ := HBN
          by_cases hpp : c % 2 = 1
          · by_cases hdn : D < 0
            · skip
              have HY1 := Lib.hid (HOD.out hpp)
              have HZ1 := Lib.hid (show z = -1 by rw [HZ.out, if_pos hdn])
              have e0 : ((c : Int) % 2 == 1) = true := by simp; omega
              have e1 : decide (D < 0) = true := by simpa using hdn
              have HVL := Lib.hid (show z * y = d by rw [HZ1.out, HY1.out]; omega)
              clear HY1 HZ1 HOD HEV HZ HZO
              by_cases hle : d ≤ 0
              · have HX2 := Lib.hid (HNO.out (by rw [HVL.out]; omega))
                clear HNO HNX
                go_wp2_with fail
                refine HC.out.mono ?_
                rintro e w4 ⟨rfl, hb⟩
                have HI4 := Lib.hid (HI3.out.next hb)
                clear hb HC HI3 HIR3
                have HB5 := Lib.hid (below_up HB1.out HI4.out.up)
                go_wp2
                go_ret2
                exact .inr ⟨HX2.out, _, rfl, HB5.out⟩
              · have HX2 := Lib.hid (HNX.out (by rw [HVL.out]; omega))
                clear HNO HNX
                go_wp2_with fail
                refine HC.out.mono ?_
                rintro e w4 ⟨rfl, hb⟩
                have HI4 := Lib.hid (HI3.out.next hb)
                clear hb HC HI3 HIR3
                rw [HVL.out] at HSS
                have hyl : (sgL (kY a r r p) z c).length ≤ 3 := by rw [HSL.out]; omega
                have HYY2 := Lib.hid (show sgL (kY a r r p) z c = sgL (kY a r r p) z c from rfl)
                generalize sgL (kY a r r p) z c = ys at *
                have hb := below_alloc w4 (.cells #[iv (d)] 3)
                have HB4 := Lib.hid ((HI4.out.bi.below hb).own)
                have HN := Lib.hid (cell_one_new w4 (iv (d)) 3)
                have hwz := HI4.out.up.size
                clear hb
                go_wp2_with (at_builtin; refine wpList_append_own_at _ rfl _ _ 23 rfl w1.heap.size 3 i0 (.int .i64 0) 1 8 Try.underlying23 hi0 hz0 hz1 hz2 rfl (by decide) _ ys.length (ys.map iv) rfl HB4.out ⟨w4.heap.size, 0, none⟩ 1 1 [iv (d)] rfl rfl ?c1 ?c2 ?c3 ?c4 ?c5 ?_)
                case c1 => exact HN.out
                case c2 => intro u hu; simp at hu; subst hu; rfl
                case c3 => unfold maxLen; omega
                case c4 => omega
                case c5 => simp; omega
                intro v' w5 hown' hgrow _ hat
                have HI5 := Lib.hid (HI4.out.push hown' hgrow (by simpa using hat))
                clear HB4 HN hown' hgrow hat HI4
                go_wp2
                go_roundw
                case rel => exact ⟨c + 1, by omega, by go_num, Lib.hid (by rw [HSS.out]; exact HI5.out), HX2⟩
                case measure => simp [intOf]; omega
            · skip
              have HY1 := Lib.hid (HOD.out hpp)
              have HZ1 := Lib.hid (show z = 1 by rw [HZ.out, if_neg hdn])
              have e0 : ((c : Int) % 2 == 1) = true := by simp; omega
              have e1 : decide (D < 0) = false := by simpa using hdn
              have HVL := Lib.hid (show z * y = -d by rw [HZ1.out, HY1.out]; omega)
              clear HY1 HZ1 HOD HEV HZ HZO
              by_cases hle : -d ≤ 0
              · have HX2 := Lib.hid (HNO.out (by rw [HVL.out]; omega))
                clear HNO HNX
                go_wp2_with fail
                refine HC.out.mono ?_
                rintro e w4 ⟨rfl, hb⟩
                have HI4 := Lib.hid (HI3.out.next hb)
                clear hb HC HI3 HIR3
                have HB5 := Lib.hid (below_up HB1.out HI4.out.up)
                go_wp2
                go_ret2
                exact .inr ⟨HX2.out, _, rfl, HB5.out⟩
              · have HX2 := Lib.hid (HNX.out (by rw [HVL.out]; omega))
                clear HNO HNX
                go_wp2_with fail
                refine HC.out.mono ?_
                rintro e w4 ⟨rfl, hb⟩
                have HI4 := Lib.hid (HI3.out.next hb)
                clear hb HC HI3 HIR3
                rw [HVL.out] at HSS
                have hyl : (sgL (kY a r r p) z c).length ≤ 3 := by rw [HSL.out]; omega
                have HYY2 := Lib.hid (show sgL (kY a r r p) z c = sgL (kY a r r p) z c from rfl)
                generalize sgL (kY a r r p) z c = ys at *
                have hb := below_alloc w4 (.cells #[iv (-d)] 3)
                have HB4 := Lib.hid ((HI4.out.bi.below hb).own)
                have HN := Lib.hid (cell_one_new w4 (iv (-d)) 3)
                have hwz := HI4.out.up.size
                clear hb
                go_wp2_with (at_builtin; refine wpList_append_own_at _ rfl _ _ 23 rfl w1.heap.size 3 i0 (.int .i64 0) 1 8 Try.underlying23 hi0 hz0 hz1 hz2 rfl (by decide) _ ys.length (ys.map iv) rfl HB4.out ⟨w4.heap.size, 0, none⟩ 1 1 [iv (-d)] rfl rfl ?c1 ?c2 ?c3 ?c4 ?c5 ?_)
                case c1 => exact HN.out
                case c2 => intro u hu; simp at hu; subst hu; rfl
                case c3 => unfold maxLen; omega
                case c4 => omega
                case c5 => simp; omega
                intro v' w5 hown' hgrow _ hat
                have HI5 := Lib.hid (HI4.out.push hown' hgrow (by simpa using hat))
                clear HB4 HN hown' hgrow hat HI4
                go_wp2
                go_roundw
                case rel => exact ⟨c + 1, by omega, by go_num, Lib.hid (by rw [HSS.out]; exact HI5.out), HX2⟩
                case measure => simp [intOf]; omega
          · by_cases hdn : D < 0
            · skip
              have HY1 := Lib.hid (HEV.out hpp)
              have HZ1 := Lib.hid (show z = -1 by rw [HZ.out, if_pos hdn])
              have e0 : ((c : Int) % 2 == 1) = false := by simp; omega
              have e1 : decide (D < 0) = true := by simpa using hdn
              have HVL := Lib.hid (show z * y = -d by rw [HZ1.out, HY1.out]; omega)
              clear HY1 HZ1 HOD HEV HZ HZO
              by_cases hle : -d ≤ 0
              · have HX2 := Lib.hid (HNO.out (by rw [HVL.out]; omega))
                clear HNO HNX
                go_wp2_with fail
                refine HC.out.mono ?_
                rintro e w4 ⟨rfl, hb⟩
                have HI4 := Lib.hid (HI3.out.next hb)
                clear hb HC HI3 HIR3
                have HB5 := Lib.hid (below_up HB1.out HI4.out.up)
                go_wp2
                go_ret2
                exact .inr ⟨HX2.out, _, rfl, HB5.out⟩
              · have HX2 := Lib.hid (HNX.out (by rw [HVL.out]; omega))
                clear HNO HNX
                go_wp2_with fail
                refine HC.out.mono ?_
                rintro e w4 ⟨rfl, hb⟩
                have HI4 := Lib.hid (HI3.out.next hb)
                clear hb HC HI3 HIR3
                rw [HVL.out] at HSS
                have hyl : (sgL (kY a r r p) z c).length ≤ 3 := by rw [HSL.out]; omega
                have HYY2 := Lib.hid (show sgL (kY a r r p) z c = sgL (kY a r r p) z c from rfl)
                generalize sgL (kY a r r p) z c = ys at *
                have hb := below_alloc w4 (.cells #[iv (-d)] 3)
                have HB4 := Lib.hid ((HI4.out.bi.below hb).own)
                have HN := Lib.hid (cell_one_new w4 (iv (-d)) 3)
                have hwz := HI4.out.up.size
                clear hb
                go_wp2_with (at_builtin; refine wpList_append_own_at _ rfl _ _ 23 rfl w1.heap.size 3 i0 (.int .i64 0) 1 8 Try.underlying23 hi0 hz0 hz1 hz2 rfl (by decide) _ ys.length (ys.map iv) rfl HB4.out ⟨w4.heap.size, 0, none⟩ 1 1 [iv (-d)] rfl rfl ?c1 ?c2 ?c3 ?c4 ?c5 ?_)
                case c1 => exact HN.out
                case c2 => intro u hu; simp at hu; subst hu; rfl
                case c3 => unfold maxLen; omega
                case c4 => omega
                case c5 => simp; omega
                intro v' w5 hown' hgrow _ hat
                have HI5 := Lib.hid (HI4.out.push hown' hgrow (by simpa using hat))
                clear HB4 HN hown' hgrow hat HI4
                go_wp2
                go_roundw
                case rel => exact ⟨c + 1, by omega, by go_num, Lib.hid (by rw [HSS.out]; exact HI5.out), HX2⟩
                case measure => simp [intOf]; omega
            · skip
              have HY1 := Lib.hid (HEV.out hpp)
              have HZ1 := Lib.hid (show z = 1 by rw [HZ.out, if_neg hdn])
              have e0 : ((c : Int) % 2 == 1) = false := by simp; omega
              have e1 : decide (D < 0) = false := by simpa using hdn
              have HVL := Lib.hid (show z * y = d by rw [HZ1.out, HY1.out]; omega)
              clear HY1 HZ1 HOD HEV HZ HZO
              by_cases hle : d ≤ 0
              · have HX2 := Lib.hid (HNO.out (by rw [HVL.out]; omega))
                clear HNO HNX
                go_wp2_with fail
                refine HC.out.mono ?_
                rintro e w4 ⟨rfl, hb⟩
                have HI4 := Lib.hid (HI3.out.next hb)
                clear hb HC HI3 HIR3
                have HB5 := Lib.hid (below_up HB1.out HI4.out.up)
                go_wp2
                go_ret2
                exact .inr ⟨HX2.out, _, rfl, HB5.out⟩
              · have HX2 := Lib.hid (HNX.out (by rw [HVL.out]; omega))
                clear HNO HNX
                go_wp2_with fail
                refine HC.out.mono ?_
                rintro e w4 ⟨rfl, hb⟩
                have HI4 := Lib.hid (HI3.out.next hb)
                clear hb HC HI3 HIR3
                rw [HVL.out] at HSS
                have hyl : (sgL (kY a r r p) z c).length ≤ 3 := by rw [HSL.out]; omega
                have HYY2 := Lib.hid (show sgL (kY a r r p) z c = sgL (kY a r r p) z c from rfl)
                generalize sgL (kY a r r p) z c = ys at *
                have hb := below_alloc w4 (.cells #[iv (d)] 3)
                have HB4 := Lib.hid ((HI4.out.bi.below hb).own)
                have HN := Lib.hid (cell_one_new w4 (iv (d)) 3)
                have hwz := HI4.out.up.size
                clear hb
                go_wp2_with (at_builtin; refine wpList_append_own_at _ rfl _ _ 23 rfl w1.heap.size 3 i0 (.int .i64 0) 1 8 Try.underlying23 hi0 hz0 hz1 hz2 rfl (by decide) _ ys.length (ys.map iv) rfl HB4.out ⟨w4.heap.size, 0, none⟩ 1 1 [iv (d)] rfl rfl ?c1 ?c2 ?c3 ?c4 ?c5 ?_)
                case c1 => exact HN.out
                case c2 => intro u hu; simp at hu; subst hu; rfl
                case c3 => unfold maxLen; omega
                case c4 => omega
                case c5 => simp; omega
                intro v' w5 hown' hgrow _ hat
                have HI5 := Lib.hid (HI4.out.push hown' hgrow (by simpa using hat))
                clear HB4 HN hown' hgrow hat HI4
                go_wp2
                go_roundw
                case rel => exact ⟨c + 1, by omega, by go_num, Lib.hid (by rw [HSS.out]; exact HI5.out), HX2⟩
                case measure => simp [intOf]; omega
        · obtain rfl : c = p := by omega
          have HLV := Lib.hid (show LevP (kY a r r c) from lev_of HZO.out (fun q hq => HALL.out q (by rw [HYL.out] at hq; exact hq)))
          have HSL := Lib.hid (sgL_len (kY a r r c) z c)
          have HCL := Lib.hid (show ClrP (sgL (kY a r r c) z c) from (LevP.clr (.inl fun q hq => by rw [sgL_len] at hq; rw [gi_sgL hq]; exact HALL.out q hq) (by rw [sgL_len]; omega)))
          have HMD := Lib.hid (show ∀ q, q < (sgL (kY a r r c) z c).length → Mid (gi (sgL (kY a r r c) z c) q) from fun q hq => by
            rw [sgL_len] at hq; rw [gi_sgL hq]
            have := HYB.out q hq
            unfold Mid
            rcases HZO.out with e | e <;> rw [e] <;> omega)
          have HSB := Lib.hid (show ∀ y ∈ sgL (kY a r r c) z c, -1000000000000000 ≤ y ∧ y ≤ 1000000000000000 from fun y hy => by
            obtain ⟨q, hq, rfl⟩ := List.mem_map.1 hy
            have := HYB.out q (List.mem_range.1 hq)
            rcases HZO.out with e | e <;> rw [e] <;> omega)
          have HIN := Lib.hid (HI.out.ints (by rw [HSL.out]; omega) HSB.out)
          have HB2 := Lib.hid (below_up HB1.out HI.out.up)
          have HSR := Lib.hid (shr_sgL (X := kY a r r c) HZO.out (n := n) (r := r) HYL.out)
          have HSV := Lib.hid (shr_VS (n := n) (kY_len a r r c) (by rw [← HL.out]; exact HR.out) (HLV.out.clr (by rw [kY_len]; omega)) (fun q hq => HYB.out q (by rw [HYL.out] at hq; exact hq)))
          have HC := Lib.hid (cleared_any Av _ cv _ wr HIN.out HMD.out (by rw [HSL.out]; exact hk))
          clear HSB HI HMD
          rw [HSL.out] at HC HIN ⊢
          go_wp2_with fail
          refine HC.out.mono ?_
          rintro e w2 hcl
          obtain ⟨A2, n2, c2, g2_, rfl, hn2, ho, hb⟩ : ∃ Av nq cq gg, e = .returned (.tuple #[.slice Av nq cq, .bool true]) ∧ nq = (sgL (kY a r r c) z c).length ∧ OwnI wr.heap.size w2.heap.size w2 gg Av nq cq (clrL (sgL (kY a r r c) z c) (gcdL (sgL (kY a r r c) z c) (sgL (kY a r r c) z c).length) (sgL (kY a r r c) z c).length) ∧ Below wr.heap.size wr w2 := by
            rcases hcl with ⟨_, h⟩ | ⟨h, _⟩
            · exact h
            · exact absurd HCL.out h
          rw [HSL.out] at hn2
          subst hn2
          have HO2 := Lib.hid ho.ints
          have HB3 := Lib.hid (below_up HB2.out hb)
          clear hcl ho hb HC HIN HB2
          have HC := Lib.hid (spread_any n n2 c2 cx A2 _ _ r w2 HO2.out ⟨HX.out.ints.keep (Keep.below HB3.out), HX.out.lt⟩ (by omega) hk)
          go_wp2_with fail
          refine HC.out.mono ?_
          rintro e w3 ⟨A3, n3, c3, g3, rfl, hn3', ho, hb⟩
          have HB4 := Lib.hid (below_up HB3.out hb)
          have hsz := HB3.out.size
          have HO3 := Lib.hid (show OwnI w.heap.size w3.heap.size w3 g3 A3 n3 c3 (shr n r (kY a r r n2) n2) from by
            rw [← HSR.out]; exact ho.mono hsz (Nat.le_refl _))
          obtain rfl : n3 = n := hn3'.trans (putL_len _ _ _ _)
          clear hn3' ho hb HC HB3 HO2 hsz
          have HC := Lib.hid (fits_any b o rb ro cc n3 c c3 A3 a _ w3 (HT.out.keep (Keep.below HB4.out)) HO3.out.ints (fun j hj => HSV.out.2.1 j (by rw [show (shr n3 r (kY a r r n2) n2).length = n3 from putL_len _ _ _ _]; exact hj)))
          have HRP := Lib.hid (show pb (RestP a (shr n3 r (kY a r r n2) n2) n3) = pb (LevAt a n2 r) from pb_congr (by
            unfold LevAt; rw [HL.out]; exact ⟨fun h => ⟨HLV.out, h⟩, fun h => h.2⟩))
          rw [HRP.out] at HC
          go_wp2_with fail
          refine HC.out.mono ?_
          rintro e w4 ⟨rfl, hb⟩
          have HB5 := Lib.hid (below_up HB4.out hb)
          have HO5 := Lib.hid ((HO3.out.below hb).mono (Nat.le_refl _) hb.size)
          clear hb HC HB4 HO3
          go_wp2
          go_ret2
          exact newW_of HL.out HO5.out HB5.out
end Go.Proofs.Ytmhknknapciebaa

/- A list that a call owns; numbers of which the first have turned. -/
namespace Go.Proofs.Ytmhknknapciebaa
open Go.RowKit

/-- A list that a call owns, in block g from its beginning on. -/
structure NX (w : World) (n g : Nat) (L : List Int) (W : World) : Prop where
  own : OwnI w.heap.size W.heap.size W g (some ⟨g, 0, none⟩) n n L
  up : Below w.heap.size w W
  lo : w.heap.size ≤ g
theorem NX.next {w n g L W W'} (h : NX w n g L W) (k : Below W.heap.size W W') : NX w n g L W' := ⟨(h.own.below k).mono (Nat.le_refl _) k.size, below_up h.up k, h.lo⟩
theorem NX.cell {w n g L W} (h : NX w n g L W) {i : Nat} (hi : i < n) : W.cell? ⟨g, i, none⟩ = some (.int .i64 (gi L i)) := by
  obtain ⟨b, o, e, hc⟩ := h.own.ints.at_ (by omega)
  injection e with e
  injection e with e1 e2
  subst e1
  subst e2
  have := hc i hi
  rw [Nat.zero_add] at this
  exact this
theorem NX.frozen {w n g L W} (h : NX w n g L W) {i : Nat} (hi : i < n) : W.frozen? ⟨g, i, none⟩ = false := by
  obtain ⟨o, e, _, _, hf⟩ := h.own.own (by omega)
  injection e with e
  injection e with _ e2
  subst e2
  have := hf i hi
  rw [Nat.zero_add] at this
  exact this
theorem NX.set {w n g L W} (h : NX w n g L W) {i : Nat} (hi : i < n) {v : Int} (hv : -9223372036854775808 ≤ v ∧ v ≤ 9223372036854775807) : NX w n g (L.set i v) (W.setCell ⟨g, i, none⟩ (.int .i64 v)) := by
  have h1 := h.own.set hi hv
  rw [Nat.zero_add] at h1
  exact ⟨h1.mono (Nat.le_refl _) (by simp [World.setCell]), h.up.setCell (p := ⟨g, i, none⟩) h.lo _, h.lo⟩
/-- Numbers of which the first k have turned. -/
def mixT (f h : Nat → Int) (n k : Nat) : List Int := (List.range n).map fun i => if i < k then f i else h i
theorem mixT_len (f h : Nat → Int) (n k : Nat) : (mixT f h n k).length = n := by simp [mixT]
theorem gi_mixT {f h : Nat → Int} {n k i : Nat} (hi : i < n) : gi (mixT f h n k) i = if i < k then f i else h i := by
  rw [gi_get (by rw [mixT_len]; exact hi)]; simp [mixT]
theorem mixT_set {f h : Nat → Int} {n k : Nat} : (mixT f h n k).set k (f k) = mixT f h n (k + 1) := gi_ext (by rw [List.length_set, mixT_len, mixT_len]) fun i hi => by
  rw [List.length_set, mixT_len] at hi
  rw [gi_mixT hi]
  by_cases e : i = k
  · subst e; rw [gi_set_eq (by rw [mixT_len]; exact hi), if_pos (by omega)]
  · rw [gi_set_ne (by rw [mixT_len]; exact hi) e, gi_mixT hi]
    by_cases h2 : i < k
    · rw [if_pos h2, if_pos (by omega)]
    · rw [if_neg h2, if_neg (by omega)]
theorem mixT_zero (f h : Nat → Int) (n : Nat) : mixT f h n 0 = (List.range n).map h := gi_ext (by rw [mixT_len]; simp) fun i hi => by
  rw [mixT_len] at hi
  rw [gi_mixT hi, if_neg (by omega), gi_get (by simpa using hi)]; simp
theorem mixT_all (f h : Nat → Int) (n : Nat) : mixT f h n n = (List.range n).map f := gi_ext (by rw [mixT_len]; simp) fun i hi => by
  rw [mixT_len] at hi
  rw [gi_mixT hi, if_pos hi, gi_get (by simpa using hi)]; simp
theorem list_range (x : List Int) : (List.range x.length).map (gi x) = x := gi_ext (by simp) fun i hi => by
  have hi' : i < x.length := by simpa using hi
  rw [gi_get hi]; simp
theorem gi_range {f : Nat → Int} {n i : Nat} (h : i < n) : gi ((List.range n).map f) i = f i := by rw [gi_get (by simpa using h)]; simp

end Go.Proofs.Ytmhknknapciebaa

/- One block alone has turned: what is elsewhere stays; new lists whose block is known. -/
namespace Go.Proofs.Ytmhknknapciebaa
open Go.RowKit
theorem eqI_same (xs : List Int) : eqI xs xs = true := eqI_yes rfl fun _ _ => rfl
theorem OwnI.one {lo hi g w w' b A n c xs} (h : OwnI lo hi w b A n c xs) (k : One g w w') (hne : b ≠ g) : OwnI lo hi w' b A n c xs := h.of_block fun _ => k.block b hne
theorem One.below {S g : Nat} {a w w' : World} (h : Below S a w) (k : One g w w') (hg : S ≤ g) : Below S a w' := Touch.below h (k.touch (Nat.le_refl g) (Nat.lt_succ_self g)) hg
theorem NewI.ge {w w' : World} {ys : List Int} {e : Ending} (h : NewI w ys e w') :
    ∃ Av c gg, e = .returned (.slice Av ys.length c) ∧ OwnI w.heap.size w'.heap.size w' gg Av ys.length c ys ∧ w.heap.size ≤ gg ∧ Below w.heap.size w w' := by
  obtain ⟨Av, n, c, gg, rfl, rfl, ho, hb⟩ := h
  by_cases h0 : 0 < ys.length
  · obtain ⟨o, e, h1, h2, hf⟩ := ho.own h0
    exact ⟨Av, c, gg, rfl, ho, h1, hb⟩
  · exact ⟨Av, c, w.heap.size, rfl, ⟨ho.ints, fun hn => absurd hn h0⟩, Nat.le_refl _, hb⟩
end Go.Proofs.Ytmhknknapciebaa

