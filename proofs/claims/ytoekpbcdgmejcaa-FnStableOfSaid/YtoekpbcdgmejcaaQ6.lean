/- Texts merged: W6 Math12 Math19 Z1 Z2 Z3 K1 K4 Math20 Math21 Pl1 Y1 C9 E9. -/
import Derived.Test.YtoekpbcdgmejcaaQ5
import Derived.Lib.AppendZerosOnto
import Derived.Lib.AppendZeros
/- Lists one behind the other; whether numbers have both signs: by the program. -/
namespace Go.Proofs.Ytoekpbcdgmejcaa
open Go.RowKit Go.Lib

def Grown (n : Nat) (w : World) (e : Ending) (w' : World) : Prop :=
  ∃ G, n ≤ G ∧ e = .returned (.slice (some ⟨w.heap.size, 0, none⟩) 0 G) ∧ IU w (.slice (some ⟨w.heap.size, 0, none⟩) 0 G) [] w'
set_option maxRecDepth 100000 in
set_option maxHeartbeats 2000000 in
theorem Grow_any (n : Nat) (w : World) (h1 : 1 ≤ n) (hn : n ≤ 100) : Calls Try.prog 101 #[.slice none 0 0, .int .i64 n] w (Grown n w) := by
  obtain ⟨i0, hi0, hz0, hs0, hb0⟩ := info_parts Try.infoI
  have hr := run_append_grow_zeros (P := Try.prog) w 26 3 26 3 i0 (.int .i64 0) .i64 .i64 Try.underlying26 Try.underlying3 hi0 hz0 none 0 0 [] (run_firstCells_none w.drew i0.size 0 0 0) n (by omega) (by omega) (by omega) (by omega) (by rw [hb0]; omega) (growslice_fits (by omega) (by rw [hb0]; omega))
  rw [Nat.zero_add] at hr
  have hG1 := grownCap_ge w n 0 3
  have hG2 := grownCap_le_maxLen w n 0 3 (by unfold maxLen; omega)
  generalize grownCap w n 0 3 = G at *
  have HU : Hid (IU w (.slice (some ⟨w.heap.size, 0, none⟩) 0 G) [] (w.drew.alloc (.cells (([] : List Value).toArray ++ Builtin.zeroCells (Value.int .i64 0).cells n ++ Builtin.zeroCells (Value.int .i64 0).cells (G - n)) 3))) := Lib.hid (by
    refine ⟨⟨World.ownsRow_made (e := 3) (size := 1) w.drew _ G (Nat.le_refl _) hG2 ?_, fun k hk => ?_⟩, below_up ((Below.refl w.heap.size w).drew) (below_alloc w.drew _)⟩
    · simp [Builtin.zeroCells, Value.cells]; omega
    · simp [Value.ownBlock] at hk; simp; omega)
  have h2 : ¬ ((n : Int) < 0) := by omega
  have h3 : (0 : Int) < (n : Int) := by omega
  have HG1 := Lib.hid hG1
  unfold maxLen at hG2
  generalize w.drew.alloc (.cells (([] : List Value).toArray ++ Builtin.zeroCells (Value.int .i64 0).cells n ++ Builtin.zeroCells (Value.int .i64 0).cells (G - n)) 3) = W1 at *
  have HR := Lib.hid hr
  clear hr
  go_enter Try.func101, Try.ntmps101
  go_wp2_with (at_builtin; refine wpList_append_run _ rfl _ _ _ _ rfl _ _ rfl rfl _ _ HR.out ?_)
  go_ret
  exact ⟨G, HG1.out, rfl, HU.out⟩

/-- The first i lists, one behind the other. -/
def catL (xss : List (List Int)) : Nat → List Int
  | 0 => []
  | i + 1 => catL xss i ++ gr xss i
theorem catL_len (xss : List (List Int)) (h : ∀ p, p < xss.length → (gr xss p).length ≤ 3) : ∀ {i}, i ≤ xss.length → (catL xss i).length ≤ 3 * i
  | 0, _ => by simp [catL]
  | i + 1, hi => by
    have := catL_len xss h (i := i) (by omega)
    have := h i (by omega)
    rw [catL, List.length_append]; omega
theorem catL_bd {xss : List (List Int)} (h : ∀ p, p < xss.length → ∀ x ∈ gr xss p, -1000000 ≤ x ∧ x ≤ 1000000) : ∀ {i}, i ≤ xss.length → ∀ x ∈ catL xss i, -1000000 ≤ x ∧ x ≤ 1000000
  | 0, _, x, hx => by simp [catL] at hx
  | i + 1, hi, x, hx => by
    rcases List.mem_append.1 hx with hx | hx
    · exact catL_bd h (i := i) (by omega) x hx
    · exact h i (by omega) x hx

set_option maxRecDepth 100000 in
set_option maxHeartbeats 2000000 in
theorem Concat_any (A : Option Addr) (n c : Nat) (xss : List (List Int)) (w : World) (hx : IntRows w A n c xss) (hn : n ≤ 8) (hl : ∀ p, p < xss.length → (gr xss p).length ≤ 3) (hp0 : ∀ p, p < xss.length → 0 < (gr xss p).length) (hb : ∀ p, p < xss.length → ∀ x ∈ gr xss p, -1000000 ≤ x ∧ x ≤ 1000000) (h1 : 1 ≤ (catL xss n).length) :
    Calls Try.prog 86 #[.slice A n c] w (NewI w (catL xss n)) := by
  have HX := Lib.hid hx
  have HL := Lib.hid hl
  have HPP := Lib.hid hp0
  have LX := Lib.hid hx.len
  have HCL := Lib.hid (fun i (hi : i ≤ n) => catL_len xss hl (i := i) (by rw [LX.out]; exact hi))
  have HCB := Lib.hid (fun i (hi : i ≤ n) => catL_bd hb (i := i) (by rw [LX.out]; exact hi))
  have HZ : Hid ((catL xss 0).length = 0 ∧ catL xss 0 = []) := Lib.hid ⟨rfl, rfl⟩
  clear hx hl hb hp0
  go_enter Try.func86, Try.ntmps86
  go_wp2
  go_loop [3, 11] (fun s i => ∃ k : Nat, k ≤ n ∧ i = .int .i64 k ∧ s = .int .i64 (catL xss k).length) (fun _ i => n - (intOf i).toNat)
  case atStart => exact ⟨0, Nat.zero_le _, rfl, by rw [HZ.out.1]; rfl⟩
  case round =>
    obtain ⟨k, hk, rfl, rfl⟩ := hrel
    by_cases hlt : k < n
    · obtain ⟨b, o, rfl, hc⟩ := HX.out.at_ (by omega)
      obtain ⟨R, cc, c1, hR⟩ := hc k hlt
      have hb1 := HCL.out k hk
      have hb2 := HL.out k (by rw [LX.out]; exact hlt)
      have HS : Hid ((catL xss (k + 1)).length = (catL xss k).length + (gr xss k).length) := Lib.hid (by rw [catL, List.length_append])
      have hnn : ¬ (((catL xss k).length : Int) + ((gr xss k).length : Int) < 0) := by omega
      clear hc hR
      generalize (catL xss k).length = L at *
      generalize (gr xss k).length = M at *
      go_wp2
      go_round
      case rel => exact ⟨k + 1, by omega, by go_num, by rw [HS.out]; go_num⟩
      case measure => simp [intOf]; omega
    · obtain rfl : k = n := by omega
      have HG := Lib.hid (Grow_any (catL xss k).length w h1 (by have := HCL.out k (Nat.le_refl k); omega))
      go_wp2_with fail
      refine HG.out.mono ?_
      rintro e w1 ⟨G, hG, rfl, hu⟩
      have HU := Lib.hid hu
      clear hu hG HG
      rw [← HZ.out.2] at HU
      go_wp2
      go_loopw [6, 27] (fun v i wr => ∃ p : Nat, p ≤ k ∧ i = .int .i64 p ∧ Hid (IU w v (catL xss p) wr)) (fun _ i _ => k - (intOf i).toNat)
      case atStart => exact ⟨0, Nat.zero_le _, rfl, HU⟩
      case round =>
        clear HU
        obtain ⟨p, hp, rfl, HU⟩ := hrel
        obtain ⟨Av, cv, rfl⟩ := HU.out.bi.form
        by_cases hlp : p < k
        · obtain ⟨b, o, rfl, hc⟩ := HX.out.at_ (by omega)
          obtain ⟨R, cc, c1, hR⟩ := hc p hlp
          have d1 := Keep.below HU.out.up _ _ c1
          have HR := Lib.hid (hR.keep (Keep.below HU.out.up))
          have HML := Lib.hid (HCL.out p hp)
          have HRL := Lib.hid (HL.out p (by rw [LX.out]; exact hlp))
          have HS : Hid (catL xss (p + 1) = catL xss p ++ gr xss p) := Lib.hid rfl
          have HP0 := Lib.hid (HPP.out p (by rw [LX.out]; exact hlp))
          clear hc c1 hR
          generalize gr xss p = r at *
          generalize catL xss p = ys at *
          have HOW := Lib.hid (show wr.ownsRow w.heap.size 3 1 (.slice Av ys.length cv) ys.length (ys.map iv) from HU.out.bi.own)
          have hwz := HU.out.up.size
          obtain ⟨i0, hi0, hz0, hz1, hz2⟩ := info_parts Try.info_int
          · obtain ⟨b', o', rfl, hcr⟩ := HR.out.at_ HP0.out
            have HCR := Lib.hid hcr
            clear hcr
            go_wp2_with (at_builtin; refine wpList_append_own_at _ rfl _ _ 26 rfl w.heap.size 3 i0 (.int .i64 0) 1 8 Try.underlying26 hi0 hz0 hz1 hz2 rfl (by decide) _ ys.length (ys.map iv) rfl HOW.out ⟨b', o', none⟩ r.length cc (r.map iv) rfl ?c1 ?c2 ?c3 ?c4 ?c5 ?c6 ?_)
            case c1 => simp
            case c2 => have := news_take (j := r.length) rfl HCR.out; rw [List.take_length] at this; exact this
            case c3 => exact ones_map _
            case c4 => have := HML.out; have := HRL.out; unfold maxLen; omega
            case c5 => have := HML.out; have := HRL.out; omega
            case c6 => exact hwz
            intro v' w5 hown' hgrow _ _
            have HU5 := Lib.hid (HU.out.pushs hown' hgrow)
            clear HOW hown' hgrow HU d1 HR HCR
            go_wp2
            go_roundw
            case rel => exact ⟨p + 1, by omega, by go_num, Lib.hid (by rw [HS.out]; exact HU5.out)⟩
            case measure => simp [intOf]; omega
        · obtain rfl : p = k := by omega
          have HN := Lib.hid (HU.out.new (by have := HCL.out p (Nat.le_refl p); omega) (fun y hy => by have := HCB.out p (Nat.le_refl p) y hy; omega))
          go_wp2
          go_ret
          exact HN.out
/-- Whether one number is below 0, and another one above. -/
def bothB (xs : List Int) : Bool := decide (lst xs < 0) && decide (0 < mxl xs)
end Go.Proofs.Ytoekpbcdgmejcaa

/- Signs of the sums of cofactors, as both programs ask for them. Plain. -/
namespace Go.Proofs.Ytoekpbcdgmejcaa
open V (sumN detN rowC colC cofN minorN skip sgn Asc Kern)

theorem mn_le {xs : List Int} : ∀ {k j : Nat}, j ≤ k → mn xs k ≤ gi xs j
  | 0, j, h => by obtain rfl : j = 0 := by omega
                  exact Int.le_refl _
  | k + 1, j, h => by
    rw [mn]
    by_cases e : j = k + 1
    · subst e; omega
    · have := mn_le (xs := xs) (k := k) (j := j) (by omega); omega
theorem mn_mem {xs : List Int} : ∀ k, ∃ j, j ≤ k ∧ mn xs k = gi xs j
  | 0 => ⟨0, Nat.le_refl _, rfl⟩
  | k + 1 => by
    obtain ⟨j, hj, e⟩ := mn_mem (xs := xs) k
    rw [mn]
    by_cases h : mn xs k ≤ gi xs (k + 1)
    · exact ⟨j, by omega, by omega⟩
    · exact ⟨k + 1, Nat.le_refl _, by omega⟩
theorem bothB_false {xs : List Int} (h0 : 0 < xs.length) : bothB xs = false ↔ (∀ p, p < xs.length → 0 ≤ gi xs p) ∨ ∀ p, p < xs.length → gi xs p ≤ 0 := by
  unfold bothB lst mxl
  rw [Bool.and_eq_false_iff, decide_eq_false_iff_not, decide_eq_false_iff_not]
  constructor
  · rintro (h | h)
    · exact .inl fun p hp => by have := mn_le (xs := xs) (k := xs.length - 1) (j := p) (by omega); omega
    · exact .inr fun p hp => by have := mx_ge xs (k := xs.length - 1) (j := p) (by omega); omega
  · rintro (h | h)
    · obtain ⟨j, hj, e⟩ := mn_mem (xs := xs) (xs.length - 1)
      exact .inl (by have := h j (by omega); omega)
    · obtain ⟨j, hj, e⟩ := mx_at xs (xs.length - 1)
      exact .inr (by have := h j (by omega); omega)
theorem gi_app_l {xs ys : List Int} {p : Nat} (h : p < xs.length) : gi (xs ++ ys) p = gi xs p := by
  rw [gi_get h, gi_get (by simp; omega), List.getElem_append_left h]
theorem gi_app_r {xs ys : List Int} {p : Nat} (h : p < ys.length) : gi (xs ++ ys) (xs.length + p) = gi ys p := by
  rw [gi_get h, gi_get (by simp; omega), List.getElem_append_right (by omega)]; congr 1; omega
theorem sgn_app {xs ys : List Int} {P : Int → Prop} : (∀ p, p < (xs ++ ys).length → P (gi (xs ++ ys) p)) ↔ (∀ p, p < xs.length → P (gi xs p)) ∧ ∀ p, p < ys.length → P (gi ys p) := by
  rw [List.length_append]
  constructor
  · intro h
    exact ⟨fun p hp => by rw [← gi_app_l (ys := ys) hp]; exact h p (by omega), fun p hp => by rw [← gi_app_r (xs := xs) hp]; exact h _ (by omega)⟩
  · rintro ⟨h1, h2⟩ p hp
    by_cases e : p < xs.length
    · rw [gi_app_l e]; exact h1 p e
    · obtain ⟨q, rfl⟩ : ∃ q, p = xs.length + q := ⟨p - xs.length, by omega⟩
      rw [gi_app_r (by omega)]; exact h2 q (by omega)

theorem rowC_det0 {k : Nat} (h1 : 1 ≤ k) (hk : k ≤ 3) (f : Nat → Nat → Int) (h : ∀ p, p < k → rowC k f p = 0) : detN k f = 0 := by
  have : k = 1 ∨ k = 2 ∨ k = 3 := by omega
  rcases this with rfl | rfl | rfl
  · have := h 0 (by omega)
    simp [rowC, sumN, cofN, sgn, detN] at this
  · have a := h 0 (by omega)
    have b := h 1 (by omega)
    simp [rowC, sumN, cofN, sgn, detN, minorN, skip] at a b ⊢
    grind
  · have a := h 0 (by omega)
    have b := h 1 (by omega)
    have c := h 2 (by omega)
    obtain ⟨e0, e1, e2⟩ := V.rowC3 f
    have e : detN 3 f = rowC 3 f 0 * f 0 0 + rowC 3 f 1 * f 1 0 + rowC 3 f 2 * f 2 0 := by rw [V.det3, e0, e1, e2]; grind
    rw [e, a, b, c]; omega
theorem colC_det0 {k : Nat} (h1 : 1 ≤ k) (hk : k ≤ 3) (f : Nat → Nat → Int) (h : ∀ p, p < k → colC k f p = 0) : detN k f = 0 := by
  have : k = 1 ∨ k = 2 ∨ k = 3 := by omega
  rcases this with rfl | rfl | rfl
  · have := h 0 (by omega)
    simp [colC, sumN, cofN, sgn, detN] at this
  · have a := h 0 (by omega)
    have b := h 1 (by omega)
    simp [colC, sumN, cofN, sgn, detN, minorN, skip] at a b ⊢
    grind
  · have a := h 0 (by omega)
    have b := h 1 (by omega)
    have c := h 2 (by omega)
    obtain ⟨e0, e1, e2⟩ := V.colC3 f
    have e : detN 3 f = colC 3 f 0 * f 0 0 + colC 3 f 1 * f 0 1 + colC 3 f 2 * f 0 2 := by rw [V.det3, e0, e1, e2]; grind
    rw [e, a, b, c]; omega
theorem kXY_sum {a : List (List Int)} {k : Nat} (hk : k ≤ 3) (r s : Nat → Nat) : sumN (gi (kX a r s k)) k = sumN (gi (kY a r s k)) k := by
  rw [sumN_congr (f := gi (kX a r s k)) (g := rowC k (kf a r s)) fun p hp => by unfold kX; rw [gi_cofL hp],
    sumN_congr (f := gi (kY a r s k)) (g := colC k (kf a r s)) fun p hp => by unfold kY; rw [gi_cofL hp, rowC_tr hk]]
  exact sumN_swap (fun i j => cofN k (kf a r s) i j) k k
/-- The one test is the other two. -/
theorem sgn_ok {a : List (List Int)} {k : Nat} {r s : Nat → Nat} (h1 : 1 ≤ k) (hk : k ≤ 3) (hd : detN k (kf a r s) ≠ 0) : bothB (kX a r s k ++ kY a r s k) = false ↔ ClrP (kX a r s k) ∧ ClrP (kY a r s k) := by
  have lx := kX_len a r s k
  have ly := kY_len a r s k
  have nx : ∃ p, p < (kX a r s k).length ∧ gi (kX a r s k) p ≠ 0 := by
    apply Classical.byContradiction; intro hn
    exact hd (rowC_det0 h1 hk _ fun p hp => by
      have h : ¬ gi (kX a r s k) p ≠ 0 := fun e => hn ⟨p, by omega, e⟩
      unfold kX at h; rw [gi_cofL hp] at h; omega)
  have ny : ∃ p, p < (kY a r s k).length ∧ gi (kY a r s k) p ≠ 0 := by
    apply Classical.byContradiction; intro hn
    exact hd (colC_det0 h1 hk _ fun p hp => by
      have h : ¬ gi (kY a r s k) p ≠ 0 := fun e => hn ⟨p, by omega, e⟩
      unfold kY at h; rw [gi_cofL hp, rowC_tr hk] at h; omega)
  rw [bothB_false (by rw [List.length_append]; omega), sgn_app (P := fun x => 0 ≤ x), sgn_app (P := fun x => x ≤ 0)]
  constructor
  · rintro (⟨p, q⟩ | ⟨p, q⟩)
    · exact ⟨⟨nx, .inl p⟩, ny, .inl q⟩
    · exact ⟨⟨nx, .inr p⟩, ny, .inr q⟩
  · rintro ⟨⟨_, hx⟩, _, hy⟩
    have e := kXY_sum (a := a) hk r s
    have pos : ∀ X : List Int, X.length = k → (∃ p, p < X.length ∧ gi X p ≠ 0) → (∀ p, p < X.length → 0 ≤ gi X p) → 0 < sumN (gi X) k := fun X hl ⟨p, hp, hn⟩ h =>
      sumN_pos (fun i hi => h i (by omega)) ⟨p, by omega, by have := h p hp; omega⟩
    have neg : ∀ X : List Int, X.length = k → (∃ p, p < X.length ∧ gi X p ≠ 0) → (∀ p, p < X.length → gi X p ≤ 0) → sumN (gi X) k < 0 := fun X hl ⟨p, hp, hn⟩ h => by
      have := sumN_pos (f := fun i => (-1) * gi X i) (n := k) (fun i hi => by have := h i (by omega); omega) ⟨p, by omega, by have := h p hp; omega⟩
      rw [sumN_mul] at this; omega
    rcases hx with hx | hx <;> rcases hy with hy | hy
    · exact .inl ⟨hx, hy⟩
    · have := pos _ lx nx hx; have := neg _ ly ny hy; omega
    · have := neg _ lx nx hx; have := pos _ ly ny hy; omega
    · exact .inr ⟨hx, hy⟩
theorem catL_two (xs ys : List Int) : catL [xs, ys] 2 = xs ++ ys := by simp [catL, gr]
end Go.Proofs.Ytoekpbcdgmejcaa

/- Sums of a row with shares. -/
namespace Go.Proofs.Ytoekpbcdgmejcaa

/-- What row i has against shares: the terms, and the sum of the first j of them. -/
def dotr (a : List (List Int)) (w : List Int) (i : Nat) : Nat → Int
  | 0 => 0
  | j + 1 => dotr a w i j + g2 a i j * gi w j
def termL (a : List (List Int)) (w : List Int) (i : Nat) : Nat → List Int
  | 0 => []
  | j + 1 => termL a w i j ++ [g2 a i j * gi w j]
theorem termL_len (a : List (List Int)) (w : List Int) (i : Nat) : ∀ j, (termL a w i j).length = j
  | 0 => rfl
  | j + 1 => by rw [termL, List.length_append, termL_len a w i j]; rfl
theorem termL_tot (a : List (List Int)) (w : List Int) (i : Nat) : ∀ j, tot (termL a w i j) = dotr a w i j
  | 0 => rfl
  | j + 1 => by rw [termL, tot_snoc, termL_tot a w i j, dotr]
theorem termL_bd {a : List (List Int)} {w : List Int} {i m : Nat} (ha : ∀ j, j < m → -9 ≤ g2 a i j ∧ g2 a i j ≤ 9) (hw : ∀ j, j < m → 0 ≤ gi w j ∧ gi w j ≤ 1000) :
    ∀ {j}, j ≤ m → ∀ t ∈ termL a w i j, -9000 ≤ t ∧ t ≤ 9000
  | 0, _, t, h => by simp [termL] at h
  | j + 1, hj, t, h => by
    rw [termL, List.mem_append] at h
    rcases h with h | h
    · exact termL_bd ha hw (j := j) (by omega) t h
    · simp only [List.mem_singleton] at h; subst h
      exact mul_bd3 (hw j (by omega)) (ha j (by omega))
theorem dotr_bd {a : List (List Int)} {w : List Int} {i m : Nat} (ha : ∀ j, j < m → -9 ≤ g2 a i j ∧ g2 a i j ≤ 9) (hw : ∀ j, j < m → 0 ≤ gi w j ∧ gi w j ≤ 1000) :
    ∀ {j}, j ≤ m → -9000 * (j : Int) ≤ dotr a w i j ∧ dotr a w i j ≤ 9000 * (j : Int)
  | 0, _ => by simp [dotr]
  | j + 1, hj => by
    have h1 := dotr_bd ha hw (j := j) (by omega)
    have h2 := mul_bd3 (hw j (by omega)) (ha j (by omega))
    simp only [dotr]
    omega
/-- .. against one strategy alone: a number of the table. -/
theorem dotr_onl (a : List (List Int)) (n i k : Nat) : ∀ {j}, j ≤ n → dotr a (onl n k) i j = if k < j then g2 a i k else 0
  | 0, _ => by simp [dotr]
  | j + 1, h => by
    rw [dotr, dotr_onl a n i k (j := j) (by omega), gi_onl (by omega)]
    by_cases e : j = k
    · subst e; rw [if_neg (by omega), if_pos rfl, if_pos (by omega)]; simp
    · rw [if_neg e]
      by_cases h2 : k < j
      · rw [if_pos h2, if_pos (by omega)]; simp
      · rw [if_neg h2, if_neg (by omega)]; simp
theorem dotr_alone (a : List (List Int)) (n i k : Nat) (hk : k < n) : dotr a (onl n k) i n = g2 a i k := by
  rw [dotr_onl a n i k (Nat.le_refl n), if_pos hk]
theorem payR_row (a : List (List Int)) (w : List Int) (n i k : Nat) (hk : k < n) : ∀ j, payR a (onl n i) w k j = if k = i then dotr a w i j else 0
  | 0 => by simp [payR, dotr]
  | j + 1 => by
    rw [payR, payR_row a w n i k hk j, gi_onl hk, dotr]
    by_cases e : k = i
    · subst e; rw [if_pos rfl, if_pos rfl, if_pos rfl, Int.one_mul, Int.mul_comm (gi w j)]
    · rw [if_neg e, if_neg e, if_neg e]; simp
theorem payU_row (a : List (List Int)) (w : List Int) (n m i : Nat) : ∀ {k}, k ≤ n → payU a (onl n i) w m k = if i < k then dotr a w i m else 0
  | 0, _ => by simp [payU]
  | k + 1, h => by
    rw [payU, payU_row a w n m i (k := k) (by omega), payR_row a w n i k (by omega)]
    by_cases e : k = i
    · subst e; rw [if_neg (by omega), if_pos rfl, if_pos (by omega)]; simp
    · rw [if_neg e]
      by_cases h2 : i < k
      · rw [if_pos h2, if_pos (by omega)]; simp
      · rw [if_neg h2, if_neg (by omega)]; simp
/-- The model's sum with one strategy alone is that of its row. -/
theorem payU_alone (a : List (List Int)) (w : List Int) (n m i : Nat) (hi : i < n) : payU a (onl n i) w m n = dotr a w i m := by
  rw [payU_row a w n m i (Nat.le_refl n), if_pos hi]
end Go.Proofs.Ytoekpbcdgmejcaa

/- Squares, by both programs. -/
namespace Go.Proofs.Ytoekpbcdgmejcaa
open Go.RowKit

/-- A valid table with as many rows as columns. -/
def VQ (a : List (List Int)) : Prop := VT a ∧ a.length = (gr a 0).length

set_option maxHeartbeats 400000 in
theorem validSquare_any (A : Option Addr) (n c : Nat) (a : List (List Int)) (w : World) (hx : IntRows w A n c a) :
    Calls Try.prog 49 #[.slice A n c] w fun e w' => e = .returned (.bool (pb (VQ a))) ∧ Quiet w w' := by
  have hl := hx.len
  by_cases hv : VT a
  · have h1 := hv.n1
    obtain ⟨b, o, rfl, hc⟩ := hx.at_ (by omega)
    obtain ⟨R, cc, h0, -⟩ := hc 0 (by omega)
    simp only [Nat.add_zero] at h0
    have H0 := Lib.hid h0
    have HC := Lib.hid (pb_true hv ▸ validTable_any _ n c a w hx)
    have hn : 0 < n := by omega
    by_cases hs : a.length = (gr a 0).length
    · rw [pb_true (p := VQ a) ⟨hv, hs⟩]
      have hm : (gr a 0).length = n := by omega
      rw [hm] at H0
      clear hm hs hc h0 hv hx h1 hl
      go_enter Try.func49, Try.ntmps49
      go_wp2_with fail
      refine HC.out.mono ?_
      rintro e w1 ⟨rfl, hq⟩
      have h0 := Keep.quiet hq _ _ H0.out
      go_wp2
      go_ret
      exact ⟨rfl, hq⟩
    · rw [pb_false (p := VQ a) (fun h => hs h.2)]
      have hm : ¬ n = (gr a 0).length := by omega
      clear hs hc h0 hv hx h1 hl
      generalize (gr a 0).length = m at *
      have hz : ((n : Int) == (m : Int)) = false := by rw [beq_eq_false_iff_ne]; omega
      go_enter Try.func49, Try.ntmps49
      go_wp2_with fail
      refine HC.out.mono ?_
      rintro e w1 ⟨rfl, hq⟩
      have h0 := Keep.quiet hq _ _ H0.out
      go_wp2
      go_ret
      exact ⟨rfl, hq⟩
  · rw [pb_false (p := VQ a) (fun h => hv h.1)]
    have HC := Lib.hid (pb_false hv ▸ validTable_any A n c a w hx)
    clear hv hx hl
    go_enter Try.func49, Try.ntmps49
    go_wp2_with fail
    refine HC.out.mono ?_
    rintro e w1 ⟨rfl, hq⟩
    go_wp2
    go_ret
    exact ⟨rfl, hq⟩

set_option maxHeartbeats 400000 in
theorem ValidSquare_impl (A : Option Addr) (n c : Nat) (a : List (List Int)) (w : World) (hx : IntRows w A n c a) :
    Calls Try.prog 20 #[.slice A n c] w fun e w' => e = .returned (.bool (pb (VQ a))) ∧ Quiet w w' := by
  have hl := hx.len
  by_cases hv : VT a
  · have h1 := hv.n1
    obtain ⟨b, o, rfl, hc⟩ := hx.at_ (by omega)
    obtain ⟨R, cc, h0, -⟩ := hc 0 (by omega)
    simp only [Nat.add_zero] at h0
    have H0 := Lib.hid h0
    have HC := Lib.hid (pb_true hv ▸ ValidTable_impl _ n c a w hx)
    have hn : 0 < n := by omega
    by_cases hs : a.length = (gr a 0).length
    · rw [pb_true (p := VQ a) ⟨hv, hs⟩]
      have hm : (gr a 0).length = n := by omega
      rw [hm] at H0
      clear hm hs hc h0 hv hx h1 hl
      go_enter Try.func20, Try.ntmps20
      go_wp2_with fail
      refine HC.out.mono ?_
      rintro e w1 ⟨rfl, hq⟩
      have h0 := Keep.quiet hq _ _ H0.out
      go_wp2
      go_ret
      exact ⟨rfl, hq⟩
    · rw [pb_false (p := VQ a) (fun h => hs h.2)]
      have hm : ¬ n = (gr a 0).length := by omega
      clear hs hc h0 hv hx h1 hl
      generalize (gr a 0).length = m at *
      have hz : ((n : Int) == (m : Int)) = false := by rw [beq_eq_false_iff_ne]; omega
      go_enter Try.func20, Try.ntmps20
      go_wp2_with fail
      refine HC.out.mono ?_
      rintro e w1 ⟨rfl, hq⟩
      have h0 := Keep.quiet hq _ _ H0.out
      go_wp2
      go_ret
      exact ⟨rfl, hq⟩
  · rw [pb_false (p := VQ a) (fun h => hv h.1)]
    have HC := Lib.hid (pb_false hv ▸ ValidTable_impl A n c a w hx)
    clear hv hx hl
    go_enter Try.func20, Try.ntmps20
    go_wp2_with fail
    refine HC.out.mono ?_
    rintro e w1 ⟨rfl, hq⟩
    go_wp2
    go_ret
    exact ⟨rfl, hq⟩
end Go.Proofs.Ytoekpbcdgmejcaa

/- When one strategy holds against another one, by the model. -/
namespace Go.Proofs.Ytoekpbcdgmejcaa
open Go.RowKit

/-- Strategy i holds against j: more against i, or as much, and more against j. -/
def HoldP (a : List (List Int)) (i j : Nat) : Prop := g2 a j i < g2 a i i ∨ g2 a i i = g2 a j i ∧ g2 a j j < g2 a i j

set_option maxRecDepth 100000 in
set_option maxHeartbeats 1600000 in
theorem holds_any (A : Option Addr) (n c : Nat) (a : List (List Int)) (w : World) (i j : Nat) (hx : IntRows w A n c a) (hq : VQ a) (hi : i < n) (hj : j < n) :
    Calls Try.prog 50 #[.slice A n c, .int .i64 i, .int .i64 j] w fun e w' => e = .returned (.bool (pb (HoldP a i j))) ∧ Quiet w w' := by
  obtain ⟨b, o, rb, ro, cc, rfl, tab⟩ := hx.tab hq.1
  have hl := hx.len
  have hm : (gr a 0).length = n := by have := hq.2; omega
  rw [hm] at tab
  have r1 := tab.row i hi
  have r2 := tab.row j hj
  have c11 := tab.cell i i hi hi
  have c21 := tab.cell j i hj hi
  have c12 := tab.cell i j hi hj
  have c22 := tab.cell j j hj hj
  have hin : (i : Int) < (n : Int) := by omega
  have hjn : (j : Int) < (n : Int) := by omega
  unfold HoldP
  generalize g2 a i i = p at *
  generalize g2 a j i = q at *
  generalize g2 a i j = s at *
  generalize g2 a j j = t at *
  clear tab hm hl hq hx hi hj
  by_cases h1 : q < p
  · rw [pb_true (p := q < p ∨ p = q ∧ t < s) (.inl h1)]
    go_enter Try.func50, Try.ntmps50
    go_wp2_with fail
    go_quiet (fail)
    go_wp2
    go_ret
    exact ⟨rfl, _, rfl⟩
  · have h1' : decide (q < p) = false := decide_eq_false h1
    by_cases h2 : p = q
    · subst h2
      by_cases h3 : t < s
      · rw [pb_true (p := p < p ∨ p = p ∧ t < s) (.inr ⟨rfl, h3⟩)]
        go_enter Try.func50, Try.ntmps50
        go_wp2_with fail
        go_quiet (fail)
        go_wp2
        go_ret
        exact ⟨rfl, _, rfl⟩
      · rw [pb_false (p := p < p ∨ p = p ∧ t < s) (by omega)]
        have h3' : decide (t < s) = false := decide_eq_false h3
        go_enter Try.func50, Try.ntmps50
        go_wp2_with fail
        go_quiet (fail)
        go_wp2
        go_ret
        exact ⟨rfl, _, rfl⟩
    · rw [pb_false (p := q < p ∨ p = q ∧ t < s) (by omega)]
      have h2' : (p == q) = false := by rw [beq_eq_false_iff_ne]; exact h2
      go_enter Try.func50, Try.ntmps50
      go_wp2_with fail
      go_quiet (fail)
      go_wp2
      go_ret
      exact ⟨rfl, _, rfl⟩
end Go.Proofs.Ytoekpbcdgmejcaa

/- Stable strategies, by the model. -/
namespace Go.Proofs.Ytoekpbcdgmejcaa
open Go.RowKit

/-- Strategy i holds against all others before number l. -/
def StP (a : List (List Int)) (i l : Nat) : Prop := ∀ j, j < l → i = j ∨ HoldP a i j
theorem StP.zero (a : List (List Int)) (i : Nat) : StP a i 0 := fun _ h => absurd h (by omega)
theorem StP.succ {a : List (List Int)} {i l : Nat} : StP a i (l + 1) ↔ StP a i l ∧ (i = l ∨ HoldP a i l) := by
  constructor
  · exact fun h => ⟨fun j hj => h j (by omega), h l (by omega)⟩
  · rintro ⟨h1, h2⟩ j hj
    by_cases e : j = l
    · subst e; exact h2
    · exact h1 j (by omega)
/-- The strategies before number k that hold against all n. -/
noncomputable def stL (a : List (List Int)) (n : Nat) : Nat → List Int
  | 0 => []
  | k + 1 => stL a n k ++ (if pb (StP a k n) = true then [(k : Int)] else [])
theorem stL_yes {a : List (List Int)} {n k : Nat} (h : StP a k n) : stL a n (k + 1) = stL a n k ++ [(k : Int)] := by rw [stL, if_pos (pb_true h)]
theorem stL_no {a : List (List Int)} {n k : Nat} (h : ¬ StP a k n) : stL a n (k + 1) = stL a n k := by rw [stL, if_neg (by rw [pb_false h]; decide), List.append_nil]
theorem stL_len (a : List (List Int)) (n : Nat) : ∀ k, (stL a n k).length ≤ k
  | 0 => by simp [stL]
  | k + 1 => by
    have := stL_len a n k
    rw [stL, List.length_append]
    split <;> simp <;> omega
theorem stL_bd (a : List (List Int)) (n : Nat) : ∀ k, ∀ y ∈ stL a n k, 0 ≤ y ∧ y < (k : Int)
  | 0, y, h => by simp [stL] at h
  | k + 1, y, h => by
    rw [stL, List.mem_append] at h
    rcases h with h | h
    · have := stL_bd a n k y h; omega
    · split at h
      · simp only [List.mem_singleton] at h; omega
      · simp at h
/-- What StableOf answers. -/
noncomputable def stF (a : List (List Int)) : List Int := if pb (VQ a) = true then stL a a.length a.length else []
theorem NewI.quiet {w w1 w' : World} {ys : List Int} {e : Ending} (h : Quiet w w1) (k : NewI w1 ys e w') : NewI w ys e w' := by
  obtain ⟨m, rfl⟩ := h
  obtain ⟨A, n, c, g, e1, e2, ho, hb⟩ := k
  exact ⟨A, n, c, g, e1, e2, ho, ⟨hb.os, hb.tape, hb.output, hb.size, hb.block⟩⟩
theorem IU.quiet {wb v ys w w'} (h : IU wb v ys w) (k : Quiet w w') : IU wb v ys w' := h.next k.below

set_option maxRecDepth 100000 in
set_option maxHeartbeats 1600000 in
theorem StableOf_spec (A : Option Addr) (n c : Nat) (a : List (List Int)) (w : World) (hx : IntRows w A n c a) :
    Calls Try.prog 14 #[.slice A n c] w (NewI w (stF a)) := by
  have HX := Lib.hid hx
  have hl := hx.len
  by_cases hv : VQ a
  · have HC := Lib.hid (pb_true hv ▸ validSquare_any A n c a w hx)
    have HF := Lib.hid (show stF a = stL a n n by unfold stF; rw [if_pos (pb_true hv), hl])
    have HV := Lib.hid hv
    have hn3 : n ≤ 3 := by have := hv.1.n3; omega
    clear hx hl hv
    go_enter Try.func14, Try.ntmps14
    go_wp2_with fail
    refine HC.out.mono ?_
    rintro e w1 ⟨rfl, hq⟩
    have HQ := Lib.hid hq
    have HX1 := Lib.hid (HX.out.keep (Keep.quiet hq))
    have HS0 := Lib.hid (IU.start w1)
    clear hq HC HX
    go_wp2
    go_loopw [3, 4] (fun v i wr => ∃ k : Nat, k ≤ n ∧ i = .int .i64 k ∧ Hid (IU w1 v (stL a n k) wr)) (fun _ i _ => n - (intOf i).toNat)
    case atStart => exact ⟨0, Nat.zero_le _, rfl, HS0⟩
    case round =>
      clear HS0
      obtain ⟨k, hk, rfl, HI⟩ := hrel
      obtain ⟨Av, cv, rfl⟩ := HI.out.bi.form
      by_cases hlt : k < n
      · generalize wr = W0 at *
        go_wp2
        go_loopw [5, 6] (fun s j wi => ∃ (l : Nat) (bb : Bool), l ≤ n ∧ j = .int .i64 l ∧ s = .bool bb ∧ Hid (pb (StP a k l) = bb) ∧ Hid (Quiet W0 wi)) (fun _ j _ => n - (intOf j).toNat)
        case atStart => exact ⟨0, true, Nat.zero_le _, rfl, rfl, Lib.hid (pb_true (StP.zero a k)), Lib.hid (Quiet.refl _)⟩
        case round =>
          obtain ⟨l, bb, hl, rfl, rfl, HB, HQ2⟩ := hrel
          by_cases hll : l < n
          · cases bb
            · have HN := Lib.hid (pb_false (p := StP a k (l + 1)) (fun h => by have := pb_true (StP.succ.1 h).1; rw [HB.out] at this; cases this))
              go_wp2
              go_roundw
              case rel => exact ⟨l + 1, false, by omega, by go_num, rfl, HN, HQ2⟩
              case measure => simp [intOf]; omega
            · have HP := Lib.hid (pb_iff.1 HB.out)
              by_cases e : k = l
              · subst e
                have HN := Lib.hid (pb_true (p := StP a k (k + 1)) (StP.succ.2 ⟨HP.out, .inl rfl⟩))
                go_wp2
                go_roundw
                case rel => exact ⟨k + 1, true, by omega, by go_num, rfl, HN, HQ2⟩
                case measure => simp [intOf]; omega
              · have hne : ((k : Int) == (l : Int)) = false := by rw [beq_eq_false_iff_ne]; omega
                have HH := Lib.hid (holds_any A n c a wr k l ((HX1.out.keep (Keep.below HI.out.up)).keep (Keep.quiet HQ2.out)) HV.out hlt hll)
                by_cases hh : HoldP a k l
                · rw [pb_true hh] at HH
                  have HN := Lib.hid (pb_true (p := StP a k (l + 1)) (StP.succ.2 ⟨HP.out, .inr hh⟩))
                  clear hh e
                  go_wp2_with fail
                  refine HH.out.mono ?_
                  rintro e w3 ⟨rfl, hq⟩
                  have HQ3 := Lib.hid (HQ2.out.trans hq)
                  clear hq HQ2
                  go_wp2
                  go_roundw
                  case rel => exact ⟨l + 1, true, by omega, by go_num, rfl, HN, HQ3⟩
                  case measure => simp [intOf]; omega
                · rw [pb_false hh] at HH
                  have HN := Lib.hid (pb_false (p := StP a k (l + 1)) (fun h => (StP.succ.1 h).2.elim e hh))
                  clear hh e
                  go_wp2_with fail
                  refine HH.out.mono ?_
                  rintro e w3 ⟨rfl, hq⟩
                  have HQ3 := Lib.hid (HQ2.out.trans hq)
                  clear hq HQ2
                  go_wp2
                  go_roundw
                  case rel => exact ⟨l + 1, false, by omega, by go_num, rfl, HN, HQ3⟩
                  case measure => simp [intOf]; omega
          · obtain rfl : l = n := by omega
            have HI1 := Lib.hid (HI.out.quiet HQ2.out)
            clear HI HQ2
            cases bb
            · have HCS := Lib.hid (stL_no (a := a) (n := l) (k := k) (fun h => by have := pb_true h; rw [HB.out] at this; cases this))
              clear HB
              go_wp2
              go_roundw
              case rel => exact ⟨k + 1, by omega, by go_num, Lib.hid (by rw [HCS.out]; exact HI1.out)⟩
              case measure => simp [intOf]; omega
            · have HCS := Lib.hid (stL_yes (a := a) (n := l) (k := k) (pb_iff.1 HB.out))
              have HML := Lib.hid (stL_len a l k)
              clear HB
              have hb := below_alloc wr (.cells #[iv (k : Int)] 3)
              have HB4 := Lib.hid (HI1.out.bi.below hb).own
              have HN := Lib.hid (cell_one_new wr (iv (k : Int)) 3)
              have hwz := HI1.out.up.size
              clear hb
              generalize stL a l k = ys at *
              obtain ⟨i0, hi0, hz0, hz1, hz2⟩ := info_parts Try.info_int
              go_wp2_with (at_builtin; refine wpList_append_own_at _ rfl _ _ 26 rfl w1.heap.size 3 i0 (.int .i64 0) 1 8 Try.underlying26 hi0 hz0 hz1 hz2 rfl (by decide) _ ys.length (ys.map iv) rfl HB4.out ⟨wr.heap.size, 0, none⟩ 1 1 [iv (k : Int)] rfl rfl ?c1 ?c2 ?c3 ?c4 ?c5 ?_)
              case c1 => exact HN.out
              case c2 => intro u hu; simp at hu; subst hu; rfl
              case c3 => have := HML.out; unfold maxLen; omega
              case c4 => have := HML.out; omega
              case c5 => simp; omega
              intro v' w5 hown' hgrow _ hat
              have HI5 := Lib.hid (HI1.out.push hown' hgrow (by simpa using hat))
              clear HB4 HN hown' hgrow hat HI1
              go_wp2
              go_roundw
              case rel => exact ⟨k + 1, by omega, by go_num, Lib.hid (by rw [HCS.out]; exact HI5.out)⟩
              case measure => simp [intOf]; omega
      · obtain rfl : k = n := by omega
        have HNW := Lib.hid (NewI.quiet HQ.out (HI.out.new (by have := stL_len a k k; omega) (fun y hy => by have := stL_bd a k k y hy; omega)))
        go_wp2
        go_ret
        rw [HF.out]
        exact HNW.out
  · have HC := Lib.hid (pb_false hv ▸ validSquare_any A n c a w hx)
    have HF := Lib.hid (show stF a = [] by unfold stF; rw [if_neg (by rw [pb_false hv]; decide)])
    clear hx hl hv
    go_enter Try.func14, Try.ntmps14
    go_wp2_with fail
    refine HC.out.mono ?_
    rintro e w1 ⟨rfl, hq⟩
    go_wp2
    go_ret
    rw [HF.out]
    exact ⟨none, 0, 0, 0, rfl, rfl, OwnI.nil _ _ _ _, hq.below⟩
end Go.Proofs.Ytoekpbcdgmejcaa

/- What strategies have against shares, told by a closure; which hold: by the program. -/
namespace Go.Proofs.Ytoekpbcdgmejcaa
open Go.RowKit

theorem VS.bds {w : List Int} {n : Nat} (h : VS w n) : ∀ j, j < n → 0 ≤ gi w j ∧ gi w j ≤ 1000 := fun j hj => h.2.1 j (by have := h.1; omega)
theorem onl_bds (n k : Nat) : ∀ j, j < n → 0 ≤ gi (onl n k) j ∧ gi (onl n k) j ≤ 1000 := fun j hj => by have := onl_bd (n := n) (i := k) hj; omega
/-- Where the closure finds the table and the shares. -/
structure PA (a : List (List Int)) (w : List Int) (n : Nat) (pa pw b o c cw : Nat) (rb ro cc : Nat → Nat) (Y : Option Addr) (W : World) : Prop where
  tab : Tab W b o rb ro cc n n a
  sh : Ints W Y n cw w
  bd : ∀ j, j < n → 0 ≤ gi w j ∧ gi w j ≤ 1000
  ca : W.cell? ⟨pa, 0, none⟩ = some (.slice (some ⟨b, o, none⟩) n c)
  cs : W.cell? ⟨pw, 0, none⟩ = some (.slice Y n cw)
theorem PA.keep {a w n pa pw b o c cw rb ro cc Y W W'} (h : PA a w n pa pw b o c cw rb ro cc Y W) (k : Keep W W') : PA a w n pa pw b o c cw rb ro cc Y W' :=
  ⟨h.tab.keep k, h.sh.keep k, h.bd, k _ _ h.ca, k _ _ h.cs⟩

set_option maxRecDepth 100000 in
set_option maxHeartbeats 1600000 in
theorem payAt_any (a : List (List Int)) (w : List Int) (n pa pw b o c cw : Nat) (rb ro cc : Nat → Nat) (Y : Option Addr) (W : World) (h : PA a w n pa pw b o c cw rb ro cc Y W) (i : Nat) (hi : i < n) :
    Calls Try.prog 96 #[.int .i64 i, .pointer (some ⟨pa, 0, none⟩), .pointer (some ⟨pw, 0, none⟩)] W (Ret (.int .i64 (dotr a w i n)) W) := by
  have H := Lib.hid h
  have hn1 := h.tab.n1
  have hn3 := h.tab.n3
  have q1 := h.ca
  have q2 := h.cs
  have q3 := h.tab.row i hi
  have HB := Lib.hid (fun j (hj : j < n) => h.tab.bd i j hi hj)
  obtain ⟨by_, oy, rfl, hcy⟩ := h.sh.at_ (by omega)
  have HY := Lib.hid hcy
  have HS0 := Lib.hid (IU.nil W)
  have HZ : Hid (termL a w i 0 = []) := Lib.hid rfl
  clear h hcy
  go_enter Try.func96, Try.ntmps96
  go_wp2
  clear q1 q2 q3
  go_loopw [5, 13] (fun v i_ wr => ∃ k : Nat, k ≤ n ∧ i_ = .int .i64 k ∧ Hid (IU W v (termL a w i k) wr)) (fun _ i_ _ => n - (intOf i_).toNat)
  case atStart => exact ⟨0, Nat.zero_le _, rfl, Lib.hid (by rw [HZ.out]; exact HS0.out)⟩
  case round =>
    clear HS0 HZ
    obtain ⟨k, hk, rfl, HI⟩ := hrel
    obtain ⟨Av, cv, rfl⟩ := HI.out.bi.form
    by_cases hlt : k < n
    · have c1 := Keep.below HI.out.up _ _ (H.out.tab.cell i k hi hlt)
      have c2 := Keep.below HI.out.up _ _ H.out.cs
      have c3 := Keep.below HI.out.up _ _ (HY.out k hlt)
      obtain ⟨z1, z2⟩ := HB.out k hlt
      obtain ⟨x1, x2⟩ := H.out.bd k hlt
      obtain ⟨p1, p2⟩ := mul_bd3 ⟨x1, x2⟩ ⟨z1, z2⟩
      have HCS : Hid (termL a w i (k + 1) = termL a w i k ++ [g2 a i k * gi w k]) := Lib.hid rfl
      have HML := Lib.hid (termL_len a w i k)
      have hb := below_alloc wr (.cells #[iv (g2 a i k * gi w k)] 3)
      have HB4 := Lib.hid (HI.out.bi.below hb).own
      have HN := Lib.hid (cell_one_new wr (iv (g2 a i k * gi w k)) 3)
      have hwz := HI.out.up.size
      clear hb
      generalize termL a w i k = ys at *
      generalize g2 a i k = g at *
      generalize gi w k = s at *
      obtain ⟨i0, hi0, hz0, hz1, hz2⟩ := info_parts Try.info_int
      go_wp2_with (at_builtin; refine wpList_append_own_at _ rfl _ _ 26 rfl W.heap.size 3 i0 (.int .i64 0) 1 8 Try.underlying26 hi0 hz0 hz1 hz2 rfl (by decide) _ ys.length (ys.map iv) rfl HB4.out ⟨wr.heap.size, 0, none⟩ 1 1 [iv (g * s)] rfl rfl ?c1 ?c2 ?c3 ?c4 ?c5 ?_)
      case c1 => exact HN.out
      case c2 => intro u hu; simp at hu; subst hu; rfl
      case c3 => have := HML.out; unfold maxLen; omega
      case c4 => have := HML.out; omega
      case c5 => simp; omega
      intro v' w5 hown' hgrow _ hat
      have HI5 := Lib.hid (HI.out.push hown' hgrow (by simpa using hat))
      clear HB4 HN hown' hgrow hat HI c1 c2 c3
      go_wp2
      go_roundw
      case rel => exact ⟨k + 1, by omega, by go_num, Lib.hid (by rw [HCS.out]; exact HI5.out)⟩
      case measure => simp [intOf]; omega
    · obtain rfl : k = n := by omega
      have HL := Lib.hid (termL_len a w i k)
      have HTB := Lib.hid (termL_bd HB.out H.out.bd (Nat.le_refl k))
      have HSM := Lib.hid (show SumOk (termL a w i k) from ⟨by rw [HL.out]; omega, fun j hj => by have := HTB.out _ (gi_mem hj); omega⟩)
      have HTT := Lib.hid (termL_tot a w i k)
      have HIN := Lib.hid (HI.out.ints (by rw [HL.out]; omega) (fun y hy => by have := HTB.out y hy; omega))
      have HUP := Lib.hid HI.out.up
      have HC := Lib.hid (HTT.out ▸ sumOf_any _ _ _ _ wr HIN.out HSM.out)
      clear HI
      go_wp2_with fail
      refine HC.out.mono ?_
      rintro e w2 ⟨rfl, hq⟩
      have HB2 := Lib.hid (below_quiet HUP.out hq)
      clear hq HC
      go_wp2
      go_ret
      exact ⟨rfl, HB2.out⟩

/-- The closure of two boxes. -/
def MadeP (a : List (List Int)) (w : List Int) (n b o c cw : Nat) (rb ro cc : Nat → Nat) (Y : Option Addr) (W : World) (e : Ending) (W' : World) : Prop :=
  ∃ pa pw, e = .returned (.func (.func 96) #[] #[.pointer (some ⟨pa, 0, none⟩), .pointer (some ⟨pw, 0, none⟩)]) ∧ PA a w n pa pw b o c cw rb ro cc Y W' ∧ Below W.heap.size W W'

set_option maxRecDepth 100000 in
set_option maxHeartbeats 400000 in
theorem payAgainst_far (a : List (List Int)) (w : List Int) (n b o c cw : Nat) (rb ro cc : Nat → Nat) (Y : Option Addr) (W : World) (ht : Tab W b o rb ro cc n n a) (hw : Ints W Y n cw w) (hb : ∀ j, j < n → 0 ≤ gi w j ∧ gi w j ≤ 1000) :
    Calls Try.prog 63 #[.slice (some ⟨b, o, none⟩) n c, .slice Y n cw] W (fun e W' => ∃ pa pw, e = .returned (.func (.func 96) #[] #[.pointer (some ⟨pa, 0, none⟩), .pointer (some ⟨pw, 0, none⟩)]) ∧ (PA a w n pa pw b o c cw rb ro cc Y W' ∧ Below W.heap.size W W') ∧ W.heap.size ≤ pa ∧ W.heap.size ≤ pw) := by
  have hmf : ∀ (fn : Fn) (first cap : Array Value) (w : World), (Instr.makeFunc fn first cap).run Try.prog w = .ok (.func fn first cap) w := fun _ _ _ _ => rfl
  have h1 := below_alloc W (.cells #[.slice (some ⟨b, o, none⟩) n c] 23)
  have h2 := below_alloc (W.alloc (.cells #[.slice (some ⟨b, o, none⟩) n c] 23)) (.cells #[.slice Y n cw] 26)
  have hbb := below_up h1 h2
  have HP := Lib.hid (show PA a w n W.heap.size (W.alloc (.cells #[.slice (some ⟨b, o, none⟩) n c] 23)).heap.size b o c cw rb ro cc Y ((W.alloc (.cells #[.slice (some ⟨b, o, none⟩) n c] 23)).alloc (.cells #[.slice Y n cw] 26)) from
    ⟨ht.keep (Keep.below hbb), hw.keep (Keep.below hbb), hb, Keep.below h2 _ _ (blk_cell (blk_new _ _ _) rfl), blk_cell (blk_new _ _ _) rfl⟩)
  have HBB := Lib.hid hbb
  clear h1 h2 hbb ht hw hb
  go_enter Try.func63, Try.ntmps63
  go_wp2
  go_ret
  exact ⟨_, _, rfl, ⟨by have h := HP.out; rw [World.size_alloc] at h; exact h, HBB.out⟩, Nat.le_refl _, Nat.le_succ _⟩
theorem payAgainst_any (a : List (List Int)) (w : List Int) (n b o c cw : Nat) (rb ro cc : Nat → Nat) (Y : Option Addr) (W : World) (ht : Tab W b o rb ro cc n n a) (hw : Ints W Y n cw w) (hb : ∀ j, j < n → 0 ≤ gi w j ∧ gi w j ≤ 1000) :
    Calls Try.prog 63 #[.slice (some ⟨b, o, none⟩) n c, .slice Y n cw] W (MadeP a w n b o c cw rb ro cc Y W) :=
  (payAgainst_far a w n b o c cw rb ro cc Y W ht hw hb).mono fun _ _ ⟨pa, pw, he, ⟨h1, h2⟩, _⟩ => ⟨pa, pw, he, h1, h2⟩
end Go.Proofs.Ytoekpbcdgmejcaa

/- Rests, by both programs. -/
namespace Go.Proofs.Ytoekpbcdgmejcaa
open Go.RowKit

/-- No strategy has more than one with a share. -/
def RestP (a : List (List Int)) (w : List Int) (n : Nat) : Prop := ∀ i, i < n → 0 < gi w i → ∀ k, k < n → dotr a w k n ≤ dotr a w i n
structure RQ (a : List (List Int)) (w : List Int) : Prop where
  q : VQ a
  s : VS w a.length
  r : RestP a w a.length

set_option maxRecDepth 100000 in
set_option maxHeartbeats 3200000 in
theorem noneHasMore_any (a : List (List Int)) (w : List Int) (n pa pw b o c cw : Nat) (rb ro cc : Nat → Nat) (Y : Option Addr) (W : World) (h : PA a w n pa pw b o c cw rb ro cc Y W) :
    Calls Try.prog 62 #[.func (.func 96) #[] #[.pointer (some ⟨pa, 0, none⟩), .pointer (some ⟨pw, 0, none⟩)], .slice Y n cw] W (Ret (.bool (pb (RestP a w n))) W) := by
  have H := Lib.hid h
  have hn1 := h.tab.n1
  have hn3 := h.tab.n3
  obtain ⟨by_, oy, rfl, hcy⟩ := h.sh.at_ (by omega)
  have HY := Lib.hid hcy
  clear h hcy
  go_enter Try.func62, Try.ntmps62
  go_wp2
  go_loopw [10] (fun i_ wr => ∃ i : Nat, i ≤ n ∧ i_ = .int .i64 i ∧ Hid (∀ j, j < i → 0 < gi w j → ∀ k, k < n → dotr a w k n ≤ dotr a w j n) ∧ Hid (Below W.heap.size W wr)) (fun i_ _ => n - (intOf i_).toNat)
  case atStart => exact ⟨0, Nat.zero_le _, rfl, Lib.hid (fun _ h => absurd h (by omega)), Lib.hid (Below.refl _ _)⟩
  case round =>
    obtain ⟨i, hi, rfl, HALL, HB⟩ := hrel
    by_cases hlt : i < n
    · have c1 := Keep.below HB.out _ _ (HY.out i hlt)
      have HSI := Lib.hid (H.out.bd i hlt)
      generalize hs : gi w i = s at *
      have HS := Lib.hid hs
      clear hs
      go_wp2
      clear c1
      go_loopw [17] (fun k_ wi => ∃ k : Nat, k ≤ n ∧ k_ = .int .i64 k ∧ Hid (0 < s → ∀ l, l < k → dotr a w l n ≤ dotr a w i n) ∧ Hid (Below W.heap.size W wi)) (fun k_ _ => n - (intOf k_).toNat)
      case atStart => exact ⟨0, Nat.zero_le _, rfl, Lib.hid (fun _ _ h => absurd h (by omega)), HB⟩
      case round =>
        clear HB
        obtain ⟨k, hk, rfl, HK, HB⟩ := hrel
        by_cases hkl : k < n
        · by_cases hp : 0 < s
          · have HC := Lib.hid (payAt_any a w n pa pw b o c cw rb ro cc _ wr (H.out.keep (Keep.below HB.out)) k hkl)
            by_cases hle : dotr a w k n ≤ dotr a w i n
            · have HN := Lib.hid (show 0 < s → ∀ l, l < k + 1 → dotr a w l n ≤ dotr a w i n from fun h l hl => by
                by_cases e : l = k
                · subst e; exact hle
                · exact HK.out h l (by omega))
              have hng : ¬ dotr a w i n < dotr a w k n := by omega
              generalize hgx : dotr a w k n = x at *
              generalize hgy : dotr a w i n = y at *
              have HXX := Lib.hid hgx
              have HYY := Lib.hid hgy
              clear hgx hgy
              have HP := Lib.hid hp
              go_wp2_with fail
              refine HC.out.mono ?_
              rintro e w1 ⟨rfl, hb⟩
              have HB1 := Lib.hid (below_up HB.out hb)
              clear hb HC HB
              have HC := Lib.hid (HYY.out ▸ payAt_any a w n pa pw b o c cw rb ro cc _ w1 (H.out.keep (Keep.below HB1.out)) i hlt)
              go_wp2_with fail
              refine HC.out.mono ?_
              rintro e w2 ⟨rfl, hb⟩
              have HB2 := Lib.hid (below_up HB1.out hb)
              clear hb HC HB1
              go_wp2
              go_roundw
              case rel => exact ⟨k + 1, by omega, by go_num, HN, HB2⟩
              case measure => simp [intOf]; omega
            · have HN := Lib.hid (pb_false (p := RestP a w n) (fun h => hle (h i hlt (by rw [HS.out]; exact hp) k hkl)))
              have hng : dotr a w i n < dotr a w k n := by omega
              generalize hgx : dotr a w k n = x at *
              generalize hgy : dotr a w i n = y at *
              have HYY := Lib.hid hgy
              clear hgx hgy
              go_wp2_with fail
              refine HC.out.mono ?_
              rintro e w1 ⟨rfl, hb⟩
              have HB1 := Lib.hid (below_up HB.out hb)
              clear hb HC HB
              have HC := Lib.hid (HYY.out ▸ payAt_any a w n pa pw b o c cw rb ro cc _ w1 (H.out.keep (Keep.below HB1.out)) i hlt)
              go_wp2_with fail
              refine HC.out.mono ?_
              rintro e w2 ⟨rfl, hb⟩
              have HB2 := Lib.hid (below_up HB1.out hb)
              clear hb HC HB1
              go_wp2
              go_ret
              exact ⟨ret_bool HN.out.symm, HB2.out⟩
          · have hd : decide (0 < s) = false := decide_eq_false hp
            have HN := Lib.hid (show 0 < s → ∀ l, l < k + 1 → dotr a w l n ≤ dotr a w i n from fun h => absurd h hp)
            go_wp2
            go_roundw
            case rel => exact ⟨k + 1, by omega, by go_num, HN, HB⟩
            case measure => simp [intOf]; omega
        · obtain rfl : k = n := by omega
          have HN := Lib.hid (show ∀ j, j < i + 1 → 0 < gi w j → ∀ l, l < k → dotr a w l k ≤ dotr a w j k from fun j hj hp l hl => by
            by_cases e : j = i
            · subst e; exact HK.out (by rw [← HS.out]; exact hp) l hl
            · exact HALL.out j (by omega) hp l hl)
          go_wp2
          go_roundw
          case rel => exact ⟨i + 1, by omega, by go_num, HN, HB⟩
          case measure => simp [intOf]; omega
    · obtain rfl : i = n := by omega
      have HN := Lib.hid (pb_true (p := RestP a w i) (fun j hj hp k hk => HALL.out j hj hp k hk))
      go_wp2
      go_ret
      exact ⟨ret_bool HN.out.symm, HB.out⟩

/-- The greatest of the first k values. -/
def mxd (f : Nat → Int) : Nat → Int
  | 0 => 0
  | k + 1 => if k = 0 ∨ mxd f k < f k then f k else mxd f k
theorem mxd_up {f : Nat → Int} {k : Nat} (h : k = 0 ∨ mxd f k < f k) : mxd f (k + 1) = f k := by rw [mxd, if_pos h]
theorem mxd_same {f : Nat → Int} {k : Nat} (h : ¬ (k = 0 ∨ mxd f k < f k)) : mxd f (k + 1) = mxd f k := by rw [mxd, if_neg h]
theorem mxd_ge (f : Nat → Int) : ∀ {k i}, i < k → f i ≤ mxd f k
  | 0, _, h => absurd h (by omega)
  | k + 1, i, h => by
    by_cases hu : k = 0 ∨ mxd f k < f k
    · rw [mxd_up hu]
      by_cases e : i = k
      · subst e; exact Int.le_refl _
      · have := mxd_ge f (k := k) (i := i) (by omega)
        omega
    · rw [mxd_same hu]
      by_cases e : i = k
      · subst e; omega
      · exact mxd_ge f (by omega)
theorem mxd_at (f : Nat → Int) : ∀ {k}, 0 < k → ∃ i, i < k ∧ mxd f k = f i
  | 0, h => absurd h (by omega)
  | k + 1, _ => by
    by_cases hu : k = 0 ∨ mxd f k < f k
    · exact ⟨k, by omega, mxd_up hu⟩
    · obtain ⟨i, hi, e⟩ := mxd_at f (k := k) (by omega)
      exact ⟨i, by omega, (mxd_same hu).trans e⟩
/-- At rest all that is there has the most. -/
theorem rest_most (a : List (List Int)) (w : List Int) (n : Nat) (hn : 0 < n) : RestP a w n ↔ ∀ i, i < n → 0 < gi w i → dotr a w i n = mxd (fun i => dotr a w i n) n := by
  constructor
  · intro h i hi hp
    obtain ⟨k, hk, e⟩ := mxd_at (fun i => dotr a w i n) hn
    have h1 := h i hi hp k hk
    have h2 := mxd_ge (fun i => dotr a w i n) hi
    have e' : mxd (fun i => dotr a w i n) n = dotr a w k n := e
    have h2' : dotr a w i n ≤ mxd (fun i => dotr a w i n) n := h2
    omega
  · intro h i hi hp k hk
    rw [h i hi hp]
    exact mxd_ge (fun i => dotr a w i n) hk
theorem mxd_bd {f : Nat → Int} {B : Int} (hB : 0 ≤ B) : ∀ {k}, (∀ i, i < k → -B ≤ f i ∧ f i ≤ B) → -B ≤ mxd f k ∧ mxd f k ≤ B
  | 0, _ => by simp only [mxd]; omega
  | k + 1, h => by
    by_cases hu : k = 0 ∨ mxd f k < f k
    · rw [mxd_up hu]; exact h k (by omega)
    · rw [mxd_same hu]; exact mxd_bd hB fun i hi => h i (by omega)

set_option maxRecDepth 100000 in
set_option maxHeartbeats 3200000 in
theorem fits_any (b o : Nat) (rb ro cc : Nat → Nat) (n c cw : Nat) (Y : Option Addr) (a : List (List Int)) (w : List Int) (W : World) (ht : Tab W b o rb ro cc n n a) (hw : Ints W Y n cw w) (hbd : ∀ j, j < n → 0 ≤ gi w j ∧ gi w j ≤ 1000) :
    Calls Try.prog 108 #[.slice (some ⟨b, o, none⟩) n c, .slice Y n cw] W (Ret (.bool (pb (RestP a w n))) W) := by
  have HT := Lib.hid ht
  have HW := Lib.hid hw
  have hn1 := ht.n1
  have hn3 := ht.n3
  have HPB := Lib.hid (fun i => (⟨ht.bd, onl_bds n i, hbd⟩ : PB a (onl n i) w n n))
  obtain ⟨by_, oy, rfl, hcy⟩ := hw.at_ (by omega)
  have HY := Lib.hid hcy
  have HBD := Lib.hid hbd
  have HPU := Lib.hid (fun i (hi : i < n) => payU_alone a w n n i hi)
  have HRM := Lib.hid (rest_most a w n (by omega))
  clear ht hw hcy hbd
  have HZ : Hid (mxd (fun i => dotr a w i n) 0 = 0) := Lib.hid rfl
  go_enter Try.func108, Try.ntmps108
  go_wp2
  go_loopw [5, 6, 7] (fun m f i_ wr => ∃ i : Nat, i ≤ n ∧ i_ = .int .i64 i ∧ m = .int .i64 (mxd (fun i => dotr a w i n) i) ∧ f = .bool (decide (i = 0)) ∧ Hid (Below W.heap.size W wr)) (fun _ _ i_ _ => n - (intOf i_).toNat)
  case atStart => exact ⟨0, Nat.zero_le _, rfl, by rw [HZ.out], rfl, Lib.hid (Below.refl _ _)⟩
  case round =>
    clear HZ
    obtain ⟨i, hi, rfl, rfl, rfl, HB⟩ := hrel
    by_cases hlt : i < n
    · have HC := Lib.hid (alone_spec n i wr (by omega) hlt)
      have HMU := Lib.hid (fun h => mxd_up (f := fun i => dotr a w i n) (k := i) h)
      have HMS := Lib.hid (fun h => mxd_same (f := fun i => dotr a w i n) (k := i) h)
      go_wp2_with fail
      refine HC.out.mono ?_
      rintro e w1 ⟨rfl, ho, hb⟩
      have HB1 := Lib.hid (below_up HB.out hb)
      have HC := Lib.hid (HPU.out i hlt ▸ payUp_any b o rb ro cc n n c n cw _ _ a (onl n i) w w1 (HT.out.keep (Keep.below HB1.out)) ho.ints (HW.out.keep (Keep.below HB1.out)) (HPB.out i))
      clear ho hb HB
      generalize hgx : dotr a w i n = x at *
      generalize hgm : mxd (fun i => dotr a w i n) i = M at *
      clear hgm
      go_wp2_with fail
      refine HC.out.mono ?_
      rintro e w2 ⟨rfl, hq⟩
      have HB2 := Lib.hid (below_quiet HB1.out hq)
      clear hq HC HB1 hgx
      by_cases h0 : i = 0
      · have hd : decide (i = 0) = true := decide_eq_true h0
        have HN := Lib.hid (HMU.out (.inl h0))
        clear HMU HMS
        go_wp2
        go_roundw
        case rel => exact ⟨i + 1, by omega, by go_num, by rw [HN.out], by rw [decide_eq_false (by omega)], HB2⟩
        case measure => simp [intOf]; omega
      · have hd : decide (i = 0) = false := decide_eq_false h0
        by_cases hm : M < x
        · have HN := Lib.hid (HMU.out (.inr hm))
          clear HMU HMS
          go_wp2
          go_roundw
          case rel => exact ⟨i + 1, by omega, by go_num, by rw [HN.out], by rw [decide_eq_false (by omega)], HB2⟩
          case measure => simp [intOf]; omega
        · have HN := Lib.hid (HMS.out (by omega))
          have hm' : decide (M < x) = false := decide_eq_false hm
          clear HMU HMS
          go_wp2
          go_roundw
          case rel => exact ⟨i + 1, by omega, by go_num, by rw [HN.out], by rw [decide_eq_false (by omega)], HB2⟩
          case measure => simp [intOf]; omega
    · obtain rfl : i = n := by omega
      generalize mxd (fun j => dotr a w j i) i = M at *
      generalize wr = W0 at *
      have HB0 := HB
      clear HB
      go_wp2
      go_loopw [9] (fun k_ wi => ∃ k : Nat, k ≤ i ∧ k_ = .int .i64 k ∧ Hid (∀ l, l < k → 0 < gi w l → dotr a w l i = M) ∧ Hid (Below W.heap.size W wi)) (fun k_ _ => i - (intOf k_).toNat)
      case atStart => exact ⟨0, Nat.zero_le _, rfl, Lib.hid (fun _ h => absurd h (by omega)), HB0⟩
      case round =>
        clear HB0
        obtain ⟨k, hk, rfl, HALL, HB⟩ := hrel
        by_cases hkl : k < i
        · have c1 := Keep.below HB.out _ _ (HY.out k hkl)
          by_cases hp : 0 < gi w k
          · have HC := Lib.hid (alone_spec i k wr (by omega) hkl)
            have HP := Lib.hid hp
            have HNO := Lib.hid (fun (h : dotr a w k i ≠ M) => pb_false (p := RestP a w i) (fun r => h (HRM.out.1 r k hkl hp)))
            have HYES := Lib.hid (fun (h : dotr a w k i = M) => (fun l hl hp => by
                by_cases e : l = k
                · subst e; exact h
                · exact HALL.out l (by omega) hp : ∀ l, l < k + 1 → 0 < gi w l → dotr a w l i = M))
            generalize gi w k = s at *
            go_wp2_with fail
            refine HC.out.mono ?_
            rintro e w1 ⟨rfl, ho, hb⟩
            have HB1 := Lib.hid (below_up HB.out hb)
            have HC := Lib.hid (HPU.out k hkl ▸ payUp_any b o rb ro cc i i c i cw _ _ a (onl i k) w w1 (HT.out.keep (Keep.below HB1.out)) ho.ints (HW.out.keep (Keep.below HB1.out)) (HPB.out k))
            clear ho hb HB c1
            by_cases he : dotr a w k i = M
            · have HN := Lib.hid (HYES.out he)
              rw [he] at HC
              clear HYES HNO he
              have hne : (M != M) = false := by simp
              go_wp2_with fail
              refine HC.out.mono ?_
              rintro e w2 ⟨rfl, hq⟩
              have HB2 := Lib.hid (below_quiet HB1.out hq)
              clear hq HC HB1
              go_wp2
              go_roundw
              case rel => exact ⟨k + 1, by omega, by go_num, HN, HB2⟩
              case measure => simp [intOf]; omega
            · have HN := Lib.hid (HNO.out he)
              have hne : (dotr a w k i != M) = true := by simpa using he
              clear HYES HNO he
              generalize dotr a w k i = x at *
              go_wp2_with fail
              refine HC.out.mono ?_
              rintro e w2 ⟨rfl, hq⟩
              have HB2 := Lib.hid (below_quiet HB1.out hq)
              clear hq HC HB1
              go_wp2
              go_ret
              exact ⟨ret_bool HN.out.symm, HB2.out⟩
          · have hd : decide (0 < gi w k) = false := decide_eq_false hp
            have HN := Lib.hid (show ∀ l, l < k + 1 → 0 < gi w l → dotr a w l i = M from fun l hl h => by
                by_cases e : l = k
                · subst e; exact absurd h hp
                · exact HALL.out l (by omega) h)
            generalize gi w k = s at *
            go_wp2
            go_roundw
            case rel => exact ⟨k + 1, by omega, by go_num, HN, HB⟩
            case measure => simp [intOf]; omega
        · obtain rfl : k = i := by omega
          have HN := Lib.hid (HALL.out)
          go_wp2
          go_ret
          exact ⟨ret_bool (pb_true (HRM.out.2 HN.out)).symm, HB.out⟩
end Go.Proofs.Ytoekpbcdgmejcaa

/- Shares at which some strategies have as much: the sums of the cofactors of the columns, and the differences to the first row. Plain. -/
namespace Go.Proofs.Ytoekpbcdgmejcaa
open V (sumN detN rowC colC cofN minorN skip sgn Asc)

/-- The square of a part, as it is. -/
def lf (a : List (List Int)) (r : Nat → Nat) : Nat → Nat → Int := fun p q => g2 a (r p) (r q) + 0
/-- The differences to the first row, behind a row of ones. -/
def mf (a : List (List Int)) (r : Nat → Nat) : Nat → Nat → Int := fun p q => if p = 0 then 1 else g2 a (r p) (r q) - g2 a (r 0) (r q)

theorem rowC_shift {k : Nat} (hk : k ≤ 3) {f g : Nat → Nat → Int} (z : Int) (h : ∀ p q, g p q = f p q + z) {p : Nat} (hp : p < k) : rowC k g p = rowC k f p := by
  have : k = 1 ∨ k = 2 ∨ k = 3 := by omega
  rcases this with rfl | rfl | rfl
  · simp [rowC, sumN, cofN, detN]
  · have : p = 0 ∨ p = 1 := by omega
    rcases this with rfl | rfl <;> simp [rowC, sumN, cofN, sgn, detN, minorN, skip, h] <;> omega
  · obtain ⟨e0, e1, e2⟩ := V.rowC3 f
    obtain ⟨d0, d1, d2⟩ := V.rowC3 g
    have : p = 0 ∨ p = 1 ∨ p = 2 := by omega
    rcases this with rfl | rfl | rfl
    · rw [e0, d0]; simp only [h]; grind
    · rw [e1, d1]; simp only [h]; grind
    · rw [e2, d2]; simp only [h]; grind
theorem lf_kY (a : List (List Int)) (r : Nat → Nat) {k : Nat} (hk : k ≤ 3) : cofL k (trN (lf a r)) k = kY a r r k := by
  unfold kY cofL
  refine List.map_congr_left fun p hp => ?_
  exact (rowC_shift hk 18 (f := trN (lf a r)) (g := trN (kf a r r)) (fun p q => by unfold trN lf kf; omega) (List.mem_range.1 hp)).symm
theorem gi_kY {a : List (List Int)} {r : Nat → Nat} {k : Nat} (hk : k ≤ 3) {c : Nat} (hc : c < k) : gi (kY a r r k) c = colC k (kf a r r) c := by
  unfold kY; rw [gi_cofL hc, rowC_tr hk]
theorem mf_cof {a : List (List Int)} {r : Nat → Nat} {k : Nat} (hk : k ≤ 3) {c : Nat} (hc : c < k) : cofN k (mf a r) 0 c = gi (kY a r r k) c := by
  rw [gi_kY hk hc]
  have : k = 1 ∨ k = 2 ∨ k = 3 := by omega
  rcases this with rfl | rfl | rfl
  · obtain rfl : c = 0 := by omega
    simp [colC, sumN, cofN, sgn, detN]
  · have : c = 0 ∨ c = 1 := by omega
    rcases this with rfl | rfl <;> simp [colC, sumN, cofN, sgn, detN, minorN, skip, mf, kf] <;> omega
  · obtain ⟨e0, e1, e2⟩ := V.colC3 (kf a r r)
    have : c = 0 ∨ c = 1 ∨ c = 2 := by omega
    rcases this with rfl | rfl | rfl
    · rw [e0]; simp [sumN, cofN, sgn, detN, minorN, skip, mf, kf]; grind
    · rw [e1]; simp [sumN, cofN, sgn, detN, minorN, skip, mf, kf]; grind
    · rw [e2]; simp [sumN, cofN, sgn, detN, minorN, skip, mf, kf]; grind
theorem mf_det {a : List (List Int)} {r : Nat → Nat} {k : Nat} (h1 : 1 ≤ k) (hk : k ≤ 3) : detN k (mf a r) = sumN (gi (kY a r r k)) k := by
  obtain ⟨l, rfl⟩ : ∃ l, k = l + 1 := ⟨k - 1, by omega⟩
  rw [detN]
  refine sumN_congr fun j hj => ?_
  rw [← mf_cof hk hj]
  unfold cofN
  rw [Nat.zero_add, show mf a r 0 j = 1 from rfl, Nat.add_sub_cancel, Int.one_mul]
theorem mf_ab {a : List (List Int)} (v : VT a) (h : a.length = (gr a 0).length) {r : Nat → Nat} {k : Nat} (hr : Asc a.length k r) : Ab k (mf a r) := fun p q hp hq => by
  unfold mf
  have h0 := hr.1 0 (by omega)
  have hpp := hr.1 p hp
  have hqq := hr.1 q hq
  have e1 := v.bd hpp (j := r q) (by omega)
  have e2 := v.bd h0 (j := r q) (by omega)
  split <;> omega

/-- All numbers more than 0, or all less. -/
def LevP (X : List Int) : Prop := (∀ p, p < X.length → 0 < gi X p) ∨ ∀ p, p < X.length → gi X p < 0
theorem LevP.clr {X : List Int} (h : LevP X) (h0 : 0 < X.length) : ClrP X := by
  rcases h with h | h
  · exact ⟨⟨0, h0, by have := h 0 h0; omega⟩, .inl fun p hp => by have := h p hp; omega⟩
  · exact ⟨⟨0, h0, by have := h 0 h0; omega⟩, .inr fun p hp => by have := h p hp; omega⟩
def levB (xs : List Int) : Bool := decide (lst xs ≤ 0) && decide (0 ≤ mxl xs)
theorem levB_iff {xs : List Int} (h0 : 0 < xs.length) : levB xs = false ↔ LevP xs := by
  unfold levB lst mxl LevP
  rw [Bool.and_eq_false_iff, decide_eq_false_iff_not, decide_eq_false_iff_not]
  constructor
  · rintro (h | h)
    · exact .inl fun p hp => by have := mn_le (xs := xs) (k := xs.length - 1) (j := p) (by omega); omega
    · exact .inr fun p hp => by have := mx_ge xs (k := xs.length - 1) (j := p) (by omega); omega
  · rintro (h | h)
    · obtain ⟨j, hj, e⟩ := mn_mem (xs := xs) (xs.length - 1)
      exact .inl (by have := h j (by omega); omega)
    · obtain ⟨j, hj, e⟩ := mx_at xs (xs.length - 1)
      exact .inr (by have := h j (by omega); omega)

/-- The first c numbers, times z. -/
def sgL (X : List Int) (z : Int) (c : Nat) : List Int := (List.range c).map fun p => z * gi X p
theorem sgL_succ (X : List Int) (z : Int) (c : Nat) : sgL X z (c + 1) = sgL X z c ++ [z * gi X c] := by simp [sgL, List.range_succ]
theorem sgL_len (X : List Int) (z : Int) (c : Nat) : (sgL X z c).length = c := by simp [sgL]
theorem gi_sgL {X : List Int} {z : Int} {c p : Nat} (h : p < c) : gi (sgL X z c) p = z * gi X p := by
  rw [gi_get (by rw [sgL_len]; exact h)]; simp [sgL]
theorem gcdL_sgL {X : List Int} {z : Int} (hz : z = 1 ∨ z = -1) {k : Nat} : ∀ {j}, j ≤ k → gcdL (sgL X z k) j = gcdL X j
  | 0, _ => rfl
  | j + 1, h => by
    rw [gcdL, gcdL, gcdL_sgL hz (by omega), gi_sgL (by omega)]
    rcases hz with rfl | rfl
    · rw [Int.one_mul]
    · unfold gcdI; rw [Int.neg_one_mul, Int.gcd_neg]
theorem shr_sgL {X : List Int} {z : Int} (hz : z = 1 ∨ z = -1) {n k : Nat} {r : Nat → Nat} (hl : X.length = k) : shr n r (sgL X z k) k = shr n r X k := by
  unfold shr
  rw [sgL_len, hl, gcdL_sgL hz (Nat.le_refl _)]
  congr 1
  unfold clrL
  refine List.map_congr_left fun p hp => ?_
  rw [gi_sgL (List.mem_range.1 hp)]
  rcases hz with rfl | rfl
  · rw [Int.one_mul]
  · rw [show max (-1 * gi X p) (-(-1 * gi X p)) = max (gi X p) (-(gi X p)) by omega]
/-- The sign of the sum. -/
def zsg (X : List Int) (k : Nat) : Int := if sumN (gi X) k < 0 then -1 else 1
theorem zsg_or (X : List Int) (k : Nat) : zsg X k = 1 ∨ zsg X k = -1 := by unfold zsg; split <;> simp
theorem lev_sum {X : List Int} (h : LevP X) (h0 : 0 < X.length) : sumN (gi X) X.length ≠ 0 ∧ ∀ p, p < X.length → 0 < zsg X X.length * gi X p := by
  rcases h with h | h
  · have hs := sumN_pos (f := gi X) (n := X.length) (fun i hi => by have := h i hi; omega) ⟨0, h0, h 0 h0⟩
    refine ⟨by omega, fun p hp => ?_⟩
    unfold zsg; rw [if_neg (by omega), Int.one_mul]; exact h p hp
  · have hs := sumN_pos (f := fun i => (-1) * gi X i) (n := X.length) (fun i hi => by have := h i hi; omega) ⟨0, h0, by have := h 0 h0; omega⟩
    rw [sumN_mul] at hs
    refine ⟨by omega, fun p hp => ?_⟩
    unfold zsg; rw [if_pos (by omega)]; have := h p hp; omega
theorem lev_of {X : List Int} {z : Int} (hz : z = 1 ∨ z = -1) (h : ∀ p, p < X.length → 0 < z * gi X p) : LevP X := by
  rcases hz with rfl | rfl
  · exact .inl fun p hp => by have := h p hp; omega
  · exact .inr fun p hp => by have := h p hp; omega

theorem memL_ge : ∀ R, R < 8 → ∀ n, n < 4 → 1 ≤ R → R < 2 ^ n → 1 ≤ (memL R n).length := by decide
/-- The shares of some strategies are the only ones at which these have as much, and no other one has more. -/
def LevAt (a : List (List Int)) (k : Nat) (r : Nat → Nat) : Prop := LevP (kY a r r k) ∧ RestP a (shr a.length r (kY a r r k) k) a.length
def lvl (a : List (List Int)) (s : Nat) : List Int := shr a.length (idx s a.length) (kY a (idx s a.length) (idx s a.length) (memL s a.length).length) (memL s a.length).length
def LvP (a : List (List Int)) (s : Nat) : Prop := 1 ≤ s ∧ s < 2 ^ a.length ∧ LevAt a (memL s a.length).length (idx s a.length)
noncomputable def resR (a : List (List Int)) : Nat → List (List Int)
  | 0 => []
  | s + 1 => if pb (LvP a s) = true then resR a s ++ [lvl a s] else resR a s
noncomputable def resF (a : List (List Int)) : List (List Int) := if pb (VQ a) = true then resR a 8 else []
theorem resR_yes {a : List (List Int)} {s : Nat} (h : LvP a s) : resR a (s + 1) = resR a s ++ [lvl a s] := by rw [resR, if_pos (pb_true h)]
theorem resR_no {a : List (List Int)} {s : Nat} (h : ¬ LvP a s) : resR a (s + 1) = resR a s := by rw [resR, if_neg (by rw [pb_false h]; decide)]
theorem lvl_len (a : List (List Int)) (s : Nat) : (lvl a s).length = a.length := putL_len _ _ _ _
theorem resR_one (a : List (List Int)) : resR a 1 = [] := by rw [resR_no (fun h => by have := h.1; omega)]; rfl
theorem resR_len (a : List (List Int)) : ∀ s, (resR a s).length ≤ s
  | 0 => by simp [resR]
  | s + 1 => by
    have := resR_len a s
    by_cases h : LvP a s
    · rw [resR_yes h, List.length_append, List.length_singleton]; omega
    · rw [resR_no h]; omega
theorem resR_end {a : List (List Int)} : ∀ {d}, resR a (2 ^ a.length + d) = resR a (2 ^ a.length)
  | 0 => rfl
  | d + 1 => by rw [← Nat.add_assoc, resR_no (fun h => by have := h.2.1; omega), resR_end]
theorem resR_all {a : List (List Int)} (h : a.length ≤ 3) : resR a 8 = resR a (2 ^ a.length) := by
  have h8 : 2 ^ a.length ≤ 8 := pow_le8 h
  have := resR_end (a := a) (d := 8 - 2 ^ a.length)
  rwa [show 2 ^ a.length + (8 - 2 ^ a.length) = 8 by omega] at this
theorem mem_resR {a : List (List Int)} {x : List Int} : ∀ {k}, x ∈ resR a k ↔ ∃ s, s < k ∧ LvP a s ∧ x = lvl a s
  | 0 => by simp [resR]
  | k + 1 => by
    have ih := mem_resR (a := a) (x := x) (k := k)
    by_cases h : LvP a k
    · rw [resR_yes h, List.mem_append, List.mem_singleton, ih]
      constructor
      · rintro (⟨s, h1, h2, h3⟩ | h1)
        · exact ⟨s, by omega, h2, h3⟩
        · exact ⟨k, by omega, h, h1⟩
      · rintro ⟨s, h1, h2, h3⟩
        by_cases e : s = k
        · subst e; exact .inr h3
        · exact .inl ⟨s, by omega, h2, h3⟩
    · rw [resR_no h, ih]
      constructor
      · rintro ⟨s, h1, h2, h3⟩; exact ⟨s, by omega, h2, h3⟩
      · rintro ⟨s, h1, h2, h3⟩
        by_cases e : s = k
        · subst e; exact absurd h2 h
        · exact ⟨s, by omega, h2, h3⟩
theorem lvl_VS {a : List (List Int)} (q : VQ a) {s : Nat} (h : LvP a s) (h8 : s < 8) : VS (lvl a s) a.length := by
  have hk3 : (memL s a.length).length ≤ 3 := by have := memL_le s a.length; have := q.1.n3; omega
  have h1 := memL_ge s h8 a.length (by have := q.1.n3; omega) h.1 h.2.1
  have hr := idx_asc s a.length
  exact shr_VS (kY_len _ _ _ _) hr (h.2.2.1.clr (by rw [kY_len]; omega)) (fun p hp => kY_bd q.1 hk3 hr (by rw [← q.2]; exact hr) hp)
end Go.Proofs.Ytoekpbcdgmejcaa

/- What is among the rests of a table rests; one strategy alone is among them if it rests. Plain. -/
namespace Go.Proofs.Ytoekpbcdgmejcaa
open V (sumN detN rowC colC cofN minorN skip sgn Asc)

theorem resF_yes' {a : List (List Int)} (h : VQ a) : resF a = resR a 8 := by unfold resF; rw [if_pos (pb_true h)]
theorem resF_no' {a : List (List Int)} (h : ¬ VQ a) : resF a = [] := by unfold resF; rw [if_neg (by rw [pb_false h]; decide)]
theorem resF_len (a : List (List Int)) : (resF a).length ≤ 8 := by
  by_cases h : VQ a
  · rw [resF_yes' h]; exact resR_len a 8
  · rw [resF_no' h]; simp
theorem resF_rest {a : List (List Int)} {x : List Int} (h : x ∈ resF a) : RQ a x ∧ x.length = a.length := by
  by_cases q : VQ a
  · rw [resF_yes' q] at h
    obtain ⟨s, h8, hl, rfl⟩ := mem_resR.1 h
    exact ⟨⟨q, lvl_VS q hl h8, hl.2.2.2⟩, lvl_len a s⟩
  · rw [resF_no' q] at h; simp at h
theorem memL_two : ∀ n, n < 4 → ∀ i, i < n → memL (2 ^ i) n = [(i : Int)] := by decide
theorem lvl_one {a : List (List Int)} (q : VQ a) {i : Nat} (hi : i < a.length) : lvl a (2 ^ i) = onl a.length i ∧ LevP (kY a (idx (2 ^ i) a.length) (idx (2 ^ i) a.length) (memL (2 ^ i) a.length).length) := by
  have hn3 := q.1.n3
  have hm := memL_two a.length (by omega) i hi
  have hk : (memL (2 ^ i) a.length).length = 1 := by rw [hm]; rfl
  have hid : idx (2 ^ i) a.length 0 = i := by unfold idx; rw [hm]; simp [gi]
  have hY : kY a (idx (2 ^ i) a.length) (idx (2 ^ i) a.length) 1 = [1] := by simp [kY, cofL, rowC, sumN, cofN, sgn, detN, List.range_succ]
  unfold lvl
  rw [hk, hY]
  refine ⟨?_, .inl fun p hp => ?_⟩
  · refine gi_ext (by rw [onl_len]; exact putL_len _ _ _ _) fun j hj => ?_
    have hj : j < a.length := by rw [show (shr a.length (idx (2 ^ i) a.length) [1] 1).length = a.length from putL_len _ _ _ _] at hj; exact hj
    rw [gi_onl hj]
    unfold shr
    rw [gi_putL hj (fun p q hp hq => by omega)]
    simp only [sumN, hid]
    rw [gi_clrL (by simp)]
    by_cases e : i = j
    · subst e; simp [gi, gcdL, gcdI]; decide
    · rw [if_neg e, if_neg (by omega)]; rfl
  · obtain rfl : p = 0 := by simp at hp; omega
    simp [gi]
/-- One strategy alone rests just if it is among the rests. -/
theorem rest_one {a : List (List Int)} (q : VQ a) {i : Nat} (hi : i < a.length) : RQ a (onl a.length i) ↔ onl a.length i ∈ resF a := by
  constructor
  · intro h
    obtain ⟨e, hl⟩ := lvl_one q hi
    rw [resF_yes' q]
    refine mem_resR.2 ⟨2 ^ i, ?_, ⟨Nat.one_le_two_pow, Nat.pow_lt_pow_right (by omega) hi, hl, ?_⟩, e.symm⟩
    · have hn3 := q.1.n3
      have := Nat.pow_lt_pow_right (a := 2) (by omega) hi
      have := pow_le8 hn3
      omega
    · have := h.r
      rw [← e] at this
      exact this
  · intro h; exact (resF_rest h).1
end Go.Proofs.Ytoekpbcdgmejcaa

/- Fractions of whole numbers; one alone is a share; the pure rests. Plain. -/
namespace Go.Proofs.Ytoekpbcdgmejcaa

theorem fr_one (u : Int) : frU u 1 = u ∧ frD u 1 = 1 := by
  have g : gcdI u 1 = 1 := by unfold gcdI; simp
  unfold frU frD; rw [g]; simp
theorem frV_one (u : Int) : frV u 1 = .agg #[.int .i64 u, .int .i64 1] := by unfold frV; rw [(fr_one u).1, (fr_one u).2]
theorem onl_VS {n i : Nat} (hi : i < n) : VS (onl n i) n :=
  ⟨by rw [onl_len], fun j hj => by rw [onl_len] at hj; have := onl_bd (n := n) (i := i) hj; exact ⟨this.1, by omega⟩, by rw [tot_onl hi]; omega⟩
theorem rowRests_mem {a b : List (List Int)} {n m i : Nat} {r : List Int} : ∀ {j : Nat}, r ∈ rowRests a b n m i j ↔ ∃ l, l < j ∧ r = [(i : Int), (l : Int)] ∧ RestAt a b n m i l
  | 0 => by simp [rowRests]
  | j + 1 => by
    rw [rowRests, List.mem_append, rowRests_mem]
    constructor
    · rintro (⟨l, h1, h2⟩ | h)
      · exact ⟨l, by omega, h2⟩
      · split at h
        · rename_i hp
          simp only [List.mem_singleton] at h
          exact ⟨j, by omega, h, pb_iff.1 hp⟩
        · simp at h
    · rintro ⟨l, h1, h2, h3⟩
      by_cases e : l = j
      · subst e
        right
        rw [if_pos (pb_true h3), h2]; simp
      · exact .inl ⟨l, by omega, h2, h3⟩
theorem allRests_mem {a b : List (List Int)} {n m : Nat} {r : List Int} : ∀ {i : Nat}, r ∈ allRests a b n m i ↔ ∃ k l, k < i ∧ l < m ∧ r = [(k : Int), (l : Int)] ∧ RestAt a b n m k l
  | 0 => by simp [allRests]
  | i + 1 => by
    rw [allRests, List.mem_append, allRests_mem, rowRests_mem]
    constructor
    · rintro (⟨k, l, h1, h2⟩ | ⟨l, h2⟩)
      · exact ⟨k, l, by omega, h2⟩
      · exact ⟨i, l, by omega, h2⟩
    · rintro ⟨k, l, h1, h2⟩
      by_cases e : k = i
      · subst e; exact .inr ⟨l, h2⟩
      · exact .inl ⟨k, l, by omega, h2⟩
end Go.Proofs.Ytoekpbcdgmejcaa

/- Small functions of the laws. -/
namespace Go.Proofs.Ytoekpbcdgmejcaa
open Go.RowKit

set_option maxHeartbeats 400000 in
theorem divisor_any (a b : Int) (w : World) (ha : Mid a) (hb : Mid b) :
    Calls Try.prog 78 #[.int .i64 a, .int .i64 b] w fun e w' => e = .returned (.int .i64 (gcdI a b)) ∧ Quiet w w' := by
  have HA := Lib.hid ha
  have HB := Lib.hid hb
  clear ha hb
  go_enter Try.func78, Try.ntmps78
  go_wp2
  go_loopw [0, 1] (fun s t wr => ∃ x y : Int, s = .int .i64 x ∧ t = .int .i64 y ∧ Hid (Mid x) ∧ Hid (Mid y) ∧ Hid (gcdI x y = gcdI a b) ∧ Quiet w wr) (fun _ t _ => (intOf t).natAbs)
  case atStart => exact ⟨a, b, rfl, rfl, HA, HB, Lib.hid rfl, Quiet.refl _⟩
  case round =>
    obtain ⟨x, y, rfl, rfl, HX, HY, HG, q, rfl⟩ := hrel
    obtain ⟨x1, x2⟩ := HX.out
    obtain ⟨y1, y2⟩ := HY.out
    by_cases hy : y = 0
    · subst hy
      have hg := Lib.hid (gcdI_zero x)
      go_wp2
      all_goals go_ret
      all_goals exact ⟨ret_int (by rw [← HG.out, hg.out]; omega), ⟨_, rfl⟩⟩
    · have hy' : (y != 0) = true := by simpa using hy
      have HM := Lib.hid (HX.out.tmod (y := y))
      have HS := Lib.hid (gcdI_step x y)
      have HT := Lib.hid (tmod_abs (a := x) hy)
      go_wp2
      go_roundw
      case rel => exact ⟨y, x.tmod y, rfl, rfl, HY, HM, Lib.hid (HS.out.trans HG.out), ⟨_, rfl⟩⟩
      case measure => have := HT.out; simpa [intOf] using this

set_option maxHeartbeats 400000 in
theorem lessOf_any (u d v e : Int) (w : World) (hu : -1000000000 ≤ u ∧ u ≤ 1000000000) (hv : -1000000000 ≤ v ∧ v ≤ 1000000000) (hd : 0 ≤ d ∧ d ≤ 1000000000) (he : 0 ≤ e ∧ e ≤ 1000000000) :
    Calls Try.prog 29 #[.agg #[.int .i64 u, .int .i64 d], .agg #[.int .i64 v, .int .i64 e]] w (Ret (.bool (lessB u d v e)) w) := by
  obtain ⟨p1, p2⟩ := less_bd hu he
  obtain ⟨p3, p4⟩ := less_bd hv hd
  have b0 := blk_old (blk_new w 37 #[.int .i64 u, .int .i64 d]) (.cells #[.int .i64 v, .int .i64 e] 37)
  have b1 := blk_new (w.alloc (.cells #[.int .i64 u, .int .i64 d] 37)) 37 #[.int .i64 v, .int .i64 e]
  have HB := Lib.hid (below_up (below_alloc w (.cells #[.int .i64 u, .int .i64 d] 37)) (below_alloc _ (.cells #[.int .i64 v, .int .i64 e] 37)))
  rw [World.size_alloc] at b1
  have c0 := blk_cell b0 (i := 0) rfl
  have c1 := blk_cell b0 (i := 1) rfl
  have c2 := blk_cell b1 (i := 0) rfl
  have c3 := blk_cell b1 (i := 1) rfl
  go_enter Try.func29, Try.ntmps29
  go_wp2
  go_ret
  exact ⟨rfl, HB.out⟩
set_option maxHeartbeats 400000 in
theorem total_any (A : Option Addr) (n c : Nat) (xs : List Int) (w : World) (hx : Ints w A n c xs) (hs : SumOk xs) :
    Calls Try.prog 35 #[.slice A n c] w fun e w' => e = .returned (.int .i64 (tot xs)) ∧ Quiet w w' := by
  have hl : n ≤ 1000 := by rw [← hx.len]; exact hs.n
  have HX := Lib.hid hx
  have HS := Lib.hid hs
  have HL := Lib.hid hx.len
  clear hx hs
  go_enter Try.func35, Try.ntmps35
  go_wp2
  go_loopw [3, 4] (fun s i wr => ∃ k : Nat, k ≤ n ∧ i = .int .i64 k ∧ s = .int .i64 (sm xs k) ∧ Quiet w wr) (fun _ i _ => n - (intOf i).toNat)
  case atStart => exact ⟨0, Nat.zero_le _, rfl, rfl, Quiet.refl _⟩
  case round =>
    obtain ⟨k, hk, rfl, rfl, q, rfl⟩ := hrel
    by_cases hlt : k < n
    · obtain ⟨b, o, rfl, hc⟩ := HX.out.at_ (by omega)
      have c1 := hc k hlt
      obtain ⟨b1, b2⟩ := HS.out.sm (k := k) (by rw [HL.out]; exact hk)
      obtain ⟨b3, b4⟩ := HS.out.bd k (by rw [HL.out]; exact hlt)
      clear hc
      go_wp2
      go_roundw
      case rel => exact ⟨k + 1, by omega, by go_num, rfl, ⟨_, rfl⟩⟩
      case measure => simp [intOf]; omega
    · obtain rfl : k = n := by omega
      go_wp2
      go_ret
      exact ⟨ret_int (by rw [tot, HL.out]), ⟨_, rfl⟩⟩

set_option maxHeartbeats 1000000 in
theorem fracOfL_any (u d : Int) (w : World) (hu : Mid u) (hd : Mid d) (h1 : 1 ≤ d) :
    Calls Try.prog 34 #[.int .i64 u, .int .i64 d] w (Ret (frV u d) w) := by
  have HQ := Lib.hid (fun W => divisor_any u d W hu hd)
  have hg1 := gcdI_pos (a := u) (b := d) (by omega)
  have hg2 := gcdI_le (a := u) (b := d) (by omega)
  obtain ⟨u1, u2⟩ := hu
  obtain ⟨d1, d2⟩ := hd
  have hB := Lib.hid (below_alloc w (.cells #[.int .i64 0, .int .i64 0] 37))
  go_enter Try.func34, Try.ntmps34
  go_wp2_with fail
  refine (HQ.out _).mono ?_
  rintro e w2 ⟨rfl, hq⟩
  have HFU : Hid (frU u d = u.tdiv (gcdI u d)) := Lib.hid rfl
  have HFD : Hid (frD u d = d / gcdI u d) := Lib.hid (by unfold frD; rw [Int.tdiv_eq_ediv_of_nonneg (by omega)])
  have b0 := blk_quiet (blk_new w 37 #[.int .i64 0, .int .i64 0]) hq
  have HBW := Lib.hid (below_quiet hB.out hq)
  clear hq hB HQ
  generalize gcdI u d = g at *
  have c0 := blk_cell b0 (i := 0) rfl
  have c1 := blk_cell b0 (i := 1) rfl
  have f0 := blk_frozen b0 0
  have f1 := blk_frozen b0 1
  have g0 : (g == 0) = false := by simp; omega
  go_wp2
  go_region
  all_goals clear c0 c1 f0 f1
  all_goals go_wp2
  have B1 := blk_set (blk_set b0 0 (.int .i64 (u.tdiv g))) 1 (.int .i64 (d / g))
  have r0 := blk_cell B1 (i := 0) (v := .int .i64 (u.tdiv g)) rfl
  have r1 := blk_cell B1 (i := 1) (v := .int .i64 (d / g)) rfl
  have HBX := Lib.hid ((HBW.out.setCell (p := ⟨w.heap.size, 0, none⟩) (Nat.le_refl _) (.int .i64 (u.tdiv g))).setCell (p := ⟨w.heap.size, 1, none⟩) (Nat.le_refl _) (.int .i64 (d / g))).drew
  replace r0 : ((w2.setCell ⟨w.heap.size, 0, none⟩ (.int .i64 (u.tdiv g))).setCell ⟨w.heap.size, 1, none⟩ (.int .i64 (d / g))).drew.cell? ⟨w.heap.size, 0, none⟩ = some (.int .i64 (u.tdiv g)) := r0
  replace r1 : ((w2.setCell ⟨w.heap.size, 0, none⟩ (.int .i64 (u.tdiv g))).setCell ⟨w.heap.size, 1, none⟩ (.int .i64 (d / g))).drew.cell? ⟨w.heap.size, 1, none⟩ = some (.int .i64 (d / g)) := r1
  clear B1 b0 HBW
  generalize ((w2.setCell ⟨w.heap.size, 0, none⟩ (.int .i64 (u.tdiv g))).setCell ⟨w.heap.size, 1, none⟩ (.int .i64 (d / g))).drew = W3 at *
  refine bodyPost_ret (v := .agg #[.int .i64 (u.tdiv g), .int .i64 (d / g)]) (by simp [results, Try.results34, go_sem, r0, r1]) rfl ?_
  exact ⟨by rw [frV, HFU.out, HFD.out], HBX.out⟩
set_option maxHeartbeats 1000000 in
theorem plusOf_any (u d v e : Int) (w : World) (hu : -100000000 ≤ u ∧ u ≤ 100000000) (hv : -100000000 ≤ v ∧ v ≤ 100000000) (hd : 1 ≤ d ∧ d ≤ 10000000) (he : 1 ≤ e ∧ e ≤ 10000000) (hm : Mid (u * e + v * d)) :
    Calls Try.prog 44 #[.agg #[.int .i64 u, .int .i64 d], .agg #[.int .i64 v, .int .i64 e]] w (Ret (frV (u * e + v * d) (d * e)) w) := by
  obtain ⟨p1, p2⟩ := mulbd (x := u) (y := e) (A := 100000000) (B := 10000000) hu (by omega)
  obtain ⟨p3, p4⟩ := mulbd (x := v) (y := d) (A := 100000000) (B := 10000000) hv (by omega)
  obtain ⟨p5, p6⟩ := mulbd (x := d) (y := e) (A := 10000000) (B := 10000000) (by omega) (by omega)
  obtain ⟨p7, p8⟩ := mulbd (x := u) (y := v) (A := 100000000) (B := 100000000) hu hv
  have p9 : 1 ≤ d * e := by have h : 1 * 1 ≤ d * e := Int.mul_le_mul hd.1 he.1 (by omega) (by omega); omega
  have HC := Lib.hid (fun W => fracOfL_any (u * e + v * d) (d * e) W hm (by unfold Mid; omega) p9)
  have b0 := blk_old (blk_old (blk_new w 37 #[.int .i64 u, .int .i64 d]) (.cells #[.int .i64 v, .int .i64 e] 37)) (.cells #[.int .i64 0, .int .i64 0] 37)
  have b1 := blk_old (blk_new (w.alloc (.cells #[.int .i64 u, .int .i64 d] 37)) 37 #[.int .i64 v, .int .i64 e]) (.cells #[.int .i64 0, .int .i64 0] 37)
  have b2 := blk_new ((w.alloc (.cells #[.int .i64 u, .int .i64 d] 37)).alloc (.cells #[.int .i64 v, .int .i64 e] 37)) 37 #[.int .i64 0, .int .i64 0]
  have HB := Lib.hid (below_up (below_up (below_alloc w (.cells #[.int .i64 u, .int .i64 d] 37)) (below_alloc _ (.cells #[.int .i64 v, .int .i64 e] 37))) (below_alloc _ (.cells #[.int .i64 0, .int .i64 0] 37)))
  have HFV : Hid (frV (u * e + v * d) (d * e) = .agg #[.int .i64 (frU (u * e + v * d) (d * e)), .int .i64 (frD (u * e + v * d) (d * e))]) := Lib.hid rfl
  rw [HFV.out] at HC
  simp only [World.size_alloc] at b1 b2
  have c0 := blk_cell b0 (i := 0) rfl
  have c1 := blk_cell b0 (i := 1) rfl
  have c2 := blk_cell b1 (i := 0) rfl
  have c3 := blk_cell b1 (i := 1) rfl
  have HB2 := Lib.hid b2
  clear b0 b1 b2
  go_enter Try.func44, Try.ntmps44
  go_wp2_with fail
  clear c0 c1 c2 c3
  generalize ((w.alloc (.cells #[.int .i64 u, .int .i64 d] 37)).alloc (.cells #[.int .i64 v, .int .i64 e] 37)).alloc (.cells #[.int .i64 0, .int .i64 0] 37) = w1 at *
  refine (HC.out _).mono ?_
  rintro e w2 ⟨rfl, hb⟩
  have b0 := blk_below HB2.out hb
  have HBW := Lib.hid (below_up HB.out hb)
  clear hb HC HB HB2
  generalize frU (u * e + v * d) (d * e) = U at *
  generalize frD (u * e + v * d) (d * e) = D at *
  have c0 := blk_cell b0 (i := 0) rfl
  have c1 := blk_cell b0 (i := 1) rfl
  have f0 := blk_frozen b0 0
  have f1 := blk_frozen b0 1
  go_wp2
  clear c0 c1 f0 f1
  have B1 := blk_set (blk_set b0 0 (.int .i64 U)) 1 (.int .i64 D)
  have r0 := blk_cell B1 (i := 0) (v := .int .i64 U) rfl
  have r1 := blk_cell B1 (i := 1) (v := .int .i64 D) rfl
  have hle : w.heap.size ≤ w.heap.size + 1 + 1 := by omega
  have HBX := Lib.hid ((HBW.out.setCell (p := ⟨w.heap.size + 1 + 1, 0, none⟩) hle (.int .i64 U)).setCell (p := ⟨w.heap.size + 1 + 1, 1, none⟩) hle (.int .i64 D))
  clear B1 b0 HBW
  generalize (w2.setCell ⟨w.heap.size + 1 + 1, 0, none⟩ (.int .i64 U)).setCell ⟨w.heap.size + 1 + 1, 1, none⟩ (.int .i64 D) = WE at *
  refine bodyPost_ret (v := .agg #[.int .i64 U, .int .i64 D]) (by simp [results, Try.results44, go_sem, r0, r1]) rfl ?_
  exact ⟨by rw [HFV.out], HBX.out⟩
set_option maxHeartbeats 1000000 in
theorem timesOf_any (u d v e : Int) (w : World) (hu : -1000000 ≤ u ∧ u ≤ 1000000) (hv : -1000000 ≤ v ∧ v ≤ 1000000) (hd : 1 ≤ d ∧ d ≤ 1000000) (he : 1 ≤ e ∧ e ≤ 1000000) :
    Calls Try.prog 36 #[.agg #[.int .i64 u, .int .i64 d], .agg #[.int .i64 v, .int .i64 e]] w (Ret (frV (u * v) (d * e)) w) := by
  obtain ⟨p1, p2⟩ := mulbd (x := u) (y := e) (A := 1000000) (B := 1000000) hu (by omega)
  obtain ⟨p3, p4⟩ := mulbd (x := v) (y := d) (A := 1000000) (B := 1000000) hv (by omega)
  obtain ⟨p5, p6⟩ := mulbd (x := d) (y := e) (A := 1000000) (B := 1000000) (by omega) (by omega)
  obtain ⟨p7, p8⟩ := mulbd (x := u) (y := v) (A := 1000000) (B := 1000000) hu hv
  have p9 : 1 ≤ d * e := by have h : 1 * 1 ≤ d * e := Int.mul_le_mul hd.1 he.1 (by omega) (by omega); omega
  have HC := Lib.hid (fun W => fracOfL_any (u * v) (d * e) W (by unfold Mid; omega) (by unfold Mid; omega) p9)
  have b0 := blk_old (blk_old (blk_new w 37 #[.int .i64 u, .int .i64 d]) (.cells #[.int .i64 v, .int .i64 e] 37)) (.cells #[.int .i64 0, .int .i64 0] 37)
  have b1 := blk_old (blk_new (w.alloc (.cells #[.int .i64 u, .int .i64 d] 37)) 37 #[.int .i64 v, .int .i64 e]) (.cells #[.int .i64 0, .int .i64 0] 37)
  have b2 := blk_new ((w.alloc (.cells #[.int .i64 u, .int .i64 d] 37)).alloc (.cells #[.int .i64 v, .int .i64 e] 37)) 37 #[.int .i64 0, .int .i64 0]
  have HB := Lib.hid (below_up (below_up (below_alloc w (.cells #[.int .i64 u, .int .i64 d] 37)) (below_alloc _ (.cells #[.int .i64 v, .int .i64 e] 37))) (below_alloc _ (.cells #[.int .i64 0, .int .i64 0] 37)))
  have HFV : Hid (frV (u * v) (d * e) = .agg #[.int .i64 (frU (u * v) (d * e)), .int .i64 (frD (u * v) (d * e))]) := Lib.hid rfl
  rw [HFV.out] at HC
  simp only [World.size_alloc] at b1 b2
  have c0 := blk_cell b0 (i := 0) rfl
  have c1 := blk_cell b0 (i := 1) rfl
  have c2 := blk_cell b1 (i := 0) rfl
  have c3 := blk_cell b1 (i := 1) rfl
  have HB2 := Lib.hid b2
  clear b0 b1 b2
  go_enter Try.func36, Try.ntmps36
  go_wp2_with fail
  clear c0 c1 c2 c3
  generalize ((w.alloc (.cells #[.int .i64 u, .int .i64 d] 37)).alloc (.cells #[.int .i64 v, .int .i64 e] 37)).alloc (.cells #[.int .i64 0, .int .i64 0] 37) = w1 at *
  refine (HC.out _).mono ?_
  rintro e w2 ⟨rfl, hb⟩
  have b0 := blk_below HB2.out hb
  have HBW := Lib.hid (below_up HB.out hb)
  clear hb HC HB HB2
  generalize frU (u * v) (d * e) = U at *
  generalize frD (u * v) (d * e) = D at *
  have c0 := blk_cell b0 (i := 0) rfl
  have c1 := blk_cell b0 (i := 1) rfl
  have f0 := blk_frozen b0 0
  have f1 := blk_frozen b0 1
  go_wp2
  clear c0 c1 f0 f1
  have B1 := blk_set (blk_set b0 0 (.int .i64 U)) 1 (.int .i64 D)
  have r0 := blk_cell B1 (i := 0) (v := .int .i64 U) rfl
  have r1 := blk_cell B1 (i := 1) (v := .int .i64 D) rfl
  have hle : w.heap.size ≤ w.heap.size + 1 + 1 := by omega
  have HBX := Lib.hid ((HBW.out.setCell (p := ⟨w.heap.size + 1 + 1, 0, none⟩) hle (.int .i64 U)).setCell (p := ⟨w.heap.size + 1 + 1, 1, none⟩) hle (.int .i64 D))
  clear B1 b0 HBW
  generalize (w2.setCell ⟨w.heap.size + 1 + 1, 0, none⟩ (.int .i64 U)).setCell ⟨w.heap.size + 1 + 1, 1, none⟩ (.int .i64 D) = WE at *
  refine bodyPost_ret (v := .agg #[.int .i64 U, .int .i64 D]) (by simp [results, Try.results36, go_sem, r0, r1]) rfl ?_
  exact ⟨by rw [HFV.out], HBX.out⟩
/-- Whether a list has a number. -/
def HasN (xs : List Int) (x : Int) : Prop := ∃ k, k < xs.length ∧ gi xs k = x
set_option maxHeartbeats 400000 in
theorem isIn_any (A : Option Addr) (n c : Nat) (xs : List Int) (x : Int) (w : World) (hx : Ints w A n c xs) :
    Calls Try.prog 22 #[.slice A n c, .int .i64 x] w fun e w' => e = .returned (.bool (pb (HasN xs x))) ∧ Quiet w w' := by
  have hl := hx.max
  have HX := Lib.hid hx
  have HL := Lib.hid hx.len
  clear hx
  go_enter Try.func22, Try.ntmps22
  go_wp2
  go_loopw [5] (fun i wr => ∃ k : Nat, k ≤ n ∧ i = .int .i64 k ∧ Hid (∀ j, j < k → gi xs j ≠ x) ∧ Quiet w wr) (fun i _ => n - (intOf i).toNat)
  case atStart => exact ⟨0, Nat.zero_le _, rfl, Lib.hid (fun _ h => absurd h (by omega)), Quiet.refl _⟩
  case round =>
    obtain ⟨k, hk, rfl, HN, q, rfl⟩ := hrel
    by_cases hlt : k < n
    · obtain ⟨b, o, rfl, hc⟩ := HX.out.at_ (by omega)
      have c1 := hc k hlt
      clear hc
      by_cases he : gi xs k = x
      · have HR := Lib.hid (pb_true (p := HasN xs x) ⟨k, by rw [HL.out]; exact hlt, he⟩)
        have hd : (gi xs k == x) = true := by simpa using he
        clear he
        go_wp2
        go_ret
        exact ⟨ret_bool HR.out.symm, ⟨_, rfl⟩⟩
      · have HE := Lib.hid he
        have hd : (gi xs k == x) = false := by simpa using he
        clear he
        go_wp2
        go_roundw
        case rel => exact ⟨k + 1, by omega, by go_num, Lib.hid (fun j hj => by
          by_cases hjk : j < k
          · exact HN.out j hjk
          · obtain rfl : j = k := by omega
            exact HE.out), ⟨_, rfl⟩⟩
        case measure => simp [intOf]; omega
    · obtain rfl : k = n := by omega
      have HR := Lib.hid (pb_false (p := HasN xs x) (fun ⟨j, hj, e⟩ => HN.out j (by rw [← HL.out]; exact hj) e))
      go_wp2
      go_ret
      exact ⟨ret_bool HR.out.symm, ⟨_, rfl⟩⟩
set_option maxHeartbeats 400000 in
theorem equalInts_any (A B : Option Addr) (n c m d : Nat) (xs ys : List Int) (w : World) (hx : Ints w A n c xs) (hy : Ints w B m d ys) :
    Calls Try.prog 12 #[.slice A n c, .slice B m d] w fun e w' => e = .returned (.bool (eqI xs ys)) ∧ Quiet w w' := by
  obtain ⟨lx, cx, mx, _, hx⟩ := hx
  obtain ⟨ly, cy, my, _, hy⟩ := hy
  have Lx := Lib.hid lx
  have Ly := Lib.hid ly
  clear lx ly
  by_cases hnm : n = m
  · subst hnm
    go_enter Try.func12, Try.ntmps12
    go_wp2
    go_loopw [5] (fun i wr => ∃ k : Nat, k ≤ n ∧ i = .int .i64 k ∧ (∀ j, j < k → gi xs j = gi ys j) ∧ Quiet w wr) (fun i _ => n - (intOf i).toNat)
    case atStart => exact ⟨0, Nat.zero_le _, rfl, fun _ h => absurd h (by omega), Quiet.refl _⟩
    case round =>
      obtain ⟨k, hk, rfl, hall, q, rfl⟩ := hrel
      have HALL := Lib.hid hall
      clear hall
      by_cases hlt : k < n
      · obtain ⟨b, o, rfl, hcx⟩ := hx (by omega)
        obtain ⟨b2, o2, rfl, hcy⟩ := hy (by omega)
        have c1 := hcx k hlt
        have c2 := hcy k hlt
        clear hx hy hcx hcy
        by_cases he : gi xs k = gi ys k
        · have he' : (gi xs k != gi ys k) = false := by simp [he]
          have HE := Lib.hid he
          clear he
          go_wp2
          go_quiet (fail)
          go_wp2
          go_roundw
          case rel => exact ⟨k + 1, by omega, by go_num, fun j hj => by
            by_cases hjk : j < k
            · exact HALL.out j hjk
            · obtain rfl : j = k := by omega
              exact HE.out, ⟨_, rfl⟩⟩
          case measure => simp [intOf]; omega
        · have he' : (gi xs k != gi ys k) = true := by simpa using he
          go_wp2
          go_quiet (fail)
          go_wp2
          go_ret
          exact ⟨ret_bool (eqI_no he).symm, Quiet.two _ _ _⟩
      · obtain rfl : k = n := by omega
        go_wp2
        go_ret
        exact ⟨ret_bool (eqI_yes (by rw [Lx.out, Ly.out]) fun j hj => HALL.out j (by rw [Lx.out] at hj; exact hj)).symm, ⟨_, rfl⟩⟩
  · go_enter Try.func12, Try.ntmps12
    go_wp2
    go_ret
    exact ⟨ret_bool (eqI_len (by rw [Lx.out, Ly.out]; exact hnm)).symm, Quiet.refl _⟩

end Go.Proofs.Ytoekpbcdgmejcaa

/- Tables as arrays of nine numbers. -/
namespace Go.Proofs.Ytoekpbcdgmejcaa
open Go.RowKit

/-- Nine cells, three rows one behind the other. -/
def cs9 (f : Nat → Nat → Int) : Array Value := #[.int .i64 (f 0 0), .int .i64 (f 0 1), .int .i64 (f 0 2), .int .i64 (f 1 0), .int .i64 (f 1 1), .int .i64 (f 1 2), .int .i64 (f 2 0), .int .i64 (f 2 1), .int .i64 (f 2 2)]
def upd9 (f : Nat → Nat → Int) (i j : Nat) (v : Int) : Nat → Nat → Int := fun r c => if r = i ∧ c = j then v else f r c
theorem lt3 {i : Nat} (h : i < 3) : i = 0 ∨ i = 1 ∨ i = 2 := by omega
theorem cs9_get (f : Nat → Nat → Int) {i j : Nat} (hi : i < 3) (hj : j < 3) : (cs9 f)[i * 3 + j]? = some (.int .i64 (f i j)) := by
  rcases lt3 hi with rfl | rfl | rfl <;> rcases lt3 hj with rfl | rfl | rfl <;> rfl
theorem cs9_congr {f g : Nat → Nat → Int} (h : ∀ r c, r < 3 → c < 3 → f r c = g r c) : cs9 f = cs9 g := by
  unfold cs9
  rw [h 0 0 (by omega) (by omega), h 0 1 (by omega) (by omega), h 0 2 (by omega) (by omega), h 1 0 (by omega) (by omega), h 1 1 (by omega) (by omega), h 1 2 (by omega) (by omega), h 2 0 (by omega) (by omega), h 2 1 (by omega) (by omega), h 2 2 (by omega) (by omega)]
theorem cs9_set (f : Nat → Nat → Int) {i j : Nat} (hi : i < 3) (hj : j < 3) (v : Int) : (cs9 f).setIfInBounds (i * 3 + j) (.int .i64 v) = cs9 (upd9 f i j v) := by
  rcases lt3 hi with rfl | rfl | rfl <;> rcases lt3 hj with rfl | rfl | rfl <;> rfl
/-- A table filled up to row i, column j. -/
def part9 (a : List (List Int)) (m i j : Nat) : Nat → Nat → Int := fun r c => if (r < i ∨ r = i ∧ c < j) ∧ c < m then g2 a r c else 0
def full9 (a : List (List Int)) (n m : Nat) : Nat → Nat → Int := fun r c => if r < n ∧ c < m then g2 a r c else 0
theorem part9_zero (a : List (List Int)) (m : Nat) : cs9 (part9 a m 0 0) = cs9 (fun _ _ => 0) := cs9_congr fun r c _ _ => by unfold part9; rw [if_neg (by omega)]
theorem part9_next (a : List (List Int)) (m i j : Nat) (hj : j < m) : cs9 (upd9 (part9 a m i j) i j (g2 a i j)) = cs9 (part9 a m i (j + 1)) := cs9_congr fun r c _ _ => by
  unfold upd9 part9
  by_cases e : r = i ∧ c = j
  · obtain ⟨rfl, rfl⟩ := e; rw [if_pos ⟨rfl, rfl⟩, if_pos (by omega)]
  · rw [if_neg e]
    by_cases h : (r < i ∨ r = i ∧ c < j) ∧ c < m
    · rw [if_pos h, if_pos (by omega)]
    · rw [if_neg h, if_neg (by omega)]
theorem part9_row (a : List (List Int)) (m i : Nat) : cs9 (part9 a m i m) = cs9 (part9 a m (i + 1) 0) := cs9_congr fun r c _ _ => by
  unfold part9
  by_cases h : (r < i ∨ r = i ∧ c < m) ∧ c < m
  · rw [if_pos h, if_pos (by omega)]
  · rw [if_neg h, if_neg (by omega)]
theorem part9_all (a : List (List Int)) (n m : Nat) : cs9 (part9 a m n 0) = cs9 (full9 a n m) := cs9_congr fun r c _ _ => by
  unfold part9 full9
  by_cases h : r < n ∧ c < m
  · rw [if_pos h, if_pos (by omega)]
  · rw [if_neg h, if_neg (by omega)]
abbrev agg9 (f : Nat → Nat → Int) : Value := .agg (cs9 f)
end Go.Proofs.Ytoekpbcdgmejcaa

/- Arrays compared: three numbers, three bools, nine numbers. -/
namespace Go.Proofs.Ytoekpbcdgmejcaa
open Go.RowKit

theorem info_arr : (Try.prog.info? 80).map (·.size) = some 3 := by kernel_rfl
theorem info_i1 : (Try.prog.info? 3).map (·.size) = some 1 := by kernel_rfl
theorem und_arr3 : Try.prog.underlying 80 = some (.array 3 3) := by kernel_rfl
theorem und_cells : Try.prog.underlying 82 = some (.array 3 80) := by kernel_rfl
theorem run_sizeOf' {t : TypeId} {n : Nat} (h : (Try.prog.info? t).map (·.size) = some n) (w : World) : (sizeOf t).run Try.prog w = .ok n w := by
  cases hq : Try.prog.info? t with
  | none => simp [hq] at h
  | some i => simp [hq] at h; simp [sizeOf, typeInfo, hq, h]
theorem und_int : Try.prog.underlying 3 = some (.int .i64) := by kernel_rfl
theorem run_isAgg_no (w : World) : (isAgg 3).run Try.prog w = .ok false w := by
  unfold isAgg; rw [Sem.run_bind, run_underlying und_int w]; rfl
theorem run_isAgg_arr (w : World) : (isAgg 80).run Try.prog w = .ok true w := by
  unfold isAgg; rw [Sem.run_bind, run_underlying und_arr3 w]; rfl
theorem run_part_int {cs : Array Value} {k : Nat} {v : Value} (h : cs[k]? = some v) (w : World) : (part 3 cs k).run Try.prog w = .ok v w := by
  unfold part; rw [Sem.run_bind, run_isAgg_no]; simp [h]
theorem run_part_arr (cs : Array Value) (k : Nat) (w : World) : (part 80 cs k).run Try.prog w = .ok (.agg (cs.extract k (k + 3))) w := by
  unfold part; rw [Sem.run_bind, run_isAgg_arr]; simp [run_sizeOf' info_arr]

theorem eq3_run (d : Nat) (x0 x1 x2 y0 y1 y2 : Int) (w : World) :
    (Op.equalIn (d + 2) 80 (.agg #[.int .i64 x0, .int .i64 x1, .int .i64 x2]) (.agg #[.int .i64 y0, .int .i64 y1, .int .i64 y2])).run Try.prog w = .ok (x0 == y0 && (x1 == y1 && x2 == y2)) w := by
  have u3 := und_int
  have a3 := run_isAgg_no
  have z3 := run_sizeOf' info_i1
  rw [show d + 2 = (d + 1) + 1 from rfl, Op.equalIn]
  simp only [Sem.run_bind, run_underlying und_arr3, Result.andThen_ok]
  simp only [Std.Legacy.Range.forIn_eq_forIn_range', Std.Legacy.Range.size, Nat.sub_zero, Nat.add_sub_cancel, Nat.div_one, List.range'_succ, List.range'_zero, List.forIn_cons, List.forIn_nil]
  go_simp
  by_cases h0 : x0 = y0 <;> by_cases h1 : x1 = y1 <;> by_cases h2 : x2 = y2 <;> simp [h0, h1, h2]

theorem eq9_run (d : Nat) (f g : Nat → Nat → Int) (w : World) :
    (Op.equalIn (d + 3) 82 (.agg (cs9 f)) (.agg (cs9 g))).run Try.prog w = .ok (pb (cs9 f = cs9 g)) w := by
  have hd : pb (cs9 f = cs9 g) = ((f 0 0 == g 0 0 && (f 0 1 == g 0 1 && f 0 2 == g 0 2)) && ((f 1 0 == g 1 0 && (f 1 1 == g 1 1 && f 1 2 == g 1 2)) && (f 2 0 == g 2 0 && (f 2 1 == g 2 1 && f 2 2 == g 2 2)))) := by
    rw [Bool.eq_iff_iff, pb_iff]
    simp [cs9, and_assoc]
  rw [hd]
  unfold cs9
  generalize f 0 0 = x0, f 0 1 = x1, f 0 2 = x2, f 1 0 = x3, f 1 1 = x4, f 1 2 = x5, f 2 0 = x6, f 2 1 = x7, f 2 2 = x8
  generalize g 0 0 = y0, g 0 1 = y1, g 0 2 = y2, g 1 0 = y3, g 1 1 = y4, g 1 2 = y5, g 2 0 = y6, g 2 1 = y7, g 2 2 = y8
  have p0 : ∀ w, (part 80 #[.int .i64 x0, .int .i64 x1, .int .i64 x2, .int .i64 x3, .int .i64 x4, .int .i64 x5, .int .i64 x6, .int .i64 x7, .int .i64 x8] (0 * 3)).run Try.prog w = .ok (.agg #[.int .i64 x0, .int .i64 x1, .int .i64 x2]) w := fun w => by rw [run_part_arr]; rfl
  have p1 : ∀ w, (part 80 #[.int .i64 x0, .int .i64 x1, .int .i64 x2, .int .i64 x3, .int .i64 x4, .int .i64 x5, .int .i64 x6, .int .i64 x7, .int .i64 x8] ((0 + 1) * 3)).run Try.prog w = .ok (.agg #[.int .i64 x3, .int .i64 x4, .int .i64 x5]) w := fun w => by rw [run_part_arr]; rfl
  have p2 : ∀ w, (part 80 #[.int .i64 x0, .int .i64 x1, .int .i64 x2, .int .i64 x3, .int .i64 x4, .int .i64 x5, .int .i64 x6, .int .i64 x7, .int .i64 x8] ((0 + 1 + 1) * 3)).run Try.prog w = .ok (.agg #[.int .i64 x6, .int .i64 x7, .int .i64 x8]) w := fun w => by rw [run_part_arr]; rfl
  have q0 : ∀ w, (part 80 #[.int .i64 y0, .int .i64 y1, .int .i64 y2, .int .i64 y3, .int .i64 y4, .int .i64 y5, .int .i64 y6, .int .i64 y7, .int .i64 y8] (0 * 3)).run Try.prog w = .ok (.agg #[.int .i64 y0, .int .i64 y1, .int .i64 y2]) w := fun w => by rw [run_part_arr]; rfl
  have q1 : ∀ w, (part 80 #[.int .i64 y0, .int .i64 y1, .int .i64 y2, .int .i64 y3, .int .i64 y4, .int .i64 y5, .int .i64 y6, .int .i64 y7, .int .i64 y8] ((0 + 1) * 3)).run Try.prog w = .ok (.agg #[.int .i64 y3, .int .i64 y4, .int .i64 y5]) w := fun w => by rw [run_part_arr]; rfl
  have q2 : ∀ w, (part 80 #[.int .i64 y0, .int .i64 y1, .int .i64 y2, .int .i64 y3, .int .i64 y4, .int .i64 y5, .int .i64 y6, .int .i64 y7, .int .i64 y8] ((0 + 1 + 1) * 3)).run Try.prog w = .ok (.agg #[.int .i64 y6, .int .i64 y7, .int .i64 y8]) w := fun w => by rw [run_part_arr]; rfl
  rw [show d + 3 = (d + 2) + 1 from rfl, Op.equalIn]
  simp only [Sem.run_bind, run_underlying und_cells, Result.andThen_ok, run_sizeOf' info_arr]
  simp only [Std.Legacy.Range.forIn_eq_forIn_range', Std.Legacy.Range.size, Nat.sub_zero, Nat.add_sub_cancel, Nat.div_one, List.range'_succ, List.range'_zero, List.forIn_cons, List.forIn_nil, Sem.run_bind]
  rw [p0]
  simp only [Result.andThen_ok, q0, eq3_run]
  by_cases h0 : (x0 == y0 && (x1 == y1 && x2 == y2)) = true
  · rw [h0]
    simp only [Bool.not_true, Bool.false_eq_true, if_false, Sem.run_pure, Result.andThen_ok, Sem.run_bind, p1, q1, eq3_run]
    by_cases h1 : (x3 == y3 && (x4 == y4 && x5 == y5)) = true
    · rw [h1]
      simp only [Bool.not_true, Bool.false_eq_true, if_false, Sem.run_pure, Result.andThen_ok, Sem.run_bind, p2, q2, eq3_run]
      by_cases h2 : (x6 == y6 && (x7 == y7 && x8 == y8)) = true
      · rw [h2]; simp
      · rw [Bool.not_eq_true] at h2; rw [h2]; simp
    · rw [Bool.not_eq_true] at h1; rw [h1]; simp
  · rw [Bool.not_eq_true] at h0; rw [h0]; simp
/-- Two tables as arrays held against each other. -/
theorem eq9_op (f g : Nat → Nat → Int) (w : World) : (Op.equalIn 10000 82 (agg9 f) (agg9 g)).run Try.prog w = .ok (pb (cs9 f = cs9 g)) w := eq9_run 9997 f g w
end Go.Proofs.Ytoekpbcdgmejcaa

